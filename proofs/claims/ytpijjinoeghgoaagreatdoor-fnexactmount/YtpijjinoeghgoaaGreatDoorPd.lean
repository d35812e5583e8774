/- Blocks, impl: readVol. Blocks, impl: blocksFit; slices.Equal of texts. Blocks, impl: ReadBlocks. -/
import Derived.Test.YtpijjinoeghgoaaGreatDoorRows
import Derived.Test.YtpijjinoeghgoaaGreatDoorQc
import Derived.Test.YtpijjinoeghgoaaGreatDoorQa
import Derived.Test.YtpijjinoeghgoaaGreatDoorVp
import Derived.Test.YtpijjinoeghgoaaGreatDoorQb
import Derived.Test.YtpijjinoeghgoaaGreatDoorPg
import Derived.Deep.RegionHeld3
import Derived.Defers
import Derived.Recover
namespace Go.Proofs.YtpijjinoeghgoaaGreatDoor

section
open Go.RowKit Go.Sort

/-- 'append(out, y)' as one step of a statement whose order is open -/
theorem step_append_ino {ops : Array Oper} {o : Oper} {a : Act} {w : World} {K : Act → World → Prop} {Q : Exit → Act → World → Prop} {Z : Prop}
    (hgd : o.guard = none) (s x : Operand) (hop : o.op = Op.call { callee := Callee.builtin Builtin.append, args := #[s, x], argTypes := #[24, 24] }) (base : Nat)
    (v : Value) (l : List (Ino × Value)) (y : Ino) (u : Value) (xb : Nat) (hl : l.length + 1 ≤ 1099511627776) (hown : InoRow w base v l) (hxc : w.heap[xb]? = some (.cells #[.int .i64 y.id, .int .i64 y.kind, .int .i64 y.links, .string y.data, u] 59)) (hs : a.eval s = v) (hx : a.eval x = .slice (some ⟨xb, 0, none⟩) 1 1)
    (he : EntRow w base u y.ents) (hap : ∀ p ∈ l, ApartV p.2 u)
    (hbase : base ≤ w.heap.size)
    (hK : ∀ v' w', InoRow w' base v' (l ++ [(y, u)]) → w.grownBy w' v.ownBlock → K (a.put o.dst v') w') :
    if Region.wanted o (yielded ops a.tmps) = true then Oper.wp Tryz.prog o a w K Q else Z := by
  obtain ⟨i0, hi, hz0, hz1, hz2⟩ := info_parts Tryz.infoI
  have hw : Region.wanted o (yielded ops a.tmps) = true := by simp [Region.wanted, hgd]
  rw [if_pos hw]
  have hcl : ∀ j z, (flatI [(y, u)])[j]? = some z → w.cell? ((⟨xb, 0, none⟩ : Addr).add j) = some z := by
    intro j z hz
    rw [Addr.add_lit, Nat.zero_add, Joins.cell_of_block hxc j]
    rw [flatI_one] at hz
    rw [← hz]; simp [encI]
  obtain ⟨v', w', hrun, r1, r2, _⟩ := run_append_own (P := Tryz.prog) w base 24 o.type 59 i0 _ 5 64 Tryz.underlying24 hi hz0 hz1 hz2 rfl (by decide) v l.length (flatI l) hown.row ⟨xb, 0, none⟩ 1 1 (flatI [(y, u)]) (flatI_len _) hcl (flatI_cell (fun p hp => by rw [List.mem_singleton.1 hp]; exact he.one)) (by unfold maxLen; omega) (by omega) hbase
  unfold Oper.wp
  simp [execOp, hop, resolve, invoke, builtin, hs, hx, hrun, Result.andThen]
  refine hK v' w' ⟨?_, fun t ht => ?_, ?_⟩ r2
  · rw [flatI_append, List.length_append]; exact r1
  · have hne : ∀ {z : Value} {d : List En}, EntRow w base z d → z.ownBlock = none ∨ z.ownBlock ≠ v.ownBlock := fun {z} {d} hz => by
      rcases hown.row.2 with ⟨rfl, _⟩ | ⟨g, cap, cur, rfl, hg, hh, r⟩
      · by_cases e : z.ownBlock = none
        · exact .inl e
        · exact .inr (by simpa [Value.ownBlock] using e)
      · right
        have hr := hown.row
        exact ent_ino_ne hz hr
    rw [List.length_append] at ht
    by_cases e : t < l.length
    · rw [getElem!_pos _ t (by simp at ht ⊢; omega), List.getElem_append_left e, ← getElem!_pos l t e]
      exact (hown.ents t e).kept r2 (hne (hown.ents t e))
    · have e2 : t = l.length := by simp at ht; omega
      subst e2
      rw [getElem!_pos _ _ (by simp), List.getElem_append_right (Nat.le_refl _)]
      simp only [Nat.sub_self, List.getElem_cons_zero]
      exact he.kept r2 (hne he)
  · rw [List.pairwise_append]
    exact ⟨hown.apart, List.pairwise_singleton _ _, fun p hp q hq => by rw [List.mem_singleton.1 hq]; exact hap p hp⟩

/-- on the way of readVol -/
structure RvSt (w : World) (q : Nat) (nx : Int) (u : Value) (acc : List (Ino × Value)) (wr : World) : Prop where
  res : wr.heap[w.heap.size]? = some (.cells #[.int .i64 0, .slice none 0 0] 26)
  box : wr.heap[q]? = some (.cells #[.int .i64 nx, u] 26)
  row : InoRow wr (q + 1) u acc
  bel : Below w.heap.size w wr
  lt : w.heap.size < q
theorem RvSt.below {w wr w' : World} {q : Nat} {nx : Int} {u : Value} {acc : List (Ino × Value)} (h : RvSt w q nx u acc wr) (hb : Below wr.heap.size wr w') : RvSt w q nx u acc w' :=
  ⟨(hb.block _ (lt_of_block h.res)).trans h.res, (hb.block _ (lt_of_block h.box)).trans h.box, h.row.below hb, h.bel.trans (hb.mono h.bel.size), h.lt⟩
theorem RvSt.app {w wr w9 : World} {q : Nat} {nx : Int} {u v' : Value} {acc acc' : List (Ino × Value)} (h : RvSt w q nx u acc wr) (g : wr.grownBy w9 u.ownBlock) (hr : InoRow w9 (q + 1) v' acc') :
    (w9.cell? ⟨q, 1, none⟩ = some u ∧ w9.frozen? ⟨q, 1, none⟩ = false) ∧ RvSt w q nx v' acc' (w9.setCell ⟨q, 1, none⟩ v') := by
  have hlt := h.lt
  have hne : ∀ k, k ≤ q → k < wr.heap.size → w9.heap[k]? = wr.heap[k]? := fun k hk hs => g.block k hs (fun e => by have := (World.ownsRow.lt h.row.row k e.symm).1; omega)
  have hq := lt_of_block h.box
  have hbox := (hne q (Nat.le_refl _) hq).trans h.box
  have hset : ∀ k, k ≠ q → (w9.setCell ⟨q, 1, none⟩ v').heap[k]? = w9.heap[k]? := fun k hk => Below.heap_setCell _ _ _ k hk
  have hb : Below w.heap.size w (w9.setCell ⟨q, 1, none⟩ v') := (h.bel.grown g h.bel.size (fun k hk => by have := (World.ownsRow.lt h.row.row k hk).1; omega)).setCell (by show w.heap.size ≤ q; omega) _
  exact ⟨⟨Joins.cell_of_block hbox 1, Joins.unfrozen_of_block hbox 1⟩, ⟨(hset _ (by omega)).trans ((hne _ (by omega) (lt_of_block h.res)).trans h.res), Joins.block_setCell (i := 1) hbox v', hr.setLow (by omega) _ _, hb, h.lt⟩⟩
theorem inos_none {X : List ByteArray} {k : Nat} {acc : List Ino} (h : inosRd X = (inosRd (X.drop k)).map fun q => acc ++ q) (hk : k < X.length) (he : inoRd X[k]!.data.toList = none) : inosRd X = none := by
  rw [h, List.drop_eq_getElem_cons hk, inosRd, ← getElem!_pos X k hk, he]; rfl
theorem inos_some {X : List ByteArray} {k : Nat} {acc : List Ino} {y : Ino} (h : inosRd X = (inosRd (X.drop k)).map fun q => acc ++ q) (hk : k < X.length) (he : inoRd X[k]!.data.toList = some y) : inosRd X = (inosRd (X.drop (k + 1))).map fun q => (acc ++ [y]) ++ q := by
  rw [h, List.drop_eq_getElem_cons hk, inosRd, ← getElem!_pos X k hk, he]
  simp only [Option.bind_some]
  cases inosRd (X.drop (k + 1)) with
  | none => rfl
  | some q => simp
/-- an inode that is read has short texts -/
theorem inoRd_short {l : List UInt8} {y : Ino} (h : inoRd l = some y) : y.ents.length ≤ l.length ∧ (∀ e ∈ y.ents, e.name.size ≤ l.length) ∧ y.data.size ≤ l.length := by
  have key : ∀ (n : Nat) (l : List UInt8) (q : List En × List UInt8), entsR n l = some q → q.1.length + q.2.length ≤ l.length ∧ ∀ e ∈ q.1, e.name.size ≤ l.length := by
    intro n
    induction n with
    | zero => intro l q h; cases h; simp
    | succ n ih =>
      intro l q h
      rw [entsR] at h
      cases h1 : entR l with
      | none => rw [h1] at h; cases h
      | some p =>
        rw [h1] at h
        simp only [Option.bind_some] at h
        cases h2 : entsR n p.2 with
        | none => rw [h2] at h; cases h
        | some z =>
          rw [h2] at h
          cases h
          have k1 := entR_len h1
          have k2 := ih _ _ h2
          refine ⟨by simp only [List.length_cons]; omega, fun e he => ?_⟩
          rcases List.mem_cons.1 he with rfl | he
          · exact k1.2
          · have := k2.2 e he; omega
  unfold inoRd at h
  cases h0 : mrkR 105 l with
  | none => rw [h0] at h; cases h
  | some l0 =>
    have hl0 : l0.length ≤ l.length := by
      cases l with
      | nil => cases h0
      | cons c r => unfold mrkR at h0; simp only at h0; split at h0 <;> cases h0; simp
    rw [h0] at h; simp only [Option.bind_some] at h
    cases h1 : numR l0 with
    | none => rw [h1] at h; cases h
    | some a =>
      rw [h1] at h; simp only [Option.bind_some] at h
      cases h2 : numR a.2 with
      | none => rw [h2] at h; cases h
      | some b =>
        rw [h2] at h; simp only [Option.bind_some] at h
        cases h3 : numR b.2 with
        | none => rw [h3] at h; cases h
        | some c =>
          rw [h3] at h; simp only [Option.bind_some] at h
          cases h4 : pieR c.2 with
          | none => rw [h4] at h; cases h
          | some d =>
            rw [h4] at h; simp only [Option.bind_some] at h
            cases h5 : numR d.2 with
            | none => rw [h5] at h; cases h
            | some n =>
              rw [h5] at h; simp only [Option.bind_some] at h
              cases h6 : entsR n.1.toNat n.2 with
              | none => rw [h6] at h; cases h
              | some q =>
                rw [h6] at h
                cases h
                have k1 := numR_len h1
                have k2 := numR_len h2
                have k3 := numR_len h3
                have k4 := pieR_len h4
                have k5 := numR_len h5
                have k6 := key _ _ _ h6
                refine ⟨by show q.1.length ≤ _; omega, fun e he => ?_, ?_⟩
                · have := k6.2 e he; omega
                · show (bA d.1).size ≤ _
                  rw [bA_size]; omega

theorem headRd_in {l : List UInt8} {nx cn : Int} (h : headRd l = some (nx, cn)) : 0 ≤ cn ∧ cn ≤ 562949953421311 := by
  unfold headRd at h
  cases h0 : mrkR 117 l with
  | none => rw [h0] at h; cases h
  | some l0 =>
    rw [h0] at h; simp only [Option.bind_some] at h
    cases h1 : numR l0 with
    | none => rw [h1] at h; cases h
    | some a =>
      rw [h1] at h; simp only [Option.bind_some] at h
      cases h2 : numR a.2 with
      | none => rw [h2] at h; cases h
      | some b =>
        rw [h2] at h
        cases h
        exact (numR_len h2).2

/-- what readVol says -/
def SaysV (o : Option Vo) (T : TypeId) (x : Value) (w : World) (e : Ending) (w' : World) : Prop :=
  (∃ v u, o = some v ∧ e = .returned (.agg #[.int .i64 v.next, u]) ∧ (∃ L, L.map (fun p : Ino × Value => p.1) = v.ins ∧ InoRow w' w.heap.size u L) ∧ Below w.heap.size w w') ∨ (o = none ∧ e = .panicked [{ v := .iface T x, recovered := false }] ∧ Below w.heap.size w w')

set_option maxRecDepth 100000 in
set_option maxHeartbeats 2000000 in
theorem readVol_any (v : Value) (L : List ByteArray) (base : Nat) (T : TypeId) (x : Value) (w : World) (hT : Tabs w) (hC : CrcTab w) (hE : ErrV w T x) (hL : L.length = 17) (hs : ∀ t ∈ L, t.size ≤ 4000) (hv : TxtRow w base v L) :
    Calls Tryz.prog 36 #[v] w fun e w' => SaysV (volRd L) T x w e w' := by
  have B0 := below_lit w (.cells #[.int .i64 0, .slice none 0 0] 26)
  have hres0 := (MapKept.heap_alloc w (.cells #[.int .i64 0, .slice none 0 0] 26)).1
  have S0 : (w.alloc (.cells #[.int .i64 0, .slice none 0 0] 26)).heap.size = w.heap.size + 1 := by simp
  have HTX : Hid (∀ t, t < 17 → L[t]!.size ≤ 4000) := fun t ht => hs _ (by rw [getElem!_pos L t (by omega)]; exact List.getElem_mem _)
  obtain ⟨g, cap, rfl, hnc, hgl⟩ : ∃ g cap, v = .slice (some ⟨g, 0, none⟩) 17 cap ∧ 17 ≤ cap ∧ g < w.heap.size := by
    rcases hv.2 with ⟨_, h0⟩ | ⟨g, cap, cur, rfl, hg, hh, hnc, _⟩
    · omega
    · exact ⟨g, cap, by rw [hL], by omega, lt_of_block hh⟩
  have HC : Hid (∀ w', Below w.heap.size w w' → ∀ t, t < 17 → w'.cell? ⟨g, t, none⟩ = some (.string L[t]!)) := fun w' b t ht => by
    obtain ⟨a, cc, e, -, hc⟩ := (hv.below b).at
    obtain ⟨bb, off, h1, -, h3⟩ := hc t (by omega)
    simp only [Value.slice.injEq] at e
    obtain ⟨e1, -, -⟩ := e
    rw [← e1] at h1
    cases h1
    simpa using h3
  have HRH := readHead_any L[0]! T x (w.alloc (.cells #[.int .i64 0, .slice none 0 0] 26)) (hT.below B0) (hC.below B0) (hE.below B0) (by have := HTX.out 0 (by omega); omega)
  have c00 := HC.out _ B0 0 (by omega)
  have HRI : Hid (∀ (k : Nat) w', k < 17 → Below w.heap.size w w' → Calls Tryz.prog 57 #[.string L[k]!] w' fun e w'' => SaysI (inoRd L[k]!.data.toList) T x w' e w'') := fun k w' hk b => readInode_any L[k]! T x w' (hT.below b) (hC.below b) (hE.below b) (by have := HTX.out k hk; omega)
  have HP : Hid (∀ e w', (volRd L = none ∧ e = .panicked [{ v := .iface T x, recovered := false }] ∧ Below w.heap.size w w') → SaysV (volRd L) T x w e w') := fun e w' h => .inr h
  have HR : Hid (∀ v u M w', (volRd L = some v ∧ M.map (fun p : Ino × Value => p.1) = v.ins ∧ InoRow w' w.heap.size u M ∧ Below w.heap.size w w') → SaysV (volRd L) T x w (.returned (.agg #[.int .i64 v.next, u])) w') := fun v u M w' h => .inl ⟨v, u, h.1, rfl, ⟨M, h.2.1, h.2.2.1⟩, h.2.2.2⟩
  have HX : Hid (∀ k m, k < m → m ≤ 16 → ((L.drop 1).take m)[k]! = L[1 + k]!) := fun k m hk hm => by
    rw [getElem!_pos _ k (by simp; omega), getElem!_pos L (1 + k) (by omega)]
    simp only [List.getElem_take, List.getElem_drop]
  have HXL : Hid (∀ m, m ≤ 16 → ((L.drop 1).take m).length = m) := fun m hm => by simp; omega
  clear hs hv hT hC hE
  have HVN : Hid (headRd L[0]!.data.toList = none → volRd L = none) := fun h => by unfold volRd; rw [h]; rfl
  have HVS : Hid (∀ nx cn, headRd L[0]!.data.toList = some (nx, cn) → volRd L = (inosRd ((L.drop 1).take (min cn.toNat 16))).bind fun r => some ⟨nx, r⟩) := fun nx cn h => by unfold volRd; rw [h]; rfl
  go_enter Tryz.func36, Tryz.ntmps36
  generalize L[0]! = t0 at *
  go_wp2_with fail
  refine HRH.mono ?_
  rintro e w1 hs
  rcases hs with ⟨⟨nx, cn⟩, hn1, rfl, b1⟩ | ⟨hn1, rfl, b1⟩
  · rw [S0] at b1
    have hcn : 0 ≤ cn ∧ cn ≤ 562949953421311 := headRd_in hn1
    have HVR := HVS.out nx cn hn1
    obtain ⟨c, rfl⟩ : ∃ c : Nat, cn = (c : Int) := ⟨cn.toNat, by omega⟩
    rw [Int.toNat_natCast] at HVR
    have hs1 := b1.size
    rw [S0] at hs1
    have B1 : Below w.heap.size w w1 := B0.trans (b1.mono (by omega))
    have BX := below_lit w1 (.cells #[.int .i64 nx, .slice none 0 0] 26)
    have ST : RvSt w w1.heap.size nx (.slice none 0 0) [] (w1.alloc (.cells #[.int .i64 nx, .slice none 0 0] 26)) :=
      ⟨(BX.block _ (by omega)).trans ((b1.block _ (by omega)).trans hres0), (MapKept.heap_alloc w1 _).1, ⟨⟨rfl, .inl ⟨rfl, rfl⟩⟩, fun t ht => by simp at ht, List.Pairwise.nil⟩, B1.trans (BX.mono B1.size), by omega⟩
    obtain ⟨m, HM⟩ : ∃ m, Hid (m = min c 16) := ⟨_, rfl⟩
    have hm16 : m ≤ 16 := by have := HM.out; omega
    rw [← HM.out] at HVR
    have HVR : Hid (volRd L = (inosRd ((L.drop 1).take m)).bind fun r => some ⟨nx, r⟩) := HVR
    have HXM : Hid (∀ k, k < m → ((L.drop 1).take m)[k]! = L[1 + k]!) := fun k hk => HX.out k m hk hm16
    have HXK : Hid (((L.drop 1).take m).length = m) := HXL.out m hm16
    have HST : Hid (RvSt w w1.heap.size nx (.slice none 0 0) [] (w1.alloc (.cells #[.int .i64 nx, .slice none 0 0] 26))) := ST
    have hmin : (if (16 : Int) < (c : Int) then (16 : Int) else (c : Int)) = (m : Int) := by have := HM.out; split <;> omega
    have hmin2 : (if (c : Int) < (16 : Int) then (c : Int) else (16 : Int)) = (m : Int) := by have := HM.out; split <;> omega
    have hmin3 : (if (c : Int) ≤ (16 : Int) then (c : Int) else (16 : Int)) = (m : Int) := by have := HM.out; split <;> omega
    have hm0 : (1 : Int) ≤ 1 + (m : Int) := by omega
    have hm1 : (1 : Int) + (m : Int) ≤ (cap : Int) := by omega
    clear ST HVS HVN HX HXL hn1 HRH c00 hres0 BX
    generalize (L.drop 1).take m = X at *
    dsimp only
    go_wp2
    go_loopw [23] (fun i wr => ∃ (k : Nat) (acc : List (Ino × Value)) (u : Value), k ≤ m ∧ i = .int .i64 k ∧ Hid (inosRd X = (inosRd (X.drop k)).map fun q => acc.map (fun p => p.1) ++ q) ∧ acc.length = k ∧ Hid (RvSt w w1.heap.size nx u acc wr)) (fun i _ => m - (intOf i).toNat)
    case atStart => exact ⟨0, [], .slice none 0 0, Nat.zero_le _, rfl, by show _ = _; simp, rfl, HST⟩
    case round =>
      obtain ⟨k, acc, u, hk, rfl, HIN, hacc, HSW⟩ := hrel
      by_cases hlt : k < m
      · have hlt' : (k : Int) < (m : Int) := by omega
        have hk0 : (0 : Int) ≤ (k : Int) := by omega
        have c1 : wr.cell? ⟨w1.heap.size, 1, none⟩ = some u := Joins.cell_of_block HSW.out.box 1
        have ct := HC.out wr HSW.out.bel (1 + k) (by omega)
        have SD := HSW.out.below ((Below.refl wr.heap.size wr).drew)
        have HRK := HRI.out (1 + k) wr.drew (by omega) SD.bel
        have hXk := HXM.out k hlt
        have hkX : k < X.length := by rw [HXK.out]; exact hlt
        generalize hLk : L[1 + k]! = tk at *
        cases hin : inoRd tk.data.toList with
        | none =>
          have HE0 : Calls Tryz.prog 57 #[.string tk] wr.drew fun e w' => e = .panicked [{ v := .iface T x, recovered := false }] ∧ Below wr.drew.heap.size wr.drew w' := HRK.mono fun e w' h => by
            rcases h with ⟨y, s, hp, -⟩ | ⟨-, h⟩
            · rw [hin] at hp; cases hp
            · exact h
          have hres7 : Hid (volRd L = none) := by show _ = _; rw [HVR.out, inos_none HIN.out hkX (by rw [hXk]; exact hin)]; rfl
          have HB7 : Hid (∀ w', Below wr.drew.heap.size wr.drew w' → Below w.heap.size w w') := fun w' h => SD.bel.trans (h.mono SD.bel.size)
          have hS0 : wr.drew.cell? ⟨w1.heap.size, 1, none⟩ = some u := c1
          clear HRK SD hXk
          go_wp2
          refine wp_region_held_drew (S := fun w' => w'.cell? ⟨w1.heap.size, 1, none⟩ = some u) (by kernel_rfl) hS0 (fun hHeld => ?_)
          refine wpAnyH_take (i := 0) (v := .pointer (some ⟨w1.heap.size, 1, none⟩)) rfl (by kernel_rfl) (by kernel_rfl) (by kernel_rfl) (fun _ _ _ h => h) (Or.inl ⟨by rfl, ?_⟩) hHeld ?_
          · intro w' hS'
            go_simp
          refine wpAnyH_take (i := 1) (v := u) rfl (by kernel_rfl) (by kernel_rfl) (by kernel_rfl) (fun _ _ _ h => h) (Or.inl ⟨by rfl, ?_⟩) hHeld ?_
          · intro w' hS'
            go_simp
          refine wpAnyH_take (i := 2) (v := .string tk) rfl (by kernel_rfl) (by kernel_rfl) (by kernel_rfl) (fun _ _ _ h => h) (Or.inl ⟨by rfl, ?_⟩) hHeld ?_
          · intro w' hS'
            go_simp
          refine wpAnyH_ready (rs := [3]) (by kernel_rfl) (by simp) ?_
          refine AllReadyH.cons rfl (fun K hK => ?_) AllReadyH.nil
          go_simp
          refine HE0.mono ?_
          rintro e w7 ⟨rfl, hg7⟩
          exact ⟨rfl, HP.out _ w7 ⟨hres7.out, rfl, HB7.out w7 hg7⟩⟩
        | some y =>
          have HE0 : Calls Tryz.prog 57 #[.string tk] wr.drew fun e w' => ∃ sv, e = .returned (valI y sv) ∧ EntRow w' wr.drew.heap.size sv y.ents ∧ Below wr.drew.heap.size wr.drew w' := HRK.mono fun e w' h => by
            rcases h with ⟨y', s, hp, h1, h2, h3⟩ | ⟨hp, -⟩
            · rw [hin] at hp; cases hp; exact ⟨s, h1, h2, h3⟩
            · rw [hin] at hp; cases hp
          have HIN' : Hid (inosRd X = (inosRd (X.drop (k + 1))).map fun q => (acc.map (fun p => p.1) ++ [y]) ++ q) := inos_some HIN.out hkX (by rw [hXk]; exact hin)
          have haccl : acc.length + 1 ≤ 1099511627776 := by omega
          have HSTEP : Hid (∀ sv w7, EntRow w7 wr.drew.heap.size sv y.ents → Below wr.drew.heap.size wr.drew w7 → ∃ sa sc, sv = .slice sa y.ents.length sc ∧ w7.cell? ⟨w1.heap.size, 1, none⟩ = some u ∧ RvSt w w1.heap.size nx u acc (w7.alloc (.cells #[.int .i64 y.id, .int .i64 y.kind, .int .i64 y.links, .string y.data, sv] 59)) ∧ EntRow (w7.alloc (.cells #[.int .i64 y.id, .int .i64 y.kind, .int .i64 y.links, .string y.data, sv] 59)) (w1.heap.size + 1) sv y.ents ∧ (∀ p ∈ acc, ApartV p.2 sv) ∧ w1.heap.size < w7.heap.size) := fun sv w7 h1 h2 => by
            obtain ⟨sa, sc, e, -, -⟩ := h1.at
            have S7 := SD.below h2
            have hq7 := lt_of_block S7.box
            have BB := below_lit w7 (.cells #[.int .i64 y.id, .int .i64 y.kind, .int .i64 y.links, .string y.data, sv] 59)
            refine ⟨sa, sc, e, Joins.cell_of_block S7.box 1, S7.below BB, (h1.below BB).mono (by have := lt_of_block SD.box; omega), fun p hp => ?_, hq7⟩
            obtain ⟨t, ht, rfl⟩ := List.getElem_of_mem hp
            have := apart_new (SD.row.ents t ht) h1 (Nat.le_refl _)
            rwa [getElem!_pos acc t ht] at this
          obtain ⟨y0, y1, y2, y3, y4⟩ := y
          unfold valI at HE0
          dsimp only at HE0 HSTEP
          have c4d : wr.drew.cell? ⟨w1.heap.size, 1, none⟩ = some u := c1
          clear HRK SD hXk
          go_wp2
          go_region_law
            (first
            | (go_simp; go_at_call 57; refine HE0.mono ?_; rintro e w7 ⟨sv, rfl, he7, hb7⟩; obtain ⟨sa, sc, rfl, c7, ST8, he8, hap8, hq8⟩ := HSTEP.out sv w7 he7 hb7; have c8 : (w7.alloc (.cells #[.int .i64 y0, .int .i64 y1, .int .i64 y2, .string y3, .slice sa y4.length sc] 59)).cell? ⟨w1.heap.size, 1, none⟩ = some u := Joins.cell_of_block ST8.box 1; have hblk8 := (MapKept.heap_alloc w7 (.cells #[.int .i64 y0, .int .i64 y1, .int .i64 y2, .string y3, .slice sa y4.length sc] 59)).1; have hb8 : w1.heap.size + 1 ≤ (w7.alloc (.cells #[.int .i64 y0, .int .i64 y1, .int .i64 y2, .string y3, .slice sa y4.length sc] 59)).heap.size := Nat.le_trans hq8 (by simp); have hq7 : ¬ w1.heap.size = w7.heap.size := (by omega); have hq7' : ¬ w7.heap.size = w1.heap.size := (by omega); dsimp only)
            | ((refine step_append_ino (by rfl) (.tmp 28) (.tmp 31) (by rfl) (w1.heap.size + 1) u acc ⟨y0, y1, y2, y3, y4⟩ (.slice sa y4.length sc) w7.heap.size haccl ST8.row hblk8 (by rfl) (by rfl) he8 hap8 hb8 ?_; intro v' w9 hr9 hg9; obtain ⟨⟨c9, f9⟩, ST9⟩ := ST8.app hg9 hr9; obtain ⟨va, vc, hv9, -, -⟩ := hr9.at; rw [List.length_map, List.length_append, List.length_singleton, hacc] at hv9; subst hv9; have ST9 : Hid (RvSt w w1.heap.size nx (.slice va (k + 1) vc) (acc ++ [((⟨y0, y1, y2, y3, y4⟩ : Ino), Value.slice sa y4.length sc)]) (w9.setCell ⟨w1.heap.size, 1, none⟩ (.slice va (k + 1) vc))) := ST9)))
          all_goals go_wp2
          all_goals go_roundw
          all_goals first
            | exact ⟨k + 1, acc ++ [((⟨y0, y1, y2, y3, y4⟩ : Ino), Value.slice sa y4.length sc)], _, by omega, by go_num, by rw [List.map_append]; exact HIN', by simp; omega, ST9⟩
            | (simp [intOf]; omega)
      · obtain rfl : k = m := by omega
        have hz := HIN.out
        rw [List.drop_of_length_le (by rw [HXK.out]; exact Nat.le_refl _), inosRd] at hz
        simp only [Option.map_some, List.append_nil] at hz
        have hres8 : Hid (volRd L = some ⟨nx, acc.map (fun p => p.1)⟩) := by show _ = _; rw [HVR.out, hz]; rfl
        have st := HSW.out
        obtain ⟨ua, uc, hu, -, -⟩ := st.row.at
        rw [List.length_map, hacc] at hu
        subst hu
        have b0 : wr.cell? ⟨w1.heap.size, 0, none⟩ = some (.int .i64 nx) := Joins.cell_of_block st.box 0
        have b1 : wr.cell? ⟨w1.heap.size, 1, none⟩ = some (.slice ua k uc) := Joins.cell_of_block st.box 1
        have q0 := Joins.cell_of_block st.res 0
        have q1 := Joins.cell_of_block st.res 1
        have qf := fun i => Joins.unfrozen_of_block st.res i
        dsimp at q0 q1
        have hgg := put2 (.int .i64 nx) (.slice ua k uc) st.res
        have hlt5 := st.lt
        have hle5 : w.heap.size ≤ w.heap.size := Nat.le_refl _
        have HR8 : Hid (SaysV (volRd L) T x w (.returned (.agg #[.int .i64 nx, .slice ua k uc])) ((wr.setCell ⟨w.heap.size, 0, none⟩ (.int .i64 nx)).setCell ⟨w.heap.size, 1, none⟩ (.slice ua k uc))) := HR.out ⟨nx, acc.map (fun p => p.1)⟩ _ acc _ ⟨hres8.out, rfl, ((st.row.setLow (by omega) _ _).setLow (by omega) _ _).mono (by omega), (st.bel.setCell hle5 _).setCell hle5 _⟩
        clear st HST hz HR HP HVR
        go_wp2
        exact bodyPost_ret (results_vol Tryz.results36 _ _ w.heap.size _ rfl rfl hgg) rfl HR8.out
  · rw [S0] at b1
    have hres1 : Hid (volRd L = none) := HVN.out hn1
    have B1 := B0.trans (b1.mono (by omega))
    go_wp2
    exact ⟨rfl, HP.out _ w1 ⟨hres1.out, rfl, B1⟩⟩
end

section
open Go.RowKit Go.Sort

/-- seventeen texts, none of them too long -/
def fitL (L : List ByteArray) : Bool := decide (L.length = 17) && !(L.any fun t => decide (4000 < t.size))
theorem fitL_iff {L : List ByteArray} : fitL L = true ↔ L.length = 17 ∧ ∀ t ∈ L, t.size ≤ 4000 := by
  unfold fitL
  simp

set_option maxRecDepth 100000 in
set_option maxHeartbeats 1000000 in
theorem blocksFit_any (v : Value) (L : List ByteArray) (w : World) (hl : L.length ≤ 1048576) (hv : TxtsAt w v L) :
    Calls Tryz.prog 34 #[v] w fun e w' => e = .returned (.bool (fitL L)) ∧ w = w' := by
  have HI := containsFit v L w (by omega) hv
  obtain ⟨a, ca, rfl, -, -⟩ := hv
  unfold fitL
  generalize (L.any fun t => decide (4000 < t.size)) = r at *
  by_cases h17 : L.length = 17
  · rw [decide_eq_true h17]
    rw [h17] at HI ⊢
    go_enter Tryz.func34, Tryz.ntmps34
    go_wp2_with (go_at_call 55; refine HI.mono ?_; rintro e w' ⟨rfl, rfl⟩)
    go_ret
    exact ⟨by cases r <;> rfl, rfl⟩
  · rw [decide_eq_false h17]
    have hne : ((L.length : Int) == 17) = false := by simp; omega
    generalize L.length = n at *
    go_enter Tryz.func34, Tryz.ntmps34
    go_wp2_with fail
    go_ret
    exact ⟨by simp, rfl⟩

set_option maxRecDepth 100000 in
set_option maxHeartbeats 1000000 in
theorem equalT_any (v u : Value) (l m : List ByteArray) (w : World) (hl : l.length ≤ 1048576) (hv : TxtsAt w v l) (hu : TxtsAt w u m) :
    Calls Tryz.prog 37 #[v, u] w fun e w' => e = .returned (.bool (decide (l = m))) ∧ Below w.heap.size w w' := by
  obtain ⟨a, ca, rfl, -, hva⟩ := hv
  obtain ⟨b, cb, rfl, -, hub⟩ := hu
  by_cases hlen : l.length = m.length
  · have hlen' : (l.length : Int) = (m.length : Int) := by omega
    obtain ⟨n, HN⟩ : ∃ n, Hid (n = m.length) := ⟨_, rfl⟩
    rw [hlen] at hva hl ⊢
    rw [← HN.out] at hva hub hl ⊢
    have HEND : Hid ((∀ t, t < n → l[t]! = m[t]!) → decide (l = m) = true) := fun h => decide_eq_true (strs_ext l m hlen fun t ht => h t (by rw [HN.out]; omega))
    have HNO : Hid (∀ k : Nat, ¬ l[k]! = m[k]! → decide (l = m) = false) := fun k h => decide_eq_false fun e => h (by rw [e])
    generalize decide (l = m) = r at HEND HNO ⊢
    go_enter Tryz.func37, Tryz.ntmps37
    go_wp2
    go_loopw [13] (fun i wr => ∃ k : Nat, k ≤ n ∧ i = .int .i64 k ∧ Hid (∀ t, t < k → l[t]! = m[t]!) ∧ Below w.heap.size w wr) (fun i _ => n - (intOf i).toNat)
    case atStart => exact ⟨0, Nat.zero_le _, rfl, fun t ht => by omega, Below.refl _ _⟩
    case round =>
      obtain ⟨k, hk, rfl, HEQ, hbel⟩ := hrel
      by_cases hlt : k < n
      · obtain ⟨b1, o1, rfl, hb1, hc1⟩ := hva k hlt
        obtain ⟨b2, o2, rfl, hb2, hc2⟩ := hub k hlt
        have hc1' := (hbel.cell (p := ⟨b1, o1 + k, none⟩) hb1).trans hc1
        have hc2' := (hbel.cell (p := ⟨b2, o2 + k, none⟩) hb2).trans hc2
        have HX : Hid (l[k]! = m[k]! → ∀ t, t < k + 1 → l[t]! = m[t]!) := fun h t ht => by
          by_cases e : t = k
          · rw [e]; exact h
          · exact HEQ.out t (by omega)
        have HNK := HNO.out k
        generalize l[k]! = x at hc1' HX HNK
        generalize m[k]! = y at hc2' HX HNK
        have HNK : Hid _ := HNK
        have hkn : (k : Int) < (n : Int) := by omega
        have hk0 : (0 : Int) ≤ (k : Int) := by omega
        clear hc1 hc2 hva hub
        by_cases hxy : x = y
        · have hf : (x.toList == y.toList) = true := by simp [hxy]
          have HX' : Hid _ := HX.out hxy
          clear HX hxy
          go_wp2
          go_quiet (fail)
          go_wp2
          go_roundw
          case rel => exact ⟨k + 1, by omega, by go_num, HX', below_drewN hbel _⟩
          case measure => simp [intOf]; omega
        · have hf : (x.toList == y.toList) = false := by rw [text_beq]; exact decide_eq_false hxy
          have hr : Hid (r = false) := HNK.out hxy
          clear HX hxy HNK
          go_wp2
          go_quiet (fail)
          go_wp2
          go_ret
          exact ⟨ret_bool hr.out.symm, below_drewN hbel _⟩
      · obtain rfl : k = n := by omega
        have hr : Hid (r = true) := HEND.out HEQ.out
        go_wp2
        go_ret
        exact ⟨ret_bool hr.out.symm, hbel⟩
  · have hne : ((l.length : Int) != (m.length : Int)) = true := by simp; omega
    have hneq : ¬ l = m := fun e => hlen (by rw [e])
    rw [decide_eq_false hneq]
    go_enter Tryz.func37, Tryz.ntmps37
    go_wp2
    go_ret
    exact ⟨rfl, Below.refl _ _⟩
end

section
open Go.RowKit Go.Sort

/-- what ReadBlocks says -/
def SaysB (o : Option Vo) (w : World) (e : Ending) (w' : World) : Prop :=
  (∃ v u M, o = some v ∧ e = .returned (.tuple #[.agg #[.int .i64 v.next, u], .bool true]) ∧ M.map (fun p : Ino × Value => p.1) = v.ins ∧ InoRow w' w.heap.size u M ∧ Below w.heap.size w w') ∨
  (o = none ∧ e = .returned (.tuple #[.agg #[.int .i64 0, .slice none 0 0], .bool false]) ∧ Below w.heap.size w w')

set_option maxRecDepth 100000 in
theorem catch_panics (p q : Nat) (T : TypeId) (x : Value) (older : List PanicEntry) (a0 a1 f : Value) (w : World) (hp : w.heap[p]? = some (.cells #[a0, a1] 26)) (hq : w.heap[q]? = some (.cells #[f] 4)) (hne : p ≠ q) :
    CallsD Tryz.prog 35 #[.pointer (some ⟨p, 0, none⟩), .pointer (some ⟨q, 0, none⟩)] (.panicking ({ v := .iface T x, recovered := false } :: older)) w fun e u' w' =>
      e = .returned (.tuple #[]) ∧ u' = .panicking ({ v := .iface T x, recovered := true } :: older) ∧ w' = ((w.setCell ⟨p, 0, none⟩ (.int .i64 0)).setCell ⟨p, 1, none⟩ (.slice none 0 0)).setCell ⟨q, 0, none⟩ (.bool false) := by
  have c0 := Joins.cell_of_block hp 0
  have c1 := Joins.cell_of_block hp 1
  have f0 := Joins.unfrozen_of_block hp 0
  have f1 := Joins.unfrozen_of_block hp 1
  have d0 := Joins.cell_of_block hq 0
  have g0 := Joins.unfrozen_of_block hq 0
  dsimp at c0 c1 d0
  have d1 : (w.setCell ⟨p, 0, none⟩ (.int .i64 0)).cell? ⟨q, 0, none⟩ = some f := (World.cell?_setCell_far _ _ _ _ hne).trans d0
  refine callsD_of_wpS Tryz.func35 rfl fun c₀ cs hu => ?_
  apply wpS_seq
  apply wpS_region
  simp [wpOpsS, go_sem, recoverD, hu, Tryz.ntmps35, Exit.thenS]
  refine wpS_cond (t := true) (by simp [Act.eval, Array.replicate]) ?_
  simp only [if_true]
  apply wpS_region
  simp [wpOpsS, go_sem, c0, c1, f0, f1, d1, g0, bodyPostS, results, Tryz.results35]

set_option maxRecDepth 100000 in
theorem catch_idle (p q : Nat) (w : World) :
    CallsD Tryz.prog 35 #[.pointer (some ⟨p, 0, none⟩), .pointer (some ⟨q, 0, none⟩)] .returning w fun e u' w' => e = .returned (.tuple #[]) ∧ u' = .returning ∧ w' = w := by
  refine callsD_of_wpS Tryz.func35 rfl fun c₀ cs hu => ?_
  apply wpS_seq
  apply wpS_region
  simp [wpOpsS, go_sem, recoverD, hu, Tryz.ntmps35, Exit.thenS]
  refine wpS_cond (t := false) (by simp [Act.eval, Array.replicate]) ?_
  simp only [Bool.false_eq_true, if_false]
  refine wpS_of_wp (wp_skip ?_)
  cases c₀
  simp_all [bodyPostS, results, Tryz.results35]

theorem results_vb {fn : Func} {p q : Tmp} (h : fn.results = #[.cell p 26, .cell q 4]) (tmps : Array Value) (w : World) (g g2 : Nat) (cs : Array Value) (f : Bool) (hc : cs.size = 2)
    (hp : tmps.getD p undef = .pointer (some ⟨g, 0, none⟩)) (hq : tmps.getD q undef = .pointer (some ⟨g2, 0, none⟩)) (hg : w.heap[g]? = some (.cells cs 26 (0, 0))) (hg2 : w.heap[g2]? = some (.cells #[.bool f] 4 (0, 0))) :
    (results fn tmps).run Tryz.prog w = .ok (.tuple #[.agg cs, .bool f]) w := by
  have hi : (Tryz.prog.info? 26).map (·.size) = some cs.size := by rw [hc]; kernel_rfl
  have hr := run_loadVar_row (P := Tryz.prog) w g 26 26 cs (0, 0) _ hg Tryz.underlying26 rfl hi
  have hp' : tmps[p]?.getD undef = .pointer (some ⟨g, 0, none⟩) := by simpa using hp
  have hq' : tmps[q]?.getD undef = .pointer (some ⟨g2, 0, none⟩) := by simpa using hq
  have hb : w.cell? ⟨g2, 0, none⟩ = some (.bool f) := Joins.cell_of_block hg2 0
  have hb2 : (loadVar 4 ⟨g2, 0, none⟩).run Tryz.prog w = .ok (.bool f) w := by simp [go_sem, hb]
  simp [results, h, hp', hq', asAddr, hr, hb2]
/-- the world once the answer is laid down -/
def finB (w : World) (p : Nat) (x0 x1 : Value) (f : Bool) : World := ((w.setCell ⟨p, 0, none⟩ x0).setCell ⟨p, 1, none⟩ x1).setCell ⟨p + 1, 0, none⟩ (.bool f)
theorem finB_facts {w wr : World} {p : Nat} {a0 a1 b0 : Value} (x0 x1 : Value) (f : Bool) (hp : wr.heap[p]? = some (.cells #[a0, a1] 26 (0, 0))) (hq : wr.heap[p + 1]? = some (.cells #[b0] 4 (0, 0))) (hb : Below p w wr) :
    (finB wr p x0 x1 f).heap[p]? = some (.cells #[x0, x1] 26 (0, 0)) ∧ (finB wr p x0 x1 f).heap[p + 1]? = some (.cells #[.bool f] 4 (0, 0)) ∧ Below p w (finB wr p x0 x1 f) := by
  have hle : p ≤ p := Nat.le_refl _
  refine ⟨?_, ?_, ((hb.setCell hle _).setCell hle _).setCell (by show p ≤ p + 1; omega) _⟩
  · unfold finB
    rw [Below.heap_setCell _ _ _ p (by show p ≠ p + 1; omega)]
    exact put2 x0 x1 hp
  · unfold finB
    refine Joins.block_setCell (i := 0) (cs := #[b0]) ?_ (.bool f)
    rw [Below.heap_setCell _ _ _ (p + 1) (by show p + 1 ≠ p; omega), Below.heap_setCell _ _ _ (p + 1) (by show p + 1 ≠ p; omega)]
    exact hq
theorem finB_row {wr : World} {p q : Nat} {u : Value} {M : List (Ino × Value)} (h : InoRow wr q u M) (hq : p + 1 < q) (x0 x1 : Value) (f : Bool) : InoRow (finB wr p x0 x1 f) q u M := ((h.setLow (by omega) _ _).setLow (by omega) _ _).setLow (by omega) _ _
theorem volRd_short {L : List ByteArray} {v : Vo} (hs : ∀ t ∈ L, t.size ≤ 4000) (h : volRd L = some v) : VolShort v := by
  have key : ∀ (X : List ByteArray) (r : List Ino), (∀ t ∈ X, t.size ≤ 4000) → inosRd X = some r → r.length = X.length ∧ ∀ y ∈ r, y.ents.length ≤ 4000 ∧ (∀ e ∈ y.ents, e.name.size ≤ 4000) ∧ y.data.size ≤ 4000 := by
    intro X
    induction X with
    | nil => intro r _ h; cases h; simp
    | cons t X ih =>
      intro r hs h
      rw [inosRd] at h
      cases h1 : inoRd t.data.toList with
      | none => rw [h1] at h; cases h
      | some y =>
        rw [h1] at h; simp only [Option.bind_some] at h
        cases h2 : inosRd X with
        | none => rw [h2] at h; cases h
        | some z =>
          rw [h2] at h
          cases h
          have k1 := inoRd_short h1
          rw [size_list] at k1
          have k0 := hs t (by simp)
          have k2 := ih z (fun t ht => hs t (by simp [ht])) h2
          refine ⟨by simp [k2.1], fun y' hy => ?_⟩
          rcases List.mem_cons.1 hy with rfl | hy
          · exact ⟨by omega, fun e he => by have := k1.2.1 e he; omega, by omega⟩
          · exact k2.2 y' hy
  unfold volRd at h
  cases h0 : headRd L[0]!.data.toList with
  | none => rw [h0] at h; cases h
  | some p =>
    rw [h0] at h; simp only [Option.bind_some] at h
    cases h1 : inosRd ((L.drop 1).take (min p.2.toNat 16)) with
    | none => rw [h1] at h; cases h
    | some r =>
      rw [h1] at h
      cases h
      have k := key _ r (fun t ht => hs t (List.mem_of_mem_drop (List.mem_of_mem_take ht))) h1
      have hlen : r.length ≤ 16 := by rw [k.1, List.length_take]; omega
      exact ⟨by show r.length ≤ _; omega, fun y hy => by have := (k.2 y hy).1; omega, fun y hy e he => by have := (k.2 y hy).2.1 e he; omega, fun y hy => by have := (k.2 y hy).2.2; omega⟩

set_option maxRecDepth 100000 in
set_option maxHeartbeats 2000000 in
theorem iReadBlocks (v : Value) (L : List ByteArray) (base : Nat) (T : TypeId) (x : Value) (w : World) (hT : Tabs w) (hC : CrcTab w) (hE : ErrV w T x) (hl : L.length ≤ 1048576) (hv : TxtRow w base v L) :
    Calls Tryz.prog 21 #[v] w fun e w' => SaysB (readN L) w e w' := by
  have B0 : Below w.heap.size w ((w.alloc (.cells #[.int .i64 0, .slice none 0 0] 26)).alloc (.cells #[.bool false] 4)) := (below_lit w _).alloc (by simp) _
  have hp0 := (MapKept.heap_alloc w (.cells #[.int .i64 0, .slice none 0 0] 26)).1
  have hq0 := (MapKept.heap_alloc (w.alloc (.cells #[.int .i64 0, .slice none 0 0] 26)) (.cells #[.bool false] 4)).1
  have S1 : (w.alloc (.cells #[.int .i64 0, .slice none 0 0] 26)).heap.size = w.heap.size + 1 := by simp
  have B1 := below_lit (w.alloc (.cells #[.int .i64 0, .slice none 0 0] 26)) (.cells #[.bool false] 4)
  rw [S1] at hq0 B1
  obtain ⟨w0, HW0⟩ : ∃ w0, Hid (w0 = (w.alloc (.cells #[.int .i64 0, .slice none 0 0] 26)).alloc (.cells #[.bool false] 4)) := ⟨_, rfl⟩
  have hf : (w.alloc (.cells #[.int .i64 0, .slice none 0 0] 26)).alloc (.cells #[.bool false] 4) = w0 := HW0.out.symm
  rw [hf] at B0 hq0 B1
  have hp0 := (B1.block _ (by omega)).trans hp0
  have S0 : w0.heap.size = w.heap.size + 2 := by rw [HW0.out]; simp
  have hv0 := hv.below B0
  have HFIT := blocksFit_any v L w0 hl hv0.at
  have hmf : ∀ (fn : Fn) (first cap : Array Value) (w : World), (Instr.makeFunc fn first cap).run Tryz.prog w = .ok (.func fn first cap) w := fun _ _ _ _ => rfl
  have HN : Hid (∀ w', readN L = none → Below w.heap.size w w' → SaysB (readN L) w (.returned (.tuple #[.agg #[.int .i64 0, .slice none 0 0], .bool false])) w') := fun w' h1 h2 => .inr ⟨h1, rfl, h2⟩
  have HY : Hid (∀ vo u M w', readN L = some vo → M.map (fun p : Ino × Value => p.1) = vo.ins → InoRow w' w.heap.size u M → Below w.heap.size w w' → SaysB (readN L) w (.returned (.tuple #[.agg #[.int .i64 vo.next, u], .bool true])) w') := fun vo u M w' h1 h2 h3 h4 => .inl ⟨vo, u, M, h1, rfl, h2, h3, h4⟩
  obtain ⟨va, vc, hve, -, -⟩ := hv0.at
  cases hfit : fitL L with
  | false =>
    have hnone : Hid (readN L = none) := readN_none fun vo hR hb => by
      have : fitL L = true := fitL_iff.2 ⟨by rw [← hb]; exact blocksN_len vo, fun t ht => by rw [← hb] at ht; have := blocksN_size hR t ht; omega⟩
      rw [hfit] at this; cases this
    rw [hfit] at HFIT
    subst hve
    generalize L.length = n at *
    generalize readN L = o at *
    have c0 := Joins.cell_of_block hp0 0
    have c1 := Joins.cell_of_block hp0 1
    have f0 := fun i => Joins.unfrozen_of_block hp0 i
    have d0 := Joins.cell_of_block hq0 0
    have d1 := fun i => Joins.unfrozen_of_block hq0 i
    dsimp at c0 c1 d0
    have hne : ¬ w.heap.size = w.heap.size + 1 := by omega
    go_enter_defers Tryz.func21, Tryz.ntmps21
    go_wp2_with (go_at_call 34; refine HFIT.mono ?_; rintro e w' ⟨rfl, rfl⟩)
    obtain ⟨k1, k2, k3⟩ := finB_facts (.int .i64 0) (.slice none 0 0) false hp0 hq0 B0
    change bodyPostD _ _ _ _ _ (finB w0 w.heap.size (.int .i64 0) (.slice none 0 0) false)
    exact ⟨_, results_vb Tryz.results21 _ _ w.heap.size (w.heap.size + 1) _ false rfl rfl rfl k1 k2, HN.out _ hnone.out k3⟩
  | true =>
    have hfit' := fitL_iff.1 hfit
    rw [hfit] at HFIT
    have HRV := readVol_any v L base T x w0 (hT.below B0) (hC.below B0) (hE.below B0) hfit'.1 hfit'.2 hv0
    have HSH : Hid (∀ vo, volRd L = some vo → VolShort vo) := fun vo h => volRd_short hfit'.2 h
    have HVB : Hid (∀ vo u w', VolShort vo → VolAt w' u vo → Below w.heap.size w w' → Calls Tryz.prog 38 #[u] w' fun e w'' => ∃ z, e = .returned z ∧ TxtRow w'' w'.heap.size z (volBlocksN vo) ∧ Below w'.heap.size w' w'') := fun vo u w' hs h b => iVolBlocks u vo w' (hT.below b) (hC.below b) hs h
    have HEQ : Hid (∀ z M w', TxtsAt w' z M → M.length ≤ 1048576 → Below w.heap.size w w' → Calls Tryz.prog 37 #[z, v] w' fun e w'' => e = .returned (.bool (decide (M = L))) ∧ Below w'.heap.size w' w'') := fun z M w' hz hm b => equalT_any z v M L w' hm hz (hv.below b).at
    have hL17 := hfit'.1
    have HNO : Hid ((∀ vo, volRd L = some vo → volBlocksN vo ≠ L) → readN L = none) := readN_R
    have HYE : Hid (∀ vo, volBlocksN vo = L → readN L = some vo) := fun vo h => readN_yes (fun e => by rw [e] at hL17; simp at hL17) h
    subst hve
    rw [hL17] at HFIT HRV HEQ ⊢
    clear hfit hfit' hv hv0 hT hC hE hl
    generalize readN L = o at *
    have c0 := Joins.cell_of_block hp0 0
    dsimp at c0
    go_enter_defers Tryz.func21, Tryz.ntmps21
    go_wp2_with (go_at_call 34; refine HFIT.mono ?_; rintro e w' ⟨rfl, rfl⟩)
    refine HRV.mono ?_
    rintro e w1 hs
    rcases hs with ⟨vo, u, hvo, rfl, ⟨M, hM, hrow⟩, b1⟩ | ⟨hvo, rfl, b1⟩
    · obtain ⟨ua, uc, hu, -, -⟩ := hrow.at
      rw [hM] at hu
      subst hu
      have hsh := HSH.out vo hvo
      have B1 := B0.trans (b1.mono B0.size)
      have hs1 := b1.size
      have hp1 := (b1.block _ (by omega)).trans hp0
      have hq1 := (b1.block _ (by omega)).trans hq0
      have BX := below_lit w1 (.cells #[.int .i64 vo.next, .slice ua vo.ins.length uc] 26)
      have SX : (w1.alloc (.cells #[.int .i64 vo.next, .slice ua vo.ins.length uc] 26)).heap.size = w1.heap.size + 1 := by simp
      have B2 := B1.trans (BX.mono B1.size)
      have at2 : VolAt (w1.alloc (.cells #[.int .i64 vo.next, .slice ua vo.ins.length uc] 26)) (.agg #[.int .i64 vo.next, .slice ua vo.ins.length uc]) vo := ⟨_, rfl, by have h := (hrow.below BX).at; rwa [hM] at h⟩
      have hVB := HVB.out vo _ _ hsh at2 B2
      rw [SX] at hVB
      have hml := volBlocksN_len vo
      have hNo : Hid (volBlocksN vo ≠ L → o = none) := fun h => HNO.out fun vo' h' => by rw [hvo] at h'; cases h'; exact h
      have hYe : Hid (volBlocksN vo = L → o = some vo) := HYE.out vo
      generalize volBlocksN vo = MB at *
      have HYV := HY.out vo (.slice ua vo.ins.length uc) M
      clear HSH HVB HNO HYE HY hsh at2
      generalize vo.ins.length = n at *
      generalize vo.next = nx at *
      go_wp2_with fail
      refine hVB.mono ?_
      rintro e w3 ⟨z, rfl, hz, b3⟩
      obtain ⟨y0, y1, HX3⟩ := box_cells b3
      have B3 := B1.trans (HX3.mono B1.size)
      have hEQ := HEQ.out z MB w3 hz.at (by omega) B3
      go_wp2_with fail
      refine hEQ.mono ?_
      rintro e w4 ⟨rfl, b4⟩
      have b34 := b3.trans (b4.mono (by have := b3.size; rw [SX] at this; exact this))
      obtain ⟨y0, y1, HX4⟩ := box_cells b34
      have B4 := B1.trans (HX4.mono B1.size)
      have hs4 := HX4.size
      have hp4 := (HX4.block _ (by omega)).trans hp1
      have hq4 := (HX4.block _ (by omega)).trans hq1
      have row4 := hrow.below HX4
      have c0 := Joins.cell_of_block hp4 0
      have c1 := Joins.cell_of_block hp4 1
      have f0 := fun i => Joins.unfrozen_of_block hp4 i
      have d0 := Joins.cell_of_block hq4 0
      have d1 := fun i => Joins.unfrozen_of_block hq4 i
      dsimp at c0 c1 d0
      by_cases he : MB = L
      · rw [decide_eq_true he]
        have hsome := hYe.out he
        obtain ⟨k1, k2, k3⟩ := finB_facts (.int .i64 nx) (.slice ua n uc) true hp4 hq4 B4
        have k4 := (finB_row (p := w.heap.size) row4 (by rw [S0]; omega) (.int .i64 nx) (.slice ua n uc) true).mono B0.size
        have HF : Hid (SaysB o w (.returned (.tuple #[.agg #[.int .i64 nx, .slice ua n uc], .bool true])) (finB w4 w.heap.size (.int .i64 nx) (.slice ua n uc) true)) := HYV _ hsome hM k4 k3
        clear HYV hsome he
        go_wp2
        change bodyPostD _ _ _ _ _ (finB w4 w.heap.size (.int .i64 nx) (.slice ua n uc) true)
        generalize finB w4 w.heap.size (.int .i64 nx) (.slice ua n uc) true = wz at *
        refine leaves_cons (f := 35) (args := #[.pointer (some ⟨w.heap.size, 0, none⟩), .pointer (some ⟨w.heap.size + 1, 0, none⟩)]) (by simp) (by simp [go_sem]) ?_
        refine (catch_idle w.heap.size (w.heap.size + 1) wz).mono ?_
        rintro e u' w'' ⟨rfl, rfl, rfl⟩
        exact ⟨_, results_vb Tryz.results21 _ _ w.heap.size (w.heap.size + 1) _ true rfl rfl rfl k1 k2, HF.out⟩
      · rw [decide_eq_false he]
        have hnone := hNo.out he
        obtain ⟨k1, k2, k3⟩ := finB_facts (.int .i64 0) (.slice none 0 0) false hp4 hq4 B4
        have HF : Hid (SaysB o w (.returned (.tuple #[.agg #[.int .i64 0, .slice none 0 0], .bool false])) (finB w4 w.heap.size (.int .i64 0) (.slice none 0 0) false)) := HN.out _ hnone k3
        clear HYV hnone he
        go_wp2
        change bodyPostD _ _ _ _ _ (finB w4 w.heap.size (.int .i64 0) (.slice none 0 0) false)
        generalize finB w4 w.heap.size (.int .i64 0) (.slice none 0 0) false = wz at *
        refine leaves_cons (f := 35) (args := #[.pointer (some ⟨w.heap.size, 0, none⟩), .pointer (some ⟨w.heap.size + 1, 0, none⟩)]) (by simp) (by simp [go_sem]) ?_
        refine (catch_idle w.heap.size (w.heap.size + 1) wz).mono ?_
        rintro e u' w'' ⟨rfl, rfl, rfl⟩
        exact ⟨_, results_vb Tryz.results21 _ _ w.heap.size (w.heap.size + 1) _ false rfl rfl rfl k1 k2, HF.out⟩
    · have hnone : Hid (o = none) := HNO.out fun vo h => by rw [hvo] at h; cases h
      have B1 := B0.trans (b1.mono B0.size)
      have hp1 := (b1.block _ (by omega)).trans hp0
      have hq1 := (b1.block _ (by omega)).trans hq0
      obtain ⟨k1, k2, k3⟩ := finB_facts (.int .i64 0) (.slice none 0 0) false hp1 hq1 B1
      go_wp2
      refine leaves_cons (f := 35) (args := #[.pointer (some ⟨w.heap.size, 0, none⟩), .pointer (some ⟨w.heap.size + 1, 0, none⟩)]) (by simp) (by simp [go_sem]) ?_
      refine (catch_panics w.heap.size (w.heap.size + 1) T x [] _ _ _ w1 hp1 hq1 (by omega)).mono ?_
      rintro e u' w'' ⟨rfl, rfl, rfl⟩
      change Leaves _ _ _ _ _ _ (finB w1 w.heap.size (.int .i64 0) (.slice none 0 0) false)
      exact ⟨_, results_vb Tryz.results21 _ _ w.heap.size (w.heap.size + 1) _ false rfl rfl rfl k1 k2, HN.out _ hnone.out k3⟩
end

end Go.Proofs.YtpijjinoeghgoaaGreatDoor
