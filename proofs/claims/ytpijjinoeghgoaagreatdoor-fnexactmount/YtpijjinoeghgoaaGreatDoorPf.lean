/- Blocks: rows that stand by while others are marked. Rows of texts: what laws.szStringS does. Blocks, spec: ReadBlocks. Blocks: laws.szStringS; laws.FnExactReadBlocks: the walk. A row of texts that is handed to a law, opened. A row of texts that is handed to a law, opened; a variable that holds an error, read behind the call. -/
import Derived.Test.YtpijjinoeghgoaaGreatDoorRows
import Derived.Test.YtpijjinoeghgoaaGreatDoorNa
import Derived.Test.YtpijjinoeghgoaaGreatDoorQa
import Derived.Test.YtpijjinoeghgoaaGreatDoorRsE
import Derived.Test.YtpijjinoeghgoaaGreatDoorPd
import Derived.Test.YtpijjinoeghgoaaGreatDoorPg
import Derived.Test.YtpijjinoeghgoaaGreatDoorMx
import Derived.Deep.Slices
import Derived.Lib.SmallJoins
import Derived.ChangeArms
import Derived.OpenVars
import Derived.LaidLaws
import Derived.Lib.LaidU8
namespace Go.Proofs.YtpijjinoeghgoaaGreatDoor

section
open Go.RowKit Go.Sort

theorem numI_all (k : Nat) (L : List (Ino × Value)) : numI k L L.length = k + 4 * (L.map (·.1)).length + 4 * ((L.map (·.1)).map fun y => y.ents.length).sum := by
  unfold numI
  rw [List.take_length]
  induction L with
  | nil => simp
  | cons p L ih => simp only [List.map_cons, List.sum_cons, List.length_cons, List.map_map] at ih ⊢; omega
theorem TxtRow.mid {B T base : Nat} {w w' : World} {v : Value} {l : List ByteArray} (h : TxtRow w base v l) (m : MidB B T w w') (hb : ∀ q, v.ownBlock = some q → q < B ∨ T ≤ q) : TxtRow w' base v l :=
  ⟨h.1, by
    rcases h.2 with h0 | ⟨g, cap, cur, e, hg, hh, r⟩
    · exact .inl h0
    · exact .inr ⟨g, cap, cur, e, hg, (m.block g (lt_of_block hh) (hb g (by rw [e]; rfl))).trans hh, r⟩⟩
theorem TxtRow.blk {w : World} {base : Nat} {v : Value} {l : List ByteArray} (h : TxtRow w base v l) : ∀ q, v.ownBlock = some q → base ≤ q ∧ q < w.heap.size := fun q hq => World.ownsRow.lt h q hq
end

section
open Go.RowKit Go.Sort

set_option maxRecDepth 100000 in
set_option maxHeartbeats 1000000 in
theorem szStringS_le (v : Value) (L : List ByteArray) (y0 : Int) (w : World) (hy0 : 0 ≤ y0) (hy1 : y0 ≤ 1048576) (hv : TxtsAt w v L) (hl : L.length ≤ 9223372036854775807) (hs : ∀ t, t < L.length → L[t]!.size ≤ 9223372036854775807) :
    Calls Tryz.prog 4 #[v, .int .i64 y0] w fun e w' => ∃ q : Int, e = .returned (.int .i64 q) ∧ (-1 ≤ q ∧ q ≤ 1048576) ∧ Hid (0 ≤ q → L.length ≤ 1048576 ∧ ∀ t, t < L.length → L[t]!.size ≤ 1048576) ∧ Below w.heap.size w w' := by
  obtain ⟨a, ca, rfl, -, hva⟩ := hv
  obtain ⟨n, HL⟩ : ∃ n, Hid (n = L.length) := ⟨_, rfl⟩
  rw [← HL.out] at hva hl hs ⊢
  have hw : IntKind.i64.wrap (y0 - (n : Int)) = y0 - (n : Int) := by rw [IntKind.wrap_i64]; omega
  by_cases hbig : y0 < (n : Int)
  · have hc : y0 - (n : Int) < 0 := by omega
    go_enter Tryz.func4, Tryz.ntmps4
    go_wp2
    go_ret
    exact ⟨-1, rfl, ⟨by omega, by omega⟩, fun h => (by omega), Below.refl _ _⟩
  · have hc : ¬ (y0 - (n : Int) < 0) := by omega
    go_enter Tryz.func4, Tryz.ntmps4
    go_wp2
    go_loopw [1, 5] (fun q i wr => ∃ k : Nat, k ≤ n ∧ i = .int .i64 k ∧ ∃ x : Int, q = .int .i64 x ∧ 0 ≤ x ∧ (n : Int) + x ≤ 1048576 ∧ Hid (∀ t, t < k → L[t]!.size ≤ 1048576) ∧ Below w.heap.size w wr) (fun _ i _ => n - (intOf i).toNat)
    case atStart => exact ⟨0, Nat.zero_le _, rfl, _, rfl, by omega, by omega, fun t ht => by omega, Below.refl _ _⟩
    case round =>
      obtain ⟨k, hk, rfl, x, rfl, hx0, hx1, HS, hbel⟩ := hrel
      by_cases hlt : k < n
      · obtain ⟨b1, o1, rfl, hb1, hc1⟩ := hva k hlt
        have hc1 := (hbel.cell (p := ⟨b1, o1 + k, none⟩) hb1).trans hc1
        have hsk := hs k hlt
        have HK : Hid (L[k]!.size ≤ 1048576 → ∀ t, t < k + 1 → L[t]!.size ≤ 1048576) := fun h t ht => by
          by_cases e : t = k
          · rw [e]; exact h
          · exact HS.out t (by omega)
        generalize L[k]! = y at *
        have hkn : (k : Int) < (n : Int) := by omega
        have hk0 : (0 : Int) ≤ (k : Int) := by omega
        have hwy : IntKind.i64.wrap (x - (y.size : Int)) = x - (y.size : Int) := by rw [IntKind.wrap_i64]; omega
        by_cases hxy : x < (y.size : Int)
        · have hd : x - (y.size : Int) < 0 := by omega
          clear HK hva
          go_wp2
          go_ret
          exact ⟨-1, rfl, ⟨by omega, by omega⟩, fun h => (by omega), hbel⟩
        · have hd : ¬ (x - (y.size : Int) < 0) := by omega
          have HK' : Hid (∀ t, t < k + 1 → L[t]!.size ≤ 1048576) := HK.out (by omega)
          clear HK hva
          go_wp2
          go_roundw
          case rel => exact ⟨k + 1, by omega, by go_num, x - (y.size : Int), rfl, by omega, by omega, HK', hbel⟩
          case measure => simp [intOf]; omega
      · obtain rfl : n = k := by omega
        go_wp2
        go_ret
        exact ⟨x, rfl, ⟨by omega, by omega⟩, fun _ => ⟨by omega, HS.out⟩, hbel⟩

theorem szStringS_at (v : Value) (L : List ByteArray) (w : World) (hv : TxtsAt w v L) (hl : L.length ≤ 9223372036854775807) (hs : ∀ t, t < L.length → L[t]!.size ≤ 9223372036854775807) :
    Calls Tryz.prog 4 #[v, .int .i64 1048576] w fun e w' => ∃ q : Int, e = .returned (.int .i64 q) ∧ (-1 ≤ q ∧ q ≤ 1048576) ∧ Hid (0 ≤ q → L.length ≤ 1048576 ∧ ∀ t, t < L.length → L[t]!.size ≤ 1048576) ∧ Below w.heap.size w w' := szStringS_le v L 1048576 w (by decide) (by decide) hv hl hs
end

section
open Go.RowKit Go.Sort

theorem results_vt {fn : Func} {p u : Tmp} (h : fn.results = #[.cell p 26, .tmp u]) (tmps : Array Value) (w : World) (g : Nat) (cs : Array Value) (hc : cs.size = 2)
    (hp : tmps.getD p undef = .pointer (some ⟨g, 0, none⟩)) (hg : w.heap[g]? = some (.cells cs 26 (0, 0))) :
    (results fn tmps).run Tryz.prog w = .ok (.tuple #[.agg cs, tmps.getD u undef]) w := by
  have hi : (Tryz.prog.info? 26).map (·.size) = some cs.size := by rw [hc]; kernel_rfl
  have hr := run_loadVar_row (P := Tryz.prog) w g 26 26 cs (0, 0) _ hg Tryz.underlying26 rfl hi
  have hp' : tmps[p]?.getD undef = .pointer (some ⟨g, 0, none⟩) := by simpa using hp
  simp [results, h, hp', asAddr, hr]
theorem inosS_none {X : List ByteArray} {k : Nat} {acc : List Ino} (h : inosS X = (inosS (X.drop k)).map fun q => acc ++ q) (hk : k < X.length) (he : parS X[k]!.data.toList = none) : inosS X = none := by
  rw [h, List.drop_eq_getElem_cons hk, inosS, ← getElem!_pos X k hk, he]; rfl
theorem inosS_some {X : List ByteArray} {k : Nat} {acc : List Ino} {y : Ino} (h : inosS X = (inosS (X.drop k)).map fun q => acc ++ q) (hk : k < X.length) (he : parS X[k]!.data.toList = some y) : inosS X = (inosS (X.drop (k + 1))).map fun q => (acc ++ [y]) ++ q := by
  rw [h, List.drop_eq_getElem_cons hk, inosS, ← getElem!_pos X k hk, he]
  simp only [Option.bind_some]
  cases inosS (X.drop (k + 1)) with
  | none => rfl
  | some q => simp
theorem ents_len : ∀ (n : Nat) (l : List UInt8) (p : Int) (r : List En × Int), l.length ≤ 1048576 → -1 ≤ p → p ≤ 1048576 → entsS l n p = some r → r.1.length = n ∧ ∀ e ∈ r.1, e.name.size ≤ l.length
  | 0, l, p, r, _, _, _, h => by cases h; simp
  | n + 1, l, p, r, hl, h0, h1, h => by
    rw [entsS] at h
    cases h2 : entS l p with
    | none => rw [h2] at h; cases h
    | some e =>
      rw [h2] at h; simp only [Option.bind_some] at h
      cases h3 : entsS l n e.2 with
      | none => rw [h3] at h; cases h
      | some z =>
        rw [h3] at h
        cases h
        have eV := vars_end l 1 p hl h0 (by omega)
        have eT := tak_end (l := l) (p := (varsS l 1 p).2) hl eV.1 eV.2.1
        have eW := vars_end l 1 (takS l (varsS l 1 p).2).2 hl eT.1 (by omega)
        unfold entS at h2
        split at h2
        · cases h2
        · cases h2
          have ih := ents_len n l _ z hl eW.1 (by have := eW.2.2.2 (by omega); omega) h3
          refine ⟨by simp [ih.1], fun x hx => ?_⟩
          rcases List.mem_cons.1 hx with rfl | hx
          · show (bA _).size ≤ _
            rw [bA_size]; exact eT.2.2
          · exact ih.2 x hx
theorem parS_short {l : List UInt8} {y : Ino} (hl : l.length ≤ 1048576) (h : parS l = some y) : y.ents.length ≤ 12 ∧ (∀ e ∈ y.ents, e.name.size ≤ l.length) ∧ y.data.size ≤ l.length := by
  have eA := vars_end l 3 1 hl (by omega) (by omega)
  have eD := tak_end (l := l) (p := (varsS l 3 1).2) hl eA.1 eA.2.1
  have eN := vars_end l 1 (takS l (varsS l 3 1).2).2 hl eD.1 (by omega)
  unfold parS at h
  split at h
  · cases h
  · rename_i hb
    have hin := vars_in (l := l) (p := (takS l (varsS l 3 1).2).2) (by omega)
    cases h2 : entsS l (varsS l 1 (takS l (varsS l 3 1).2).2).1[0]!.toNat (varsS l 1 (takS l (varsS l 3 1).2).2).2 with
    | none => rw [h2] at h; cases h
    | some e =>
      rw [h2] at h
      simp only [Option.bind_some] at h
      split at h
      · cases h
        have k := ents_len _ l _ e hl eN.1 (by have := eN.2.2.2 (by omega); omega) h2
        refine ⟨by show e.1.length ≤ 12; rw [k.1]; omega, k.2, ?_⟩
        show (bA _).size ≤ _
        rw [bA_size]; exact eD.2.2
      · cases h
theorem volS_short {L : List ByteArray} {v : Vo} (hs : ∀ t ∈ L, t.size ≤ 1048576) (hL : L.length = 17) (h : volS L = some v) : VolShort v := by
  have key : ∀ (X : List ByteArray) (r : List Ino), (∀ t ∈ X, t.size ≤ 1048576) → inosS X = some r → r.length = X.length ∧ ∀ y ∈ r, y.ents.length ≤ 12 ∧ (∀ e ∈ y.ents, e.name.size ≤ 1048576) ∧ y.data.size ≤ 1048576 := by
    intro X
    induction X with
    | nil => intro r _ h; cases h; simp
    | cons t X ih =>
      intro r hs h
      rw [inosS] at h
      cases h1 : parS t.data.toList with
      | none => rw [h1] at h; cases h
      | some y =>
        rw [h1] at h; simp only [Option.bind_some] at h
        cases h2 : inosS X with
        | none => rw [h2] at h; cases h
        | some z =>
          rw [h2] at h
          cases h
          have k0 := hs t (by simp)
          have k1 := parS_short (by rw [size_list]; exact k0) h1
          rw [size_list] at k1
          have k2 := ih z (fun t ht => hs t (by simp [ht])) h2
          refine ⟨by simp [k2.1], fun y' hy => ?_⟩
          rcases List.mem_cons.1 hy with rfl | hy
          · exact ⟨k1.1, fun e he => by have := k1.2.1 e he; omega, by omega⟩
          · exact k2.2 y' hy
  unfold volS at h
  split at h
  · cases h
  · cases h1 : inosS ((L.drop 1).take (varsS L[0]!.data.toList 2 1).1[1]!.toNat) with
    | none => rw [h1] at h; cases h
    | some r =>
      rw [h1] at h
      cases h
      have k := key _ r (fun t ht => hs t (List.mem_of_mem_drop (List.mem_of_mem_take ht))) h1
      have hlen : r.length ≤ 16 := by rw [k.1, List.length_take, List.length_drop]; omega
      exact ⟨by show r.length ≤ _; omega, fun y hy => by have := (k.2 y hy).1; omega, fun y hy e he => (k.2 y hy).2.1 e he, fun y hy => (k.2 y hy).2.2⟩

/-- two numbers that are read -/
theorem vars_in2 (l : List UInt8) : 0 ≤ (varsS l 2 1).2 → 0 ≤ (varsS l 2 1).1[1]! ∧ (varsS l 2 1).1[1]! ≤ 562949953421311 := by
  intro h
  by_cases h1 : (1 : Int) < 0 ∨ (l.length : Int) < 1
  · rw [vars_out h1] at h; simp at h
  · by_cases hk : rdK (l.drop 1) = 0
    · rw [show (1 : Int) = ((1 : Nat) : Int) by rfl, vars_no (by omega) hk] at h; simp at h
    · rw [show (1 : Int) = ((1 : Nat) : Int) by rfl, vars_yes (by omega) hk] at h ⊢
      have h2 := vars_in (l := l) h
      exact h2

theorem two_cells {w : World} {base : Nat} {u : Value} {a b : Int} (h : IntRow w base u [a, b]) : ∃ g cap, u = .slice (some ⟨g, 0, none⟩) 2 cap ∧ w.cell? ⟨g, 0, none⟩ = some (.int .i64 a) ∧ w.cell? ⟨g, 1, none⟩ = some (.int .i64 b) ∧ base ≤ g ∧ g < w.heap.size := by
  obtain ⟨x, cc, e, hc⟩ := h.at
  obtain ⟨b0, off, h1, h2, h3⟩ := hc 0 (by simp)
  obtain ⟨b1, off1, k1, -, k3⟩ := hc 1 (by simp)
  rcases h.2 with ⟨_, h0⟩ | ⟨g, cap, cur, rfl, hg, hh, _⟩
  · simp at h0
  · simp only [Value.slice.injEq] at e
    rw [← e.1] at h1 k1
    refine ⟨g, cap, rfl, ?_, ?_, hg, lt_of_block hh⟩
    · cases h1; simpa using h3
    · cases k1; simpa using k3

/-- that l7Parse is as said -/
def ParseOk : Prop := ∀ (l : List UInt8) (w : World), l.length ≤ 1048576 → Calls Tryz.prog 30 #[.string (bA l)] w fun e w' => SaysQ (parS l) w e w'

set_option maxRecDepth 100000 in
set_option maxHeartbeats 2000000 in
theorem sReadBlocks (HPQ : ParseOk) (v : Value) (L : List ByteArray) (w : World) (hs : ∀ t ∈ L, t.size ≤ 1048576) (hv : TxtsAt w v L) :
    Calls Tryz.prog 17 #[v] w fun e w' => SaysB (readN L) w e w' := by
  have B0 := below_lit w (.cells #[.int .i64 0, .slice none 0 0] 26)
  have hres0 := (MapKept.heap_alloc w (.cells #[.int .i64 0, .slice none 0 0] 26)).1
  have S0 : (w.alloc (.cells #[.int .i64 0, .slice none 0 0] 26)).heap.size = w.heap.size + 1 := by simp
  have HN : Hid (∀ w', readN L = none → Below w.heap.size w w' → SaysB (readN L) w (.returned (.tuple #[.agg #[.int .i64 0, .slice none 0 0], .bool false])) w') := fun w' h1 h2 => .inr ⟨h1, rfl, h2⟩
  have HY : Hid (∀ vo u M w', readN L = some vo → M.map (fun p : Ino × Value => p.1) = vo.ins → InoRow w' w.heap.size u M → Below w.heap.size w w' → SaysB (readN L) w (.returned (.tuple #[.agg #[.int .i64 vo.next, u], .bool true])) w') := fun vo u M w' h1 h2 h3 h4 => .inl ⟨vo, u, M, h1, rfl, h2, h3, h4⟩
  have hvv := hv
  obtain ⟨a, ca, rfl, -, hva⟩ := hv
  have hle : w.heap.size ≤ w.heap.size := Nat.le_refl _
  have HFIN : Hid (∀ wr (x0 x1 a0 a1 : Value), wr.heap[w.heap.size]? = some (.cells #[a0, a1] 26 (0, 0)) → Below w.heap.size w wr → ((wr.setCell ⟨w.heap.size, 0, none⟩ x0).setCell ⟨w.heap.size, 1, none⟩ x1).heap[w.heap.size]? = some (.cells #[x0, x1] 26 (0, 0)) ∧ Below w.heap.size w ((wr.setCell ⟨w.heap.size, 0, none⟩ x0).setCell ⟨w.heap.size, 1, none⟩ x1)) := fun wr x0 x1 a0 a1 h1 h2 => ⟨put2 x0 x1 h1, (h2.setCell hle _).setCell hle _⟩
  by_cases h17 : L.length = 17
  · rw [h17] at hva hvv ⊢
    have HTX : Hid (∀ t, t < 17 → L[t]!.size ≤ 1048576) := fun t ht => hs _ (by rw [getElem!_pos L t (by omega)]; exact List.getElem_mem _)
    obtain ⟨g, off, rfl, hgl, -⟩ := hva 0 (by omega)
    have HC : Hid (∀ w', Below w.heap.size w w' → ∀ t, t < 17 → w'.cell? ⟨g, off + t, none⟩ = some (.string L[t]!)) := fun w' b t ht => by
      obtain ⟨b1, o1, e, h2, h3⟩ := hva t ht
      cases e
      exact (b.cell (p := ⟨g, off + t, none⟩) h2).trans h3
    have HPR : Hid (∀ k w', k < 17 → Calls Tryz.prog 30 #[.string L[k]!] w' fun e w'' => SaysQ (parS L[k]!.data.toList) w' e w'') := fun k w' hk => by
      have := HPQ L[k]!.data.toList w' (by rw [size_list]; exact HTX.out k hk)
      rwa [bA_of] at this
    have HV0 := l7Vars_any L[0]!.data.toList 1 2 (w.alloc (.cells #[.int .i64 0, .slice none 0 0] 26)) (by rw [size_list]; exact HTX.out 0 (by omega)) (by omega) (by omega) (by omega)
    rw [bA_of] at HV0
    have eA := vars_end L[0]!.data.toList 2 1 (by rw [size_list]; exact HTX.out 0 (by omega)) (by omega) (by omega)
    have HVL : Hid (volS L = if (varsS L[0]!.data.toList 2 1).2 < 0 ∨ 16 < (varsS L[0]!.data.toList 2 1).1[1]! then none else (inosS ((L.drop 1).take (varsS L[0]!.data.toList 2 1).1[1]!.toNat)).bind fun r => some ⟨(varsS L[0]!.data.toList 2 1).1[0]!, r⟩) := rfl
    have HNOS : Hid ((∀ v, volS L = some v → volBlocksN v ≠ L) → readN L = none) := readN_S
    have HYES : Hid (∀ v, volBlocksN v = L → readN L = some v) := fun v h => readN_yes (fun e => by rw [e] at h17; simp at h17) h
    have HSH : Hid (∀ v, volS L = some v → VolShort v) := fun v h => volS_short hs h17 h
    have c00 := HC.out _ B0 0 (by omega)
    rw [Nat.add_zero] at c00
    have HINN := vars_in2 L[0]!.data.toList
    generalize L[0]! = t0 at *
    generalize varsS t0.data.toList 2 1 = A at *
    obtain ⟨A1, A2⟩ := A
    dsimp only at *
    generalize readN L = o at *
    clear hs hva
    by_cases hbad : A2 < 0 ∨ 16 < A1[1]!
    · have hnone : Hid (o = none) := HNOS.out fun v h => by rw [HVL.out, if_pos hbad] at h; cases h
      have HA2 : Hid (0 ≤ A2 → ∃ nx z, A1 = [nx, z] ∧ (16 : Int) < z) := fun h => by
        have h2 := eA.2.2.1 h
        match A1, h2, hbad with
        | [nx, z], _, hb => exact ⟨nx, z, rfl, hb.elim (fun h' => absurd h' (by omega)) id⟩
      clear HVL HNOS HYES HSH HY HPR hbad eA HINN
      go_enter Tryz.func17, Tryz.ntmps17
      go_wp2_with fail
      refine HV0.mono ?_
      rintro e w1 ⟨u1, rfl, r1, b1⟩
      rw [S0] at b1
      have hres1 := (b1.block w.heap.size (by omega)).trans hres0
      have B1 : Below w.heap.size w w1 := B0.trans (b1.mono (by omega))
      have q0 := Joins.cell_of_block hres1 0
      have q1 := Joins.cell_of_block hres1 1
      have qf := fun i => Joins.unfrozen_of_block hres1 i
      dsimp at q0 q1
      obtain ⟨k1, k2⟩ := HFIN.out _ (.int .i64 0) (.slice none 0 0) _ _ hres1 B1
      by_cases hn2 : A2 < 0
      · go_wp2
        exact bodyPost_ret (results_vt (p := 2) (u := 3) Tryz.results17 _ _ w.heap.size _ rfl rfl k1) rfl (HN.out _ hnone.out k2)
      · obtain ⟨nx, z, hA, hz16⟩ := HA2.out (by omega)
        subst hA
        obtain ⟨g1, cc1, rfl, a0, a1, -, -⟩ := two_cells r1
        go_wp2
        exact bodyPost_ret (results_vt (p := 2) (u := 3) Tryz.results17 _ _ w.heap.size _ rfl rfl k1) rfl (HN.out _ hnone.out k2)
    · have hA2 : 0 ≤ A2 := by omega
      obtain ⟨nx, z, hA⟩ : ∃ nx z, A1 = [nx, z] := by
        have h2 := eA.2.2.1 hA2
        match A1, h2 with
        | [nx, z], _ => exact ⟨nx, z, rfl⟩
      subst hA
      have hzi := HINN hA2
      have e1 : ([nx, z] : List Int)[1]! = z := rfl
      have e0 : ([nx, z] : List Int)[0]! = nx := rfl
      rw [e1] at hbad hzi
      obtain ⟨m, rfl⟩ : ∃ m : Nat, z = (m : Int) := ⟨z.toNat, by omega⟩
      have hm16 : m ≤ 16 := by omega
      have hvl := HVL.out
      rw [if_neg (by rw [e1]; omega), e1, e0, Int.toNat_natCast] at hvl
      have HVQ : Hid (volS L = (inosS ((L.drop 1).take m)).bind fun r => some ⟨nx, r⟩) := hvl
      clear HVL
      have HXM : Hid (∀ k, k < m → ((L.drop 1).take m)[k]! = L[1 + k]!) := fun k hk => by
        rw [getElem!_pos _ k (by simp; omega), getElem!_pos L (1 + k) (by omega)]
        simp only [List.getElem_take, List.getElem_drop]
      have HXK : Hid (((L.drop 1).take m).length = m) := by show _ = _; simp; omega
      have HSV : Hid (∀ x u w', VolShort x → VolAt w' u x → Calls Tryz.prog 32 #[u] w' fun e w'' => ∃ z, e = .returned z ∧ TxtRow w'' w'.heap.size z (volBlocksN x) ∧ Below w'.heap.size w' w'') := fun x u w' h1 h2 => sVolBlocks u x w' h1 h2
      have HAL : Hid (∀ z M w', TxtsAt w' z M → M.length ≤ 1048576 → Below w.heap.size w w' → Calls Tryz.prog 31 #[z, .slice (some ⟨g, off, none⟩) 17 ca] w' fun e w'' => e = .returned (.bool (decide (M = L))) ∧ Below w'.heap.size w' w'') := fun z M w' h1 h2 b => l7Alike_any z _ M L w' h2 h1 (hvv.below b)
      clear hvl hbad hzi HINN eA e0 e1 hvv
      go_enter Tryz.func17, Tryz.ntmps17
      go_wp2_with fail
      refine HV0.mono ?_
      rintro e w1 ⟨u1, rfl, r1, b1⟩
      rw [S0] at b1 r1
      obtain ⟨g1, cc1, rfl, a0, a1, hg1a, hg1b⟩ := two_cells r1
      have hs1 := b1.size
      rw [S0] at hs1
      have hres1 := (b1.block w.heap.size (by omega)).trans hres0
      have B1 : Below w.heap.size w w1 := B0.trans (b1.mono (by omega))
      have BX := below_lit w1 (.cells #[.int .i64 nx, .slice none 0 0] 26)
      have HST : Hid (RvSt w w1.heap.size nx (.slice none 0 0) [] (w1.alloc (.cells #[.int .i64 nx, .slice none 0 0] 26))) :=
        ⟨(BX.block _ (by omega)).trans hres1, (MapKept.heap_alloc w1 _).1, ⟨⟨rfl, .inl ⟨rfl, rfl⟩⟩, fun t ht => by simp at ht, List.Pairwise.nil⟩, B1.trans (BX.mono B1.size), by omega⟩
      have aa1 := (BX.cell (p := ⟨g1, 1, none⟩) hg1b).trans a1
      have hA2' : ¬ (A2 < 0) := by omega
      have hm16' : ¬ ((16 : Int) < (m : Int)) := by omega
      clear BX hres1 hres0 HV0 r1 b1 c00
      generalize (L.drop 1).take m = X at *
      have HG1 : Hid (g1 < w1.heap.size) := hg1b
      go_wp2
      generalize w1.alloc (.cells #[.int .i64 nx, .slice none 0 0] 26) = w2 at *
      generalize w1.heap.size = q at *
      go_loopw [7] (fun i wr => ∃ (k : Nat) (acc : List (Ino × Value)) (u : Value), k ≤ m ∧ i = .int .i64 k ∧ Hid (inosS X = (inosS (X.drop k)).map fun z => acc.map (fun p => p.1) ++ z) ∧ acc.length = k ∧ wr.cell? ⟨g1, 1, none⟩ = some (.int .i64 m) ∧ Hid (RvSt w q nx u acc wr)) (fun i _ => m - (intOf i).toNat)
      case atStart => exact ⟨0, [], .slice none 0 0, Nat.zero_le _, rfl, by show _ = _; simp, rfl, aa1, HST⟩
      case round =>
        obtain ⟨k, acc, u, hk, rfl, HIN, hacc, hcm, HSW⟩ := hrel
        obtain ⟨ua, uc, hu, -, -⟩ := HSW.out.row.at
        rw [List.length_map, hacc] at hu
        subst hu
        have st := HSW.out
        by_cases hlt : k < m
        · have hlt' : (k : Int) < (m : Int) := by omega
          have ct := HC.out wr st.bel (1 + k) (by omega)
          have HRK := HPR.out (1 + k) wr (by omega)
          have hXk := HXM.out k hlt
          have hkX : k < X.length := by rw [HXK.out]; exact hlt
          generalize hLk : L[1 + k]! = tk at *
          have hk1 : (0 : Int) ≤ 1 + (k : Int) := by omega
          have hk2 : (1 : Int) + (k : Int) < 17 := by omega
          have hk3 : ((1 : Int) + (k : Int)).toNat = 1 + k := by omega
          have hq := lt_of_block st.box
          have hg1c := World.block_lt_of_cell? wr _ hcm
          have HNP : Hid (parS tk.data.toList = none → volS L = none) := fun h => by rw [HVQ.out, inosS_none HIN.out hkX (by rw [hXk]; exact h)]; rfl
          have HSP : Hid (∀ y, parS tk.data.toList = some y → inosS X = (inosS (X.drop (k + 1))).map fun z => (acc.map (fun p => p.1) ++ [y]) ++ z) := fun y h => inosS_some HIN.out hkX (by rw [hXk]; exact h)
          generalize parS tk.data.toList = po at *
          clear hXk
          go_wp2_with fail
          refine HRK.mono ?_
          rintro e w5 hsq
          rcases hsq with ⟨y, s5, hpo, rfl, he5, b5⟩ | ⟨hpo, y, ya, yn, yc, rfl, b5⟩
          · have HSP := HSP.out y hpo
            have HSP : Hid (inosS X = (inosS (X.drop (k + 1))).map fun z => (acc.map (fun p => p.1) ++ [y]) ++ z) := HSP
            obtain ⟨sa, sc, hs5, -, -⟩ := he5.at
            subst hs5
            have st5 := st.below b5
            have bb1 := below_lit w5 (.cells #[.int .i64 y.id, .int .i64 y.kind, .int .i64 y.links, .string y.data, .slice sa y.ents.length sc] 59)
            have bb2 := below_lit (w5.alloc (.cells #[.int .i64 y.id, .int .i64 y.kind, .int .i64 y.links, .string y.data, .slice sa y.ents.length sc] 59)) (.cells #[.int .i64 y.id, .int .i64 y.kind, .int .i64 y.links, .string y.data, .slice sa y.ents.length sc] 59)
            have st6 := (st5.below bb1).below bb2
            have he6 := (((he5.below bb1).below bb2).mono (show q + 1 ≤ wr.heap.size by omega))
            have hap6 : ∀ p ∈ acc, ApartV p.2 (.slice sa y.ents.length sc) := fun p hp => by
              obtain ⟨t, ht, rfl⟩ := List.getElem_of_mem hp
              have := apart_new (st.row.ents t ht) he5 (Nat.le_refl _)
              rwa [getElem!_pos acc t ht] at this
            have hblk6 := (MapKept.heap_alloc (w5.alloc (.cells #[.int .i64 y.id, .int .i64 y.kind, .int .i64 y.links, .string y.data, .slice sa y.ents.length sc] 59)) (.cells #[.int .i64 y.id, .int .i64 y.kind, .int .i64 y.links, .string y.data, .slice sa y.ents.length sc] 59)).1
            have S5 : (w5.alloc (.cells #[.int .i64 y.id, .int .i64 y.kind, .int .i64 y.links, .string y.data, .slice sa y.ents.length sc] 59)).heap.size = w5.heap.size + 1 := by simp
            rw [S5] at hblk6
            have haccl : acc.length + 1 ≤ 1099511627776 := by omega
            have hs5 := b5.size
            have hb6 : q + 1 ≤ ((w5.alloc (.cells #[.int .i64 y.id, .int .i64 y.kind, .int .i64 y.links, .string y.data, .slice sa y.ents.length sc] 59)).alloc (.cells #[.int .i64 y.id, .int .i64 y.kind, .int .i64 y.links, .string y.data, .slice sa y.ents.length sc] 59)).heap.size := by simp; omega
            have cu : w5.cell? ⟨q, 1, none⟩ = some (.slice ua k uc) := Joins.cell_of_block st5.box 1
            have cu6 : (w5.alloc (.cells #[.int .i64 y.id, .int .i64 y.kind, .int .i64 y.links, .string y.data, .slice sa y.ents.length sc] 59)).cell? ⟨q, 1, none⟩ = some (.slice ua k uc) := (bb1.cell (p := ⟨q, 1, none⟩) (show q < w5.heap.size by omega)).trans cu
            have hq5 : ¬ q = w5.heap.size := by omega
            have hq5' : ¬ w5.heap.size = q := by omega
            have hcm5 := (b5.cell (p := ⟨g1, 1, none⟩) hg1c).trans hcm
            have HEND : Hid (∀ v' w9, InoRow w9 (q + 1) v' (acc ++ [(y, .slice sa y.ents.length sc)]) → ((w5.alloc (.cells #[.int .i64 y.id, .int .i64 y.kind, .int .i64 y.links, .string y.data, .slice sa y.ents.length sc] 59)).alloc (.cells #[.int .i64 y.id, .int .i64 y.kind, .int .i64 y.links, .string y.data, .slice sa y.ents.length sc] 59)).grownBy w9 (Value.slice ua k uc).ownBlock → (w9.cell? ⟨q, 1, none⟩ = some (.slice ua k uc) ∧ w9.frozen? ⟨q, 1, none⟩ = false) ∧ RvSt w q nx v' (acc ++ [(y, .slice sa y.ents.length sc)]) (w9.setCell ⟨q, 1, none⟩ v') ∧ (w9.setCell ⟨q, 1, none⟩ v').cell? ⟨g1, 1, none⟩ = some (.int .i64 m)) := fun v' w9 hr9 hg9 => by
              obtain ⟨h1, h2⟩ := st6.app hg9 hr9
              refine ⟨h1, h2, ?_⟩
              have hgq := HG1.out
              rw [World.cell?_setCell_far _ _ _ _ (show q ≠ g1 by omega)]
              refine (World.cell?_of_block (hg9.block g1 (by simp; omega) (fun e => by have := (World.ownsRow.lt st6.row.row g1 e.symm).1; omega))).trans ?_
              exact (bb2.cell (p := ⟨g1, 1, none⟩) (by simp; omega)).trans ((bb1.cell (p := ⟨g1, 1, none⟩) (show g1 < w5.heap.size by omega)).trans hcm5)
            clear hcm5 st5 st bb1 bb2 HRK HNP hcm S5
            obtain ⟨y0, y1, y2, y3, y4⟩ := y
            unfold valI
            dsimp only at *
            go_wp2_with (at_builtin; refine append_ino _ rfl (.tmp 54) (.tmp 56) rfl (q + 1) _ acc ⟨y0, y1, y2, y3, y4⟩ (.slice sa y4.length sc) (w5.heap.size + 1) haccl st6.row hblk6 rfl rfl he6 hap6 hb6 ?_; intro v' w9 hr9 hg9; obtain ⟨⟨d9, f9⟩, st9, cm9⟩ := HEND.out v' w9 hr9 hg9; obtain ⟨va, vc, hv9, -, -⟩ := hr9.at; rw [List.length_map, List.length_append, List.length_singleton, hacc] at hv9; subst hv9; have st9 : Hid (RvSt w q nx (.slice va (k + 1) vc) (acc ++ [((⟨y0, y1, y2, y3, y4⟩ : Ino), Value.slice sa y4.length sc)]) (w9.setCell ⟨q, 1, none⟩ (.slice va (k + 1) vc))) := st9)
            go_roundw
            case rel => exact ⟨k + 1, acc ++ [((⟨y0, y1, y2, y3, y4⟩ : Ino), Value.slice sa y4.length sc)], _, by omega, by go_num, by rw [List.map_append]; exact HSP, by simp; omega, cm9, st9⟩
            case measure => simp [intOf]; omega
          · have hnone : Hid (o = none) := HNOS.out fun v h => by rw [HNP.out hpo] at h; cases h
            have st5 := st.below b5
            have bb1 := below_lit w5 (.cells #[.int .i64 y.id, .int .i64 y.kind, .int .i64 y.links, .string y.data, .slice ya yn yc] 59)
            have st6 := st5.below bb1
            have q0 := Joins.cell_of_block st6.res 0
            have q1 := Joins.cell_of_block st6.res 1
            have qf := fun i => Joins.unfrozen_of_block st6.res i
            dsimp at q0 q1
            obtain ⟨k1, k2⟩ := HFIN.out _ (.int .i64 0) (.slice none 0 0) _ _ st6.res st6.bel
            have c1 : Hid (SaysB o w (.returned (.tuple #[.agg #[.int .i64 0, .slice none 0 0], .bool false])) (((w5.alloc (.cells #[.int .i64 y.id, .int .i64 y.kind, .int .i64 y.links, .string y.data, .slice ya yn yc] 59)).setCell ⟨w.heap.size, 0, none⟩ (.int .i64 0)).setCell ⟨w.heap.size, 1, none⟩ (.slice none 0 0))) := HN.out _ hnone.out k2
            clear st5 st6 st bb1 HRK HNP HSP k2
            obtain ⟨y0, y1, y2, y3, y4⟩ := y
            unfold valI
            dsimp only at *
            go_wp2
            exact bodyPost_ret (results_vt (p := 2) (u := 3) Tryz.results17 _ _ w.heap.size _ rfl rfl k1) rfl c1.out
        · obtain rfl : k = m := by omega
          have hz := HIN.out
          rw [List.drop_of_length_le (by rw [HXK.out]; exact Nat.le_refl _), inosS] at hz
          simp only [Option.map_some, List.append_nil] at hz
          have hvs : volS L = some ⟨nx, acc.map (fun p => p.1)⟩ := by rw [HVQ.out, hz]; rfl
          have hsh := HSH.out _ hvs
          have hno : Hid (volBlocksN ⟨nx, acc.map (fun p => p.1)⟩ ≠ L → o = none) := fun h => HNOS.out fun v h' => by rw [hvs] at h'; cases h'; exact h
          have hye : Hid (volBlocksN ⟨nx, acc.map (fun p => p.1)⟩ = L → o = some ⟨nx, acc.map (fun p => p.1)⟩) := HYES.out _
          have hyv := HY.out ⟨nx, acc.map (fun p => p.1)⟩ (.slice ua k uc) acc
          have hml := volBlocksN_len ⟨nx, acc.map (fun p => p.1)⟩
          have hrow := st.row
          have atv : VolAt wr (.agg #[.int .i64 nx, .slice ua k uc]) ⟨nx, acc.map (fun p => p.1)⟩ := ⟨_, rfl, hrow.at⟩
          have hSV := HSV.out _ _ wr hsh atv
          have hlt5 := st.lt
          have hq := lt_of_block st.box
          dsimp only at hyv
          generalize volBlocksN ⟨nx, acc.map (fun p => p.1)⟩ = MB at *
          have b0 : wr.cell? ⟨q, 0, none⟩ = some (.int .i64 nx) := Joins.cell_of_block st.box 0
          have b1 : wr.cell? ⟨q, 1, none⟩ = some (.slice ua k uc) := Joins.cell_of_block st.box 1
          clear hz hvs hsh atv HSV HVQ HNOS HYES HSH HPR HIN HXM HXK
          go_wp2_with fail
          refine hSV.mono ?_
          rintro e w6 ⟨z6, rfl, hz6, b6⟩
          have hAL := HAL.out z6 MB w6 hz6.at (by omega) (st.bel.trans (b6.mono st.bel.size))
          go_wp2_with fail
          refine hAL.mono ?_
          rintro e w7 ⟨rfl, b7⟩
          have b67 := b6.trans (b7.mono b6.size)
          have st7 := st.below b67
          have q0 := Joins.cell_of_block st7.res 0
          have q1 := Joins.cell_of_block st7.res 1
          have qf := fun i => Joins.unfrozen_of_block st7.res i
          dsimp at q0 q1
          have d0 : w7.cell? ⟨q, 0, none⟩ = some (.int .i64 nx) := Joins.cell_of_block st7.box 0
          have d1 : w7.cell? ⟨q, 1, none⟩ = some (.slice ua k uc) := Joins.cell_of_block st7.box 1
          by_cases he : MB = L
          · rw [decide_eq_true he]
            obtain ⟨k1, k2⟩ := HFIN.out _ (.int .i64 nx) (.slice ua k uc) _ _ st7.res st7.bel
            have k3 := (((st7.row.setLow (show w.heap.size < q + 1 by omega) 0 (.int .i64 nx)).setLow (show w.heap.size < q + 1 by omega) 1 (.slice ua k uc))).mono (show w.heap.size ≤ q + 1 by omega)
            have HF : Hid (SaysB o w (.returned (.tuple #[.agg #[.int .i64 nx, .slice ua k uc], .bool true])) ((w7.setCell ⟨w.heap.size, 0, none⟩ (.int .i64 nx)).setCell ⟨w.heap.size, 1, none⟩ (.slice ua k uc))) := hyv _ (hye.out he) (by first | rfl | trivial) k3 k2
            clear st st7 k2 k3 hyv hye hno he hSV hAL HSW HST
            go_wp2
            exact bodyPost_ret (results_vt (p := 2) (u := 3) Tryz.results17 _ _ w.heap.size _ rfl rfl k1) rfl HF.out
          · rw [decide_eq_false he]
            obtain ⟨k1, k2⟩ := HFIN.out _ (.int .i64 0) (.slice none 0 0) _ _ st7.res st7.bel
            have HF : Hid (SaysB o w (.returned (.tuple #[.agg #[.int .i64 0, .slice none 0 0], .bool false])) ((w7.setCell ⟨w.heap.size, 0, none⟩ (.int .i64 0)).setCell ⟨w.heap.size, 1, none⟩ (.slice none 0 0))) := HN.out _ (hno.out he) k2
            clear st st7 k2 hyv hye hno he hSV hAL HSW HST
            go_wp2
            exact bodyPost_ret (results_vt (p := 2) (u := 3) Tryz.results17 _ _ w.heap.size _ rfl rfl k1) rfl HF.out
  · have hnone : Hid (readN L = none) := readN_none fun vo hR hb => h17 (by rw [← hb]; exact blocksN_len vo)
    have hne : ((L.length : Int) != 17) = true := by simp; omega
    generalize readN L = o at *
    generalize L.length = n at *
    have q0 := Joins.cell_of_block hres0 0
    have q1 := Joins.cell_of_block hres0 1
    have qf := fun i => Joins.unfrozen_of_block hres0 i
    dsimp at q0 q1
    clear hvv
    go_enter Tryz.func17, Tryz.ntmps17
    go_wp2
    exact bodyPost_ret (results_vt (p := 2) (u := 3) Tryz.results17 _ _ w.heap.size _ rfl rfl hres0) rfl (HN.out _ hnone.out B0)
end

section
open Go.RowKit Go.Sort




theorem sum_small (l : List Ino) (h : ∀ y ∈ l, y.ents.length ≤ 12) : (l.map fun y => y.ents.length).sum ≤ 12 * l.length := by
  induction l with
  | nil => simp
  | cons y l ih =>
    rw [List.map_cons, List.sum_cons, List.length_cons]
    have h1 := h y (by simp)
    have h2 := ih fun x hx => h x (by simp [hx])
    omega
theorem InoRow.alike {w w' : World} {base : Nat} {v : Value} {l : List (Ino × Value)} (h : InoRow w base v l) (h1 : ∀ q, v.ownBlock = some q → w'.heap[q]? = w.heap[q]?) (h2 : ∀ t, t < l.length → ∀ q, l[t]!.2.ownBlock = some q → w'.heap[q]? = w.heap[q]?) : InoRow w' base v l :=
  ⟨⟨h.row.1, by
    rcases h.row.2 with h0 | ⟨g, cap, cur, e, hb, hh, r'⟩
    · exact .inl h0
    · refine .inr ⟨g, cap, cur, e, hb, ?_, r'⟩
      rw [← hh]
      exact h1 g (by rw [e]; rfl)⟩, fun t ht => by
    have he := h.ents t ht
    refine ⟨he.1, ?_⟩
    rcases he.2 with h0 | ⟨g, cap, cur, e, hb, hh, r'⟩
    · exact .inl h0
    · refine .inr ⟨g, cap, cur, e, hb, ?_, r'⟩
      rw [← hh]
      exact h2 t ht g (by rw [e]; rfl), h.apart⟩
theorem InoRow.mid {B T base : Nat} {w w' : World} {v : Value} {l : List (Ino × Value)} (h : InoRow w base v l) (m : MidB B T w w') (hb : (∀ q, v.ownBlock = some q → q < B ∨ T ≤ q) ∧ ∀ t, t < l.length → ∀ q, l[t]!.2.ownBlock = some q → q < B ∨ T ≤ q) : InoRow w' base v l :=
  h.alike (fun q hq => m.block q (World.ownsRow.lt h.row q hq).2 (hb.1 q hq)) (fun t ht q hq => m.block q ((h.ents t ht).blk q hq).2 (hb.2 t ht q hq))

/-- what the law holds between its calls: the two boxes and their rows -/
structure RbSt (w : World) (p r : Nat) (nx : Int) (u3 u5 : Value) (B3 B5 : Nat) (M3 M5 : List (Ino × Value)) (wk : World) : Prop where
  bel : Below w.heap.size w wk
  hp : wk.heap[p]? = some (.cells #[.int .i64 nx, u3] 26)
  hr : wk.heap[r]? = some (.cells #[.int .i64 nx, u5] 26)
  i3 : InoRow wk B3 u3 M3
  i5 : InoRow wk B5 u5 M5
theorem RbSt.cells {w : World} {p r : Nat} {nx : Int} {u3 u5 : Value} {B3 B5 : Nat} {M3 M5 : List (Ino × Value)} {wk : World} (h : RbSt w p r nx u3 u5 B3 B5 M3 M5 wk) :
    wk.cell? ⟨p, 0, none⟩ = some (.int .i64 nx) ∧ wk.cell? ⟨p, 1, none⟩ = some u3 ∧ wk.cell? ⟨r, 0, none⟩ = some (.int .i64 nx) ∧ wk.cell? ⟨r, 1, none⟩ = some u5 :=
  ⟨Joins.cell_of_block h.hp 0, Joins.cell_of_block h.hp 1, Joins.cell_of_block h.hr 0, Joins.cell_of_block h.hr 1⟩
theorem RbSt.below {w : World} {p r : Nat} {nx : Int} {u3 u5 : Value} {B3 B5 : Nat} {M3 M5 : List (Ino × Value)} {wk wk' : World} (h : RbSt w p r nx u3 u5 B3 B5 M3 M5 wk) (b : Below wk.heap.size wk wk') : RbSt w p r nx u3 u5 B3 B5 M3 M5 wk' :=
  ⟨h.bel.trans (b.mono h.bel.size), (b.block p (lt_of_block h.hp)).trans h.hp, (b.block r (lt_of_block h.hr)).trans h.hr, h.i3.below b, h.i5.below b⟩
theorem RbSt.mid {w : World} {p r : Nat} {nx : Int} {u3 u5 : Value} {B3 B5 : Nat} {M3 M5 M5' : List (Ino × Value)} {wk wk' : World} {B T : Nat} (h : RbSt w p r nx u3 u5 B3 B5 M3 M5 wk) (m : MidB B T wk wk') (hB : w.heap.size ≤ B) (hBk : B ≤ wk.heap.size) (hp : p < B) (hr : T ≤ r)
    (h3 : (∀ q, u3.ownBlock = some q → q < p) ∧ ∀ t, t < M3.length → ∀ q, M3[t]!.2.ownBlock = some q → q < p) (h5 : InoRow wk' B5 u5 M5') : RbSt w p r nx u3 u5 B3 B5 M3 M5' wk' :=
  ⟨h.bel.trans ((m.below hBk).mono hB), (m.block p (lt_of_block h.hp) (.inl hp)).trans h.hp, (m.block r (lt_of_block h.hr) (.inr hr)).trans h.hr, h.i3.mid m ⟨fun q hq => .inl (by have := h3.1 q hq; omega), fun t ht q hq => .inl (by have := h3.2 t ht q hq; omega)⟩, h5⟩
theorem vat_of {w : World} {B : Nat} {nx : Int} {u : Value} {M : List (Ino × Value)} {ins : List Ino} (h : InoRow w B u M) (hM : M.map (fun p : Ino × Value => p.1) = ins) : VolAt w (.agg #[.int .i64 nx, u]) ⟨nx, ins⟩ := ⟨u, rfl, by have h := h.at; rwa [hM] at h⟩
end

section
open Go.RowKit Go.ChangeShapes Go.WideShapes Go.Deep Go.Joins

theorem cellsTx : Tryz.prog.cellsOf 9 = 1 := by kernel_rfl

set_option maxRecDepth 100000 in
theorem txts_open {H : Type} {enc : TypeId × Value → H} {W : World} {fuel : Nat} {a : Option Addr} {len cap : Nat} {x : DataW H × List MemPlace}
    (hf : DataW.trod enc Tryz.prog W 0 (fun _ => true) true fuel 22 [.slice a len cap] = some x) :
    ∃ l : List ByteArray, TxtsAt W (.slice a len cap) l ∧ l.length ≤ maxLen ∧ ∀ t, t < l.length → l[t]!.size ≤ maxLen := by
  rcases open_slice Tryz.underlying22 hf with ⟨h0, -⟩ | ⟨ad, len', cap', m, n, D, Pl, h0, -, hl, hm, hmm, -, hx⟩
  · cases h0
    exact ⟨[], ⟨none, 0, rfl, fun _ => rfl, fun t ht => by simp at ht⟩, by simp, fun t ht => by simp at ht⟩
  · cases h0
    simp only [if_true] at hmm
    subst hmm
    rw [cellsTx] at hx
    obtain ⟨q, hq⟩ := choose_lt (α := ByteArray) (p := fun i e => W.cell? (ad.add i) = some (.string e) ∧ e.size ≤ maxLen) (fun i hi => by
      obtain ⟨cs', h1, h2⟩ := hx i hi
      obtain ⟨_, hlen, hcell⟩ := World.cells?_some h1
      obtain ⟨c0, rfl⟩ : ∃ c0, cs' = [c0] := by
        clear hcell h1 h2
        match cs', hlen with
        | [c0], _ => exact ⟨c0, rfl⟩
      obtain ⟨z, e0, -, hs⟩ := DataW.trod_string Tryz.underlying9 h2
      cases e0
      have h3 := hcell 0 (by omega)
      rw [add_add] at h3
      exact ⟨z, by simpa using h3, hs⟩)
    have hlen : ((List.range len).map q).length = len := by simp
    have hget : ∀ t, t < len → ((List.range len).map q)[t]! = q t := fun t ht => by
      rw [getElem!_pos _ t (by rw [hlen]; exact ht)]; simp
    refine ⟨(List.range len).map q, ⟨some ad, _, by rw [hlen], fun h => (by cases h), fun t ht => ?_⟩, by rw [hlen]; omega, fun t ht => ?_⟩
    · rw [hlen] at ht
      obtain ⟨c0, -⟩ := hq t (by omega)
      obtain ⟨b, off, spot⟩ := ad
      have hspot : spot = none := by
        have h00 := (hq 0 (by omega)).1
        simpa [Addr.add] using World.cell?_spot h00
      subst hspot
      rw [add_plain] at c0
      refine ⟨b, off, rfl, World.block_lt_of_cell? W _ c0, ?_⟩
      rw [hget t ht]
      exact c0
    · rw [hlen] at ht
      rw [hget t ht]; exact (hq t (by omega)).2

set_option maxRecDepth 100000 in
theorem texts_open {H : Type} {enc : TypeId × Value → H} {W : World} {v : Value} {d : DataW H} {p : List MemPlace} {base : Nat} {r : Go.Reach} (hv : Value.okWide Tryz.prog W r base 22 v)
    (h : DataW.Trod enc Tryz.prog W 0 (fun _ => true) true 22 v d p) : ∃ l : List ByteArray, TxtsAt W v l ∧ l.length ≤ maxLen ∧ ∀ t, t < l.length → l[t]!.size ≤ maxLen := by
  obtain ⟨fuel, hf⟩ := h
  have hsl : ∃ sa sl sc, v = .slice sa sl sc := by
    unfold Value.okWide at hv
    simp only [Tryz.underlying22] at hv
    unfold Cell.okWide at hv
    simp only [Tryz.underlying22] at hv
    rcases fuel with _ | k
    · simp [DataW.trod] at hf
    · cases v <;> simp [DataW.trod, Value.cells, Cell.ok, Tryz.underlying22] at hf hv ⊢
  obtain ⟨sa, sl, sc, rfl⟩ := hsl
  exact txts_open hf
end

section
open Go.RowKit Go.ChangeShapes Go.WideShapes Go.Deep Go.Joins
end

end Go.Proofs.YtpijjinoeghgoaaGreatDoor
