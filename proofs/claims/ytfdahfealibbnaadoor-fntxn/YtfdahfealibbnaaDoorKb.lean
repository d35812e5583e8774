/- Journals, impl: readTxn. Journals, impl: ReadTxn. -/
import Derived.Test.YtfdahfealibbnaaDoorRows
import Derived.Test.YtfdahfealibbnaaDoorIJq
import Derived.Test.YtfdahfealibbnaaDoorIJp
import Derived.Defers
import Derived.Recover
namespace Go.Proofs.YtfdahfealibbnaaDoor

section
open Go.RowKit Go.Sort

set_option maxRecDepth 100000 in
set_option maxHeartbeats 2000000 in
theorem readTxn_any (s : ByteArray) (T : TypeId) (x : Value) (w : World) (hE : ErrV w T x) (hl : s.size ≤ 1048576) :
    Calls Tryd.prog 35 #[.string s] w fun e w' => SaysX (txnRd s.data.toList) T x w e w' := by
  have B00 := below_lit w (.cells #[.int .i64 0, .slice none 0 0] 29)
  have hres0 := (MapKept.heap_alloc w (.cells #[.int .i64 0, .slice none 0 0] 29)).1
  have S00 : (w.alloc (.cells #[.int .i64 0, .slice none 0 0] 29)).heap.size = w.heap.size + 1 := by simp
  have B01 := below_lit (w.alloc (.cells #[.int .i64 0, .slice none 0 0] 29)) (.cells #[.string s] 80)
  have hc0 := cur_new (w.alloc (.cells #[.int .i64 0, .slice none 0 0] 29)) s T x (hE.below B00)
  rw [S00] at B01 hc0
  obtain ⟨w0, HW0⟩ : ∃ w0, Hid (w0 = (w.alloc (.cells #[.int .i64 0, .slice none 0 0] 29)).alloc (.cells #[.string s] 80)) := ⟨_, rfl⟩
  have hf : (w.alloc (.cells #[.int .i64 0, .slice none 0 0] 29)).alloc (.cells #[.string s] 80) = w0 := HW0.out.symm
  rw [hf] at B01 hc0
  have hres : w0.heap[w.heap.size]? = some (.cells #[.int .i64 0, .slice none 0 0] 29) := (B01.block _ (by omega)).trans hres0
  have B0 : Below w.heap.size w w0 := B00.trans (B01.mono (by omega))
  have S0 : w0.heap.size = w.heap.size + 2 := by rw [HW0.out]; simp
  have hl' : s.data.toList.length ≤ 1048576 := by rw [size_list]; exact hl
  have R0 : RdX w0 T x (w.heap.size + 1) s.data.toList w0 := ⟨hc0, hE.below B0, gb_self _ _⟩
  have HG : Hid (∀ w', w0.grownBy w' (some (w.heap.size + 1)) → Below w.heap.size w w') := fun w' h => B0.grown h B0.size (fun k hk => by cases hk; omega)
  have HP : Hid (∀ e w', (txnRd s.data.toList = none ∧ e = .panicked [{ v := .iface T x, recovered := false }] ∧ w0.grownBy w' (some (w.heap.size + 1))) → SaysX (txnRd s.data.toList) T x w e w') := fun e w' h => .inr ⟨h.1, h.2.1, HG.out w' h.2.2⟩
  have HP2 : Hid (∀ e w', (txnRd s.data.toList = none ∧ e = .panicked [{ v := .iface T x, recovered := false }] ∧ Below w.heap.size w w') → SaysX (txnRd s.data.toList) T x w e w') := fun e w' h => .inr h
  have HR : Hid (∀ t z w', (txnRd s.data.toList = some t ∧ WrRow w' w.heap.size z t.outs ∧ t.outs.length ≤ 1048576 ∧ Below w.heap.size w w') → SaysX (txnRd s.data.toList) T x w (.returned (.agg #[.int .i64 t.seq, z])) w') := fun t z w' h => .inl ⟨t, z, h.1, rfl, h.2⟩
  have HT := take_any (w.heap.size + 1) s.data.toList 4 T x w0 R0.err R0.cur (by decide)
  generalize hL : s.data.toList = l at *
  clear B00 B01 hc0 hres0
  go_enter Tryd.func35, Tryd.ntmps35
  go_wp2_with fail
  refine HT.mono ?_
  rintro e w1 hs
  rcases hs with ⟨⟨u1, l1⟩, hn1, rfl, hc1, hg1⟩ | ⟨hn1, rfl, hg1⟩
  · have hl1 := takR_len hn1
    have R1 := R0.next hc1 hg1
    have HM := mark_any (w.heap.size + 1) l1 116 T x w1 R1.err R1.cur (by dsimp only at hl1; omega)
    clear HT
    dsimp only at hl1 ⊢
    go_wp2_with fail
    refine HM.mono ?_
    rintro e w2 hs
    rcases hs with ⟨⟨u2, l2⟩, hn2, rfl, hc2, hg2⟩ | ⟨hn2, rfl, hg2⟩
    · obtain ⟨r0, hm2, hm3⟩ := Option.map_eq_some_iff.1 hn2
      cases hm3
      have hll2 : l2.length ≤ l1.length := by
        cases l1 with
        | nil => cases hm2
        | cons c r => unfold mrkR at hm2; simp only at hm2; split at hm2 <;> cases hm2; simp
      have R2 := R1.next hc2 hg2
      have HN := number_any (w.heap.size + 1) l2 T x w2 R2.err R2.cur (by omega)
      clear HM
      dsimp only
      go_wp2_with fail
      refine HN.mono ?_
      rintro e w3 hs
      rcases hs with ⟨⟨ya, l3⟩, hn3, rfl, hc3, hg3⟩ | ⟨hn3, rfl, hg3⟩
      · have hl3 := numR_len hn3
        have R3 := R2.next hc3 hg3
        dsimp only at hl3 ⊢
        have htx : txnRd l = (numR l3).bind fun n => (outsR n.1.toNat n.2).bind fun o => some ⟨ya, o.1⟩ := by
          unfold txnRd; rw [hn1]; simp only [Option.bind_some]; rw [hm2]; simp only [Option.bind_some]; rw [hn3]; simp only [Option.bind_some]
        have hw3 := R3.g.size
        have B3 := below_lit w3 (.cells #[.int .i64 ya, .slice none 0 0] 29)
        have ST : TiSt w w3.heap.size ya (.slice none 0 0) [] T x l3 (w3.alloc (.cells #[.int .i64 ya, .slice none 0 0] 29)) :=
          ⟨R3.cur.below B3, (B3.block _ (by omega)).trans ((R3.g.block _ (by omega) (by simp)).trans hres), (MapKept.heap_alloc w3 _).1, nil_wrs _ _, R3.err.below B3, (HG.out w3 R3.g).trans (B3.mono (HG.out w3 R3.g).size), by omega, hE⟩
        have HN := number_any (w.heap.size + 1) l3 T x _ ST.err ST.cur (by omega)
        clear hn1 hn2 hm2 hn3 hc1 hc2 hc3 hg1 hg2 hg3 R0 R1 R2
        go_wp2_with fail
        refine HN.mono ?_
        rintro e w6 hs
        rcases hs with ⟨⟨cn, l6⟩, hn6, rfl, hc6, hg6⟩ | ⟨hn6, rfl, hg6⟩
        · have hl6 := numR_len hn6
          have ST6 := ST.next hc6 hg6
          dsimp only at hl6 ⊢
          obtain ⟨n, rfl⟩ : ∃ n : Nat, cn = (n : Int) := ⟨cn.toNat, by omega⟩
          rw [hn6] at htx
          simp only [Option.bind_some, Int.toNat_natCast] at htx
          have HTX : Hid (txnRd l = (outsR n l6).bind fun o => some ⟨ya, o.1⟩) := htx
          have HST6 : Hid (TiSt w w3.heap.size ya (.slice none 0 0) [] T x l6 w6) := ST6
          have hn63 : (n : Int) ≤ 562949953421311 := hl6.2.2
          have hl6' : l6.length ≤ 1048576 := by omega
          clear htx ST ST6 HN hn6 hc6 hg6 R3 hres
          go_wp2
          go_loopw [12] (fun i wr => ∃ (k : Nat) (acc : List Wr) (u : Value) (r : List UInt8), k ≤ n ∧ i = .int .i64 k ∧ Hid (outsR n l6 = (outsR (n - k) r).map fun q => (acc ++ q.1, q.2)) ∧ acc.length = k ∧ k + r.length ≤ 1048576 ∧ Hid (TiSt w w3.heap.size ya u acc T x r wr)) (fun i _ => n - (intOf i).toNat)
          case atStart => exact ⟨0, [], .slice none 0 0, l6, Nat.zero_le _, rfl, by show _ = _; simp, rfl, by omega, HST6⟩
          case round =>
            obtain ⟨k, acc, u, r, hk, rfl, HEN, hacc, hkr, HST⟩ := hrel
            by_cases hlt : k < n
            · have hlt' : (k : Int) < (n : Int) := by omega
              have c4 : wr.cell? ⟨w3.heap.size, 1, none⟩ = some u := Joins.cell_of_block HST.out.box 1
              have SD := HST.out.below ((Below.refl wr.heap.size wr).drew)
              have HEA := write_any (w.heap.size + 1) r T x wr.drew SD.err SD.cur (by omega)
              cases hen : outR r with
              | none =>
                have HE0 : Calls Tryd.prog 54 #[.pointer (some ⟨w.heap.size + 1, 0, none⟩)] wr.drew fun e w' => e = .panicked [{ v := .iface T x, recovered := false }] ∧ wr.drew.grownBy w' (some (w.heap.size + 1)) := HEA.mono fun e w' h => by
                  rcases h with ⟨p, hp, -⟩ | ⟨-, h⟩
                  · rw [hen] at hp; cases hp
                  · exact h
                have hres7 : Hid (txnRd l = none) := by show _ = _; rw [HTX.out, outs_none HEN.out hlt hen]; rfl
                have HB7 : Hid (∀ w', wr.drew.grownBy w' (some (w.heap.size + 1)) → Below w.heap.size w w') := fun w' h => SD.bel.grown h SD.bel.size (fun k hk => by cases hk; omega)
                clear HEA SD
                go_wp2
                have hS0 : wr.drew.cell? ⟨w3.heap.size, 1, none⟩ = some u := c4
                refine wp_region_held_drew (S := fun w' => w'.cell? ⟨w3.heap.size, 1, none⟩ = some u) (by kernel_rfl) hS0 (fun hHeld => ?_)
                refine wpAnyH_take (i := 0) (v := .pointer (some ⟨w3.heap.size, 1, none⟩)) rfl (by kernel_rfl) (by kernel_rfl) (by kernel_rfl) (fun _ _ _ h => h) (Or.inl ⟨by rfl, ?_⟩) hHeld ?_
                · intro w' hS'
                  go_simp
                refine wpAnyH_take (i := 1) (v := u) rfl (by kernel_rfl) (by kernel_rfl) (by kernel_rfl) (fun _ _ _ h => h) (Or.inl ⟨by rfl, ?_⟩) hHeld ?_
                · intro w' hS'
                  go_simp
                refine wpAnyH_ready (rs := [2]) (by kernel_rfl) (by simp) ?_
                refine AllReadyH.cons rfl (fun K hK => ?_) AllReadyH.nil
                go_simp
                refine HE0.mono ?_
                rintro e w7 ⟨rfl, hg7⟩
                exact ⟨rfl, HP2.out _ w7 ⟨hres7.out, rfl, HB7.out w7 hg7⟩⟩
              | some p =>
                obtain ⟨en, r'⟩ := p
                have hle := outR_len hen
                dsimp only at hle
                have HE0 : Calls Tryd.prog 54 #[.pointer (some ⟨w.heap.size + 1, 0, none⟩)] wr.drew fun e w' => e = .returned (valW en) ∧ TiSt w w3.heap.size ya u acc T x r' w' := HEA.mono fun e w' h => by
                  rcases h with ⟨p, hp, h1, h2, h3⟩ | ⟨hp, -⟩
                  · rw [hen] at hp; cases hp; exact ⟨h1, SD.next h2 h3⟩
                  · rw [hen] at hp; cases hp
                have HEN' : Hid (outsR n l6 = (outsR (n - (k + 1)) r').map fun q => ((acc ++ [en]) ++ q.1, q.2)) := outs_some HEN.out hlt hen
                have haccl : acc.length + 1 ≤ 1099511627776 := by omega
                obtain ⟨n0, n1⟩ := en
                unfold valW at HE0
                dsimp only at HE0
                clear HEA SD
                go_wp2
                have c4d : wr.drew.cell? ⟨w3.heap.size, 1, none⟩ = some u := c4
                go_region_law
                  (first
                  | (go_simp; go_at_call 54; refine HE0.mono ?_; rintro e w7 ⟨rfl, ST7⟩; have c7 : w7.cell? ⟨w3.heap.size, 1, none⟩ = some u := Joins.cell_of_block ST7.box 1; have ST8 := ST7.below (below_lit w7 (.cells #[.int .i64 n0, .string n1] 43)); have c8 : (w7.alloc (.cells #[.int .i64 n0, .string n1] 43)).cell? ⟨w3.heap.size, 1, none⟩ = some u := Joins.cell_of_block ST8.box 1; have hblk8 := (MapKept.heap_alloc w7 (.cells #[.int .i64 n0, .string n1] 43)).1; have hb8 : w3.heap.size + 1 ≤ (w7.alloc (.cells #[.int .i64 n0, .string n1] 43)).heap.size := Nat.le_trans (lt_of_block ST7.box) (by simp); have hq7 : ¬ w3.heap.size = w7.heap.size := (by have := lt_of_block ST7.box; omega); have hq7' : ¬ w7.heap.size = w3.heap.size := (by omega); dsimp only)
                  | ((refine step_append_wr1 (by rfl) (.tmp 15) (.tmp 17) (by rfl) (w3.heap.size + 1) u acc ⟨n0, n1⟩ ST8.row (by rfl) w7.heap.size 1 (by rfl) hblk8 haccl hb8 ?_; intro v' w9 hr9 hg9; obtain ⟨⟨c9, f9⟩, ST9⟩ := ST8.app hg9 hr9; obtain ⟨va, vc, hv9, -, -⟩ := hr9.at; rw [List.length_append, List.length_singleton, hacc] at hv9; subst hv9; have ST9 : Hid (TiSt w w3.heap.size ya (.slice va (k + 1) vc) (acc ++ [⟨n0, n1⟩]) T x r' (w9.setCell ⟨w3.heap.size, 1, none⟩ (.slice va (k + 1) vc))) := ST9)))
                all_goals go_wp2
                all_goals go_roundw
                all_goals first
                  | exact ⟨k + 1, acc ++ [⟨n0, n1⟩], _, r', by omega, by go_num, HEN', by simp; omega, by omega, ST9⟩
                  | (simp [intOf]; omega)
            · obtain rfl : k = n := by omega
              have hz := HEN.out
              rw [Nat.sub_self, outsR] at hz
              simp only [Option.map_some, List.append_nil] at hz
              have hres8 : Hid (txnRd l = some ⟨ya, acc⟩) := by show _ = _; rw [HTX.out, hz]; rfl
              have st := HST.out
              obtain ⟨ua, uc, hu, -, -⟩ := st.row.at
              rw [hacc] at hu
              subst hu
              have b0 : wr.cell? ⟨w3.heap.size, 0, none⟩ = some (.int .i64 ya) := Joins.cell_of_block st.box 0
              have b1 : wr.cell? ⟨w3.heap.size, 1, none⟩ = some (.slice ua k uc) := Joins.cell_of_block st.box 1
              have q0 := Joins.cell_of_block st.res 0
              have q1 := Joins.cell_of_block st.res 1
              have qf := fun i => Joins.unfrozen_of_block st.res i
              dsimp at q0 q1
              have hlt5 := st.lt
              have hgg := put2d (.int .i64 ya) (.slice ua k uc) st.res
              have hbb := (st.bel.setCell (p := ⟨w.heap.size, 0, none⟩) (Nat.le_refl _) (.int .i64 ya)).setCell (p := ⟨w.heap.size, 1, none⟩) (Nat.le_refl _) (.slice ua k uc)
              have K5 := WrRow.mono (own_low (own_low st.row (g := w.heap.size) (by omega) 0 (.int .i64 ya)) (g := w.heap.size) (by omega) 1 (.slice ua k uc)) (base' := w.heap.size) (by omega)
              have HR8 : Hid (SaysX (txnRd l) T x w (.returned (.agg #[.int .i64 ya, .slice ua k uc])) ((wr.setCell ⟨w.heap.size, 0, none⟩ (.int .i64 ya)).setCell ⟨w.heap.size, 1, none⟩ (.slice ua k uc))) := HR.out ⟨ya, acc⟩ (.slice ua k uc) _ ⟨hres8.out, K5, by show acc.length ≤ _; omega, hbb⟩
              have HGG : Hid (((wr.setCell ⟨w.heap.size, 0, none⟩ (.int .i64 ya)).setCell ⟨w.heap.size, 1, none⟩ (.slice ua k uc)).heap[w.heap.size]? = some (.cells #[.int .i64 ya, .slice ua k uc] 29 (0, 0))) := hgg
              clear st HST hz hgg K5 hbb HR HP HP2 HTX
              go_wp2
              generalize (wr.setCell ⟨w.heap.size, 0, none⟩ (.int .i64 ya)).setCell ⟨w.heap.size, 1, none⟩ (.slice ua k uc) = wz at *
              generalize txnRd l = oz at *
              exact bodyPost_ret (results_txn Tryd.results35 _ _ w.heap.size _ rfl rfl HGG.out) rfl HR8.out
        · have hres6 : Hid (txnRd l = none) := by show _ = _; rw [htx, hn6]; rfl
          have B6 := (ST.bel).grown hg6 ST.bel.size (fun k hk => by cases hk; omega)
          go_wp2
          exact ⟨rfl, HP2.out _ w6 ⟨hres6.out, rfl, B6⟩⟩
      · have hres3 : Hid (txnRd l = none) := by show _ = _; unfold txnRd; rw [hn1]; simp only [Option.bind_some]; rw [hm2]; simp only [Option.bind_some]; rw [hn3]; rfl
        go_wp2
        exact ⟨rfl, HP.out _ w3 ⟨hres3.out, rfl, gbr_trans R2.g hg3⟩⟩
    · have hm2 : mrkR 116 l1 = none := Option.map_eq_none_iff.1 hn2
      have hres2 : Hid (txnRd l = none) := by show _ = _; unfold txnRd; rw [hn1]; simp only [Option.bind_some]; rw [hm2]; rfl
      go_wp2
      exact ⟨rfl, HP.out _ w2 ⟨hres2.out, rfl, gbr_trans R1.g hg2⟩⟩
  · have hres1 : Hid (txnRd l = none) := by show _ = _; unfold txnRd; rw [hn1]; rfl
    go_wp2
    exact ⟨rfl, HP.out _ w1 ⟨hres1.out, rfl, hg1⟩⟩
end

section
open Go.RowKit Go.Sort

set_option maxRecDepth 100000 in
theorem catchT_panics (p q : Nat) (T : TypeId) (x : Value) (older : List PanicEntry) (a0 a1 f : Value) (w : World) (hp : w.heap[p]? = some (.cells #[a0, a1] 29)) (hq : w.heap[q]? = some (.cells #[f] 4)) (hne : p ≠ q) :
    CallsD Tryd.prog 34 #[.pointer (some ⟨p, 0, none⟩), .pointer (some ⟨q, 0, none⟩)] (.panicking ({ v := .iface T x, recovered := false } :: older)) w fun e u' w' =>
      e = .returned (.tuple #[]) ∧ u' = .panicking ({ v := .iface T x, recovered := true } :: older) ∧ w' = ((w.setCell ⟨p, 0, none⟩ (.int .i64 0)).setCell ⟨p, 1, none⟩ (.slice none 0 0)).setCell ⟨q, 0, none⟩ (.bool false) := by
  have c0 := Joins.cell_of_block hp 0
  have c1 := Joins.cell_of_block hp 1
  have f0 := Joins.unfrozen_of_block hp 0
  have f1 := Joins.unfrozen_of_block hp 1
  have d0 := Joins.cell_of_block hq 0
  have g0 := Joins.unfrozen_of_block hq 0
  dsimp at c0 c1 d0
  have d1 : (w.setCell ⟨p, 0, none⟩ (.int .i64 0)).cell? ⟨q, 0, none⟩ = some f := (World.cell?_setCell_far _ _ _ _ hne).trans d0
  refine callsD_of_wpS Tryd.func34 rfl fun c₀ cs hu => ?_
  apply wpS_seq
  apply wpS_region
  simp [wpOpsS, go_sem, recoverD, hu, Tryd.ntmps34, Exit.thenS]
  refine wpS_cond (t := true) (by simp [Act.eval, Array.replicate]) ?_
  simp only [if_true]
  apply wpS_region
  simp [wpOpsS, go_sem, c0, c1, f0, f1, d1, g0, bodyPostS, results, Tryd.results34]

set_option maxRecDepth 100000 in
theorem catchT_idle (p q : Nat) (w : World) :
    CallsD Tryd.prog 34 #[.pointer (some ⟨p, 0, none⟩), .pointer (some ⟨q, 0, none⟩)] .returning w fun e u' w' => e = .returned (.tuple #[]) ∧ u' = .returning ∧ w' = w := by
  refine callsD_of_wpS Tryd.func34 rfl fun c₀ cs hu => ?_
  apply wpS_seq
  apply wpS_region
  simp [wpOpsS, go_sem, recoverD, hu, Tryd.ntmps34, Exit.thenS]
  refine wpS_cond (t := false) (by simp [Act.eval, Array.replicate]) ?_
  simp only [Bool.false_eq_true, if_false]
  refine wpS_of_wp (wp_skip ?_)
  cases c₀
  simp_all [bodyPostS, results, Tryd.results34]

theorem results_tb {fn : Func} {p q : Tmp} (h : fn.results = #[.cell p 29, .cell q 4]) (tmps : Array Value) (w : World) (g g2 : Nat) (cs : Array Value) (f : Bool) (hc : cs.size = 2)
    (hp : tmps.getD p undef = .pointer (some ⟨g, 0, none⟩)) (hq : tmps.getD q undef = .pointer (some ⟨g2, 0, none⟩)) (hg : w.heap[g]? = some (.cells cs 29 (0, 0))) (hg2 : w.heap[g2]? = some (.cells #[.bool f] 4 (0, 0))) :
    (results fn tmps).run Tryd.prog w = .ok (.tuple #[.agg cs, .bool f]) w := by
  have hi : (Tryd.prog.info? 29).map (·.size) = some cs.size := by rw [hc]; kernel_rfl
  have hr := run_loadVar_row (P := Tryd.prog) w g 29 29 cs (0, 0) _ hg Tryd.underlying29 rfl hi
  have hp' : tmps[p]?.getD undef = .pointer (some ⟨g, 0, none⟩) := by simpa using hp
  have hq' : tmps[q]?.getD undef = .pointer (some ⟨g2, 0, none⟩) := by simpa using hq
  have hb : w.cell? ⟨g2, 0, none⟩ = some (.bool f) := Joins.cell_of_block hg2 0
  have hb2 : (loadVar 4 ⟨g2, 0, none⟩).run Tryd.prog w = .ok (.bool f) w := by simp [go_sem, hb]
  simp [results, h, hp', hq', asAddr, hr, hb2]
/-- the world once the answer is laid down -/
def finT (w : World) (p : Nat) (x0 x1 : Value) (f : Bool) : World := ((w.setCell ⟨p, 0, none⟩ x0).setCell ⟨p, 1, none⟩ x1).setCell ⟨p + 1, 0, none⟩ (.bool f)
theorem finT_facts {w wr : World} {p : Nat} {a0 a1 b0 : Value} (x0 x1 : Value) (f : Bool) (hp : wr.heap[p]? = some (.cells #[a0, a1] 29 (0, 0))) (hq : wr.heap[p + 1]? = some (.cells #[b0] 4 (0, 0))) (hb : Below p w wr) :
    (finT wr p x0 x1 f).heap[p]? = some (.cells #[x0, x1] 29 (0, 0)) ∧ (finT wr p x0 x1 f).heap[p + 1]? = some (.cells #[.bool f] 4 (0, 0)) ∧ Below p w (finT wr p x0 x1 f) := by
  have hle : p ≤ p := Nat.le_refl _
  refine ⟨?_, ?_, ((hb.setCell hle _).setCell hle _).setCell (by show p ≤ p + 1; omega) _⟩
  · unfold finT
    rw [Below.heap_setCell _ _ _ p (by show p ≠ p + 1; omega)]
    exact put2d x0 x1 hp
  · unfold finT
    refine Joins.block_setCell (i := 0) (cs := #[b0]) ?_ (.bool f)
    rw [Below.heap_setCell _ _ _ (p + 1) (by show p + 1 ≠ p; omega), Below.heap_setCell _ _ _ (p + 1) (by show p + 1 ≠ p; omega)]
    exact hq
theorem finT_row {wr : World} {p q : Nat} {u : Value} {l : List Wr} (h : WrRow wr q u l) (hq : p + 1 < q) (x0 x1 : Value) (f : Bool) : WrRow (finT wr p x0 x1 f) q u l := own_low (own_low (own_low h (by omega) _ _) (by omega) _ _) (by omega) _ _

set_option maxRecDepth 100000 in
set_option maxHeartbeats 2000000 in
theorem iReadTxn (s : ByteArray) (T : TypeId) (x : Value) (w : World) (hC : CrcTab w) (hE : ErrV w T x) (hl : s.size ≤ 1048576) :
    Calls Tryd.prog 12 #[.string s] w fun e w' => SaysR (readT s) w e w' := by
  have B0 : Below w.heap.size w ((w.alloc (.cells #[.int .i64 0, .slice none 0 0] 29)).alloc (.cells #[.bool false] 4)) := (below_lit w _).alloc (by simp) _
  have hp0 := (MapKept.heap_alloc w (.cells #[.int .i64 0, .slice none 0 0] 29)).1
  have hq0 := (MapKept.heap_alloc (w.alloc (.cells #[.int .i64 0, .slice none 0 0] 29)) (.cells #[.bool false] 4)).1
  have S1 : (w.alloc (.cells #[.int .i64 0, .slice none 0 0] 29)).heap.size = w.heap.size + 1 := by simp
  have B1 := below_lit (w.alloc (.cells #[.int .i64 0, .slice none 0 0] 29)) (.cells #[.bool false] 4)
  rw [S1] at hq0 B1
  obtain ⟨w0, HW0⟩ : ∃ w0, Hid (w0 = (w.alloc (.cells #[.int .i64 0, .slice none 0 0] 29)).alloc (.cells #[.bool false] 4)) := ⟨_, rfl⟩
  have hf : (w.alloc (.cells #[.int .i64 0, .slice none 0 0] 29)).alloc (.cells #[.bool false] 4) = w0 := HW0.out.symm
  rw [hf] at B0 hq0 B1
  have hp0 := (B1.block _ (by omega)).trans hp0
  have S0 : w0.heap.size = w.heap.size + 2 := by rw [HW0.out]; simp
  have HFIT := fit_one s w0
  have hmf : ∀ (fn : Fn) (first cap : Array Value) (w : World), (Instr.makeFunc fn first cap).run Tryd.prog w = .ok (.func fn first cap) w := fun _ _ _ _ => rfl
  have HN : Hid (∀ w', readT s = none → Below w.heap.size w w' → SaysR (readT s) w (.returned (.tuple #[.agg #[.int .i64 0, .slice none 0 0], .bool false])) w') := fun w' h1 h2 => .inr ⟨h1, rfl, h2⟩
  have HY : Hid (∀ t u w', readT s = some t → WrRow w' w.heap.size u t.outs → Below w.heap.size w w' → SaysR (readT s) w (.returned (.tuple #[.agg #[.int .i64 t.seq, u], .bool true])) w') := fun t u w' h1 h3 h4 => .inl ⟨t, u, h1, rfl, h3, h4⟩
  by_cases hbig : 4000 < s.size
  · have hnone : Hid (readT s = none) := by show _ = _; unfold readT; rw [if_pos hbig]
    rw [decide_eq_true hbig] at HFIT
    generalize readT s = o at *
    have c0 := Joins.cell_of_block hp0 0
    have c1 := Joins.cell_of_block hp0 1
    have f0 := fun i => Joins.unfrozen_of_block hp0 i
    have d0 := Joins.cell_of_block hq0 0
    have d1 := fun i => Joins.unfrozen_of_block hq0 i
    dsimp at c0 c1 d0
    have hne : ¬ w.heap.size = w.heap.size + 1 := by omega
    go_enter_defers Tryd.func12, Tryd.ntmps12
    go_wp2_with (go_at_call 30; refine HFIT.mono ?_; rintro e w' ⟨rfl, rfl⟩)
    obtain ⟨k1, k2, k3⟩ := finT_facts (.int .i64 0) (.slice none 0 0) false hp0 hq0 B0
    change bodyPostD _ _ _ _ _ (finT w0 w.heap.size (.int .i64 0) (.slice none 0 0) false)
    exact ⟨_, results_tb Tryd.results12 _ _ w.heap.size (w.heap.size + 1) _ false rfl rfl rfl k1 k2, HN.out _ hnone.out k3⟩
  · rw [decide_eq_false hbig] at HFIT
    have HRV := readTxn_any s T x w0 (hE.below B0) hl
    have HSW : Hid (∀ t u w', t.outs.length ≤ 1048576 → WrsAt w' u t.outs → Below w.heap.size w w' → Calls Tryd.prog 9 #[.agg #[.int .i64 t.seq, u]] w' fun e w'' => e = .returned (.string (showN t)) ∧ Below w'.heap.size w' w'') := fun t u w' hs h b => iShowTxn _ t w' (by omega) (hC.below b) ⟨u, rfl, h⟩
    have HNO : Hid (∀ t, txnRd s.data.toList = some t → showN t ≠ s → readT s = none) := fun t h h2 => by unfold readT; rw [if_neg hbig, h]; simp only [Option.bind_some]; rw [if_neg h2]
    have HN0 : Hid (txnRd s.data.toList = none → readT s = none) := fun h => by unfold readT; rw [if_neg hbig, h]; rfl
    have HYE : Hid (∀ t, txnRd s.data.toList = some t → showN t = s → readT s = some t) := fun t h h2 => by unfold readT; rw [if_neg hbig, h]; simp only [Option.bind_some]; rw [if_pos h2]
    clear hC hE hl
    generalize readT s = o at *
    generalize txnRd s.data.toList = rd at *
    have c0 := Joins.cell_of_block hp0 0
    dsimp at c0
    go_enter_defers Tryd.func12, Tryd.ntmps12
    go_wp2_with (go_at_call 30; refine HFIT.mono ?_; rintro e w' ⟨rfl, rfl⟩)
    refine HRV.mono ?_
    rintro e w1 hs
    rcases hs with ⟨t, u, ht, rfl, hrow, hol, b1⟩ | ⟨ht, rfl, b1⟩
    · obtain ⟨ua, uc, hu, -, -⟩ := hrow.at
      generalize hnn : t.outs.length = n at hu
      subst hu
      have B1 := B0.trans (b1.mono B0.size)
      have hs1 := b1.size
      have hp1 := (b1.block _ (by omega)).trans hp0
      have hq1 := (b1.block _ (by omega)).trans hq0
      have BX := below_lit w1 (.cells #[.int .i64 t.seq, .slice ua n uc] 29)
      have SX : (w1.alloc (.cells #[.int .i64 t.seq, .slice ua n uc] 29)).heap.size = w1.heap.size + 1 := by simp
      have HBX := (MapKept.heap_alloc w1 (.cells #[.int .i64 t.seq, .slice ua n uc] 29)).1
      have B2 := B1.trans (BX.mono B1.size)
      have hSW := HSW.out t (.slice ua n uc) _ hol (hrow.below BX).at B2
      rw [SX] at hSW
      have hNo : Hid (showN t ≠ s → o = none) := HNO.out t ht
      have hYe : Hid (showN t = s → o = some t) := HYE.out t ht
      have HYV := HY.out t (.slice ua n uc)
      generalize showN t = st at *
      clear HSW HNO HYE HY HN0
      generalize t.seq = sq at *
      go_wp2_with fail
      refine hSW.mono ?_
      rintro e w4 ⟨rfl, b4⟩
      rw [← SX] at b4
      have BX4 := BX.trans (b4.mono BX.size)
      have B4 := B1.trans (BX4.mono B1.size)
      have hs4 := BX4.size
      have hp4 := (BX4.block _ (by omega)).trans hp1
      have hq4 := (BX4.block _ (by omega)).trans hq1
      have hx4 := (b4.block _ (by omega)).trans HBX
      have y0 := Joins.cell_of_block hx4 0
      have y1 := Joins.cell_of_block hx4 1
      have row4 := hrow.below BX4
      have c0 := Joins.cell_of_block hp4 0
      have c1 := Joins.cell_of_block hp4 1
      have f0 := fun i => Joins.unfrozen_of_block hp4 i
      have d0 := Joins.cell_of_block hq4 0
      have d1 := fun i => Joins.unfrozen_of_block hq4 i
      dsimp at c0 c1 d0 y0 y1
      have hne : ¬ w.heap.size = w.heap.size + 1 := by omega
      by_cases he : st = s
      · have hbe : (st.toList == s.toList) = true := by simp [he]
        have hsome := hYe.out he
        obtain ⟨k1, k2, k3⟩ := finT_facts (.int .i64 sq) (.slice ua n uc) true hp4 hq4 B4
        have k4 := (finT_row (p := w.heap.size) row4 (by rw [S0]; omega) (.int .i64 sq) (.slice ua n uc) true).mono B0.size
        have HF : Hid (SaysR o w (.returned (.tuple #[.agg #[.int .i64 sq, .slice ua n uc], .bool true])) (finT w4 w.heap.size (.int .i64 sq) (.slice ua n uc) true)) := HYV _ hsome k4 k3
        clear HYV hsome he hNo hYe
        go_wp2
        change bodyPostD _ _ _ _ _ (finT w4 w.heap.size (.int .i64 sq) (.slice ua n uc) true)
        generalize finT w4 w.heap.size (.int .i64 sq) (.slice ua n uc) true = wz at *
        refine leaves_cons (f := 34) (args := #[.pointer (some ⟨w.heap.size, 0, none⟩), .pointer (some ⟨w.heap.size + 1, 0, none⟩)]) (by simp) (by simp [go_sem]) ?_
        refine (catchT_idle w.heap.size (w.heap.size + 1) wz).mono ?_
        rintro e u' w'' ⟨rfl, rfl, rfl⟩
        exact ⟨_, results_tb Tryd.results12 _ _ w.heap.size (w.heap.size + 1) _ true rfl rfl rfl k1 k2, HF.out⟩
      · have hbe : (st.toList == s.toList) = false := by rw [text_beq]; exact decide_eq_false he
        have hnone := hNo.out he
        obtain ⟨k1, k2, k3⟩ := finT_facts (.int .i64 0) (.slice none 0 0) false hp4 hq4 B4
        have HF : Hid (SaysR o w (.returned (.tuple #[.agg #[.int .i64 0, .slice none 0 0], .bool false])) (finT w4 w.heap.size (.int .i64 0) (.slice none 0 0) false)) := HN.out _ hnone k3
        clear HYV hnone he hNo hYe
        go_wp2
        change bodyPostD _ _ _ _ _ (finT w4 w.heap.size (.int .i64 0) (.slice none 0 0) false)
        generalize finT w4 w.heap.size (.int .i64 0) (.slice none 0 0) false = wz at *
        refine leaves_cons (f := 34) (args := #[.pointer (some ⟨w.heap.size, 0, none⟩), .pointer (some ⟨w.heap.size + 1, 0, none⟩)]) (by simp) (by simp [go_sem]) ?_
        refine (catchT_idle w.heap.size (w.heap.size + 1) wz).mono ?_
        rintro e u' w'' ⟨rfl, rfl, rfl⟩
        exact ⟨_, results_tb Tryd.results12 _ _ w.heap.size (w.heap.size + 1) _ false rfl rfl rfl k1 k2, HF.out⟩
    · have hnone : Hid (o = none) := HN0.out ht
      have B1 := B0.trans (b1.mono B0.size)
      have hp1 := (b1.block _ (by omega)).trans hp0
      have hq1 := (b1.block _ (by omega)).trans hq0
      obtain ⟨k1, k2, k3⟩ := finT_facts (.int .i64 0) (.slice none 0 0) false hp1 hq1 B1
      go_wp2
      refine leaves_cons (f := 34) (args := #[.pointer (some ⟨w.heap.size, 0, none⟩), .pointer (some ⟨w.heap.size + 1, 0, none⟩)]) (by simp) (by simp [go_sem]) ?_
      refine (catchT_panics w.heap.size (w.heap.size + 1) T x [] _ _ _ w1 hp1 hq1 (by omega)).mono ?_
      rintro e u' w'' ⟨rfl, rfl, rfl⟩
      change Leaves _ _ _ _ _ _ (finT w1 w.heap.size (.int .i64 0) (.slice none 0 0) false)
      exact ⟨_, results_tb Tryd.results12 _ _ w.heap.size (w.heap.size + 1) _ false rfl rfl rfl k1 k2, HN.out _ hnone.out k3⟩
end

end Go.Proofs.YtfdahfealibbnaaDoor
