/- Volumes, impl: below, VolOk. Volumes, impl: VolOk. -/
import Derived.Test.YtchcdgkpaipkgaaGreatDoorRows
import Derived.Test.YtchcdgkpaipkgaaGreatDoorNe
namespace Go.Proofs.YtchcdgkpaipkgaaGreatDoor

section
open Go.RowKit Go.Maps Go.Sort

theorem gat_all (h base p m : Nat) (x : Vo) (ps : List (Nat × Value)) (hx : TreeFit x) (hall : ∀ y ∈ x.ins, ∀ e ∈ y.ents, ∃ z ∈ x.ins, z.id = e.id) (hE : ∀ t, t < ps.length → ∀ q, ps[t]!.2.ownBlock = some q → q < h) (n : Nat) : GatC h base p m x ps n := by
  induction n using Nat.strongRecOn with
  | ind n ih => exact gat_step h base p m x ps hx hall hE n ih
theorem gpost_reach {x : Vo} (hr : x.ins.Pairwise fun a b => a.id < b.id) {S' : Int → Bool} {a : Nat} (ha : a < x.ins.length) (hp : GPost x (fun _ => false) S' a x.ins[a]!.ents.length) (i : Int) : S' i = true ↔ Reach x x.ins[a]!.id i := by
  constructor
  · intro h
    rcases hp.sound i h with h1 | h1
    · cases h1
    · exact h1
  · intro h
    induction h with
    | one h =>
      obtain ⟨e, he, h1⟩ := (edge_at hr (place_mem ha)).1 h
      obtain ⟨k, hk, rfl⟩ := List.getElem_of_mem he
      have := hp.ents k hk
      rw [getElem!_pos _ k hk, h1] at this; exact this
    | more _ h ih =>
      obtain ⟨y, hy, h1, e, he, h2⟩ := h
      rw [← h2]
      exact hp.closed _ ih rfl y hy h1 e he

set_option maxRecDepth 100000 in
set_option maxHeartbeats 1000000 in
theorem belowT_any (base p m : Nat) (x : Vo) (ps : List (Nat × Value)) (a : Nat) (w : World) (hx : TreeFit x) (hall : ∀ y ∈ x.ins, ∀ e ∈ y.ents, ∃ z ∈ x.ins, z.id = e.id) (ha : a < x.ins.length) (hT : TreeAt w base p m x ps) :
    Calls Tryz.prog 47 #[.pointer (some ⟨p, 0, none⟩), .pointer (some ⟨ps[a]!.1, 0, none⟩)] w fun e w' => ∃ fm S, e = .returned (.map (some fm)) ∧ MapP w' fm (stF x.ins ps S) (cntS x.ins S) ∧ (∀ i, S i = true ↔ Reach x x.ins[a]!.id i) ∧ Below w.heap.size w w' := by
  have hmf : ∀ (fn : Fn) (first cap : Array Value) (w : World), (Instr.makeFunc fn first cap).run Tryz.prog w = .ok (.func fn first cap) w := fun _ _ _ _ => rfl
  have hMM := fun W => run_makeMap (P := Tryz.prog) 70 W
  have hlen := hT.len
  have hE : ∀ t, t < ps.length → ∀ q, ps[t]!.2.ownBlock = some q → q < w.heap.size := fun t ht q hq => ((hT.ents t ht).blk q hq).2
  have hC := gat_all w.heap.size base p m x ps hx hall hE x.ins.length (fun _ => false)
  have s1 : (w.alloc (.cells #[.pointer (some ⟨p, 0, none⟩)] 68)).heap.size = w.heap.size + 1 := by simp
  have s2 : ((w.alloc (.cells #[.pointer (some ⟨p, 0, none⟩)] 68)).alloc (.map #[] 0)).heap.size = w.heap.size + 2 := by simp
  have s3 : (((w.alloc (.cells #[.pointer (some ⟨p, 0, none⟩)] 68)).alloc (.map #[] 0)).alloc (.cells #[.map (some (w.heap.size + 1))] 70)).heap.size = w.heap.size + 3 := by simp
  obtain ⟨fv, hfv⟩ : ∃ fv, Hid (fv = Value.func (.func 57) #[] #[.pointer (some ⟨w.heap.size + 2, 0, none⟩), .pointer (some ⟨w.heap.size, 0, none⟩), .pointer (some ⟨w.heap.size + 3, 0, none⟩)]) := ⟨_, rfl⟩
  have hst : GatSt w.heap.size base p m x ps (fun _ => false) ((((w.alloc (.cells #[.pointer (some ⟨p, 0, none⟩)] 68)).alloc (.map #[] 0)).alloc (.cells #[.map (some (w.heap.size + 1))] 70)).alloc (.cells #[Value.func (.func 57) #[] #[.pointer (some ⟨w.heap.size + 2, 0, none⟩), .pointer (some ⟨w.heap.size, 0, none⟩), .pointer (some ⟨w.heap.size + 3, 0, none⟩)]] 83)) := by
    have b4 := below_lit (((w.alloc (.cells #[.pointer (some ⟨p, 0, none⟩)] 68)).alloc (.map #[] 0)).alloc (.cells #[.map (some (w.heap.size + 1))] 70)) (.cells #[Value.func (.func 57) #[] #[.pointer (some ⟨w.heap.size + 2, 0, none⟩), .pointer (some ⟨w.heap.size, 0, none⟩), .pointer (some ⟨w.heap.size + 3, 0, none⟩)]] 83)
    have b3 := below_lit ((w.alloc (.cells #[.pointer (some ⟨p, 0, none⟩)] 68)).alloc (.map #[] 0)) (.cells #[.map (some (w.heap.size + 1))] 70)
    have b2 := below_lit (w.alloc (.cells #[.pointer (some ⟨p, 0, none⟩)] 68)) (.map #[] 0)
    have b1 := below_lit w (.cells #[.pointer (some ⟨p, 0, none⟩)] 68)
    have h1 := (MapKept.heap_alloc w (.cells #[.pointer (some ⟨p, 0, none⟩)] 68)).1
    have h3 := (MapKept.heap_alloc ((w.alloc (.cells #[.pointer (some ⟨p, 0, none⟩)] 68)).alloc (.map #[] 0)) (.cells #[.map (some (w.heap.size + 1))] 70)).1
    have h4 := (MapKept.heap_alloc (((w.alloc (.cells #[.pointer (some ⟨p, 0, none⟩)] 68)).alloc (.map #[] 0)).alloc (.cells #[.map (some (w.heap.size + 1))] 70)) (.cells #[Value.func (.func 57) #[] #[.pointer (some ⟨w.heap.size + 2, 0, none⟩), .pointer (some ⟨w.heap.size, 0, none⟩), .pointer (some ⟨w.heap.size + 3, 0, none⟩)]] 83)).1
    have hm := MapP.made (w.alloc (.cells #[.pointer (some ⟨p, 0, none⟩)] 68))
    rw [s1] at hm
    rw [s2] at h3
    rw [s3] at h4
    refine ⟨?_, ?_, h4, ?_, (((hT.below b1).below b2).below b3).below b4, ?_⟩
    · rw [b4.block _ (by omega), b3.block _ (by omega), b2.block _ (by omega)]; exact h1
    · rw [b4.block _ (by omega)]; exact h3
    · have e1 : stF x.ins ps (fun _ => false) = fun _ => none := by funext i; simp [stF]
      have e2 : cntS x.ins (fun _ => false) = 0 := by unfold cntS; simp
      rw [e1, e2]
      exact (hm.below b3).below b4
    · exact ⟨lt_of_block hT.tree, hT.map.lt, fun t ht => lt_of_block (hT.ino t ht)⟩
  have hC := hC _ a ha (by omega) hst
  have bw : Below w.heap.size w ((((w.alloc (.cells #[.pointer (some ⟨p, 0, none⟩)] 68)).alloc (.map #[] 0)).alloc (.cells #[.map (some (w.heap.size + 1))] 70)).alloc (.cells #[Value.func (.func 57) #[] #[.pointer (some ⟨w.heap.size + 2, 0, none⟩), .pointer (some ⟨w.heap.size, 0, none⟩), .pointer (some ⟨w.heap.size + 3, 0, none⟩)]] 83)) := (((below_lit w _).alloc (by simp) _).alloc (by simp; omega) _).alloc (by simp; omega) _
  clear hst hfv
  generalize ps[a]!.1 = q at hC ⊢
  go_enter Tryz.func47, Tryz.ntmps47
  go_wp2_with (go_at_call 57; refine hC.mono ?_; rintro e w5 ⟨rfl, ⟨S3, st5, gp5⟩, g5⟩; have c5 : w5.cell? ⟨w.heap.size + 2, 0, none⟩ = some (.map (some (w.heap.size + 1))) := Joins.cell_of_block st5.fb 0)
  go_ret
  exact ⟨w.heap.size + 1, S3, rfl, st5.fm, fun i => gpost_reach hx.rise ha gp5 i, bw.grown g5 bw.size (fun q hq => by cases hq; omega)⟩
end

section
open Go.RowKit Go.Maps Go.Sort

theorem cnt_iff {l : List Ino} {S : Int → Bool} (h0 : 0 < l.length) (h1 : S l[0]!.id = false) : cntS l S = l.length - 1 ↔ ∀ j, 0 < j → j < l.length → S l[j]!.id = true := by
  cases l with
  | nil => simp at h0
  | cons r l =>
    have h1 : S r.id = false := h1
    unfold cntS
    rw [List.filter_cons, if_neg (by rw [h1]; simp), List.length_cons, Nat.add_sub_cancel, ← List.countP_eq_length_filter, List.countP_eq_length]
    constructor
    · intro h j hj hjl
      obtain ⟨k, rfl⟩ : ∃ k, j = k + 1 := ⟨j - 1, by omega⟩
      have hk : k < l.length := by simpa using hjl
      have h2 := h l[k] (List.getElem_mem hk)
      have e : (r :: l)[k + 1]! = l[k] := by rw [getElem!_pos _ _ (by simpa using hk)]; simp
      rw [e]; exact h2
    · intro h y hy
      obtain ⟨k, hk, rfl⟩ := List.getElem_of_mem hy
      have h2 := h (k + 1) (by omega) (by simpa using hk)
      have e : (r :: l)[k + 1]! = l[k] := by rw [getElem!_pos _ _ (by simpa using hk)]; simp
      rw [e] at h2; exact h2
theorem fit_of {x : Vo} (h1 : IdsR x) (h2 : ∀ y ∈ x.ins, OneR y) : TreeFit x := by
  obtain ⟨hn, hl, hi, _, _⟩ := h1
  refine ⟨rise_steps fun j h0 hj => (hi j hj).2 h0, by omega, fun y hy => ?_, fun y hy => ?_, fun y hy e he => ?_⟩
  · obtain ⟨j, hj, rfl⟩ := mem_place hy
    have := (hi j hj).1
    unfold InI; omega
  · rcases h2 y hy with ⟨_, h, _⟩ | ⟨_, _, _, h⟩
    · omega
    · have := (dirB_iff.1 h).len; omega
  · rcases h2 y hy with ⟨_, h, _⟩ | ⟨_, _, _, h⟩
    · rw [List.length_eq_zero_iff.1 h] at he; simp at he
    · have := (entB_iff.1 ((dirB_iff.1 h).each _ he)).2.2.2
      unfold InI; omega
theorem reach_ne {x : Vo} (h : LinksR x) {i : Int} (hr : Reach x 1 i) : i ≠ 1 := by
  obtain ⟨p, ⟨y, hy, _, e, he, h2⟩, _⟩ := reach_last hr
  rw [← h2]; exact (h.1 y hy e he).1

set_option maxRecDepth 100000 in
set_option maxHeartbeats 8000000 in
theorem iVolOk (v : Value) (x : Vo) (w : World) (hTb : Tabs w) (hC : CrcTab w) (hs : VolShort x) (hv : VolAt w v x) :
    Calls Tryz.prog 30 #[v] w fun e w' => e = .returned (.bool (rightB x)) ∧ Below w.heap.size w w' := by
  have HR : Hid (∀ b : Bool, (b = true ↔ IdsR x ∧ (∀ y ∈ x.ins, OneR y) ∧ LinksR x ∧ ∀ j, 0 < j → j < x.ins.length → Reach x 1 x.ins[j]!.id) → rightB x = b) := fun b hb => bool_of rightB_iff (hb.trans right_parts.symm)
  have hl := hs.len
  have hID := fun w' (b : Below w.heap.size w w') => idsOk_any v x w' hl (hv.below b)
  have hIN : ∀ j s w', j < x.ins.length → Below w.heap.size w w' → EntsAt w' s x.ins[j]!.ents → Calls Tryz.prog 44 #[valI x.ins[j]! s] w' fun e w'' => e = .returned (.bool (oneB x.ins[j]!)) ∧ Below w'.heap.size w' w'' := fun j s w' hj b he =>
    inodeOk_any _ s w' (hTb.below b) (hC.below b) he (hs.ents _ (place_mem hj)) (hs.data _ (place_mem hj)) (hs.names _ (place_mem hj))
  have hTO := fun (hf : TreeFit x) w' (b : Below w.heap.size w w') => treeOf_any v x w' (by have := hf.len; omega) hs.ents hf.rise hf.ids (hv.below b)
  generalize rightB x = r at HR ⊢
  cases hib : idsB x
  · have hr : Hid (r = false) := HR.out false (by simp only [Bool.false_eq_true, false_iff]; rintro ⟨h, _⟩; rw [idsB_iff.2 h] at hib; cases hib)
    rw [hib] at hID
    obtain ⟨nx, l⟩ := x
    obtain ⟨u, rfl, aa, ca, rfl, -, -⟩ := hv
    dsimp only at *
    have B0 := below_lit w (.cells #[.int .i64 nx, .slice aa l.length ca] 24)
    have hID := hID _ B0
    clear hib HR hTO hIN
    go_enter Tryz.func30, Tryz.ntmps30
    go_wp2_with (go_at_call 43; refine hID.mono ?_; rintro e w1 ⟨rfl, b1⟩)
    go_ret
    exact ⟨ret_bool hr.out.symm, B0.trans (b1.mono B0.size)⟩
  · have hids := idsB_iff.1 hib
    rw [hib] at hID
    have HONE : Hid (∀ j, j < x.ins.length → oneB x.ins[j]! = false → r = false) := fun j hj h => HR.out false (by simp only [Bool.false_eq_true, false_iff]; rintro ⟨_, h2, _⟩; rw [oneB_iff.2 (h2 _ (place_mem hj))] at h; cases h)
    have HLIN : Hid (linksB x = false → r = false) := fun h => HR.out false (by simp only [Bool.false_eq_true, false_iff]; rintro ⟨_, _, h3, _⟩; rw [linksB_iff.2 h3] at h; cases h)
    have HFIN : Hid (∀ (S : Int → Bool), (∀ j, j < x.ins.length → oneB x.ins[j]! = true) → LinksR x → (∀ i, S i = true ↔ Reach x x.ins[0]!.id i) → r = decide (cntS x.ins S = x.ins.length - 1)) := fun S h1 h2 h3 => HR.out _ (by
      have h0 := hids.2.2.2.1
      rw [decide_eq_true_eq, cnt_iff (by have := hids.2.1; omega) (by
        cases hc : S x.ins[0]!.id
        · rfl
        · have := (h3 _).1 hc
          rw [h0] at this
          exact absurd rfl (reach_ne h2 this))]
      constructor
      · intro h
        refine ⟨hids, fun y hy => ?_, h2, fun j hj hjl => ?_⟩
        · obtain ⟨j, hj, rfl⟩ := mem_place hy
          exact oneB_iff.1 (h1 j hj)
        · have := (h3 _).1 (h j hj hjl)
          rwa [h0] at this
      · rintro ⟨_, _, _, h⟩ j hj hjl
        refine (h3 _).2 ?_
        rw [h0]; exact h j hj hjl)
    have hTO : (∀ j, j < x.ins.length → oneB x.ins[j]! = true) → ∀ w', Below w.heap.size w w' → _ := fun h1 w' b => hTO (fit_of hids fun y hy => by
      obtain ⟨j, hj, rfl⟩ := mem_place hy
      exact oneB_iff.1 (h1 j hj)) w' b
    have HFT : Hid ((∀ j, j < x.ins.length → oneB x.ins[j]! = true) → TreeFit x) := fun h1 => fit_of hids fun y hy => by
      obtain ⟨j, hj, rfl⟩ := mem_place hy
      exact oneB_iff.1 (h1 j hj)
    have HN0 : Hid (0 < x.ins.length ∧ x.ins.length ≤ 16 ∧ x.ins[0]!.id = 1) := ⟨by have := hids.2.1; omega, hids.2.1.2, hids.2.2.2.1⟩
    clear HR
    have HXX : Hid (x = x) := rfl
    obtain ⟨u, rfl, aa, ca, rfl, -, hva⟩ := hv
    obtain ⟨n, HN⟩ : ∃ n, Hid (n = x.ins.length) := ⟨_, rfl⟩
    obtain ⟨nx, HNX⟩ : ∃ nx, Hid (nx = x.next) := ⟨_, rfl⟩
    rw [← HN.out] at hl hIN hTO HONE HFIN HN0 hva hID
    rw [← HNX.out] at hID hTO
    rw [← HN.out, ← HNX.out]
    have S0 : (w.alloc (.cells #[.int .i64 nx, .slice aa n ca] 24)).heap.size = w.heap.size + 1 := by simp
    have B0 := below_lit w (.cells #[.int .i64 nx, .slice aa n ca] 24)
    have hID := hID _ B0
    go_enter Tryz.func30, Tryz.ntmps30
    go_wp2_with (go_at_call 43; refine hID.mono ?_; rintro e w1 ⟨rfl, b1⟩; rw [S0] at b1; obtain ⟨p0, p1, HB1⟩ := box_cells b1)
    go_loopw [12] (fun i wr => ∃ k : Nat, k ≤ n ∧ i = .int .i64 k ∧ Hid (∀ j, j < k → oneB x.ins[j]! = true) ∧ Below (w.heap.size + 1) (w.alloc (.cells #[.int .i64 nx, .slice aa n ca] 24)) wr) (fun i _ => n - (intOf i).toNat)
    case atStart => exact ⟨0, Nat.zero_le _, rfl, fun t ht => by omega, b1⟩
    case round =>
      obtain ⟨k, hk, rfl, HK, hbel⟩ := hrel
      obtain ⟨p0, p1, HB⟩ := box_cells hbel
      by_cases hlt : k < n
      · obtain ⟨eb1, o1, s1, rfl, hb1, hc1, hen⟩ := hva k hlt
        have hc1 := hc1.below hb1 HB
        have hINk := fun w' b he => hIN k s1 w' hlt b he
        have HA1 : Hid (oneB x.ins[k]! = false → r = false) := fun h => HONE.out k hlt h
        have HA2 : Hid (oneB x.ins[k]! = true → ∀ j, j < k + 1 → oneB x.ins[j]! = true) := fun h j hj => by
          by_cases e : j = k
          · rw [e]; exact h
          · exact HK.out j (by omega)
        have hen' := hen.below HB
        have hIN1 := fun o => hINk (wr.alloc o) (HB.alloc HB.size o) (hen'.below (below_lit wr o))
        obtain ⟨ea, ec, rfl, -, -⟩ := hen
        generalize oneB x.ins[k]! = q at hIN1 HA1 HA2
        clear hINk
        generalize x.ins[k]! = y at hc1 hIN1
        obtain ⟨yi, yk, yl, yd, ye⟩ := y
        unfold valI at hIN1
        dsimp only at hc1 hIN1
        have k0 := hc1.c0
        have k1 := hc1.c1
        have k2 := hc1.c2
        have k3 := hc1.c3
        have k4 := hc1.c4
        have hsw : w.heap.size + 1 ≤ wr.heap.size := by have := hbel.size; rw [S0] at this; exact this
        have hIN2 := hIN1 (.cells #[.int .i64 yi, .int .i64 yk, .int .i64 yl, .string yd, .slice ea ye.length ec] 50)
        have hb2 : Below (w.heap.size + 1) (w.alloc (.cells #[.int .i64 nx, .slice (some ⟨eb1, o1, none⟩) n ca] 24)) (wr.alloc (.cells #[.int .i64 yi, .int .i64 yk, .int .i64 yl, .string yd, .slice ea ye.length ec] 50)) := hbel.alloc hsw _
        have hs2 : w.heap.size + 1 ≤ (wr.alloc (.cells #[.int .i64 yi, .int .i64 yk, .int .i64 yl, .string yd, .slice ea ye.length ec] 50)).heap.size := by simp; omega
        clear hc1 hva hen' hIN1
        cases q
        · have hr : Hid _ := HA1.out rfl
          go_wp2_with (go_at_call 44; refine hIN2.mono ?_; rintro e w2 ⟨rfl, b2⟩)
          go_ret
          exact ⟨ret_bool hr.out.symm, B0.trans ((hb2.trans (b2.mono hs2)).mono (by omega))⟩
        · have HX : Hid _ := HA2.out rfl
          go_wp2_with (go_at_call 44; refine hIN2.mono ?_; rintro e w2 ⟨rfl, b2⟩)
          go_roundw
          case rel => exact ⟨k + 1, by omega, by go_num, HX, hb2.trans (b2.mono hs2)⟩
          case measure => simp [intOf]; omega
      · obtain rfl : k = n := by omega
        have hTO := hTO HK.out wr HB
        have hfit := HFT.out (by rw [← HN.out]; exact HK.out)
        have HFI2 : Hid (∀ (S : Int → Bool), LinksR x → (∀ i, S i = true ↔ Reach x x.ins[0]!.id i) → r = decide (cntS x.ins S = k - 1)) := fun S h2 h3 => HFIN.out S HK.out h2 h3
        clear hIN hID HONE HFIN HFT hva
        go_wp2_with (go_at_call 45; refine hTO.mono ?_; rintro e w4 ⟨p, m, ps, rfl, hT4, b4⟩)
        have bw4 := HB.trans (b4.mono HB.size)
        have hLK := fun w' (b : Below w4.heap.size w4 w') => linksOk_any _ p m x ps w' hfit (hT4.below b)
        cases hlb : linksB x
        · have hr : Hid _ := HLIN.out hlb
          have hQ : ∀ dd os, Calls Tryz.prog 46 #[.pointer (some ⟨p, 0, none⟩)] (grow (redrawn w4 dd) os) fun e w'' => e = .returned (.bool false) ∧ ∃ p : Regrown, w'' = grow (redrawn w4 p.d) p.os := fun dd os =>
            Calls.regrown_of (by have := hLK _ (below_regrown w4 dd os); rwa [hlb] at this)
          clear hlb hLK
          refine wp_region_quiet_below (by kernel_rfl) (by kernel_rfl) ?_
          repeat (go_big_quiet_step (exact hQ _ _))
          refine wpQuiet_nil ?_
          rintro w' ⟨⟨dq, osq⟩, rfl⟩
          have hb5 := below_regrown w4 dq osq
          generalize grow (redrawn w4 dq) osq = w5 at hb5 ⊢
          go_wp2
          go_ret
          exact ⟨ret_bool hr.out.symm, bw4.trans (hb5.mono bw4.size)⟩
        · have hLKD := hLK w4.drew (Below.refl _ _).drew
          rw [hlb] at hLKD
          have hlr := linksB_iff.1 hlb
          obtain ⟨hn0, hn16, hid0⟩ := HN0.out
          have hF0 : fofP x.ins ps 1 = some ps[0]!.1 := by have := fof_at hfit ps (t := 0) (by rw [← HN.out]; exact hn0); rwa [hid0] at this
          have HB5 : Hid (∀ w5, Below w4.drew.heap.size w4.drew w5 → Below w4.heap.size w4 w5) := fun w5 b5 => (Below.refl _ _).drew.trans b5
          have HT5 : Hid (∀ w5, Below w4.heap.size w4 w5 → w5.cell? ⟨p, 1, none⟩ = some (.map (some m)) ∧ (Instr.lookup 70 (.map (some m)) (.int .i64 1) false).run Tryz.prog w5 = .ok (.pointer (some ⟨ps[0]!.1, 0, none⟩)) w5 ∧ (∀ ty, (Builtin.len_ #[70] ty #[.map (some m)]).run Tryz.prog w5 = .ok (.int .i64 (k : Int)) w5)) := fun w5 b5 => by
            have hT5 := hT4.below b5
            have h2 := hT5.map.look (i := 1) (by unfold InI; omega)
            rw [hF0] at h2
            have h3 := fun ty => hT5.map.len ty
            rw [← HN.out] at h3
            exact ⟨Joins.cell_of_block hT5.tree 1, h2, h3⟩
          have HBL : Hid (∀ w5, Below w4.heap.size w4 w5 → Calls Tryz.prog 47 #[.pointer (some ⟨p, 0, none⟩), .pointer (some ⟨ps[0]!.1, 0, none⟩)] w5 fun e w' => ∃ fm S, e = .returned (.map (some fm)) ∧ MapP w' fm (stF x.ins ps S) (cntS x.ins S) ∧ (∀ i, S i = true ↔ Reach x x.ins[0]!.id i) ∧ Below w5.heap.size w5 w') := fun w5 b5 => belowT_any _ p m x ps 0 w5 hfit (fun y hy e he => (hlr.1 y hy e he).2) (by rw [← HN.out]; exact hn0) (hT4.below b5)
          have HFI3 : Hid (∀ (S : Int → Bool), (∀ i, S i = true ↔ Reach x x.ins[0]!.id i) → r = ((cntS x.ins S : Int) == IntKind.i64.wrap ((k : Int) - 1))) := fun S h3 => by
            show r = _
            have hw : IntKind.i64.wrap ((k : Int) - 1) = (k : Int) - 1 := by rw [IntKind.wrap_i64]; omega
            rw [hw, HFI2.out S hlr h3, Bool.eq_iff_iff, decide_eq_true_eq, beq_iff_eq]; omega
          have HBT : Hid (∀ w5 w6, Below w4.heap.size w4 w5 → Below w5.heap.size w5 w6 → Below w4.heap.size w4 w6) := fun w5 w6 h1 h2 => h1.trans (h2.mono h1.size)
          generalize ps[0]!.1 = q0 at HT5 HBL
          clear hlb hLK hF0 hid0 hTO HLIN HFI2
          go_region_law (first
            | (go_simp; go_at_call 46; refine hLKD.mono ?_; rintro e w5 ⟨rfl, b5⟩; have B5 := HB5.out _ b5; obtain ⟨c5, l5, n5⟩ := HT5.out _ B5; dsimp only)
            | (go_simp; go_at_call 47; refine (HBL.out _ B5).mono ?_; rintro e w6 ⟨fm, S, rfl, hm6, hS6, b6⟩; have B6 := HBT.out _ _ B5 b6; obtain ⟨c6, l6, n6⟩ := HT5.out _ B6; have nf := fun ty => hm6.len ty; dsimp only))
          all_goals
            go_wp2
            go_ret
            exact ⟨ret_bool (HFI3.out S hS6).symm, bw4.trans (B6.mono bw4.size)⟩
end

end Go.Proofs.YtchcdgkpaipkgaaGreatDoor
