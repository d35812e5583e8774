/- Directories: the program's own small functions: ids, places, the first one that fits, what stands there. Directories: impl.firstOf, firstBehind, firstAlike, entAt: what they answer. Directories: rows of texts, slices.Contains of them; impl.entOk, leastIndex: what they answer. Directories: impl.leastIndex: what it answers. -/
import Derived.Test.YtgkcnleegefjcaaGreatDoorRows
import Derived.Test.YtgkcnleegefjcaaGreatDoorMr
import Derived.Test.YtgkcnleegefjcaaGreatDoorMm
import Derived.Lib.QuietBelow
import Derived.BigQuiet
import Derived.Shelf.Abstract
import Derived.OwnWalk
import Derived.Laws.StructEq
namespace Go.Proofs.YtgkcnleegefjcaaGreatDoor

section
open Go.RowKit Go.Sort

set_option maxRecDepth 100000 in
theorem idOk_any (id : Int) (w : World) :
    Calls Tryz.prog 179 #[.int .i64 id] w fun e w' => e = .returned (.bool (idB id)) ∧ w = w' := by
  have H := btw_any id 1 100000 w
  have HB : Hid (idB id = inB id 1 100000) := rfl
  generalize inB id 1 100000 = q at H HB
  go_enter Tryz.func179, Tryz.ntmps179
  go_wp2_with (go_at_call 100; refine H.mono ?_; rintro e w1 ⟨rfl, rfl⟩)
  go_ret
  exact ⟨ret_bool HB.out.symm, rfl⟩

theorem put_two (w : World) (g : Nat) (T : TypeId) (a0 a1 x0 x1 : Value) (h : w.heap[g]? = some (.cells #[a0, a1] T (0, 0))) :
    ((w.setCell ⟨g, 0, none⟩ x0).setCell ⟨g, 1, none⟩ x1).heap[g]? = some (.cells #[x0, x1] T (0, 0)) := by
  have h1 := Go.heap_setCell_same w g 0 _ _ x0 h
  exact Go.heap_setCell_same _ g 1 _ _ x1 h1

set_option maxRecDepth 100000 in
set_option maxHeartbeats 1000000 in
theorem placeOf_any (e : En) (w : World) :
    Calls Tryz.prog 156 #[.agg #[.int .i64 e.hash, .int .i64 e.index, .string e.name, .int .i64 e.id]] w fun x w' => x = .returned (.agg #[.int .i64 e.hash, .int .i64 e.index]) ∧ Below w.heap.size w w' := by
  obtain ⟨a, b, c, d⟩ := e
  dsimp only
  have hb := below_lit w (.cells #[.int .i64 a, .int .i64 b, .string c, .int .i64 d] 118)
  have HB : Hid _ := hb.alloc hb.size (.cells #[.int .i64 a, .int .i64 b] 180)
  have HE : Hid (((w.alloc (.cells #[.int .i64 a, .int .i64 b, .string c, .int .i64 d] 118)).alloc (.cells #[.int .i64 a, .int .i64 b] 180)).heap[w.heap.size + 1]? = some (.cells #[.int .i64 a, .int .i64 b] 180 (0, 0))) := by
    have := heap_alloc_new (w.alloc (.cells #[.int .i64 a, .int .i64 b, .string c, .int .i64 d] 118)) (.cells #[.int .i64 a, .int .i64 b] 180)
    rwa [hs_alloc] at this
  clear hb
  go_enter Tryz.func156, Tryz.ntmps156
  go_wp2
  exact bodyPost_ret (results_cell_row rfl _ _ (w.heap.size + 1) 180 #[.int .i64 a, .int .i64 b] (0, 0) _ rfl HE.out Tryz.underlying180 rfl (by kernel_rfl)) rfl ⟨rfl, HB.out⟩

def aheadB (a b h k : Int) : Bool := decide (a < h) || (decide (a = h) && decide (b < k))
theorem ahead_less (e : En) (h k : Int) : aheadB e.hash e.index h k = lessB e h k := rfl
theorem ahead_beh (e : En) (h k : Int) : aheadB h k e.hash e.index = behB e h k := by
  rw [Bool.eq_iff_iff, behB_iff]
  unfold aheadB
  simp only [Bool.or_eq_true, Bool.and_eq_true, decide_eq_true_eq]
  omega

set_option maxRecDepth 100000 in
set_option maxHeartbeats 1000000 in
theorem ahead_any (a b h k : Int) (w : World) :
    Calls Tryz.prog 157 #[.agg #[.int .i64 a, .int .i64 b], .agg #[.int .i64 h, .int .i64 k]] w fun x w' => x = .returned (.bool (aheadB a b h k)) ∧ Below w.heap.size w w' := by
  have HR : Hid (aheadB a b h k = (decide (a < h) || (decide (a = h) && decide (b < k)))) := rfl
  generalize aheadB a b h k = r at HR ⊢
  have hb := below_lit w (.cells #[.int .i64 a, .int .i64 b] 180)
  have HB : Hid _ := hb.alloc hb.size (.cells #[.int .i64 h, .int .i64 k] 180)
  clear hb
  by_cases h1 : a < h
  · go_enter Tryz.func157, Tryz.ntmps157
    go_wp2
    go_ret
    exact ⟨by rw [HR.out]; simp [h1], HB.out⟩
  · by_cases h2 : a = h
    · have h2' : (a == h) = true := by simp [h2]
      have HRR : Hid (r = decide (b < k)) := by show _ = _; rw [HR.out]; simp [h2]
      clear h2
      go_enter Tryz.func157, Tryz.ntmps157
      go_wp2
      go_ret
      exact ⟨by rw [HRR.out]; rfl, HB.out⟩
    · have h2' : (a == h) = false := by simp [h2]
      go_enter Tryz.func157, Tryz.ntmps157
      go_wp2
      go_ret
      exact ⟨by rw [HR.out]; simp [h1, h2], HB.out⟩

theorem plI_any (e : En) (w : World) (d : Nat) (os : Array Obj) :
    Calls Tryz.prog 156 #[.agg #[.int .i64 e.hash, .int .i64 e.index, .string e.name, .int .i64 e.id]] (grow (redrawn w d) os) fun x w'' => x = .returned (.agg #[.int .i64 e.hash, .int .i64 e.index]) ∧ ∃ p : Regrown, w'' = grow (redrawn w p.d) p.os :=
  Calls.regrown_of (placeOf_any e _)
theorem ahI_any (a b h k : Int) (w : World) (d : Nat) (os : Array Obj) :
    Calls Tryz.prog 157 #[.agg #[.int .i64 a, .int .i64 b], .agg #[.int .i64 h, .int .i64 k]] (grow (redrawn w d) os) fun x w'' => x = .returned (.bool (aheadB a b h k)) ∧ ∃ p : Regrown, w'' = grow (redrawn w p.d) p.os :=
  Calls.regrown_of (ahead_any a b h k _)

set_option maxRecDepth 100000 in
set_option maxHeartbeats 1000000 in
/-- firstBehind's own function -/
theorem behind1_any (e : En) (h k : Int) (B : Nat) (w : World) (hB : B < w.heap.size) (hc0 : w.cell? ⟨B, 0, none⟩ = some (.int .i64 h)) (hc1 : w.cell? ⟨B, 1, none⟩ = some (.int .i64 k)) :
    Calls Tryz.prog 210 #[.agg #[.int .i64 e.hash, .int .i64 e.index, .string e.name, .int .i64 e.id], .pointer (some ⟨B, 0, none⟩)] w fun x w' => x = .returned (.bool (behB e h k)) ∧ Below w.heap.size w w' := by
  rw [← ahead_beh]
  obtain ⟨x0, x1, x2, x3⟩ := e
  dsimp only
  have hb := below_lit w (.cells #[.int .i64 x0, .int .i64 x1, .string x2, .int .i64 x3] 118)
  have hcg := new_cells w x0 x1 x2 x3
  have c0 := (hb.cell (p := ⟨B, 0, none⟩) hB).trans hc0
  have c1 := (hb.cell (p := ⟨B, 1, none⟩) hB).trans hc1
  have hg := hs_alloc w (.cells #[.int .i64 x0, .int .i64 x1, .string x2, .int .i64 x3] 118)
  obtain ⟨w5, HW5⟩ : ∃ w5, Hid (w5 = w.alloc (.cells #[.int .i64 x0, .int .i64 x1, .string x2, .int .i64 x3] 118)) := ⟨_, rfl⟩
  rw [← HW5.out] at hb hcg c0 c1 hg
  have q0 := cell_regrown hcg.c0
  have q1 := cell_regrown hcg.c1
  have q2 := cell_regrown hcg.c2
  have q3 := cell_regrown hcg.c3
  have p0 := cell_regrown c0
  have p1 := cell_regrown c1
  dsimp only [Nat.zero_add] at q0 q1 q2 q3
  have hPL := fun dd os => plI_any ⟨x0, x1, x2, x3⟩ w5 dd os
  have hAH := fun dd os => ahI_any h k x0 x1 w5 dd os
  dsimp only at hPL
  generalize aheadB h k x0 x1 = r at hAH ⊢
  clear hcg c0 c1 hc0 hc1
  go_enter Tryz.func210, Tryz.ntmps210
  go_wp2
  rw [← HW5.out]
  refine wp_region_quiet_below (by kernel_rfl) (by kernel_rfl) ?_
  repeat (go_big_quiet_step (first | with_reducible exact hPL _ _ | with_reducible exact hAH _ _))
  refine wpQuiet_nil ?_
  rintro w' ⟨⟨dq, osq⟩, rfl⟩
  have hbq := below_regrown w5 dq osq
  generalize grow (redrawn w5 dq) osq = w6 at hbq ⊢
  have hb6 : Below w.heap.size w w6 := hb.trans (hbq.mono hb.size)
  go_wp2
  go_ret
  exact ⟨rfl, hb6⟩
end

section
open Go.RowKit Go.Sort

theorem findIdx_hit {d : List En} {p : En → Bool} {i : Nat} (hi : i < d.length) (h : p d[i]! = true) (hb : ∀ k, k < i → p d[k]! = false) : d.findIdx p = i := by
  rw [List.findIdx_eq hi]
  refine ⟨by rw [getElem!_pos d i hi] at h; exact h, fun j hj => ?_⟩
  have := hb j hj
  rw [getElem!_pos d j (by omega)] at this
  exact this
theorem findIdx_miss {d : List En} {p : En → Bool} (hb : ∀ k, k < d.length → p d[k]! = false) : d.findIdx p = d.length := by
  rw [List.findIdx_eq_length]
  intro x hx
  obtain ⟨k, hk, rfl⟩ := List.getElem_of_mem hx
  have := hb k hk
  rw [getElem!_pos d k hk] at this
  exact this

set_option maxRecDepth 100000 in
set_option maxHeartbeats 1000000 in
/-- the first entry that fits, by whatever function is handed in -/
theorem firstOf_any (g : Nat) (cb : Array Value) (p : En → Bool) (v : Value) (d : List En) (w : World) (hv : EntsAt w v d) (hl : d.length ≤ 1048576)
    (eg : ∀ args w, (callFunc g args).run Tryz.prog w = .ok (.enter g args) w)
    (hp : ∀ i, i < d.length → ∀ W, Below w.heap.size w W → Calls Tryz.prog g (#[.agg #[.int .i64 d[i]!.hash, .int .i64 d[i]!.index, .string d[i]!.name, .int .i64 d[i]!.id]] ++ cb) W fun e w' => e = .returned (.bool (p d[i]!)) ∧ Below W.heap.size W w') :
    Calls Tryz.prog 176 #[v, .func (.func g) #[] cb] w fun e w' => e = .returned (.int .i64 (d.findIdx p : Nat)) ∧ Below w.heap.size w w' := by
  have HY : Hid (∀ i, i < d.length → p d[i]! = true → (∀ k, k < i → p d[k]! = false) → d.findIdx p = i) := fun i hi h hb => findIdx_hit hi h hb
  have HN : Hid ((∀ k, k < d.length → p d[k]! = false) → d.findIdx p = d.length) := fun h => findIdx_miss h
  generalize d.findIdx p = r at HY HN ⊢
  obtain ⟨a, ca, rfl, -, hva⟩ := hv
  obtain ⟨n, HL⟩ : ∃ n, Hid (n = d.length) := ⟨_, rfl⟩
  rw [← HL.out] at hva hl HY HN hp ⊢
  go_enter Tryz.func176, Tryz.ntmps176
  go_wp2
  go_loopw [9] (fun i wr => ∃ k : Nat, k ≤ n ∧ i = .int .i64 k ∧ Hid (∀ t, t < k → p d[t]! = false) ∧ Below w.heap.size w wr) (fun i _ => n - (intOf i).toNat)
  case atStart => exact ⟨0, Nat.zero_le _, rfl, fun t ht => by omega, Below.refl _ _⟩
  case round =>
    obtain ⟨k, hk, rfl, HNE, hbel⟩ := hrel
    by_cases hlt : k < n
    · obtain ⟨b1, o1, rfl, hb1, hc1⟩ := hva k hlt
      have hc1 := hc1.below hb1 hbel
      have HK : Hid (p d[k]! = true → r = k) := fun h => HY.out k hlt h HNE.out
      have HK2 : Hid (p d[k]! = false → ∀ t, t < k + 1 → p d[t]! = false) := fun h t ht => by
        by_cases e : t = k
        · rw [e]; exact h
        · exact HNE.out t (by omega)
      have hK := hp k hlt
      generalize p d[k]! = q at hK HK HK2
      generalize d[k]! = x at hc1 hK
      obtain ⟨x0, x1, x2, x3⟩ := x
      have c0 := hc1.c0
      have c1 := hc1.c1
      have c2 := hc1.c2
      have c3 := hc1.c3
      dsimp only at c0 c1 c2 c3 hK
      have hb5 := below_lit wr (.cells #[.int .i64 x0, .int .i64 x1, .string x2, .int .i64 x3] 118)
      have hbel5 := hbel.trans (hb5.mono hbel.size)
      have hcall := hK _ hbel5
      clear hc1 hva hp hK hb5
      cases q
      · go_wp2_with (go_at_fn g; refine hcall.mono ?_; rintro e w2 ⟨rfl, b2⟩)
        go_roundw
        case rel => exact ⟨k + 1, by omega, by go_num, HK2.out trivial, hbel5.trans (b2.mono hbel5.size)⟩
        case measure => simp [intOf]; omega
      · go_wp2_with (go_at_fn g; refine hcall.mono ?_; rintro e w2 ⟨rfl, b2⟩)
        go_ret
        exact ⟨ret_int (by rw [HK.out trivial]), hbel5.trans (b2.mono hbel5.size)⟩
    · obtain rfl : k = n := by omega
      have hr := HN.out HNE.out
      go_wp2
      go_ret
      exact ⟨ret_int (by rw [hr]), hbel⟩

theorem enters_fb : ∀ args w, (callFunc 210 args).run Tryz.prog w = .ok (.enter 210 args) w := Go.Proofs.enters_of Tryz.func210 (by kernel_rfl) rfl
theorem enters_fa : ∀ args w, (callFunc 177 args).run Tryz.prog w = .ok (.enter 177 args) w := Go.Proofs.enters_of Tryz.func177 (by kernel_rfl) rfl

set_option maxRecDepth 100000 in
set_option maxHeartbeats 1000000 in
theorem firstBehind_any (v : Value) (d : List En) (h k : Int) (w : World) (hv : EntsAt w v d) (hl : d.length ≤ 1048576) :
    Calls Tryz.prog 182 #[v, .agg #[.int .i64 h, .int .i64 k]] w fun e w' => e = .returned (.int .i64 (d.findIdx (fun e => behB e h k) : Nat)) ∧ Below w.heap.size w w' := by
  have hmf : ∀ (fn : Fn) (first cap : Array Value) (w : World), (Instr.makeFunc fn first cap).run Tryz.prog w = .ok (.func fn first cap) w := fun _ _ _ _ => rfl
  have hb := below_lit w (.cells #[.int .i64 h, .int .i64 k] 180)
  have hg := hs_alloc w (.cells #[.int .i64 h, .int .i64 k] 180)
  have hh : (w.alloc (.cells #[.int .i64 h, .int .i64 k] 180)).heap[w.heap.size]? = some (.cells #[.int .i64 h, .int .i64 k] 180 (0, 0)) := heap_alloc_new _ _
  have c0 := cell_of_row _ _ 0 _ _ (0, 0) hh
  have c1 := cell_of_row _ _ 1 _ _ (0, 0) hh
  have hcall := firstOf_any 210 #[.pointer (some ⟨w.heap.size, 0, none⟩)] (fun e => behB e h k) v d _ (hv.below hb) hl enters_fb (fun i hi W hW => behind1_any d[i]! h k w.heap.size W (by have := hW.size; omega) ((hW.cell (p := ⟨w.heap.size, 0, none⟩) (by show w.heap.size < _; omega)).trans c0) ((hW.cell (p := ⟨w.heap.size, 1, none⟩) (by show w.heap.size < _; omega)).trans c1))
  generalize d.findIdx (fun e => behB e h k) = r at hcall ⊢
  obtain ⟨a, ca, rfl, -, -⟩ := hv
  clear hh c0 c1 hg
  go_enter Tryz.func182, Tryz.ntmps182
  go_wp2_with (go_at_call 176; refine hcall.mono ?_; rintro e w2 ⟨rfl, b2⟩)
  go_ret
  exact ⟨rfl, hb.trans (b2.mono hb.size)⟩

def fitB (s : ByteArray) (e : En) : Bool := decide (e.hash = hashN s) && alikeB e.name s

set_option maxRecDepth 100000 in
set_option maxHeartbeats 1000000 in
/-- firstAlike's own function -/
theorem alike1_any (e : En) (s : ByteArray) (B1 B2 : Nat) (w : World) (hT : Tabs w) (hn : e.name.size ≤ 1048576) (hs : s.size ≤ 1048576) (hB1 : B1 < w.heap.size) (hB2 : B2 < w.heap.size) (hc0 : w.cell? ⟨B1, 0, none⟩ = some (.int .i64 (hashN s))) (hc1 : w.cell? ⟨B2, 0, none⟩ = some (.string s)) :
    Calls Tryz.prog 177 #[.agg #[.int .i64 e.hash, .int .i64 e.index, .string e.name, .int .i64 e.id], .pointer (some ⟨B1, 0, none⟩), .pointer (some ⟨B2, 0, none⟩)] w fun x w' => x = .returned (.bool (fitB s e)) ∧ Below w.heap.size w w' := by
  have HR : Hid (fitB s e = (decide (e.hash = hashN s) && alikeB e.name s)) := rfl
  generalize fitB s e = r at HR ⊢
  obtain ⟨x0, x1, x2, x3⟩ := e
  dsimp only at HR hn ⊢
  have hb := below_lit w (.cells #[.int .i64 x0, .int .i64 x1, .string x2, .int .i64 x3] 118)
  have HA := iAlike x2 s _ (hT.below hb) hn hs
  have c0 := (hb.cell (p := ⟨B1, 0, none⟩) hB1).trans hc0
  have c1 := (hb.cell (p := ⟨B2, 0, none⟩) hB2).trans hc1
  generalize hashN s = hN at *
  generalize alikeB x2 s = q at *
  clear hT
  by_cases h1 : x0 = hN
  · have h1' : (x0 == hN) = true := by simp [h1]
    have HRR : Hid (r = q) := by show _ = _; rw [HR.out]; simp [h1]
    clear h1
    go_enter Tryz.func177, Tryz.ntmps177
    go_wp2_with (go_at_call 178; refine HA.mono ?_; rintro e w2 ⟨rfl, b2⟩)
    go_ret
    exact ⟨ret_bool HRR.out.symm, hb.trans (b2.mono hb.size)⟩
  · have h1' : (x0 == hN) = false := by simp [h1]
    have HRR : Hid (r = false) := by show _ = _; rw [HR.out]; simp [h1]
    go_enter Tryz.func177, Tryz.ntmps177
    go_wp2
    go_ret
    exact ⟨ret_bool HRR.out.symm, hb⟩

theorem findIdx_cong {d : List En} {p q : En → Bool} (h : ∀ e ∈ d, p e = q e) : d.findIdx p = d.findIdx q := by
  induction d with
  | nil => rfl
  | cons x d ih =>
    rw [List.findIdx_cons, List.findIdx_cons, h x (by simp), ih fun e he => h e (by simp [he])]
/-- where a right directory has the name that is one with s -/
def atE (d : List En) (s : ByteArray) : Nat := d.findIdx (fitB s)
theorem atE_right {d : List En} (hr : RightP d) (s : ByteArray) : atE d s = (atN d s).getD d.length := by
  have h1 : atE d s = d.findIdx (fun e => alikeB e.name s) := findIdx_cong fun e he => by
    unfold fitB
    cases ha : alikeB e.name s
    · simp
    · have h2 := (entB_iff.1 (hr.each e he)).2.1
      rw [← alike_hash ha] at h2
      simp [h2]
  rw [h1, List.findIdx_eq_getD_findIdx?]
  rfl

set_option maxRecDepth 100000 in
set_option maxHeartbeats 1000000 in
theorem firstAlike_any (v : Value) (d : List En) (s : ByteArray) (w : World) (hT : Tabs w) (hC : CrcTab w) (hv : EntsAt w v d) (hd : Shorts d) (hs : s.size ≤ 1048576) (hl : d.length ≤ 1048576) :
    Calls Tryz.prog 131 #[v, .string s] w fun e w' => e = .returned (.int .i64 (atE d s : Nat)) ∧ Below w.heap.size w w' := by
  have hmf : ∀ (fn : Fn) (first cap : Array Value) (w : World), (Instr.makeFunc fn first cap).run Tryz.prog w = .ok (.func fn first cap) w := fun _ _ _ _ => rfl
  have hb := below_lit w (.cells #[.string s] 9)
  have hg := hs_alloc w (.cells #[.string s] 9)
  have hh : (w.alloc (.cells #[.string s] 9)).heap[w.heap.size]? = some (.cells #[.string s] 9 (0, 0)) := heap_alloc_new _ _
  obtain ⟨w1, HW1⟩ : ∃ w1, Hid (w1 = w.alloc (.cells #[.string s] 9)) := ⟨_, rfl⟩
  rw [← HW1.out] at hb hg hh
  have cs := cell_of_row _ _ 0 _ _ (0, 0) hh
  simp at cs
  have HH := iHashOf s w1 (hT.below hb) (hC.below hb) hs
  have HF : ∀ w2, Below w1.heap.size w1 w2 → Calls Tryz.prog 176 #[v, .func (.func 177) #[] #[.pointer (some ⟨w2.heap.size, 0, none⟩), .pointer (some ⟨w.heap.size, 0, none⟩)]] (w2.alloc (.cells #[.int .i64 (hashN s)] 3)) fun e w' => e = .returned (.int .i64 (atE d s : Nat)) ∧ Below w2.heap.size w2 w' := fun w2 b2 => by
    have hb3 := below_lit w2 (.cells #[.int .i64 (hashN s)] 3)
    have hg3 := hs_alloc w2 (.cells #[.int .i64 (hashN s)] 3)
    have hh3 : (w2.alloc (.cells #[.int .i64 (hashN s)] 3)).heap[w2.heap.size]? = some (.cells #[.int .i64 (hashN s)] 3 (0, 0)) := heap_alloc_new _ _
    have c3 := cell_of_row _ _ 0 _ _ (0, 0) hh3
    have b3 := b2.trans (hb3.mono b2.size)
    have c4 := (b3.cell (p := ⟨w.heap.size, 0, none⟩) (by show w.heap.size < _; omega)).trans cs
    have := b2.size
    refine (firstOf_any 177 #[.pointer (some ⟨w2.heap.size, 0, none⟩), .pointer (some ⟨w.heap.size, 0, none⟩)] (fitB s) v d _ ((hv.below hb).below b3) hl enters_fa (fun i hi W hW => alike1_any d[i]! s w2.heap.size w.heap.size W (((hT.below hb).below b3).below hW) (hd.at hi) hs (by have := hW.size; omega) (by have := hW.size; omega) ((hW.cell (p := ⟨w2.heap.size, 0, none⟩) (by show w2.heap.size < _; omega)).trans c3) ((hW.cell (p := ⟨w.heap.size, 0, none⟩) (by show w.heap.size < _; omega)).trans c4))).mono ?_
    rintro e w' ⟨rfl, b⟩
    exact ⟨rfl, hb3.trans (b.mono hb3.size)⟩
  generalize atE d s = r at HF ⊢
  generalize hashN s = hN at HH HF
  obtain ⟨a, ca, rfl, -, -⟩ := hv
  clear hh hT hC
  go_enter Tryz.func131, Tryz.ntmps131
  go_wp2_with fail
  rw [← HW1.out]
  refine HH.mono ?_
  rintro e w2 ⟨rfl, b2⟩
  have hF := HF w2 b2
  clear HF
  go_wp2_with fail
  refine hF.mono ?_
  rintro e w3 ⟨rfl, b3⟩
  have b4 := hb.trans ((b2.trans (b3.mono b2.size)).mono hb.size)
  go_wp2
  go_ret
  exact ⟨rfl, b4⟩

set_option maxRecDepth 100000 in
set_option maxHeartbeats 1000000 in
/-- what stands at a place: an entry, or none at the end of the row -/
theorem entAt_any (v : Value) (d : List En) (i : Nat) (w : World) (hv : EntsAt w v d) (hi : i ≤ d.length) :
    Calls Tryz.prog 130 #[v, .int .i64 i] w fun e w' => e = .returned (.tuple #[.agg #[.int .i64 (if i < d.length then d[i]! else default).hash, .int .i64 (if i < d.length then d[i]! else default).index, .string (if i < d.length then d[i]! else default).name, .int .i64 (if i < d.length then d[i]! else default).id], .bool (decide (i < d.length))]) ∧ Below w.heap.size w w' := by
  have hb1 := below_lit w (.cells #[.int .i64 0, .int .i64 0, .string ⟨#[]⟩, .int .i64 0] 118)
  obtain ⟨a, ca, rfl, -, hva⟩ := hv
  by_cases h : i < d.length
  · obtain ⟨b1, o1, rfl, hb0, hc1⟩ := hva i h
    have hin : (i : Int) < (d.length : Int) := by omega
    have hne : ((i : Int) == (d.length : Int)) = false := by simp; omega
    have HR : Hid ((if i < d.length then d[i]! else default) = d[i]!) := if_pos h
    have HD : Hid (decide (i < d.length) = true) := decide_eq_true h
    generalize (if i < d.length then d[i]! else default) = r at HR ⊢
    generalize decide (i < d.length) = rb at HD ⊢
    generalize d[i]! = x at hc1 HR
    obtain ⟨x0, x1, x2, x3⟩ := x
    generalize d.length = n at *
    have hc2 := hc1.below hb0 hb1
    have k0 := hc2.c0
    have k1 := hc2.c1
    have k2 := hc2.c2
    have k3 := hc2.c3
    dsimp only at k0 k1 k2 k3
    have HP : Hid _ := heap_alloc_new w (.cells #[.int .i64 x0, .int .i64 x1, .string x2, .int .i64 x3] 118)
    have HB : Hid _ := below_lit w (.cells #[.int .i64 x0, .int .i64 x1, .string x2, .int .i64 x3] 118)
    clear hc1 hc2 hva hb1
    go_enter Tryz.func130, Tryz.ntmps130
    go_wp2
    rw [HR.out, HD.out]
    exact bodyPost_ret (results_ent rfl _ _ w.heap.size _ rfl rfl HP.out) rfl ⟨rfl, HB.out⟩
  · have he : ((i : Int) == (d.length : Int)) = true := by simp; omega
    have HR : Hid ((if i < d.length then d[i]! else default) = default) := if_neg h
    have HD : Hid (decide (i < d.length) = false) := decide_eq_false h
    generalize (if i < d.length then d[i]! else default) = r at HR ⊢
    generalize decide (i < d.length) = rb at HD ⊢
    generalize d.length = n at *
    have HP : Hid _ := heap_alloc_new w (.cells #[.int .i64 0, .int .i64 0, .string ⟨#[]⟩, .int .i64 0] 118)
    have HB : Hid _ := hb1
    clear hva hb1
    go_enter Tryz.func130, Tryz.ntmps130
    go_wp2
    rw [HR.out, HD.out]
    exact bodyPost_ret (results_ent rfl _ _ w.heap.size _ rfl rfl HP.out) rfl ⟨rfl, HB.out⟩
end

section
open Go.RowKit Go.Sort

/-- the slice v is a row of texts that lies from block base on and is the call's own -/
def StrRow (w : World) (base : Nat) (v : Value) (l : List ByteArray) : Prop := w.ownsRow base 9 1 v l.length (l.map Value.string)
theorem Tryz.infoS : (Tryz.prog.info? 9).map (fun i => (i.zero, i.size, i.bytes)) = some (some (.string ⟨#[]⟩), 1, 16) := by kernel_rfl
theorem StrRow.cell {w : World} {base : Nat} {v : Value} {l : List ByteArray} (h : StrRow w base v l) : ∃ a cap, v = .slice a l.length cap ∧ ∀ t, t < l.length → ∃ b, a = some ⟨b, 0, none⟩ ∧ b < w.heap.size ∧ w.cell? ⟨b, t, none⟩ = some (.string l[t]!) := by
  rcases h.2 with ⟨rfl, h0⟩ | ⟨g, cap, cur, rfl, hg, hh, hnc, hcp, hcs, htake⟩
  · exact ⟨none, 0, by rw [h0], fun t ht => by omega⟩
  · refine ⟨some ⟨g, 0, none⟩, cap, rfl, fun t ht => ⟨g, rfl, lt_of_block hh, ?_⟩⟩
    have := World.ownsRow.cellAt h t (by simpa using ht)
    rw [this, List.getElem?_map, getElem!_pos l t ht, List.getElem?_eq_getElem ht]; rfl
theorem StrRow.below {w w' : World} {base : Nat} {v : Value} {l : List ByteArray} (h : StrRow w base v l) (b : Below w.heap.size w w') : StrRow w' base v l :=
  ⟨h.1, by
    rcases h.2 with h0 | ⟨g, cap, cur, e, hg, hh, r⟩
    · exact .inl h0
    · exact .inr ⟨g, cap, cur, e, hg, (b.block g (lt_of_block hh)).trans hh, r⟩⟩

/-- 'append(keys, key)' -/
theorem append_str (w : World) {ops : Array Oper} {rest : List Oper} {o : Oper} {a : Act} {Q : Exit → Act → World → Prop} (hgd : o.guard = none) (s x : Operand)
    (ho : o.op = .call { callee := .builtin .append, args := #[s, x], argTypes := #[43, 43] }) (base : Nat)
    (v : Value) (ad : Addr) (cap : Nat) (l : List ByteArray) (k : ByteArray) (hl : l.length + 1 ≤ 1099511627776) (hown : StrRow w base v l) (hc : w.cell? ad = some (.string k)) (hs : a.eval s = v) (hx : a.eval x = .slice (some ad) 1 cap)
    (hbase : base ≤ w.heap.size)
    (h : ∀ v' w', StrRow w' base v' (l ++ [k]) → Below base w w' → wpList Tryz.prog ops Q rest (a.put o.dst v') w') :
    wpList Tryz.prog ops Q (o :: rest) a w := by
  obtain ⟨i0, hi, hz0, hz1, hz2⟩ := info_parts Tryz.infoS
  refine wpList_append_own _ hgd s x 43 ho base 9 i0 _ 1 16 Tryz.underlying43 hi hz0 hz1 hz2 rfl (by decide) v l.length (l.map Value.string) hs hown ad 1 cap [.string k] hx rfl (fun j y hj => ?_) (fun u hu => by rw [List.mem_singleton.1 hu]; rfl) (by unfold maxLen; omega) (by omega) hbase ?_
  · have hj1 := (List.getElem?_eq_some_iff.1 hj).1
    obtain rfl : j = 0 := by simpa using hj1
    have : ad.add 0 = ad := by unfold Addr.add; split <;> simp_all
    rw [this, hc]; simpa using hj
  · intro v' w' hown' hgrow _
    refine h v' w' ?_ ?_
    · unfold StrRow
      rw [List.map_append, List.length_append]
      exact hown'
    · refine (Below.refl base w).grown hgrow hbase ?_
      intro k hk
      exact (World.ownsRow.lt hown k hk).1

def hasK (l : List ByteArray) (s : ByteArray) : Bool := l.any fun k => s.toList == k.toList
theorem hasK_yes {l : List ByteArray} {s : ByteArray} {t : Nat} (ht : t < l.length) (h : (s.toList == l[t]!.toList) = true) : hasK l s = true := by
  unfold hasK
  rw [List.any_eq_true]
  exact ⟨l[t], List.getElem_mem ht, by rw [getElem!_pos l t ht] at h; exact h⟩
theorem hasK_no {l : List ByteArray} {s : ByteArray} (h : ∀ t, t < l.length → (s.toList == l[t]!.toList) = false) : hasK l s = false := by
  unfold hasK
  rw [List.any_eq_false]
  intro k hk
  obtain ⟨t, ht, rfl⟩ := List.getElem_of_mem hk
  have := h t ht
  rw [getElem!_pos l t ht] at this
  simp [this]

set_option maxRecDepth 100000 in
set_option maxHeartbeats 1000000 in
theorem indexS_any (base : Nat) (v : Value) (l : List ByteArray) (s : ByteArray) (w : World) (hv : StrRow w base v l) (hl : l.length ≤ 1048576) :
    Calls Tryz.prog 197 #[v, .string s] w fun e w' => (∃ r : Int, e = .returned (.int .i64 r) ∧ decide (0 ≤ r) = hasK l s) ∧ w = w' := by
  have HY : Hid (∀ t, t < l.length → (s.toList == l[t]!.toList) = true → hasK l s = true) := fun t ht h => hasK_yes ht h
  have HN : Hid ((∀ t, t < l.length → (s.toList == l[t]!.toList) = false) → hasK l s = false) := fun h => hasK_no h
  generalize hasK l s = q at HY HN ⊢
  obtain ⟨a, ca, rfl, hva⟩ := hv.cell
  obtain ⟨n, HL⟩ : ∃ n, Hid (n = l.length) := ⟨_, rfl⟩
  rw [← HL.out] at hva hl HY HN ⊢
  clear hv
  go_enter Tryz.func197, Tryz.ntmps197
  go_wp2
  go_loopw [8] (fun i wr => ∃ k : Nat, k ≤ n ∧ i = .int .i64 k ∧ Hid (∀ t, t < k → (s.toList == l[t]!.toList) = false) ∧ w = wr) (fun i _ => n - (intOf i).toNat)
  case atStart => exact ⟨0, Nat.zero_le _, rfl, fun t ht => by omega, rfl⟩
  case round =>
    obtain ⟨k, hk, rfl, HNE, rfl⟩ := hrel
    by_cases hlt : k < n
    · obtain ⟨b1, rfl, hb1, hc1⟩ := hva k hlt
      have HK : Hid ((s.toList == l[k]!.toList) = true → q = true) := fun h => HY.out k hlt h
      have HK2 : Hid ((s.toList == l[k]!.toList) = false → ∀ t, t < k + 1 → (s.toList == l[t]!.toList) = false) := fun h t ht => by
        by_cases e : t = k
        · rw [e]; exact h
        · exact HNE.out t (by omega)
      generalize l[k]! = x at hc1 HK HK2
      clear hva
      cases hq : s.toList == x.toList
      · go_wp2
        go_roundw
        case rel => exact ⟨k + 1, by omega, by go_num, HK2.out hq, trivial⟩
        case measure => simp [intOf]; omega
      · go_wp2
        go_ret
        exact ⟨⟨_, rfl, by rw [HK.out hq]; simp⟩, rfl⟩
    · obtain rfl : k = n := by omega
      have hr := HN.out HNE.out
      go_wp2
      go_ret
      exact ⟨⟨_, rfl, by rw [hr]; rfl⟩, rfl⟩

set_option maxRecDepth 100000 in
set_option maxHeartbeats 1000000 in
theorem containsS_any (base : Nat) (v : Value) (l : List ByteArray) (s : ByteArray) (w : World) (hv : StrRow w base v l) (hl : l.length ≤ 1048576) :
    Calls Tryz.prog 155 #[v, .string s] w fun e w' => e = .returned (.bool (hasK l s)) ∧ w = w' := by
  have HI := indexS_any base v l s w hv hl
  generalize hasK l s = q at HI ⊢
  obtain ⟨a, ca, rfl, -⟩ := hv.cell
  clear hv
  go_enter Tryz.func155, Tryz.ntmps155
  go_wp2_with fail
  refine HI.mono ?_
  rintro e w1 ⟨⟨r, rfl, hr⟩, rfl⟩
  have HR : Hid (decide (0 ≤ r) = q) := hr
  clear hr HI
  by_cases h0 : 0 ≤ r
  · have HQ : Hid (q = true) := by show _ = _; rw [← HR.out]; simp [h0]
    go_wp2
    go_ret
    exact ⟨ret_bool HQ.out.symm, rfl⟩
  · go_wp2
    go_ret
    exact ⟨ret_bool HR.out, rfl⟩

/-- the part of an entry that its key decides -/
def entK (e : En) (key : ByteArray) : Bool := decide (e.hash = (crcV key).tmod 16) && inB e.index 0 12 && idB e.id
theorem entB_key (e : En) : entB e = ((keyN e.name).2 && entK e (keyN e.name).1) := by
  rw [entB_in, keyN_is]
  unfold entK
  cases h : (nameL e.name).isSome
  · simp
  · have : hashN e.name = (crcV (keyN e.name).1).tmod 16 := by
      unfold hashN; rw [keyN_is, h]; rfl
    rw [this]; rfl

theorem hkI_any (x : ByteArray) (w : World) (hC : CrcTab w) (hx : x.size ≤ 1048576) (d : Nat) (os : Array Obj) :
    Calls Tryz.prog 196 #[.string x] (grow (redrawn w d) os) fun e w'' => e = .returned (.int .i64 ((crcV x).tmod 16)) ∧ ∃ p : Regrown, w'' = grow (redrawn w p.d) p.os :=
  Calls.regrown_of (iHashKey x _ (hC.below (below_regrown w d os)) hx)
theorem btI_any (x a b : Int) (w : World) (d : Nat) (os : Array Obj) :
    Calls Tryz.prog 100 #[.int .i64 x, .int .i64 a, .int .i64 b] (grow (redrawn w d) os) fun e w'' => e = .returned (.bool (inB x a b)) ∧ ∃ p : Regrown, w'' = grow (redrawn w p.d) p.os :=
  Calls.regrown_of ((btw_any x a b _).mono fun e w' h => ⟨h.1, by rw [← h.2]; exact Below.refl _ _⟩)
theorem idI_any (x : Int) (w : World) (d : Nat) (os : Array Obj) :
    Calls Tryz.prog 179 #[.int .i64 x] (grow (redrawn w d) os) fun e w'' => e = .returned (.bool (idB x)) ∧ ∃ p : Regrown, w'' = grow (redrawn w p.d) p.os :=
  Calls.regrown_of ((idOk_any x _).mono fun e w' h => ⟨h.1, by rw [← h.2]; exact Below.refl _ _⟩)

set_option maxRecDepth 100000 in
set_option maxHeartbeats 2000000 in
theorem entOk_any (e : En) (key : ByteArray) (w : World) (hC : CrcTab w) (hx : key.size ≤ 1048576) :
    Calls Tryz.prog 154 #[.agg #[.int .i64 e.hash, .int .i64 e.index, .string e.name, .int .i64 e.id], .string key] w fun x w' => x = .returned (.bool (entK e key)) ∧ Below w.heap.size w w' := by
  have HR : Hid (entK e key = (decide (e.hash = (crcV key).tmod 16) && inB e.index 0 12 && idB e.id)) := rfl
  generalize entK e key = r at HR ⊢
  obtain ⟨x0, x1, x2, x3⟩ := e
  dsimp only at HR ⊢
  have hb := below_lit w (.cells #[.int .i64 x0, .int .i64 x1, .string x2, .int .i64 x3] 118)
  have hcg := new_cells w x0 x1 x2 x3
  have hC1 := hC.below hb
  obtain ⟨w5, HW5⟩ : ∃ w5, Hid (w5 = w.alloc (.cells #[.int .i64 x0, .int .i64 x1, .string x2, .int .i64 x3] 118)) := ⟨_, rfl⟩
  rw [← HW5.out] at hb hcg hC1
  have q0 := cell_regrown hcg.c0
  have q1 := cell_regrown hcg.c1
  have q3 := cell_regrown hcg.c3
  dsimp only [Nat.zero_add] at q0 q1 q3
  have hHK := fun dd os => hkI_any key w5 hC1 hx dd os
  have hBT := fun dd os => btI_any x1 0 12 w5 dd os
  have hID := fun dd os => idI_any x3 w5 dd os
  generalize (crcV key).tmod 16 = hk at hHK HR
  generalize inB x1 0 12 = b1 at hBT HR
  generalize idB x3 = b3 at hID HR
  clear hcg hC hC1
  by_cases h1 : x0 = hk
  · have h1' : (x0 == hk) = true := by simp [h1]
    cases b1
    · have HRR : Hid (r = false) := by show _ = _; rw [HR.out]; simp
      clear h1
      go_enter Tryz.func154, Tryz.ntmps154
      go_wp2
      rw [← HW5.out]
      refine wp_region_quiet_below (by kernel_rfl) (by kernel_rfl) ?_
      repeat (go_big_quiet_step (first | with_reducible exact hHK _ _ | with_reducible exact hBT _ _ | with_reducible exact hID _ _))
      refine wpQuiet_nil ?_
      rintro w' ⟨⟨dq, osq⟩, rfl⟩
      have hbq := below_regrown w5 dq osq
      generalize grow (redrawn w5 dq) osq = w6 at hbq ⊢
      have hb6 : Below w.heap.size w w6 := hb.trans (hbq.mono hb.size)
      go_wp2
      go_ret
      exact ⟨ret_bool HRR.out.symm, hb6⟩
    · have HRR : Hid (r = b3) := by show _ = _; rw [HR.out]; simp [h1]
      clear h1
      go_enter Tryz.func154, Tryz.ntmps154
      go_wp2
      rw [← HW5.out]
      refine wp_region_quiet_below (by kernel_rfl) (by kernel_rfl) ?_
      repeat (go_big_quiet_step (first | with_reducible exact hHK _ _ | with_reducible exact hBT _ _ | with_reducible exact hID _ _))
      refine wpQuiet_nil ?_
      rintro w' ⟨⟨dq, osq⟩, rfl⟩
      have hbq := below_regrown w5 dq osq
      generalize grow (redrawn w5 dq) osq = w6 at hbq ⊢
      have hb6 : Below w.heap.size w w6 := hb.trans (hbq.mono hb.size)
      go_wp2
      go_ret
      exact ⟨ret_bool HRR.out.symm, hb6⟩
  · have h1' : (x0 == hk) = false := by simp [h1]
    have HRR : Hid (r = false) := by show _ = _; rw [HR.out]; simp [h1]
    go_enter Tryz.func154, Tryz.ntmps154
    go_wp2
    rw [← HW5.out]
    refine wp_region_quiet_below (by kernel_rfl) (by kernel_rfl) ?_
    repeat (go_big_quiet_step (first | with_reducible exact hHK _ _ | with_reducible exact hBT _ _ | with_reducible exact hID _ _))
    refine wpQuiet_nil ?_
    rintro w' ⟨⟨dq, osq⟩, rfl⟩
    have hbq := below_regrown w5 dq osq
    generalize grow (redrawn w5 dq) osq = w6 at hbq ⊢
    have hb6 : Below w.heap.size w w6 := hb.trans (hbq.mono hb.size)
    go_wp2
    go_ret
    exact ⟨ret_bool HRR.out.symm, hb6⟩
end

section
open Go.RowKit Go.Sort

theorem eqPl (a b c d : Int) (w : World) : (binOp .eql 180 (.agg #[.int .i64 a, .int .i64 b]) (.agg #[.int .i64 c, .int .i64 d])).run Tryz.prog w = .ok (.bool (a == c && b == d)) w := by
  have u3 := Tryz.underlying3
  have a3 := Tryz.isAgg3
  have z3 := Tryz.sizeOf3
  have hS : Tryz.prog.underlying 180 = some (.struct (Tryz.prog.fieldsOf 180)) := by kernel_rfl
  have hp : Tryz.prog.stoodInHeld 180 = false := by kernel_rfl
  rw [run_eql_struct, show (10000 : Nat) = 9999 + 1 from rfl, run_equalIn_agg w 9999 180 _ _ hS hp]
  simp only [Program.fieldsOf, Tryz.underlying180]
  go_simp
  by_cases h1 : a = c <;> by_cases h2 : b = d <;> simp [h1, h2]

set_option maxRecDepth 100000 in
set_option maxHeartbeats 2000000 in
theorem least_any (v : Value) (d : List En) (h : Int) (w : World) (hv : EntsAt w v d) (hl : d.length ≤ 1048576) :
    Calls Tryz.prog 180 #[v, .int .i64 h] w fun e w' => e = .returned (.int .i64 (lstN h 0 d)) ∧ Below w.heap.size w w' := by
  have hb0 := below_lit w (.cells #[.int .i64 h, .int .i64 0] 180)
  have hh0 : (w.alloc (.cells #[.int .i64 h, .int .i64 0] 180)).heap[w.heap.size]? = some (.cells #[.int .i64 h, .int .i64 0] 180 (0, 0)) := heap_alloc_new _ _
  have HST : Hid (∀ k, k < d.length → lstN h 0 (d.take (k + 1)) = if d[k]!.hash = h ∧ d[k]!.index = lstN h 0 (d.take k) then lstN h 0 (d.take k) + 1 else lstN h 0 (d.take k)) := fun k hk => by
    rw [List.take_succ_eq_append_getElem hk, lstN_snoc, getElem!_pos d k hk]
  have HRG : Hid (∀ k, 0 ≤ lstN h 0 (d.take k) ∧ lstN h 0 (d.take k) ≤ 1048576) := fun k => by
    have h1 := lstN_range h 0 (d.take k)
    rw [List.length_take] at h1
    omega
  have HEN : Hid (lstN h 0 (d.take d.length) = lstN h 0 d) := by show _ = _; rw [List.take_length]
  obtain ⟨a, ca, rfl, -, hva⟩ := hv
  obtain ⟨n, HL⟩ : ∃ n, Hid (n = d.length) := ⟨_, rfl⟩
  rw [← HL.out] at hva hl HST HEN ⊢
  generalize lstN h 0 d = r at HEN ⊢
  obtain ⟨L, HLL⟩ : ∃ L : Nat → Int, Hid (∀ k, L k = lstN h 0 (d.take k)) := ⟨_, fun _ => rfl⟩
  have HST' : Hid (∀ k, k < n → L (k + 1) = if d[k]!.hash = h ∧ d[k]!.index = L k then L k + 1 else L k) := fun k hk => by rw [HLL.out, HLL.out]; exact HST.out k hk
  have HRG' : Hid (∀ k, 0 ≤ L k ∧ L k ≤ 1048576) := fun k => by rw [HLL.out]; exact HRG.out k
  have HEN' : Hid (L n = r) := by show _ = _; rw [HLL.out]; exact HEN.out
  have H0 : L 0 = 0 := by rw [HLL.out, List.take_zero]; rfl
  clear HST HRG HEN HLL
  go_enter Tryz.func180, Tryz.ntmps180
  go_wp2
  go_loopw [12] (fun i wr => ∃ k : Nat, k ≤ n ∧ i = .int .i64 k ∧ wr.heap[w.heap.size]? = some (.cells #[.int .i64 h, .int .i64 (L k)] 180 (0, 0)) ∧ Below w.heap.size w wr) (fun i _ => n - (intOf i).toNat)
  case atStart => exact ⟨0, Nat.zero_le _, rfl, by rw [H0]; exact hh0, hb0⟩
  case round =>
    obtain ⟨k, hk, rfl, hF, hbel⟩ := hrel
    have hFl := lt_of_block hF
    by_cases hlt : k < n
    · obtain ⟨b1, o1, rfl, hb1, hc1⟩ := hva k hlt
      have hc1 := hc1.below hb1 hbel
      have HS := HST'.out k hlt
      have HG := HRG'.out k
      obtain ⟨m', HM⟩ : ∃ m', Hid (L (k + 1) = m') := ⟨_, rfl⟩
      rw [HM.out] at HS
      generalize L k = m at HS HG hF
      generalize d[k]! = x at hc1 HS
      obtain ⟨x0, x1, x2, x3⟩ := x
      have HS : Hid (m' = if x0 = h ∧ x1 = m then m + 1 else m) := HS
      have c0 := hc1.c0
      have c1 := hc1.c1
      have c2 := hc1.c2
      have c3 := hc1.c3
      dsimp only at c0 c1 c2 c3
      have hb5 := below_lit wr (.cells #[.int .i64 x0, .int .i64 x1, .string x2, .int .i64 x3] 118)
      have hcg := new_cells wr x0 x1 x2 x3
      have hbel5 := hbel.trans (hb5.mono hbel.size)
      have hF5 := (hb5.block _ hFl).trans hF
      obtain ⟨w5, HW5⟩ : ∃ w5, Hid (w5 = wr.alloc (.cells #[.int .i64 x0, .int .i64 x1, .string x2, .int .i64 x3] 118)) := ⟨_, rfl⟩
      rw [← HW5.out] at hbel5 hcg hF5
      have e0 := cell_of_row w5 _ 0 _ _ (0, 0) hF5
      have e1 := cell_of_row w5 _ 1 _ _ (0, 0) hF5
      simp at e0 e1
      have q0 := cell_regrown hcg.c0
      have q1 := cell_regrown hcg.c1
      have q2 := cell_regrown hcg.c2
      have q3 := cell_regrown hcg.c3
      have p0 := cell_regrown e0
      have p1 := cell_regrown e1
      dsimp only [Nat.zero_add] at q0 q1 q2 q3
      have hPL := fun dd os => plI_any ⟨x0, x1, x2, x3⟩ w5 dd os
      dsimp only at hPL
      have hEQ := fun w' => eqPl x0 x1 h m w'
      obtain ⟨q, HQ⟩ : ∃ q : Bool, Hid (q = (x0 == h && x1 == m)) := ⟨_, rfl⟩
      rw [← HQ.out] at hEQ
      have HS2 : Hid (m' = if q then m + 1 else m) := by
        show _ = _
        rw [HS.out, HQ.out]
        by_cases h1 : x0 = h <;> by_cases h2 : x1 = m <;> simp [h1, h2]
      have hwr : IntKind.i64.wrap (m + 1) = m + 1 := by rw [IntKind.wrap_i64]; omega
      have hsz := hs_alloc wr (.cells #[.int .i64 x0, .int .i64 x1, .string x2, .int .i64 x3] 118)
      rw [← HW5.out] at hsz
      clear hc1 hva hcg e0 e1 HS HST' HRG' HEN' hb5 hF hb0 hh0 H0 HQ
      go_wp2
      rw [← HW5.out]
      refine wp_region_quiet_below (by kernel_rfl) (by kernel_rfl) ?_
      repeat (go_big_quiet_step (first | with_reducible exact hPL _ _))
      refine wpQuiet_nil ?_
      rintro w' ⟨⟨dq, osq⟩, rfl⟩
      have hbq := below_regrown w5 dq osq
      generalize grow (redrawn w5 dq) osq = w6 at hbq ⊢
      have hbel6 : Below w.heap.size w w6 := hbel5.trans (hbq.mono hbel5.size)
      have hF6 := (hbq.block w.heap.size (by omega)).trans hF5
      have d0 := cell_of_row w6 _ 0 _ _ (0, 0) hF6
      have d1 := cell_of_row w6 _ 1 _ _ (0, 0) hF6
      have f1 := frozen_of_row w6 _ 1 _ _ hF6
      simp at d0 d1
      have HF7 : Hid _ := Go.heap_setCell_same w6 w.heap.size 1 _ _ (.int .i64 (m + 1)) hF6
      have HF6 : Hid _ := hF6
      clear q0 q1 q2 q3 p0 p1 hPL hEQ hF6 hF5
      cases q
      · go_wp2
        go_roundw
        case rel => exact ⟨k + 1, by omega, by go_num, by rw [HM.out, HS2.out]; exact HF6.out, hbel6⟩
        case measure => simp [intOf]; omega
      · go_wp2
        go_roundw
        case rel => exact ⟨k + 1, by omega, by go_num, by rw [HM.out, HS2.out]; exact HF7.out, hbel6.setCell (p := ⟨w.heap.size, 1, none⟩) (Nat.le_refl _) _⟩
        case measure => simp [intOf]; omega
    · obtain rfl : k = n := by omega
      have d1 := cell_of_row wr _ 1 _ _ (0, 0) hF
      simp at d1
      clear hF hva
      go_wp2
      go_ret
      exact ⟨ret_int HEN'.out, hbel⟩
end

end Go.Proofs.YtgkcnleegefjcaaGreatDoor
