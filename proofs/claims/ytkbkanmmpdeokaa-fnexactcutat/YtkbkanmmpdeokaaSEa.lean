/- Extents, specification's side: is a block among those of a map; the map of right extents. -/
import Derived.Test.YtkbkanmmpdeokaaRows
import Derived.Test.YtkbkanmmpdeokaaExW
import Derived.Test.YtkbkanmmpdeokaaExR
import Derived.Test.YtkbkanmmpdeokaaIntS
import Derived.Lib.QuietBelow
import Derived.BigQuiet
namespace Go.Proofs.Ytkbkanmmpdeokaa
open Go.RowKit Go.Sort

set_option maxRecDepth 100000 in
set_option maxHeartbeats 1000000 in
theorem l16Has_any (v : Value) (m : List Int) (x : Int) (w : World) (hl : m.length ≤ 1048576) (hv : IntsAt w v m) :
    Calls Try.prog 43 #[v, .int .i64 x] w fun e w' => e = .returned (.bool (m.contains x)) ∧ w' = w := by
  obtain ⟨a, cap, rfl, hc⟩ := hv
  obtain ⟨r, HR⟩ : ∃ r, Hid (r = m.contains x) := ⟨_, rfl⟩
  have HY : Hid (∀ t, t < m.length → m.getD t 0 = x → r = true) := fun t ht e => by
    rw [HR.out, List.contains_iff_mem, ← e]
    have : m.getD t 0 = m[t] := by simp [List.getD, ht]
    rw [this]
    exact List.getElem_mem ht
  have HN : Hid ((∀ t, t < m.length → m.getD t 0 ≠ x) → r = false) := fun h => by
    rw [HR.out]
    refine Bool.eq_false_iff.2 fun hm => ?_
    obtain ⟨t, ht, e⟩ := List.getElem_of_mem (List.contains_iff_mem.1 hm)
    exact h t ht (by simp [List.getD, ht, e])
  rw [← HR.out]
  clear HR
  obtain ⟨n, HL⟩ : ∃ n, Hid (n = m.length) := ⟨_, rfl⟩
  rw [← HL.out] at hl hc HY HN ⊢
  go_enter Try.func43, Try.ntmps43
  go_wp2
  go_loopw [5] (fun iv wr => ∃ k : Nat, k ≤ n ∧ iv = .int .i64 k ∧ Hid (∀ t, t < k → m.getD t 0 ≠ x) ∧ wr = w) (fun iv _ => n - (intOf iv).toNat)
  case atStart => exact ⟨0, Nat.zero_le _, rfl, fun t ht => by omega, rfl⟩
  case round =>
    obtain ⟨k, hk, rfl, HK, rfl⟩ := hrel
    by_cases hlt : k < n
    · have hltz : (k : Int) < (n : Int) := by omega
      obtain ⟨b, off, rfl, hb, hcc⟩ := hc k hlt
      have HY1 := HY.out k hlt
      have HX : Hid (m.getD k 0 ≠ x → ∀ t, t < k + 1 → m.getD t 0 ≠ x) := fun h t ht => by
        by_cases e : t = k
        · rw [e]; exact h
        · exact HK.out t (by omega)
      generalize m.getD k 0 = y at hcc HY1 HX
      clear HK HY HN hc
      by_cases e : y = x
      · have hr : Hid (true = r) := (HY1 e).symm
        have eb : (y == x) = true := by rw [beq_iff_eq]; exact e
        clear e HX HY1
        go_wp2
        go_ret
        exact ⟨by rw [← hr.out]; rfl, rfl⟩
      · have H2 : Hid _ := HX.out e
        have eb : (y == x) = false := by rw [beq_eq_false_iff_ne]; exact e
        clear e HX HY1
        go_wp2
        go_roundw
        case rel => exact ⟨k + 1, by omega, by go_num, H2.out, by first | rfl | trivial⟩
        case measure => simp [intOf]; omega
    · obtain rfl : k = n := by omega
      have hr : Hid (false = r) := (HN.out HK.out).symm
      have hltz : ¬ (k : Int) < (k : Int) := by omega
      clear HK HY HN hc
      go_wp2
      go_ret
      exact ⟨by rw [← hr.out]; rfl, rfl⟩

/-- the map while an extent is put into it: its first k blocks -/
def mapK (m : List Int) (x : Ex) (k : Nat) : List Int := (List.range 12).map fun j : Nat => if x.p ≤ (j : Int) ∧ (j : Int) < x.p + k then x.b + (j - x.p) else m[j]!
theorem mapK_len (m : List Int) (x : Ex) (k : Nat) : (mapK m x k).length = 12 := by simp [mapK]
theorem mapK_get (m : List Int) (x : Ex) (k j : Nat) (h : j < 12) : (mapK m x k)[j]! = if x.p ≤ (j : Int) ∧ (j : Int) < x.p + k then x.b + (j - x.p) else m[j]! := by
  rw [getElem!_pos _ j (by rw [mapK_len]; exact h)]
  simp [mapK]
theorem map_ext (l m : List Int) (hl : l.length = 12) (hm : m.length = 12) (h : ∀ j, j < 12 → l[j]! = m[j]!) : l = m := by
  apply List.ext_getElem (by omega)
  intro i h1 h2
  have := h i (by omega)
  rwa [getElem!_pos l i h1, getElem!_pos m i h2] at this
theorem mapK_zero (m : List Int) (x : Ex) (hm : m.length = 12) : mapK m x 0 = m :=
  map_ext _ _ (mapK_len ..) hm fun j hj => by rw [mapK_get m x 0 j hj, if_neg (by omega)]
theorem mapK_step (m : List Int) (x : Ex) (k p : Nat) (hp : (p : Int) = x.p + k) (hk : p < 12) : (mapK m x k).set p (x.b + k) = mapK m x (k + 1) :=
  map_ext _ _ (by rw [List.length_set, mapK_len]) (mapK_len ..) fun j hj => by
    rw [set_get _ _ _ _ (by rw [mapK_len]; exact hk), mapK_get m x _ j hj, mapK_get m x _ j hj]
    by_cases e : j = p
    · subst e
      rw [if_pos rfl, if_pos (by omega)]
      omega
    · rw [if_neg e]
      by_cases e2 : x.p ≤ (j : Int) ∧ (j : Int) < x.p + k
      · rw [if_pos e2, if_pos (by omega)]
      · rw [if_neg e2, if_neg (by omega)]
theorem ExR.take {l : List Ex} (h : ExR l) (k : Nat) : ExR (l.take k) := by
  have := List.take_append_drop k l
  rw [← this] at h
  exact h.init
/-- an extent more: its blocks more in the map -/
theorem exM_snoc {l : List Ex} {x : Ex} (h : ExR (l ++ [x])) (n : Nat) (hn : x.n = n) : exM (l ++ [x]) = mapK (exM l) x n := by
  have hl := ((exR_snoc l x).1 h).1
  refine map_ext _ _ (exM_len _) (mapK_len ..) fun j hj => ?_
  rw [mapK_get _ _ _ _ hj]
  by_cases e : x.p ≤ (j : Int) ∧ (j : Int) < x.p + n
  · rw [if_pos e]
    exact exM_some h.g hj ((ExAt_append _ _ _ _).2 (.inr ⟨x, by simp, by omega, by omega, rfl⟩))
  · rw [if_neg e]
    by_cases hex : ∃ c, ExAt l j c
    · obtain ⟨c, hc⟩ := hex
      rw [exM_some hl.g hj hc]
      exact exM_some h.g hj ((ExAt_append _ _ _ _).2 (.inl hc))
    · rw [exM_none hj (fun c hc => hex ⟨c, hc⟩)]
      refine exM_none hj fun c hc => ?_
      rcases (ExAt_append _ _ _ _).1 hc with hc | ⟨r, hr, h1, h2, h3⟩
      · exact hex ⟨c, hc⟩
      · rw [List.mem_singleton.1 hr] at h1 h2
        omega
theorem exM_nil : exM [] = List.replicate 12 (-1) := by decide
end Go.Proofs.Ytkbkanmmpdeokaa
