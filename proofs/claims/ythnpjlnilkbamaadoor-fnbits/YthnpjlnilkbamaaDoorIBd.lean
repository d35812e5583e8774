/- A bitmap in a word: impl.SetRun. -/
import Derived.Test.YthnpjlnilkbamaaDoorRows
import Derived.Test.YthnpjlnilkbamaaDoorIBb
namespace Go.Proofs.YthnpjlnilkbamaaDoor
open Go.RowKit Go.Sort

theorem map_in (p n : Int) : (inB p 0 23 && inB n 1 (24 - p)) = decide (1 ≤ n ∧ n ≤ 24 ∧ 0 ≤ p ∧ p ≤ 24 - n) := by
  rw [Bool.eq_iff_iff]
  simp only [inB, Bool.and_eq_true, decide_eq_true_eq]
  omega

set_option maxRecDepth 100000 in
set_option maxHeartbeats 2000000 in
theorem iSetRun (v : Value) (b : List Bool) (p n : Int) (x : Bool) (w : World) (hv : BosAt w v b) :
    Calls Tryd.prog 9 #[v, .int .i64 p, .int .i64 n, .bool x] w fun e w' => SaysSt w (setRunN b p n x) (setRunB b p n x) e w' := by
  have HB := iBitsOk v b w hv
  by_cases hb : b.length = 24
  · rw [decide_eq_true hb] at HB
    have HC := fun h => setRunN_can (b := b) (p := p) (n := n) (v := x) hb h
    have HNC := fun h => setRunN_cannot (b := b) (p := p) (n := n) (v := x) hb h
    generalize setRunN b p n x = L at HC HNC ⊢
    generalize setRunB b p n x = r at HC HNC ⊢
    have HM := iInMap p n w
    rw [map_in] at HM
    have HK := cloneBo_any v b w hv (by omega)
    by_cases hin : 1 ≤ n ∧ n ≤ 24 ∧ 0 ≤ p ∧ p ≤ 24 - n
    · rw [decide_eq_true hin] at HM
      obtain ⟨h1, h2, h3, h4⟩ := hin
      have HF := iFlagsOf v b w hv hb
      have HR := iFree b hb w
      obtain ⟨q, rfl⟩ := Int.eq_ofNat_of_zero_le h3
      obtain ⟨m, rfl⟩ := Int.eq_ofNat_of_zero_le (show 0 ≤ n by omega)
      have HA := iFlagsAt q m (by omega) w
      have HCM := can_msk (x := x) hb (p := q) (n := m) (by omega) (by omega)
      have HSM := fun h => set_msk hb (p := q) (n := m) (x := x) h
      have hf := fN_lt24 hb
      have hg := frN_lt hb
      have hm := mskN_lt q m (by omega)
      have HL := iList (fN b ^^^ mskN q m) (Nat.lt_of_lt_of_le (Nat.xor_lt_two_pow (n := 24) hf hm) (by decide)) w
      have e1 : bits .xor .u32 ((fN b : Nat) : Int) ((mskN q m : Nat) : Int) = (fN b ^^^ mskN q m : Nat) := u32_xor_nat _ _ (by omega) (by omega)
      have e2 : bits .and .u32 ((fN b : Nat) : Int) ((mskN q m : Nat) : Int) = (fN b &&& mskN q m : Nat) := u32_and_nat _ _ (by omega) (by omega)
      have e3 : bits .and .u32 ((frN b : Nat) : Int) ((mskN q m : Nat) : Int) = (frN b &&& mskN q m : Nat) := u32_and_nat _ _ (by omega) (by omega)
      generalize blN (fN b ^^^ mskN q m) = L2 at HL HSM
      generalize fN b ^^^ mskN q m = z at HL e1
      obtain ⟨a, ca, rfl, -, -⟩ := hv
      rw [hb] at HB HF HK ⊢
      have hcan : Hid (canSet b q m x → L = L2 ∧ r = true) := fun h => ⟨(HC h).1.trans (HSM h).symm, (HC h).2⟩
      have hcant : Hid (¬ canSet b q m x → L = b ∧ r = false) := fun h => HNC h
      clear HC HNC HSM
      have fin1 : Hid (∀ u w', L = b ∧ r = false → BoRow w' w.heap.size u b → Below w.heap.size w w' → SaysSt w L r (.returned (.tuple #[u, .bool false])) w') := fun u w' h h2 h3 => ⟨u, by rw [h.2], by rw [h.1]; exact h2, h3⟩
      have fin2 : Hid (∀ u w', L = L2 ∧ r = true → BoRow w' w.heap.size u L2 → Below w.heap.size w w' → SaysSt w L r (.returned (.tuple #[u, .bool true])) w') := fun u w' h h2 h3 => ⟨u, by rw [h.2], by rw [h.1]; exact h2, h3⟩
      cases x
      · rw [if_neg (by decide)] at HCM
        generalize frN b &&& mskN q m = t at HCM e3
        generalize fN b &&& mskN q m = t2 at e2
        generalize fN b = f at *
        generalize frN b = g at *
        generalize mskN q m = k at *
        by_cases ht : t = 0
        · have R : Hid (L = L2 ∧ r = true) := hcan.out (HCM.1 ht)
          subst ht
          clear HCM hcan hcant fin1 e2 h1 h2 h3 h4
          go_enter Tryd.func9, Tryd.ntmps9
          go_wp2_with fail
          refine HB.mono ?_
          rintro e w1 ⟨rfl, rfl⟩
          go_wp2_with fail
          refine HM.mono ?_
          rintro e w1 ⟨rfl, rfl⟩
          go_wp2_with fail
          refine HF.mono ?_
          rintro e w1 ⟨rfl, rfl⟩
          go_wp2_with fail
          refine HA.mono ?_
          rintro e w1 ⟨rfl, rfl⟩
          go_wp2_with fail
          refine HR.mono ?_
          rintro e w1 ⟨rfl, rfl⟩
          go_wp2_with fail
          refine HL.mono ?_
          rintro e w2 ⟨u, rfl, r2, b2⟩
          go_wp2
          exact bodyPost_ret (v := .tuple #[u, .bool true]) (by simp [results, Tryd.results9, go_sem]) rfl (fin2.out u w2 R.out r2 b2)
        · have R : Hid (L = b ∧ r = false) := hcant.out fun h => ht (HCM.2 h)
          have ht2 : ((t : Int) != 0) = true := by simp; omega
          clear HCM hcan hcant fin2 e2 h1 h2 h3 h4 ht
          go_enter Tryd.func9, Tryd.ntmps9
          go_wp2_with fail
          refine HB.mono ?_
          rintro e w1 ⟨rfl, rfl⟩
          go_wp2_with fail
          refine HM.mono ?_
          rintro e w1 ⟨rfl, rfl⟩
          go_wp2_with fail
          refine HF.mono ?_
          rintro e w1 ⟨rfl, rfl⟩
          go_wp2_with fail
          refine HA.mono ?_
          rintro e w1 ⟨rfl, rfl⟩
          go_wp2_with fail
          refine HR.mono ?_
          rintro e w1 ⟨rfl, rfl⟩
          go_wp2_with fail
          refine HK.mono ?_
          rintro e w2 ⟨u, rfl, r2, b2⟩
          go_wp2
          exact bodyPost_ret (v := .tuple #[u, .bool false]) (by simp [results, Tryd.results9, go_sem]) rfl (fin1.out u w2 R.out r2 b2)
      · rw [if_pos rfl] at HCM
        generalize frN b &&& mskN q m = t2 at e3
        generalize fN b &&& mskN q m = t at HCM e2
        generalize fN b = f at *
        generalize frN b = g at *
        generalize mskN q m = k at *
        by_cases ht : t = 0
        · have R : Hid (L = L2 ∧ r = true) := hcan.out (HCM.1 ht)
          subst ht
          clear HCM hcan hcant fin1 e3 h1 h2 h3 h4
          go_enter Tryd.func9, Tryd.ntmps9
          go_wp2_with fail
          refine HB.mono ?_
          rintro e w1 ⟨rfl, rfl⟩
          go_wp2_with fail
          refine HM.mono ?_
          rintro e w1 ⟨rfl, rfl⟩
          go_wp2_with fail
          refine HF.mono ?_
          rintro e w1 ⟨rfl, rfl⟩
          go_wp2_with fail
          refine HA.mono ?_
          rintro e w1 ⟨rfl, rfl⟩
          go_wp2_with fail
          refine HR.mono ?_
          rintro e w1 ⟨rfl, rfl⟩
          go_wp2_with fail
          refine HL.mono ?_
          rintro e w2 ⟨u, rfl, r2, b2⟩
          go_wp2
          exact bodyPost_ret (v := .tuple #[u, .bool true]) (by simp [results, Tryd.results9, go_sem]) rfl (fin2.out u w2 R.out r2 b2)
        · have R : Hid (L = b ∧ r = false) := hcant.out fun h => ht (HCM.2 h)
          have ht2 : ((t : Int) != 0) = true := by simp; omega
          clear HCM hcan hcant fin2 e3 h1 h2 h3 h4 ht
          go_enter Tryd.func9, Tryd.ntmps9
          go_wp2_with fail
          refine HB.mono ?_
          rintro e w1 ⟨rfl, rfl⟩
          go_wp2_with fail
          refine HM.mono ?_
          rintro e w1 ⟨rfl, rfl⟩
          go_wp2_with fail
          refine HF.mono ?_
          rintro e w1 ⟨rfl, rfl⟩
          go_wp2_with fail
          refine HA.mono ?_
          rintro e w1 ⟨rfl, rfl⟩
          go_wp2_with fail
          refine HR.mono ?_
          rintro e w1 ⟨rfl, rfl⟩
          go_wp2_with fail
          refine HK.mono ?_
          rintro e w2 ⟨u, rfl, r2, b2⟩
          go_wp2
          exact bodyPost_ret (v := .tuple #[u, .bool false]) (by simp [results, Tryd.results9, go_sem]) rfl (fin1.out u w2 R.out r2 b2)
    · rw [decide_eq_false hin] at HM
      obtain ⟨n1, n2⟩ := HNC fun h => hin ⟨h.1, h.2.1, h.2.2.1, h.2.2.2.1⟩
      subst n1 n2
      clear hb hin HC HNC
      go_enter Tryd.func9, Tryd.ntmps9
      go_wp2_with fail
      refine HB.mono ?_
      rintro e w1 ⟨rfl, rfl⟩
      go_wp2_with fail
      refine HM.mono ?_
      rintro e w1 ⟨rfl, rfl⟩
      go_wp2_with fail
      refine HK.mono ?_
      rintro e w2 ⟨u, rfl, r2, b2⟩
      go_wp2
      exact bodyPost_ret (v := .tuple #[u, .bool false]) (by simp [results, Tryd.results9, go_sem]) rfl ⟨u, rfl, r2, b2⟩
  · rw [decide_eq_false hb] at HB
    obtain ⟨e1, e2⟩ := setRunN_no (p := p) (n := n) (v := x) hb
    rw [e1, e2]
    go_enter Tryd.func9, Tryd.ntmps9
    go_wp2_with fail
    refine HB.mono ?_
    rintro e w1 ⟨rfl, rfl⟩
    go_wp2
    exact bodyPost_ret (v := .tuple #[.slice none 0 0, .bool false]) (by simp [results, Tryd.results9, go_sem]) rfl ⟨_, rfl, World.ownsRow_nil _ _ _ _, Below.refl _ _⟩
end Go.Proofs.YthnpjlnilkbamaaDoor
