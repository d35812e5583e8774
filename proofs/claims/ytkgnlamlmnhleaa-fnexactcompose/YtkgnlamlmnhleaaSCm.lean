/- Signs put together: spec.Compose. -/
import Derived.Test.YtkgnlamlmnhleaaRows
import Derived.Test.YtkgnlamlmnhleaaCmN
import Derived.Test.YtkgnlamlmnhleaaSPa
import Derived.Test.YtkgnlamlmnhleaaSAp
import Derived.Deep.Cut
import Derived.Deep.CutRange
namespace Go.Proofs.Ytkgnlamlmnhleaa
open Go.RowKit

theorem cmp_idx (x : List Int) : ((cmpS x).2 = -1 ∨ (0 ≤ (cmpS x).2 ∧ (cmpS x).2 < ((cmpS x).1.length : Int))) ∧ (cmpS x).1.length ≤ x.length := by
  have key : ∀ (y : List Int) (s : List Int × Int) (n : Nat), (s.2 = -1 ∨ (0 ≤ s.2 ∧ s.2 < (s.1.length : Int))) → s.1.length ≤ n →
      ((y.foldl cmpStep s).2 = -1 ∨ (0 ≤ (y.foldl cmpStep s).2 ∧ (y.foldl cmpStep s).2 < ((y.foldl cmpStep s).1.length : Int))) ∧ (y.foldl cmpStep s).1.length ≤ n + y.length := by
    intro y
    induction y with
    | nil => intro s n h hn; exact ⟨h, by simpa using hn⟩
    | cons d y ih =>
      intro s n h hn
      have hp : ((pushS s d).2 = -1 ∨ (0 ≤ (pushS s d).2 ∧ (pushS s d).2 < ((pushS s d).1.length : Int))) ∧ (pushS s d).1.length ≤ n + 1 := by
        unfold pushS
        constructor
        · split
          · right; simp; omega
          · rcases h with h | h
            · left; exact h
            · right; simp; omega
        · simp; omega
      have hs : ((cmpStep s d).2 = -1 ∨ (0 ≤ (cmpStep s d).2 ∧ (cmpStep s d).2 < ((cmpStep s d).1.length : Int))) ∧ (cmpStep s d).1.length ≤ n + 1 := by
        unfold cmpStep
        split
        · split
          · rw [List.length_set]; exact ⟨h, by omega⟩
          · exact hp
        · exact hp
      have := ih (cmpStep s d) (n + 1) hs.1 hs.2
      rw [List.length_cons]
      exact ⟨this.1, by have := this.2; show _ ≤ _; rw [List.foldl_cons]; omega⟩
  have := key x ([], -1) 0 (.inl rfl) (Nat.zero_le _)
  unfold cmpS
  exact ⟨this.1, by have := this.2; omega⟩
theorem cmp_succ (x : List Int) (k : Nat) (hk : k < x.length) : cmpS (x.take (k + 1)) = cmpStep (cmpS (x.take k)) (x.getD k 0) := by
  unfold cmpS
  rw [List.take_add_one, List.getElem?_eq_getElem hk, List.foldl_append]
  simp [List.getD, hk]
theorem apart_len9 (l : List Int) : (apartN l).length ≤ 9 * l.length := by
  unfold apartN srtN
  rw [List.length_reverse, srtR_len]
  have := flat_len takeN 9 (fun c => (takeN_ne c).2) l
  simpa using this
theorem step_free {o : List Int} {t d c : Int} (hf : freeB o t d = true) (hp : pairN (o.getD t.toNat 0) d = some c) : cmpStep (o, t) d = (o.set t.toNat c, t) := by
  unfold cmpStep; rw [if_pos hf]; dsimp only; rw [hp]
theorem step_none {o : List Int} {t d : Int} (hp : pairN (o.getD t.toNat 0) d = none) : cmpStep (o, t) d = pushS (o, t) d := by
  unfold cmpStep
  split
  · dsimp only; rw [hp]
  · rfl
theorem step_not {o : List Int} {t d : Int} (hf : freeB o t d = false) : cmpStep (o, t) d = pushS (o, t) d := by
  unfold cmpStep; rw [if_neg (by simp [hf])]

set_option maxRecDepth 100000 in
set_option maxHeartbeats 2000000 in
theorem sCompose (v : Value) (l : List Int) (w : World) (hl : l.length ≤ 1048576) (hv : IntsAt w v l) :
    Calls Try.prog 14 #[v] w fun e w' => ∃ u, e = .returned u ∧ IntRow w' w.heap.size u (composeN l) ∧ Below w.heap.size w w' := by
  have HA := sApart v l w hl hv
  have hx9 := apart_len9 l
  have HR : Hid (composeN l = (cmpS (apartN l)).1) := rfl
  generalize composeN l = r at HR ⊢
  generalize apartN l = x at HA hx9 HR
  have HIX := fun k => cmp_idx (x.take k)
  have HSU : Hid (∀ k, k < x.length → cmpS (x.take (k + 1)) = cmpStep (cmpS (x.take k)) (x.getD k 0)) := fun k hk => cmp_succ x k hk
  have HEN : Hid ((cmpS (x.take x.length)).1 = r) := by show _ = _; rw [List.take_length]; exact HR.out.symm
  have H0 : cmpS (x.take 0) = ([], -1) := rfl
  obtain ⟨n, HN⟩ : ∃ n, Hid (n = x.length) := ⟨_, rfl⟩
  have hn : n ≤ 9437184 := by rw [HN.out]; omega
  obtain ⟨av, cv, rfl, -⟩ := hv
  clear hx9 HR
  go_enter Try.func14, Try.ntmps14
  go_wp2_with fail
  refine HA.mono ?_
  rintro e w1 ⟨ux, rfl, rowx, b1⟩
  obtain ⟨ax, cx, rfl, hxa⟩ := rowx.at
  rw [← HN.out] at hxa HSU HEN ⊢
  clear rowx HA
  go_wp2
  go_loopw [4, 5, 6] (fun ov tv iv wr => ∃ k : Nat, k ≤ n ∧ iv = .int .i64 k ∧ IntRow wr w1.heap.size ov (cmpS (x.take k)).1 ∧ tv = .int .i64 (cmpS (x.take k)).2 ∧ Below w1.heap.size w1 wr) (fun _ _ iv _ => n - (intOf iv).toNat)
  case atStart => exact ⟨0, Nat.zero_le _, rfl, by rw [H0]; exact lit_at w1 #[] [] 0 rfl rfl (by decide), by rw [H0], below_lit _ _⟩
  case round =>
    obtain ⟨k, hk, rfl, hrow, rfl, hbel⟩ := hrel
    by_cases hlt : k < n
    · obtain ⟨bx, ox, rfl, hbx, hcx⟩ := hxa k hlt
      have HCX : Hid (∀ W, Below w1.heap.size w1 W → W.cell? ⟨bx, ox + k, none⟩ = some (.int .i64 (x.getD k 0))) := fun W h => (h.cell (p := ⟨bx, ox + k, none⟩) hbx).trans hcx
      have hS := HSU.out k hlt
      have hI := HIX k
      have hkl : (x.take k).length ≤ k := by rw [List.length_take]; exact Nat.min_le_left _ _
      generalize x.getD k 0 = d at HCX hS
      generalize cmpS (x.take k) = s at hS hI hrow ⊢
      obtain ⟨o, t⟩ := s
      dsimp only at hI hrow ⊢
      have HST : Hid (cmpS (x.take (k + 1)) = cmpStep (o, t) d) := hS
      obtain ⟨hI1, hI2⟩ := hI
      have hon : o.length ≤ 9437184 := by omega
      obtain ⟨ao, co, rfl, hoc⟩ := hrow.at
      have hcx := HCX.out _ hbel
      have HCL := sClass d wr
      have HCL2 := fun c W => sClass c W
      clear hS hcx HSU HIX HEN hkl hI2 hxa
      have hcx := HCX.out _ hbel
      go_upto_region 9 with (go_at_call 10; refine HCL.mono ?_; rintro e w2 ⟨rfl, b2⟩)
      have row2 := hrow.below b2
      have hbel2 := hbel.trans (b2.mono hbel.size)
      clear HCL hoc hcx hrow b2 hbel
      have HF : Hid (freeB o t d = (decide (0 ≤ t) && (decide (t = (o.length : Int) - 1) || (decide (0 < clsN (o.getD (o.length - 1) 0)) && decide (clsN (o.getD (o.length - 1) 0) < clsN d))))) := rfl
      obtain ⟨m, HM⟩ : ∃ m, Hid (m = (o.length : Int) - 1) := ⟨_, rfl⟩
      obtain ⟨kd, HKD⟩ : ∃ kd, Hid (kd = clsN d) := ⟨_, rfl⟩
      rw [← HM.out, ← HKD.out] at HF ⊢
      have hm1 : m < (o.length : Int) := by rw [HM.out]; omega
      have hmt : m.toNat = o.length - 1 := by rw [HM.out]; omega
      rw [← hmt] at HF
      obtain ⟨fb, HFB⟩ : ∃ fb, Hid (fb = freeB o t d) := ⟨_, rfl⟩
      rw [← HFB.out] at HF
      go_cut [9] from 15 to 82 (fun fv wx => fv = .bool fb ∧ Below w2.heap.size w2 wx)
      case first =>
        by_cases h0 : 0 ≤ t
        · have h0b : (decide (t ≥ 0)) = true := decide_eq_true h0
          have hm0 : 0 ≤ m := by rw [HM.out]; omega
          obtain ⟨ao2, co2, e2, hoc⟩ := row2.at
          injection e2 with e3 e4 e5
          subst e3; subst e5
          obtain ⟨bo, oo, rfl, hbo, hco⟩ := hoc m.toNat (by omega)
          clear hoc hmt
          rw [decide_eq_true h0, Bool.true_and] at HF
          generalize o.getD m.toNat 0 = z at hco HF
          cases h1 : (t == m)
          · have HF2 : Hid (fb = (decide (0 < clsN z) && decide (clsN z < kd))) := by
              show _ = _
              rw [HF.out, decide_eq_false (by simpa using h1), Bool.false_or]
            clear HF
            have HC1 := HCL2 z w2
            have HC2 := fun w' (h : Below w2.heap.size w2 w') => HCL2 z w'
            have hcz : ∀ w', Below w2.heap.size w2 w' → w'.cell? ⟨bo, oo + m.toNat, none⟩ = some (.int .i64 z) := fun w' h => (h.cell (p := ⟨bo, oo + m.toNat, none⟩) hbo).trans hco
            generalize clsN z = kz at HC1 HC2 HF2
            by_cases h2 : 0 < kz
            · go_wp2_with fail
              refine HC1.mono ?_
              rintro e w3 ⟨rfl, b3⟩
              have c3 := hcz w3 b3
              go_wp2_with fail
              refine (HC2 w3 b3).mono ?_
              rintro e w4 ⟨rfl, b4⟩
              by_cases h3 : kz < kd
              · go_wp2_with fail
                go_meet
                exact ⟨by rw [HF2.out]; simp [h2, h3], b3.trans (b4.mono b3.size)⟩
              · go_wp2_with fail
                go_meet
                exact ⟨by rw [HF2.out, decide_eq_false (by omega : ¬ kz < kd), Bool.and_false], b3.trans (b4.mono b3.size)⟩
            · go_wp2_with fail
              refine HC1.mono ?_
              rintro e w3 ⟨rfl, b3⟩
              go_wp2_with fail
              go_meet
              exact ⟨by rw [HF2.out, decide_eq_false (by omega : ¬ 0 < kz), Bool.false_and], b3⟩
          · obtain rfl : fb = true := by rw [HF.out, decide_eq_true (by simpa using h1), Bool.true_or]
            go_wp2_with fail
            go_meet
            exact ⟨rfl, Below.refl _ _⟩
        · obtain rfl : fb = false := by rw [HF.out, decide_eq_false h0, Bool.false_and]
          go_wp2_with fail
          go_meet
          exact ⟨rfl, Below.refl _ _⟩
      case rest =>
        obtain ⟨rfl, hbx⟩ := hcut
        have rowc := row2.below hbx
        have hbelc := hbel2.trans (hbx.mono hbel2.size)
        have hcx := HCX.out _ hbelc
        clear row2 hbx hbel2 HM hm1 hmt HCL2
        cases fb
        · have HPU : Hid (cmpStep (o, t) d = pushS (o, t) d) := step_not HFB.out.symm
          clear HF HFB HCX
          have hkz : kd = 0 ∨ ¬ kd = 0 := Classical.em _
          rcases hkz with hkz | hkz
          · go_wp2_with (at_builtin; refine append_int wc rfl (.tmp 71) (.tmp 76) rfl w1.heap.size _ o d (by omega) rowc rfl rfl hbelc.size ?_; intro v8 w8 row8 b8; obtain ⟨a8, c8, rfl, -⟩ := row8.at)
            go_roundw
            case rel => exact ⟨k + 1, by omega, by go_num, by rw [HST.out, HPU.out, show o.length + 1 = (o ++ [d]).length by simp]; exact row8, by rw [HST.out, HPU.out]; unfold pushS; rw [if_pos (by rw [← HKD.out]; exact hkz)], hbelc.trans b8⟩
            case measure => simp [intOf]; omega
          · go_wp2_with (at_builtin; refine append_int wc rfl (.tmp 71) (.tmp 76) rfl w1.heap.size _ o d (by omega) rowc rfl rfl hbelc.size ?_; intro v8 w8 row8 b8; obtain ⟨a8, c8, rfl, -⟩ := row8.at)
            go_roundw
            case rel => exact ⟨k + 1, by omega, by go_num, by rw [HST.out, HPU.out, show o.length + 1 = (o ++ [d]).length by simp]; exact row8, by rw [HST.out, HPU.out]; unfold pushS; rw [if_neg (by rw [← HKD.out]; exact hkz)], hbelc.trans b8⟩
            case measure => simp [intOf]; omega
        · have h0 : 0 ≤ t := by
            by_cases h : 0 ≤ t
            · exact h
            · have := HF.out
              rw [decide_eq_false h, Bool.false_and] at this
              cases this
          have ht : t < (o.length : Int) := by omega
          obtain ⟨ao2, co2, e2, hoc⟩ := rowc.at
          injection e2 with e3 e4 e5
          subst e3; subst e5
          obtain ⟨bo, oo, rfl, hbo, hco⟩ := hoc t.toNat (by omega)
          have HSO : Hid (∀ c, pairN (o.getD t.toNat 0) d = some c → cmpStep (o, t) d = (o.set t.toNat c, t)) := fun c h => step_free HFB.out.symm h
          have HNO : Hid (pairN (o.getD t.toNat 0) d = none → cmpStep (o, t) d = pushS (o, t) d) := fun h => step_none h
          have HPR := fun W => sPair (o.getD t.toNat 0) d W
          generalize pairN (o.getD t.toNat 0) d = po at HSO HNO HPR
          generalize o.getD t.toNat 0 = z at hco HPR
          unfold pairV at HPR
          clear HF HFB HCX hoc e4 hI1
          go_upto_region 11 with fail
          go_cut [10, 11] from 15 to 82 (fun cv bv wx => cv = .int .i64 (po.getD 0) ∧ bv = .bool po.isSome ∧ Below wc.heap.size wc wx)
          case first =>
            go_region_with (go_at_call 12; refine (HPR _).mono ?_; rintro e w5 ⟨rfl, b5⟩)
            all_goals (try go_wp2_with fail)
            all_goals go_meet
            all_goals exact ⟨rfl, rfl, ⟨b5.os, b5.tape, b5.output, b5.size, b5.block⟩⟩
          case rest =>
            obtain ⟨rfl, rfl, hby⟩ := hcut
            have rowy := rowc.below hby
            have hbely := hbelc.trans (hby.mono hbelc.size)
            have hcy := (hby.cell (p := ⟨bx, ox + k, none⟩) (Nat.lt_of_lt_of_le hbx hbelc.size)).trans hcx
            clear rowc hcx hco HPR hby
            cases po with
            | none =>
              have HPU : Hid (cmpStep (o, t) d = pushS (o, t) d) := HNO.out rfl
              clear HNO HSO
              have hkz : kd = 0 ∨ ¬ kd = 0 := Classical.em _
              rcases hkz with hkz | hkz
              · go_wp2_with (at_builtin; refine append_int wc rfl (.tmp 71) (.tmp 76) rfl w1.heap.size _ o d (by omega) rowy rfl rfl hbely.size ?_; intro v8 w8 row8 b8; obtain ⟨a8, c8, rfl, -⟩ := row8.at)
                go_roundw
                case rel => exact ⟨k + 1, by omega, by go_num, by rw [HST.out, HPU.out, show o.length + 1 = (o ++ [d]).length by simp]; exact row8, by rw [HST.out, HPU.out]; unfold pushS; rw [if_pos (by rw [← HKD.out]; exact hkz)], hbely.trans b8⟩
                case measure => simp [intOf]; omega
              · go_wp2_with (at_builtin; refine append_int wc rfl (.tmp 71) (.tmp 76) rfl w1.heap.size _ o d (by omega) rowy rfl rfl hbely.size ?_; intro v8 w8 row8 b8; obtain ⟨a8, c8, rfl, -⟩ := row8.at)
                go_roundw
                case rel => exact ⟨k + 1, by omega, by go_num, by rw [HST.out, HPU.out, show o.length + 1 = (o ++ [d]).length by simp]; exact row8, by rw [HST.out, HPU.out]; unfold pushS; rw [if_neg (by rw [← HKD.out]; exact hkz)], hbely.trans b8⟩
                case measure => simp [intOf]; omega
            | some c =>
              have HPU : Hid (cmpStep (o, t) d = (o.set t.toNat c, t)) := HSO.out c rfl
              clear HNO HSO
              rcases rowy.2 with ⟨e, h0'⟩ | ⟨g, cap, cur, e, hg, hh, -⟩
              · exact absurd h0' (by omega)
              injection e with e1 e2 e3
              injection e1 with e1
              injection e1 with e1 e4
              subst e1; subst e3; subst e4
              have rowz : wc.ownsRow w1.heap.size 3 1 (.slice (some ⟨bo, 0, none⟩) o.length co) o.length (intsV o) := rowy
              have hfz := rowz.frozenAt t.toNat
              obtain ⟨u0, hcl⟩ : ∃ u0, wc.cell? ⟨bo, t.toNat, none⟩ = some u0 := ⟨_, (rowz.cellAt t.toNat (by omega)).trans (List.getElem?_eq_getElem (by have := rowz.1; omega))⟩
              have HS : Hid (IntRow (wc.setCell ⟨bo, t.toNat, none⟩ (.int .i64 c)) w1.heap.size (.slice (some ⟨bo, 0, none⟩) o.length co) (o.set t.toNat c)) := by
                have := (rowz.stored t.toNat (.int .i64 c)).1
                show World.ownsRow _ _ _ _ _ _ _
                rw [List.length_set, show intsV (o.set t.toNat c) = (intsV o).set t.toNat (.int .i64 c) by simp [intsV, List.map_set]]
                exact this
              have HB : Hid (Below w1.heap.size w1 (wc.setCell ⟨bo, t.toNat, none⟩ (.int .i64 c))) := hbely.grown (gbi_set wc bo t.toNat (.int .i64 c)) hbely.size (fun q hq => by injection hq with hq; omega)
              clear rowy rowz hh
              go_wp2
              go_roundw
              case rel => exact ⟨k + 1, by omega, by go_num, by rw [HST.out, HPU.out]; exact HS.out, by rw [HST.out, HPU.out], HB.out⟩
              case measure => simp [intOf]; omega
    · obtain rfl : k = n := by omega
      rw [HEN.out] at hrow
      go_wp2
      go_ret
      exact ⟨_, rfl, hrow.mono b1.size, b1.trans (hbel.mono b1.size)⟩
end Go.Proofs.Ytkgnlamlmnhleaa
