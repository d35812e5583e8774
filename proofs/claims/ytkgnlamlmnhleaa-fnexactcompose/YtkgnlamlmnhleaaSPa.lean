/- Signs put together: spec.Pair. -/
import Derived.Test.YtkgnlamlmnhleaaRows
import Derived.Test.YtkgnlamlmnhleaaPaN
import Derived.Test.YtkgnlamlmnhleaaPrt3
namespace Go.Proofs.Ytkgnlamlmnhleaa
open Go.RowKit

def pzF : List Int := [192, 469, 902, 7840]
def pzT : List Int := [255, 470, 974, 7853]
theorem pz_le : ∀ t, t < 4 → 0 ≤ pzF.getD t 0 ∧ pzF.getD t 0 ≤ pzT.getD t 0 ∧ pzT.getD t 0 ≤ 7853 := by decide
theorem pairT_none {a b : Int} (h : ∀ t, t < 4 → ∀ c, pzF.getD t 0 ≤ c → c ≤ pzT.getD t 0 → partsN c ≠ [a, b]) : pairT a b = none := by
  cases hp : pairT a b with
  | none => rfl
  | some c =>
    obtain ⟨h1, h2⟩ := pair_key hp
    rcases h2 with h2 | h2 | h2 | h2
    · exact absurd h1 (h 0 (by omega) c h2.1 h2.2)
    · exact absurd h1 (h 1 (by omega) c h2.1 h2.2)
    · exact absurd h1 (h 2 (by omega) c h2.1 h2.2)
    · exact absurd h1 (h 3 (by omega) c h2.1 h2.2)
/-- what Pair answers -/
def pairV (o : Option Int) : Value := .tuple #[.int .i64 (o.getD 0), .bool o.isSome]

theorem pair_cases (a b : Int) : (inB a 4352 4370 = true ∧ inB b 4449 4469 = true ∧ pairN a b = some (44032 + (a - 4352) * 588 + (b - 4449) * 28)) ∨
    (inB a 4352 4370 = false ∧ inB a 44032 55203 = true ∧ (a - 44032) % 28 = 0 ∧ inB b 4520 4546 = true ∧ pairN a b = some (a + b - 4519)) ∨
    (pairN a b = pairT a b ∧ ((inB a 4352 4370 = false ∧ inB a 44032 55203 = false) ∨ (inB a 4352 4370 = true ∧ inB b 4449 4469 = false ∧ inB a 44032 55203 = false) ∨
      (inB a 4352 4370 = false ∧ inB a 44032 55203 = true ∧ ¬ (a - 44032) % 28 = 0) ∨ (inB a 4352 4370 = false ∧ inB a 44032 55203 = true ∧ (a - 44032) % 28 = 0 ∧ inB b 4520 4546 = false))) := by
  unfold pairN
  cases h1 : inB a 4352 4370 <;> cases h2 : inB b 4449 4469 <;> cases h3 : inB a 44032 55203 <;> cases h5 : inB b 4520 4546 <;> by_cases h4 : (a - 44032) % 28 = 0 <;> simp [h4]
  all_goals (have e1 := inB_le h1; have e3 := inB_le h3; omega)

set_option maxRecDepth 100000 in
set_option maxHeartbeats 2000000 in
theorem sPair (a b : Int) (w : World) :
    Calls Try.prog 12 #[.int .i64 a, .int .i64 b] w fun e w' => e = .returned (pairV (pairN a b)) ∧ Below w.heap.size w w' := by
  rcases pair_cases a b with ⟨g1, g2, HR⟩ | ⟨g1, g2, g3, g4, HR⟩ | ⟨HR, hc⟩
  · rw [HR]
    have ha := inB_le g1
    have hb := inB_le g2
    go_enter Try.func12, Try.ntmps12
    go_wp2_with (go_at_call 28; refine (in_any _ _ _ _).mono ?_; rintro e w' ⟨rfl, rfl⟩)
    go_ret2
    exact ⟨rfl, Below.refl _ _⟩
  · rw [HR]
    have ha := inB_le g2
    have hb := inB_le g4
    go_enter Try.func12, Try.ntmps12
    go_wp2_with (go_at_call 28; refine (in_any _ _ _ _).mono ?_; rintro e w' ⟨rfl, rfl⟩)
    go_ret2
    exact ⟨rfl, Below.refl _ _⟩
  · rw [HR]
    have HY : Hid (∀ c, partsN c = [a, b] → c ≤ 7853 → pairT a b = some c) := fun c h hc => pair_is h (by omega)
    have HN : Hid ((∀ t, t < 4 → ∀ c, pzF.getD t 0 ≤ c → c ≤ pzT.getD t 0 → partsN c ≠ [a, b]) → pairT a b = none) := fun h => pairT_none h
    have HZ : Hid (∀ t, t < 4 → 0 ≤ pzF.getD t 0 ∧ pzF.getD t 0 ≤ pzT.getD t 0 ∧ pzT.getD t 0 ≤ 7853) := pz_le
    clear HR
    generalize pairT a b = r at HY HN ⊢
    obtain ⟨f1, f2, hb0, hs0⟩ := lits_two w #[.int .i64 192, .int .i64 469, .int .i64 902, .int .i64 7840] #[.int .i64 255, .int .i64 470, .int .i64 974, .int .i64 7853] pzF pzT 4 _ rfl rfl rfl rfl (by decide) rfl
    have hx3 : inB a 44032 55203 = true → IntKind.i64.wrap (a - 44032) = a - 44032 := fun h => by have := inB_le h; rw [IntKind.wrap_i64]; omega
    rcases hc with ⟨g1, g2⟩ | ⟨g1, g2, g3⟩ | ⟨g1, g2, g3⟩ | ⟨g1, g2, g3, g4⟩
    all_goals
      (try have hw3 := hx3 g2)
      (try have ha3 := inB_le g2)
      go_enter Try.func12, Try.ntmps12
      go_wp2_with (go_at_call 28; refine (in_any _ _ _ _).mono ?_; rintro e w' ⟨rfl, rfl⟩)
      generalize (w.alloc (.cells #[.int .i64 192, .int .i64 469, .int .i64 902, .int .i64 7840] 3)).alloc (.cells #[.int .i64 255, .int .i64 470, .int .i64 974, .int .i64 7853] 3) = w2 at *
      clear hx3
      go_loopw [8] (fun i wr => ∃ k : Nat, k ≤ 4 ∧ i = .int .i64 k ∧ Hid (∀ t, t < k → ∀ c, pzF.getD t 0 ≤ c → c ≤ pzT.getD t 0 → partsN c ≠ [a, b]) ∧ Below w2.heap.size w2 wr) (fun i _ => 4 - (intOf i).toNat)
      case atStart => exact ⟨0, Nat.zero_le _, rfl, fun t ht => by omega, Below.refl _ _⟩
      case round =>
        obtain ⟨k, hk, rfl, HNE, hbel⟩ := hrel
        by_cases hlt : k < 4
        · have hc1 := (hbel.cell (p := ⟨w.heap.size, k, none⟩) (by show w.heap.size < _; omega)).trans (f1 k hlt)
          have HC2 : Hid (∀ wx, Below wr.heap.size wr wx → wx.cell? ⟨w.heap.size + 1, k, none⟩ = some (.int .i64 (pzT.getD k 0))) := fun wx h => (h.cell (p := ⟨w.heap.size + 1, k, none⟩) (by have := hbel.size; show w.heap.size + 1 < _; omega)).trans ((hbel.cell (p := ⟨w.heap.size + 1, k, none⟩) (by show w.heap.size + 1 < _; omega)).trans (f2 k hlt))
          have hz := HZ.out k hlt
          have HST : Hid ((∀ c, pzF.getD k 0 ≤ c → c ≤ pzT.getD k 0 → partsN c ≠ [a, b]) → ∀ t, t < k + 1 → ∀ c, pzF.getD t 0 ≤ c → c ≤ pzT.getD t 0 → partsN c ≠ [a, b]) := fun h t ht c h1 h2 => by
            by_cases e : t = k
            · subst e; exact h c h1 h2
            · exact HNE.out t (by omega) c h1 h2
          clear HNE f1 f2 HZ hs0
          generalize pzF.getD k 0 = x at hc1 hz HST
          generalize pzT.getD k 0 = y at HC2 hz HST
          obtain ⟨hz0, hz1, hz2⟩ := hz
          have hkn : (k : Int) < 4 := by omega
          have hk0 : (0 : Int) ≤ (k : Int) := by omega
          have HBE : Hid (Below w2.heap.size w2 wr) := hbel
          have HBW : Hid (Below w.heap.size w wr) := hb0.trans (hbel.mono hb0.size)
          have HSW : Hid (w.heap.size ≤ wr.heap.size) := HBW.out.size
          have HS2 : Hid (w2.heap.size ≤ wr.heap.size) := hbel.size
          clear hbel hb0
          obtain ⟨G, HG⟩ : ∃ G, Hid (G = w.heap.size) := ⟨_, rfl⟩
          rw [← HG.out] at hc1 HC2 HSW ⊢
          go_wp2
          go_loopw [9] (fun cv wx => ∃ c : Int, (x ≤ c ∧ c ≤ y + 1) ∧ cv = .int .i64 c ∧ Hid (∀ d, x ≤ d → d < c → partsN d ≠ [a, b]) ∧ Below wr.heap.size wr wx) (fun cv _ => (y + 1 - intOf cv).toNat)
          case atStart => exact ⟨x, ⟨by omega, by omega⟩, rfl, fun d h1 h2 => by omega, Below.refl _ _⟩
          case round =>
            obtain ⟨c, ⟨hx, hy⟩, rfl, HD, hbx⟩ := hrel
            have hc2 := HC2.out _ hbx
            by_cases hcy : c ≤ y
            · have hwc : IntKind.i64.wrap (c + 1) = c + 1 := by rw [IntKind.wrap_i64]; omega
              have HPC := sParts c wr
              have HFO : Hid (partsN c = [a, b] → r = some c) := fun h => HY.out c h (by omega)
              have HGO : Hid (partsN c ≠ [a, b] → ∀ d, x ≤ d → d < c + 1 → partsN d ≠ [a, b]) := fun h d h1 h2 => by
                by_cases e : d = c
                · subst e; exact h
                · exact HD.out d h1 (by omega)
              generalize partsN c = P at HPC HFO HGO
              clear HD
              go_wp2_with fail
              refine HPC.mono ?_
              rintro e w5 ⟨u, rfl, row, b5⟩
              have hbx5 := hbx.trans (b5.mono hbx.size)
              obtain ⟨aa, ca, rfl, hcs⟩ := row.at
              clear row HPC
              by_cases hl : P.length = 2
              · obtain ⟨p0, p1, rfl⟩ : ∃ p0 p1, P = [p0, p1] := by
                  match P, hl with
                  | [p0, p1], _ => exact ⟨p0, p1, rfl⟩
                obtain ⟨bb, o, rfl, -, c0⟩ := hcs 0 (by simp)
                obtain ⟨bb2, o2, e2, -, c1⟩ := hcs 1 (by simp)
                injection e2 with e2
                injection e2 with e3 e4
                subst e3; subst e4
                simp only [Nat.add_zero, List.getD_cons_zero, List.getD_cons_succ] at c0 c1
                simp only [List.length_cons, List.length_nil, Nat.zero_add, Nat.reduceAdd]
                clear hcs hl
                cases hq0 : (p0 == a)
                · have HK := HGO.out (fun e => by injection e with e; simp [e] at hq0)
                  go_wp2
                  go_roundw
                  case rel => exact ⟨c + 1, ⟨by omega, by omega⟩, rfl, HK, hbx5⟩
                  case measure => simp [intOf]; omega
                · cases hq1 : (p1 == b)
                  · have HK := HGO.out (fun e => by injection e with _ e; injection e with e; simp [e] at hq1)
                    go_wp2
                    go_roundw
                    case rel => exact ⟨c + 1, ⟨by omega, by omega⟩, rfl, HK, hbx5⟩
                    case measure => simp [intOf]; omega
                  · obtain rfl := HFO.out (by rw [eq_of_beq hq0, eq_of_beq hq1])
                    go_wp2
                    go_ret2
                    exact ⟨rfl, HBW.out.trans (hbx5.mono (by rw [← HG.out]; exact HSW.out))⟩
              · have hl2 : ¬ ((P.length : Int) = 2) := by omega
                have HK := HGO.out (fun e => hl (by rw [e]; rfl))
                clear hcs
                go_wp2
                go_roundw
                case rel => exact ⟨c + 1, ⟨by omega, by omega⟩, rfl, HK, hbx5⟩
                case measure => simp [intOf]; omega
            · have HK := HST.out (fun d h1 h2 => HD.out d h1 (by omega))
              go_wp2
              go_roundw
              case rel => exact ⟨k + 1, by omega, by go_num, HK, HBE.out.trans (hbx.mono HS2.out)⟩
              case measure => simp [intOf]; omega
        · obtain rfl : k = 4 := by omega
          obtain rfl := HN.out HNE.out
          go_wp2
          go_ret2
          exact ⟨rfl, hb0.trans (hbel.mono hb0.size)⟩
end Go.Proofs.Ytkgnlamlmnhleaa
