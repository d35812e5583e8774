/- Extents, specification's side: the extents of a map. -/
import Derived.Test.YtkbkanmmpdeokaaRows
import Derived.Test.YtkbkanmmpdeokaaSEb
namespace Go.Proofs.Ytkbkanmmpdeokaa
open Go.RowKit Go.Sort

theorem extStep_len (o : List Ex) (i c : Int) : (extStep o i c).length ≤ o.length + 1 := by
  unfold extStep
  split
  · omega
  · cases o with
    | nil => simp
    | cons r t =>
      dsimp only
      split <;> simp
theorem extsUp_len (m : List Int) : ∀ k, (extsUp m k).length ≤ k
  | 0 => Nat.le_refl _
  | k + 1 => by
    have h1 := extsUp_len m k
    have h2 := extStep_len (extsUp m k) k m[k]!
    show (extStep (extsUp m k) k m[k]!).length ≤ k + 1
    omega

set_option maxRecDepth 100000 in
set_option maxHeartbeats 4000000 in
theorem l16Exts_any (v : Value) (m : List Int) (w : World) (hl : m.length = 12) (hm : ∀ k : Nat, m[k]! < 24) (hv : IntsAt w v m) :
    Calls Try.prog 44 #[v] w fun e w' => ∃ u, e = .returned u ∧ ExRow w' w.heap.size u (extsN m) ∧ Below w.heap.size w w' := by
  have mixed : Try.prog.follows .mixedOrders = true := by kernel_rfl
  obtain ⟨a, cap, rfl, hc⟩ := hv
  rw [hl] at hc ⊢
  have HI : Hid (∀ k, ExtI m k (extsUp m k)) := extsUp_is m hm
  have HU : Hid (∀ k : Nat, extsUp m (k + 1) = extStep (extsUp m k) k m[k]!) := fun k => rfl
  have HG : ∀ k, k < 12 → m.getD k 0 = m[k]! := fun k hk => by rw [getElem!_pos m k (by omega)]; simp [List.getD, hl, hk]
  have HN : Hid (extsN m = (extsUp m 12).reverse) := by show _ = _; unfold extsN; rw [hl]
  have HC : Hid (∀ k, k < 12 → ∃ b off, a = some ⟨b, off, none⟩ ∧ b < w.heap.size ∧ w.cell? ⟨b, off + k, none⟩ = some (.int .i64 m[k]!)) := fun k hk => by
    obtain ⟨b, off, e1, e2, e3⟩ := hc k hk
    rw [HG k hk] at e3
    exact ⟨b, off, e1, e2, e3⟩
  have HX : Hid (∀ k : Nat, m[k]! < 24) := hm
  have HLn : Hid (∀ k, (extsUp m k).length ≤ k) := extsUp_len m
  have hE := lit_Exs w
  obtain ⟨R, HR⟩ : ∃ R, Hid (R = extsN m) := ⟨_, rfl⟩
  rw [← HR.out] at HN
  clear hc HG hm
  go_enter Try.func44, Try.ntmps44
  go_wp2
  go_loopw [3, 4] (fun ov iv wr => ∃ k : Nat, k ≤ 12 ∧ iv = .int .i64 k ∧ ExRow wr w.heap.size ov (extsUp m k).reverse ∧ Below w.heap.size w wr) (fun _ iv _ => 12 - (intOf iv).toNat)
  case atStart => exact ⟨0, Nat.zero_le _, rfl, hE, below_lit _ _⟩
  case round =>
    clear hE
    obtain ⟨k, hk, rfl, hrow, hbel⟩ := hrel
    by_cases hlt : k < 12
    · have hltz : (k : Int) < 12 := by omega
      obtain ⟨b, off, rfl, hb, hcc⟩ := HC.out k hlt
      have c0 := (hbel.cell (p := ⟨b, off + k, none⟩) hb).trans hcc
      have hI := (HI.out k).one
      have hU : Hid _ := HU.out k
      have hlen := HLn.out k
      have hx24 := HX.out k
      have HRND : Hid (∀ u w', ExRow w' w.heap.size u (extStep (extsUp m k) k m[k]!).reverse → ExRow w' w.heap.size u (extsUp m (k + 1)).reverse) := fun u w' h => by rw [hU.out]; exact h
      clear HI HU HC HX HLn HN hcc hU
      generalize m[k]! = x at *
      generalize extsUp m k = o at *
      by_cases hx : x < 0
      · have HRW : Hid (ExRow wr w.heap.size u3 (extsUp m (k + 1)).reverse) := HRND.out _ _ (by unfold extStep; rw [if_pos hx]; exact hrow)
        clear HRND hI hrow
        go_wp2
        go_roundw
        case rel => exact ⟨k + 1, by omega, by go_num, HRW.out, hbel⟩
        case measure => simp [intOf]; omega
      · have hxz : ¬ x < 0 := hx
        cases o with
        | nil =>
          have hs : ∃ sa sc, u3 = .slice sa 0 sc := by obtain ⟨sa, sc, e, _⟩ := hrow.at; exact ⟨sa, sc, e⟩
          obtain ⟨sa, sc, rfl⟩ := hs
          have HST : Hid ((extStep [] (k : Int) x).reverse = ([] : List Ex).reverse ++ [⟨k, x, 1⟩]) := by show _ = _; unfold extStep; rw [if_neg hx]; rfl
          rw [HST.out] at HRND
          go_upto_region 7 with fail
          go_quiet (fail)
          have HROW : Hid (ExRow (wr.drewN nq) w.heap.size (.slice sa 0 sc) []) := hrow
          have HBW : Hid (Below w.heap.size w (wr.drewN nq)) := hbel.trans ⟨rfl, rfl, rfl, Nat.le_refl _, fun _ _ => rfl⟩
          have d0 : (wr.drewN nq).cell? ⟨b, off + k, none⟩ = some (.int .i64 x) := c0
          clear hrow hbel c0 hI HST
          generalize wr.drewN nq = w2 at HROW HBW d0 ⊢
          go_wp2_with (at_builtin; refine append_Exs _ rfl (.tmp 71) (.tmp 78) rfl w.heap.size _ _ [] [⟨k, x, 1⟩] (by simp) (World.ownsRow.alloc HROW.out _) (one_Ex _ ⟨k, x, 1⟩) rfl rfl (by simp; have := HBW.out.size; omega) ?_; intro v' w4 hrow4 hbel4)
          have HB4 := (HBW.out.alloc HBW.out.size _).trans hbel4
          go_roundw
          case rel => exact ⟨k + 1, by omega, by go_num, HRND.out _ _ hrow4, HB4⟩
          case measure => simp [intOf]; omega
        | cons r t =>
          obtain ⟨h1, h2, h3, h4, h5⟩ := hI r (List.mem_cons_self ..)
          have hget : (r :: t).reverse[t.length]! = r := by
            rw [getElem!_pos _ _ (by simp)]
            simp
          obtain ⟨g, gc, rfl, hgb, hfr⟩ : ∃ g gc, u3 = .slice (some ⟨g, 0, none⟩) (t.length + 1) gc ∧ w.heap.size ≤ g ∧ ∀ j, wr.frozen? ⟨g, j, none⟩ = false := by
            rcases hrow.2 with ⟨e, h0⟩ | ⟨g, c2, cur, e, hg, hh, -⟩
            · simp at h0
            · exact ⟨g, c2, by rw [e]; simp, hg, fun j => frozen_of_row _ _ _ _ _ hh⟩
          have hat := hrow.at
          obtain ⟨a2, c2, e2, -, hcl⟩ := hat
          obtain ⟨b2, o2, e3, hb2, hce⟩ := hcl t.length (by simp)
          have hLL : (r :: t).reverse.length = t.length + 1 := by simp
          rw [hLL] at e2
          cases e2
          cases e3
          rw [hget, Nat.zero_add] at hce
          have HSET : Hid (∀ z : Int, z = r.n + 1 → ExRow (wr.setCell ⟨g, t.length * 3 + 2, none⟩ (.int .i64 z)) w.heap.size (.slice (some ⟨g, 0, none⟩) (t.length + 1) gc) (⟨r.p, r.b, z⟩ :: t).reverse) := fun z hz => by
            have hro : wr.ownsRow w.heap.size 58 3 (.slice (some ⟨g, 0, none⟩) (t.length + 1) gc) (t.length + 1) (flatEx (r :: t).reverse) := by
              have := hrow
              unfold ExRow at this
              simpa using this
            have := rowEx_set hro t.length ⟨r.p, r.b, z⟩ 2 (.int .i64 z) (by simp) (by omega) (by rw [hget]; rfl)
            have e : (r :: t).reverse.set t.length ⟨r.p, r.b, z⟩ = (⟨r.p, r.b, z⟩ :: t).reverse := by
              rw [List.reverse_cons, List.reverse_cons, List.set_append_right _ _ (by simp)]
              simp
            rw [e] at this
            unfold ExRow
            simpa using this
          have c1 := hce.c0
          have c2 := hce.c1
          have c3 := hce.c2
          have hlen2 : t.length + 1 ≤ k := by simpa using hlen
          obtain ⟨rp, rb, rn⟩ := r
          dsimp only at c1 c2 c3 h1 h2 h3 h4 h5 HSET
          clear hce hcl hget hLL hlen
          obtain ⟨q, hq⟩ : ∃ q, q = t.length := ⟨_, rfl⟩
          rw [← hq] at c1 c2 c3 hlen2 HSET hrow
          rw [← hq]
          have hqt : t.length ≤ 12 := by omega
          clear hq
          have vq : IntKind.i64.wrap ((q : Int) + 1 - 1) = (q : Int) := by rw [IntKind.wrap_i64]; omega
          have vq0 : IntKind.i64.wrap (q : Int) = (q : Int) := by rw [IntKind.wrap_i64]; omega
          have hqn : (q : Int) < (q : Int) + 1 := by omega
          have hq0 : (q : Int) + 1 > 0 := by omega
          obtain ⟨s1, hs1⟩ : ∃ s1, s1 = rp + rn := ⟨_, rfl⟩
          obtain ⟨s2, hs2⟩ : ∃ s2, s2 = rb + rn := ⟨_, rfl⟩
          obtain ⟨z, hz⟩ : ∃ z, z = rn + 1 := ⟨_, rfl⟩
          have v1 : IntKind.i64.wrap (rp + rn) = s1 := by rw [IntKind.wrap_i64]; omega
          have v2 : IntKind.i64.wrap (rb + rn) = s2 := by rw [IntKind.wrap_i64]; omega
          have vz : IntKind.i64.wrap (rn + 1) = z := by rw [IntKind.wrap_i64]; omega
          by_cases e1 : s1 = (k : Int)
          · have e1b : (s1 == (k : Int)) = true := by rw [beq_iff_eq]; exact e1
            by_cases e2 : s2 = x
            · have e2b : (s2 == x) = true := by rw [beq_iff_eq]; exact e2
              have HST : Hid ((extStep (⟨rp, rb, rn⟩ :: t) (k : Int) x).reverse = (⟨rp, rb, z⟩ :: t).reverse) := by show _ = _; unfold extStep; rw [if_neg hx]; dsimp only; rw [if_pos (by first | omega | (dsimp only; omega)), hz]
              rw [HST.out] at HRND
              have HS := HSET.out z hz
              have hfz : wr.frozen? ⟨g, q * 3 + 2, none⟩ = false := hfr _
              clear hfr
              clear HST HSET e1 e2 hs1 hs2 hz
              go_upto_region 7 with fail
              go_quiet (fail)
              have HS2 : Hid (ExRow ((wr.drewN nq).setCell ⟨g, q * 3 + 2, none⟩ (.int .i64 z)) w.heap.size (.slice (some ⟨g, 0, none⟩) (q + 1) gc) (⟨rp, rb, z⟩ :: t).reverse) := HS
              have HBW : Hid (Below w.heap.size w ((wr.drewN nq).setCell ⟨g, q * 3 + 2, none⟩ (.int .i64 z))) := (hbel.trans (c := wr.drewN nq) ⟨rfl, rfl, rfl, Nat.le_refl _, fun _ _ => rfl⟩).setCell hgb _
              have d3 : (wr.drewN nq).cell? ⟨g, q * 3 + 2, none⟩ = some (.int .i64 rn) := c3
              have df : (wr.drewN nq).frozen? ⟨g, q * 3 + 2, none⟩ = false := hfz
              clear hrow hbel c0 c1 c2 c3 hI HS hfz
              generalize wr.drewN nq = w2 at HS2 HBW d3 df ⊢
              go_wp2
              go_roundw
              case rel => exact ⟨k + 1, by omega, by go_num, HRND.out _ _ HS2.out, HBW.out⟩
              case measure => simp [intOf]; omega
            · have e2b : (s2 == x) = false := by rw [beq_eq_false_iff_ne]; exact e2
              have HST : Hid ((extStep (⟨rp, rb, rn⟩ :: t) (k : Int) x).reverse = (⟨rp, rb, rn⟩ :: t).reverse ++ [⟨k, x, 1⟩]) := by show _ = _; unfold extStep; rw [if_neg hx]; dsimp only; rw [if_neg (by first | omega | (dsimp only; omega))]; simp
              rw [HST.out] at HRND
              clear HST HSET hs1 hs2 hz hfr
              have hLn : (({ p := rp, b := rb, n := rn } : Ex) :: t).reverse.length ≤ 13 := by rw [List.length_reverse, List.length_cons]; omega
              generalize (({ p := rp, b := rb, n := rn } : Ex) :: t).reverse = L at hrow HRND hLn
              go_upto_region 7 with fail
              go_quiet (fail)
              have HROW : Hid (ExRow (wr.drewN nq) w.heap.size (.slice (some ⟨g, 0, none⟩) (q + 1) gc) L) := hrow
              have HBW : Hid (Below w.heap.size w (wr.drewN nq)) := hbel.trans ⟨rfl, rfl, rfl, Nat.le_refl _, fun _ _ => rfl⟩
              have d0 : (wr.drewN nq).cell? ⟨b, off + k, none⟩ = some (.int .i64 x) := c0
              clear hrow hbel c0 c1 c2 c3 hI
              generalize wr.drewN nq = w2 at HROW HBW d0 ⊢
              go_wp2_with (at_builtin; refine append_Exs _ rfl (.tmp 71) (.tmp 78) rfl w.heap.size _ _ L [⟨k, x, 1⟩] (by rw [List.length_singleton]; omega) (World.ownsRow.alloc HROW.out _) (one_Ex _ ⟨k, x, 1⟩) rfl rfl (by simp; have := HBW.out.size; omega) ?_; intro v' w4 hrow4 hbel4)
              have HB4 := (HBW.out.alloc HBW.out.size _).trans hbel4
              go_roundw
              case rel => exact ⟨k + 1, by omega, by go_num, HRND.out _ _ hrow4, HB4⟩
              case measure => simp [intOf]; omega
          · have e1b : (s1 == (k : Int)) = false := by rw [beq_eq_false_iff_ne]; exact e1
            have e2b : True := trivial
            have HST : Hid ((extStep (⟨rp, rb, rn⟩ :: t) (k : Int) x).reverse = (⟨rp, rb, rn⟩ :: t).reverse ++ [⟨k, x, 1⟩]) := by show _ = _; unfold extStep; rw [if_neg hx]; dsimp only; rw [if_neg (by first | omega | (dsimp only; omega))]; simp
            rw [HST.out] at HRND
            clear HST HSET hs1 hs2 hz hfr
            have hLn : (({ p := rp, b := rb, n := rn } : Ex) :: t).reverse.length ≤ 13 := by rw [List.length_reverse, List.length_cons]; omega
            generalize (({ p := rp, b := rb, n := rn } : Ex) :: t).reverse = L at hrow HRND hLn
            go_upto_region 7 with fail
            go_quiet (fail)
            have HROW : Hid (ExRow (wr.drewN nq) w.heap.size (.slice (some ⟨g, 0, none⟩) (q + 1) gc) L) := hrow
            have HBW : Hid (Below w.heap.size w (wr.drewN nq)) := hbel.trans ⟨rfl, rfl, rfl, Nat.le_refl _, fun _ _ => rfl⟩
            have d0 : (wr.drewN nq).cell? ⟨b, off + k, none⟩ = some (.int .i64 x) := c0
            clear hrow hbel c0 c1 c2 c3 hI
            generalize wr.drewN nq = w2 at HROW HBW d0 ⊢
            go_wp2_with (at_builtin; refine append_Exs _ rfl (.tmp 71) (.tmp 78) rfl w.heap.size _ _ L [⟨k, x, 1⟩] (by rw [List.length_singleton]; omega) (World.ownsRow.alloc HROW.out _) (one_Ex _ ⟨k, x, 1⟩) rfl rfl (by simp; have := HBW.out.size; omega) ?_; intro v' w4 hrow4 hbel4)
            have HB4 := (HBW.out.alloc HBW.out.size _).trans hbel4
            go_roundw
            case rel => exact ⟨k + 1, by omega, by go_num, HRND.out _ _ hrow4, HB4⟩
            case measure => simp [intOf]; omega
    · have hltz : ¬ (k : Int) < 12 := by omega
      have hk12 : k = 12 := by omega
      rw [hk12, ← HN.out] at hrow
      have HE : Hid (ExRow wr w.heap.size u3 (extsN m)) := by rw [← HR.out]; exact hrow
      clear hrow hk12 HI HU HC HX HLn HN HR
      go_wp2
      go_ret
      exact ⟨_, rfl, HE.out, hbel⟩
end Go.Proofs.Ytkbkanmmpdeokaa
