/- Rows of rows of whole numbers: how they lie; what laws.eqIntSS, markIntSS, heldIntSS do to them. -/
import Derived.Test.YtkgnlamlmnhleaaRows
import Derived.Test.YtkgnlamlmnhleaaIntS
import Derived.Test.YtkgnlamlmnhleaaSgn
import Derived.Deep.Cut
import Derived.Deep.CutRange
import Derived.Deep.RegionWith
namespace Go.Proofs.Ytkgnlamlmnhleaa
open Go.RowKit

def vD (us : List Value) (t : Nat) : Value := us.getD t (.slice none 0 0)
def lD (ls : List (List Int)) (t : Nat) : List Int := ls.getD t []
/-- the slice v reads as the rows ls -/
def RwsAt (w : World) (v : Value) (ls : List (List Int)) : Prop :=
  ∃ (us : List Value) (a : Option Addr) (cap : Nat), v = .slice a ls.length cap ∧ ∀ t, t < ls.length → (∃ b off, a = some ⟨b, off, none⟩ ∧ b < w.heap.size ∧ w.cell? ⟨b, off + t, none⟩ = some (vD us t)) ∧ IntsAt w (vD us t) (lD ls t)
/-- the slice v is a row of rows us, all of them the call's own, from block base on -/
structure RwsRow (w : World) (base : Nat) (v : Value) (us : List Value) (ls : List (List Int)) : Prop where
  out : w.ownsRow base 24 1 v ls.length us
  inn : ∀ t, t < ls.length → IntRow w base (vD us t) (lD ls t)
  ap : ∀ s t, s < ls.length → t < ls.length → s ≠ t → (vD us s).ownBlock = none ∨ (vD us s).ownBlock ≠ (vD us t).ownBlock
theorem ls_ext (ls ms : List (List Int)) (hl : ls.length = ms.length) (h : ∀ t, t < ls.length → lD ls t = lD ms t) : ls = ms := by
  apply List.ext_getElem hl
  intro t h1 h2
  have := h t h1
  simpa [lD, List.getD, h1, h2] using this
theorem RwsAt.below {w w' : World} {v : Value} {ls : List (List Int)} (h : RwsAt w v ls) (b : Below w.heap.size w w') : RwsAt w' v ls := by
  obtain ⟨us, a, cap, rfl, hc⟩ := h
  refine ⟨us, a, cap, rfl, fun t ht => ?_⟩
  obtain ⟨⟨bb, off, h1, h2, h3⟩, h4⟩ := hc t ht
  exact ⟨⟨bb, off, h1, Nat.lt_of_lt_of_le h2 b.size, (b.cell (p := ⟨bb, off + t, none⟩) h2).trans h3⟩, h4.below b⟩
theorem RwsRow.ulen {w : World} {base : Nat} {v : Value} {us : List Value} {ls : List (List Int)} (h : RwsRow w base v us ls) : us.length = ls.length := by have := h.out.1; omega
theorem RwsRow.at {w : World} {base : Nat} {v : Value} {us : List Value} {ls : List (List Int)} (h : RwsRow w base v us ls) : RwsAt w v ls := by
  have hu := h.ulen
  rcases h.out.2 with ⟨rfl, h0⟩ | ⟨g, cap, cur, rfl, hg, hh, hnc, hcp, hcs, htake⟩
  · exact ⟨us, none, 0, by rw [h0], fun t ht => by omega⟩
  · refine ⟨us, some ⟨g, 0, none⟩, cap, rfl, fun t ht => ⟨⟨g, 0, rfl, lt_of_block hh, ?_⟩, (h.inn t ht).at⟩⟩
    rw [Nat.zero_add, World.ownsRow.cellAt h.out t (by omega), List.getElem?_eq_getElem (by omega)]
    simp [vD, List.getD, show t < us.length by omega]
theorem own_of_below {w w' : World} {base : Nat} {e : TypeId} {size n : Nat} {v : Value} {xs : List Value} (h : w.ownsRow base e size v n xs) (b : Below w.heap.size w w') : w'.ownsRow base e size v n xs :=
  ⟨h.1, by
    rcases h.2 with h0 | ⟨g, cap, cur, e, hg, hh, r⟩
    · exact .inl h0
    · exact .inr ⟨g, cap, cur, e, hg, (b.block g (lt_of_block hh)).trans hh, r⟩⟩
theorem RwsRow.below {w w' : World} {base : Nat} {v : Value} {us : List Value} {ls : List (List Int)} (h : RwsRow w base v us ls) (b : Below w.heap.size w w') : RwsRow w' base v us ls :=
  ⟨own_of_below h.out b, fun t ht => (h.inn t ht).below b, h.ap⟩
/-- rows of unlike cells lie apart -/
theorem own_ne {w : World} {b1 b2 : Nat} {e1 e2 : TypeId} {s1 s2 n1 n2 : Nat} {v u : Value} {xs ys : List Value} (h1 : w.ownsRow b1 e1 s1 v n1 xs) (h2 : w.ownsRow b2 e2 s2 u n2 ys) (he : e1 ≠ e2) : v.ownBlock = none ∨ v.ownBlock ≠ u.ownBlock := by
  rcases h1.2 with ⟨rfl, _⟩ | ⟨g, cap, cur, rfl, hg, hh, -⟩
  · left; rfl
  · right
    intro e
    rcases h2.2 with ⟨rfl, _⟩ | ⟨g2, cap2, cur2, rfl, hg2, hh2, -⟩
    · simp [Value.ownBlock] at e
    · simp [Value.ownBlock] at e
      subst e
      rw [hh] at hh2
      injection hh2 with hh2
      injection hh2 with _ hh2
      exact he hh2
theorem RwsRow.kept {w w' : World} {base : Nat} {v : Value} {us : List Value} {ls : List (List Int)} {r : Option Nat} (h : RwsRow w base v us ls) (hg : w.grownBy w' r) (hr : ∀ k, r = some k → k < base) : RwsRow w' base v us ls := by
  have key : ∀ {e : TypeId} {size n : Nat} {u : Value} {xs : List Value}, w.ownsRow base e size u n xs → w'.ownsRow base e size u n xs := fun hu => World.ownsRow.kept hu hg (by
    rename_i u _
    cases e : u.ownBlock with
    | none => exact .inl rfl
    | some k =>
      right
      intro e2
      have h1 := (World.ownsRow.lt hu k e).1
      have h2 := hr k e2.symm
      omega)
  exact ⟨key h.out, fun t ht => key (h.inn t ht), h.ap⟩

def tot : List (List Int) → Nat
  | [] => 0
  | l :: ls => l.length + tot ls
theorem tot_take : ∀ (ls : List (List Int)) (t : Nat), t < ls.length → tot (ls.take (t + 1)) = tot (ls.take t) + (lD ls t).length
  | [], t, h => by simp at h
  | l :: ls, 0, _ => by simp [tot, lD]
  | l :: ls, t + 1, h => by
    have := tot_take ls t (by simpa using h)
    simp only [List.take_succ_cons, tot, this, lD, List.getD_cons_succ]
    omega
theorem tot_flat : ∀ ls : List (List Int), tot ls = ls.flatten.length
  | [] => rfl
  | l :: ls => by simp [tot, tot_flat ls]
theorem tot_take_le : ∀ (ls : List (List Int)) (t : Nat), tot (ls.take t) ≤ tot ls
  | [], t => by simp [tot]
  | l :: ls, 0 => by simp [tot]
  | l :: ls, t + 1 => by have := tot_take_le ls t; simp only [List.take_succ_cons, tot]; omega
def mrkS : Int → List (List Int) → List (List Int)
  | _, [] => []
  | k, l :: ls => marks k l.length :: mrkS (k + l.length) ls
theorem mrkS_len : ∀ (ls : List (List Int)) (k : Int), (mrkS k ls).length = ls.length
  | [], _ => rfl
  | l :: ls, k => by simp [mrkS, mrkS_len ls]
theorem mrkS_get : ∀ (ls : List (List Int)) (k : Int) (t : Nat), t < ls.length → lD (mrkS k ls) t = marks (k + (tot (ls.take t) : Nat)) (lD ls t).length
  | [], _, t, h => by simp at h
  | l :: ls, k, 0, _ => by simp [mrkS, lD, tot]
  | l :: ls, k, t + 1, h => by
    have := mrkS_get ls (k + l.length) t (by simpa using h)
    simp only [mrkS, lD, List.getD_cons_succ, List.take_succ_cons, tot] at this ⊢
    rw [this]
    congr 1
    omega

set_option maxRecDepth 100000 in
set_option maxHeartbeats 1000000 in
theorem eqIntSS_any (v u : Value) (ls ms : List (List Int)) (w : World) (hl : ls.length ≤ 9223372036854775807) (hin : ∀ t, t < ls.length → (lD ls t).length ≤ 9223372036854775807) (hv : RwsAt w v ls) (hu : RwsAt w u ms) :
    Calls Try.prog 21 #[v, u] w fun e w' => e = .returned (.bool (decide (ls = ms))) ∧ Below w.heap.size w w' := by
  obtain ⟨us, a, ca, rfl, hva⟩ := hv
  obtain ⟨vs, b, cb, rfl, hub⟩ := hu
  by_cases hlen : ls.length = ms.length
  · have hlen' : (ls.length : Int) = (ms.length : Int) := by omega
    obtain ⟨n, HN⟩ : ∃ n, Hid (n = ms.length) := ⟨_, rfl⟩
    rw [hlen] at hva hl hin ⊢
    rw [← HN.out] at hva hub hl hin ⊢
    have HEND : Hid ((∀ t, t < n → lD ls t = lD ms t) → decide (ls = ms) = true) := fun h => decide_eq_true (ls_ext ls ms hlen fun t ht => h t (by rw [HN.out]; omega))
    have HNO : Hid (∀ k : Nat, ¬ lD ls k = lD ms k → decide (ls = ms) = false) := fun k h => decide_eq_false fun e => h (by rw [e])
    generalize decide (ls = ms) = r at HEND HNO ⊢
    go_enter Try.func21, Try.ntmps21
    go_wp2
    go_loopw [5] (fun i wr => ∃ k : Nat, k ≤ n ∧ i = .int .i64 k ∧ Hid (∀ t, t < k → lD ls t = lD ms t) ∧ Below w.heap.size w wr) (fun i _ => n - (intOf i).toNat)
    case atStart => exact ⟨0, Nat.zero_le _, rfl, fun t ht => by omega, Below.refl _ _⟩
    case round =>
      obtain ⟨k, hk, rfl, HEQ, hbel⟩ := hrel
      by_cases hlt : k < n
      · obtain ⟨⟨b1, o1, rfl, hb1, hc1⟩, hi1⟩ := hva k hlt
        obtain ⟨⟨b2, o2, rfl, hb2, hc2⟩, hi2⟩ := hub k hlt
        have hc1' := (hbel.cell (p := ⟨b1, o1 + k, none⟩) hb1).trans hc1
        have hc2' := (hbel.cell (p := ⟨b2, o2 + k, none⟩) hb2).trans hc2
        have hcall := fun W (h : Below w.heap.size w W) => eqIntS_any (vD us k) (vD vs k) (lD ls k) (lD ms k) W (hin k hlt) (hi1.below h) (hi2.below h)
        have hkn : (k : Int) < (n : Int) := by omega
        have hk0 : (0 : Int) ≤ (k : Int) := by omega
        have HK : Hid (decide (lD ls k = lD ms k) = true → ∀ t, t < k + 1 → lD ls t = lD ms t) := fun h t ht => by
          by_cases e : t = k
          · subst e; exact of_decide_eq_true h
          · exact HEQ.out t (by omega)
        have HF : Hid (decide (lD ls k = lD ms k) = false → r = false) := fun h => HNO.out k (of_decide_eq_false h)
        generalize decide (lD ls k = lD ms k) = q at hcall HK HF
        obtain ⟨s1, hs1⟩ : ∃ s1, s1 = vD us k := ⟨_, rfl⟩
        obtain ⟨s2, hs2⟩ : ∃ s2, s2 = vD vs k := ⟨_, rfl⟩
        rw [← hs1] at hc1' hcall
        rw [← hs2] at hc2' hcall
        obtain ⟨p1, z1, rfl⟩ : ∃ p1 z1, s1 = .slice p1 (lD ls k).length z1 := by obtain ⟨x, y, h, -⟩ := hi1; exact ⟨x, y, hs1.trans h⟩
        obtain ⟨p2, z2, rfl⟩ : ∃ p2 z2, s2 = .slice p2 (lD ms k).length z2 := by obtain ⟨x, y, h, -⟩ := hi2; exact ⟨x, y, hs2.trans h⟩
        clear hc1 hc2 hi1 hi2 hva hub HEND HNO HEQ hs1 hs2 hin
        go_upto_region 6 with fail
        go_cut [26] from 11 to 26 (fun bv wx => bv = .bool (!q) ∧ Below wr.heap.size wr wx)
        case first =>
          go_region_with (go_at_call 17; refine (hcall wr.drew ⟨hbel.os, hbel.tape, hbel.output, hbel.size, hbel.block⟩).mono ?_; rintro e w5 ⟨rfl, b5⟩)
          all_goals (try go_wp2_with fail)
          all_goals go_meet
          all_goals exact ⟨rfl, ⟨b5.os, b5.tape, b5.output, b5.size, b5.block⟩⟩
        case rest =>
          obtain ⟨rfl, hbx⟩ := hcut
          have hbel2 := hbel.trans (hbx.mono hbel.size)
          clear hc1' hc2' hcall
          cases q
          · obtain rfl := HF.out rfl
            go_wp2
            go_ret
            exact ⟨rfl, hbel2⟩
          · have hE := HK.out rfl
            go_wp2
            go_roundw
            case rel => exact ⟨k + 1, by omega, by go_num, hE, hbel2⟩
            case measure => simp [intOf]; omega
      · obtain rfl : k = n := by omega
        obtain rfl := HEND.out HEQ.out
        go_wp2
        go_ret
        exact ⟨rfl, hbel⟩
  · have hne : ¬ (ls.length : Int) = (ms.length : Int) := by omega
    rw [decide_eq_false fun e => hlen (by rw [e])]
    clear hva hub
    go_enter Try.func21, Try.ntmps21
    go_wp2
    go_ret
    exact ⟨rfl, Below.refl _ _⟩
end Go.Proofs.Ytkgnlamlmnhleaa
