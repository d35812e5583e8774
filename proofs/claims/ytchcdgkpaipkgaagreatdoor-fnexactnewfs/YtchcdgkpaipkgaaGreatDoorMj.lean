/- Names: impl.takeApart's own function: a sign is taken apart, and its parts, and laid behind what is there. Names: impl.takeApart: a row of signs, taken apart, each with its class. Names: a row of signs with their classes, a part of it put in order. Names: impl.orderMarks: the marks between two letters are put in order. Names: impl.Apart and impl.Fold: their contracts. Names: impl.Fold: its contract. -/
import Derived.Test.YtchcdgkpaipkgaaGreatDoorRows
import Derived.Test.YtchcdgkpaipkgaaGreatDoorMc
import Derived.Test.YtchcdgkpaipkgaaGreatDoorMi
import Derived.Test.YtchcdgkpaipkgaaGreatDoorMe
import Derived.Test.YtchcdgkpaipkgaaGreatDoorMd
import Derived.Test.YtchcdgkpaipkgaaGreatDoorMh
import Derived.Deep.RegionLaw
import Derived.Laws.EntriesVeiled
namespace Go.Proofs.YtchcdgkpaipkgaaGreatDoor

section
open Go.RowKit

set_option maxRecDepth 100000 in
theorem iClassE (c : Int) (w : World) :
    Calls Tryz.prog 85 #[.int .i64 c] w fun e w' => e = .returned (.int .i64 (clsN c)) ∧ w = w' := by
  by_cases h : c ∈ [768, 769, 770, 771, 772, 776, 778, 803, 807]
  · simp at h
    rcases h with rfl | rfl | rfl | rfl | rfl | rfl | rfl | rfl | rfl <;>
    · go_enter Tryz.func85, Tryz.ntmps85
      go_wp2
      go_ret
      exact ⟨rfl, rfl⟩
  · have HR : Hid (clsN c = 0) := by
      show clsN c = 0
      simp at h
      simp [clsN, amongB, clsL, h]
    simp at h
    obtain ⟨h1, h2, h3, h4, h5, h6, h7, h8, h9⟩ := h
    generalize clsN c = r at HR ⊢
    go_enter Tryz.func85, Tryz.ntmps85
    go_wp2
    go_ret
    exact ⟨ret_int HR.out.symm, rfl⟩

/-- signs with their classes, as they lie side by side -/
def flatP (l : List Int) : List Value := l.flatMap encP
theorem flatP_len (l : List Int) : (flatP l).length = l.length * 2 := by
  unfold flatP
  induction l with
  | nil => rfl
  | cons c l ih => rw [List.flatMap_cons, List.length_append, ih, encP_len, List.length_cons]; omega
theorem flatP_append (l m : List Int) : flatP (l ++ m) = flatP l ++ flatP m := by simp [flatP]
theorem flatP_one (c : Int) : flatP [c] = encP c := by simp [flatP]

def PRow (w : World) (base : Nat) (v : Value) (l : List Int) : Prop := w.ownsRow base 108 2 v l.length (flatP l)

theorem Tryz.infoP : (Tryz.prog.info? 108).map (fun i => (i.zero, i.size, i.bytes)) = some (some (.agg #[.int .i64 0, .int .i64 0]), 2, 16) := by kernel_rfl

/-- 'append(out, p)' as one step of a statement whose order is open -/
theorem step_appendP {ops : Array Oper} {o : Oper} {a : Act} {w : World} {K : Act → World → Prop} {Q : Exit → Act → World → Prop} {Z : Prop}
    (hg : o.guard = none) (s x : Operand) (hop : o.op = Op.call { callee := Callee.builtin Builtin.append, args := #[s, x], argTypes := #[104, 104] }) (base : Nat)
    (v : Value) (l : List Int) (hown : w.ownsRow base 108 2 v l.length (flatP l)) (hs : a.eval s = v)
    (ad : Addr) (c : Int) (cap : Nat) (hx : a.eval x = .slice (some ad) 1 cap) (hc : ∀ j u, (encP c)[j]? = some u → w.cell? (ad.add j) = some u)
    (hl : l.length + 1 ≤ 1099511627776) (hbase : base ≤ w.heap.size)
    (hK : ∀ g n cap w', PRow w' base (.slice (some ⟨g, 0, none⟩) n cap) (l ++ [c]) → w.grownBy w' v.ownBlock → K (a.put o.dst (.slice (some ⟨g, 0, none⟩) n cap)) w') :
    if Region.wanted o (yielded ops a.tmps) = true then Oper.wp Tryz.prog o a w K Q else Z := by
  obtain ⟨i0, hi, hz0, hz1, hz2⟩ := info_parts Tryz.infoP
  have hw : Region.wanted o (yielded ops a.tmps) = true := by simp [Region.wanted, hg]
  rw [if_pos hw]
  obtain ⟨v', w', hrun, r1, r2, _⟩ := run_append_own (P := Tryz.prog) w base 104 o.type 108 i0 _ 2 16 Tryz.underlying104 hi hz0 hz1 hz2 rfl (by decide) v l.length (flatP l) hown ad 1 cap (encP c) rfl hc
    (encP_one c) (by unfold maxLen; omega) (by omega) hbase
  unfold Oper.wp
  simp [execOp, hop, resolve, invoke, builtin, hs, hx, hrun, Result.andThen]
  have r3 : PRow w' base v' (l ++ [c]) := by
    unfold PRow
    rw [flatP_append, flatP_one, List.length_append]
    exact r1
  rcases r1.2 with ⟨_, h0⟩ | ⟨g, cap, cur, rfl, _⟩
  · omega
  · exact hK g _ cap w' r3 r2

/-- the two cells of a new block -/
theorem cell_pair (w : World) (E : TypeId) (c : Int) : ∀ j u, (encP c)[j]? = some u → (w.alloc (.cells #[.int .i64 c, .int .i64 (clsN c)] E)).cell? ((⟨w.heap.size, 0, none⟩ : Addr).add j) = some u := by
  intro j u h
  rw [Addr.add_lit, Nat.zero_add, World.cell?_alloc_mark]
  simpa [encP] using h

def ptrTo (g : Nat) : Value := .pointer (some ⟨g, 0, none⟩)

/-- what takeApart's own function works on: the source at h, what is gathered at h + 2, itself at h + 3 -/
structure TakeSt (h : Nat) (w : World) (v : Value) (l : List Int) : Prop where
  src : SrcAt h w
  out : w.heap[h + 2]? = some (.cells #[v] 104 (0, 0))
  fn : w.heap[h + 3]? = some (.cells #[.func (.func 83) #[] #[.pointer (some ⟨h, 0, none⟩), .pointer (some ⟨h + 2, 0, none⟩), .pointer (some ⟨h + 3, 0, none⟩)]] 115 (0, 0))
  row : PRow w (h + 1) v l
  isS : ∃ g n c, v = .slice (some ⟨g, 0, none⟩) n c

/-- what it leaves as it was -/
structure Kp (h : Nat) (w w' : World) : Prop where
  os : w'.os = w.os
  tape : w'.tape = w.tape
  output : w'.output = w.output
  size : w.heap.size ≤ w'.heap.size
  old : ∀ k, k < h → w'.heap[k]? = w.heap[k]?
  block : ∀ k, k < w.heap.size → k ≠ h → k ≠ h + 2 → (∀ cur fr, w.heap[k]? ≠ some (.cells cur 108 fr)) → w'.heap[k]? = w.heap[k]?
theorem Kp.refl (h : Nat) (w : World) : Kp h w w := ⟨rfl, rfl, rfl, Nat.le_refl _, fun _ _ => rfl, fun _ _ _ _ _ => rfl⟩
theorem Kp.trans {h : Nat} {w w1 w2 : World} (a : Kp h w w1) (b : Kp h w1 w2) : Kp h w w2 := {
  os := b.os.trans a.os
  tape := b.tape.trans a.tape
  output := b.output.trans a.output
  size := Nat.le_trans a.size b.size
  old := fun k hk => (b.old k hk).trans (a.old k hk)
  block := fun k hk h1 h2 h3 => by
    have e := a.block k hk h1 h2 h3
    exact (b.block k (Nat.lt_of_lt_of_le hk a.size) h1 h2 (fun cur fr => by rw [e]; exact h3 cur fr)).trans e }
theorem Kp.src {h : Nat} {w w' : World} (g : w.grownBy w' (some h)) (hlt : h < w.heap.size) : Kp h w w' :=
  ⟨g.os, g.tape, g.output, g.size, fun k hk => g.block k (by omega) (fun e => by cases e; omega), fun k hk h1 _ _ => g.block k hk (fun e => h1 (by cases e; rfl))⟩

theorem TakeSt.lt {h : Nat} {w : World} {v : Value} {l : List Int} (s : TakeSt h w v l) : h + 3 < w.heap.size := lt_of_block s.fn
/-- the parts are sought: nothing else changes -/
theorem TakeSt.sought {h : Nat} {w w' : World} {v : Value} {l : List Int} (s : TakeSt h w v l) (hs : SrcAt h w') (g : w.grownBy w' (some h)) : TakeSt h w' v l := by
  have hlt := s.lt
  refine ⟨hs, (g.block _ (by omega) (fun e => by cases e)).trans s.out, (g.block _ (by omega) (fun e => by cases e)).trans s.fn, ⟨s.row.1, ?_⟩, s.isS⟩
  rcases s.row.2 with h0 | ⟨q, cap, cur, e, hq, hh, r⟩
  · exact .inl h0
  · exact .inr ⟨q, cap, cur, e, hq, (g.block q (lt_of_block hh) (fun e => by cases e; omega)).trans hh, r⟩

/-- one more is gathered -/
theorem TakeSt.more {h : Nat} {w w1 w2 : World} {v v' : Value} {l m : List Int} (s : TakeSt h w v l) (b1 : Below w.heap.size w w1) (g : w1.grownBy w2 v.ownBlock) (hr : PRow w2 (h + 1) v' m) (hS : ∃ g n c, v' = .slice (some ⟨g, 0, none⟩) n c) :
    TakeSt h (w2.setCell ⟨h + 2, 0, none⟩ v') v' m ∧ Kp h w (w2.setCell ⟨h + 2, 0, none⟩ v') := by
  have hlt := s.lt
  have hz := b1.size
  have own : ∀ k, some k = v.ownBlock → h + 1 ≤ k ∧ ∃ cur, w.heap[k]? = some (.cells cur 108 (0, 0)) := fun k hk => by
    rcases s.row.2 with ⟨rfl, _⟩ | ⟨q, cap, cur, rfl, hq, hh, _⟩
    · simp [Value.ownBlock] at hk
    · simp [Value.ownBlock] at hk; subst hk; exact ⟨hq, cur, hh⟩
  have kept : ∀ k, k < w.heap.size → k ≠ h + 2 → some k ≠ v.ownBlock → (w2.setCell ⟨h + 2, 0, none⟩ v').heap[k]? = w.heap[k]? := fun k hk h2 hn =>
    (Below.heap_setCell _ _ _ _ h2).trans ((g.block k (by omega) hn).trans (b1.block k hk))
  have ne2 : some (h + 2) ≠ v.ownBlock := fun e => by
    obtain ⟨_, cur, hc⟩ := own _ e
    rw [s.out] at hc; cases hc
  have ne3 : some (h + 3) ≠ v.ownBlock := fun e => by
    obtain ⟨_, cur, hc⟩ := own _ e
    rw [s.fn] at hc; cases hc
  have ho2 : w2.heap[h + 2]? = some (.cells #[v] 104 (0, 0)) := (g.block _ (by omega) ne2).trans ((b1.block _ (by omega)).trans s.out)
  obtain ⟨mo, hb, hm⟩ := s.src
  have ne0 : some h ≠ v.ownBlock := fun e => by have := (own _ e).1; omega
  refine ⟨⟨⟨mo, (kept h (by omega) (by omega) ne0).trans hb, ?_⟩, heap_setCell_same w2 _ 0 _ _ _ ho2, (kept _ (by omega) (by omega) ne3).trans s.fn, ⟨hr.1, ?_⟩, hS⟩, ⟨g.os.trans b1.os, g.tape.trans b1.tape, g.output.trans b1.output, ?_, fun k hk => kept k (by omega) (by omega) (fun e => by have := (own _ e).1; omega), fun k hk h1 h2 h3 => kept k hk h2 (fun e => by obtain ⟨_, cur, hc⟩ := own _ e; exact h3 _ _ hc)⟩⟩
  · rcases hm with h0 | ⟨q, L, h1, h2, h3⟩
    · exact .inl h0
    · refine .inr ⟨q, L, h1, h2.kept (kept q h2.lt ?_ ?_), h3⟩
      · intro e
        obtain ⟨es, clk, hmb, _⟩ := h2
        rw [e, s.out] at hmb; cases hmb
      · intro e
        obtain ⟨es, clk, hmb, _⟩ := h2
        obtain ⟨_, cur, hc⟩ := own _ e
        rw [hmb] at hc; cases hc
  · rcases hr.2 with h0 | ⟨q, cap, cur, e, hq, hh, r⟩
    · exact .inl h0
    · refine .inr ⟨q, cap, cur, e, hq, (Below.heap_setCell _ _ _ _ ?_).trans hh, r⟩
      intro e2
      have e2 : q = h + 2 := e2
      rw [e2, ho2] at hh; cases hh
  · have := g.size
    simp [World.setCell]; omega

/-- what takeApart's own function says of c -/
def TakeC (h : Nat) (c : Int) (l : List Int) : Prop := ∀ (w : World) (v : Value) (m : List Int), m.length + l.length ≤ 1099511627776 → TakeSt h w v m →
  Calls Tryz.prog 83 #[.int .i64 c, .pointer (some ⟨h, 0, none⟩), .pointer (some ⟨h + 2, 0, none⟩), .pointer (some ⟨h + 3, 0, none⟩)] w fun e w' => e = .returned (.tuple #[]) ∧ (∃ v', TakeSt h w' v' (m ++ l)) ∧ Kp h w w'

set_option maxRecDepth 100000 in
set_option maxHeartbeats 2000000 in
theorem tk_leaf (h : Nat) (c : Int) (hp : partsN c = []) : TakeC h c [c] := by
  intro w v m hl st
  have HP := partsOf_any h c w st.src
  rw [hp] at HP
  go_enter Tryz.func83, Tryz.ntmps83
  go_wp2_with fail
  refine HP.mono ?_
  rintro _ w1 ⟨v0, rfl, hr0, hs1, hg1⟩
  obtain ⟨a0, cap0, rfl, _⟩ := hr0.at
  have st1 : Hid (TakeSt h w1 v m) := st.sought hs1 hg1
  have K1 : Hid (Kp h w w1) := Kp.src hg1 st.src.lt
  have c0 := cell_of_row w1 _ 0 _ _ (0, 0) st1.out.out
  have hown : w1.ownsRow (h + 1) 108 2 v m.length (flatP m) := st1.out.row
  have hlt1 := st1.out.lt
  have ho := st1.out.out
  have hCl := fun w => iClassE c w
  have c0a : ∀ o, (w1.alloc o).cell? ⟨h + 2, 0, none⟩ = some v := fun o => (((Below.refl _ w1).alloc (Nat.le_refl _) o).cell (p := ⟨h + 2, 0, none⟩) (by show h + 2 < _; omega)).trans c0
  have hpair := cell_pair w1 108 c
  have FIN : Hid (∀ w2 w3 v', Below w1.heap.size w1 w2 → w2.grownBy w3 v.ownBlock → PRow w3 (h + 1) v' (m ++ [c]) → (∃ g n c, v' = .slice (some ⟨g, 0, none⟩) n c) → (w3.cell? ⟨h + 2, 0, none⟩ = some v ∧ w3.frozen? ⟨h + 2, 0, none⟩ = false) ∧ TakeSt h (w3.setCell ⟨h + 2, 0, none⟩ v') v' (m ++ [c]) ∧ Kp h w (w3.setCell ⟨h + 2, 0, none⟩ v')) := fun w2 w3 v' b1 g hr hS => by
    have hm := st1.out.more b1 g hr hS
    have ne2 : some (h + 2) ≠ v.ownBlock := fun e => by
      rcases st1.out.row.2 with ⟨rfl, _⟩ | ⟨q, cap, cur, rfl, hq, hh, _⟩
      · simp [Value.ownBlock] at e
      · simp [Value.ownBlock] at e; subst e; rw [ho] at hh; cases hh
    have ho2 : w3.heap[h + 2]? = some (.cells #[v] 104 (0, 0)) := (g.block _ (by have := b1.size; omega) ne2).trans ((b1.block _ (by omega)).trans ho)
    exact ⟨⟨cell_of_row w3 _ 0 _ _ (0, 0) ho2, frozen_of_row w3 _ 0 _ _ ho2⟩, hm.1, K1.out.trans hm.2⟩
  clear hr0 hs1 hg1 HP ho
  generalize clsN c = k at *
  go_wp2
  go_region_law (first | (refine step_appendP rfl (.tmp 13) (.tmp 18) rfl (h + 1) v m ?_ ?_ ⟨w1.heap.size, 0, none⟩ c 1 ?_ ?_ ?_ ?_ ?_; (first | exact (hown.alloc _).drew | exact hown.drew.alloc _); (simp [Act.eval]); (simp [Act.eval]); (exact hpair); (simp at hl ⊢; omega); (simp; omega); intro g3 n3 cap3 w3 hrow3 hg3; obtain ⟨⟨c3, f3⟩, FIN3⟩ := FIN.out _ w3 _ (by first | exact ((Below.refl _ _).alloc (Nat.le_refl _) _).drew | exact (Below.refl _ _).drew.alloc (Nat.le_refl _) _) hg3 hrow3 ⟨_, _, _, rfl⟩) | (go_simp; go_at_call 85; refine (hCl _).mono ?_; rintro e w' ⟨rfl, rfl⟩; dsimp only))
  all_goals
    obtain ⟨HS3, HK3⟩ := FIN3
    have HS4 : Hid _ := HS3
    have HK4 : Hid _ := HK3
    clear HS3 HK3 c3 f3 hg3 hrow3 hown hpair c0 c0a
    generalize World.setCell _ _ _ = W4 at *
    go_wp2
    go_loopw [22] (fun vi wr => vi = .int .i64 0 ∧ wr = W4) (fun _ _ => 0)
    case atStart => exact ⟨rfl, rfl⟩
    case round =>
      obtain ⟨rfl, rfl⟩ := hrel
      go_wp2
      go_end0
      exact ⟨rfl, ⟨_, HS4.out⟩, HK4.out⟩
end

section
open Go.RowKit

theorem Kp.row {h : Nat} {w w' : World} {v : Value} {l : List Int} {base : Nat} (k : Kp h w w') (hr : IntRow w base v l) (hb : h + 3 < base) : IntRow w' base v l :=
  ⟨hr.1, by
    rcases hr.2 with h0 | ⟨g, cap, cur, e, hg, hh, r⟩
    · exact .inl h0
    · exact .inr ⟨g, cap, cur, e, hg, (k.block g (lt_of_block hh) (by omega) (by omega) (fun c fr e => by rw [hh] at e; cases e)).trans hh, r⟩⟩

set_option maxRecDepth 100000 in
set_option maxHeartbeats 2000000 in
theorem tk_step (h : Nat) (c : Int) (tk : Int → List Int) (hne : partsN c ≠ []) (HC : ∀ p ∈ partsN c, TakeC h p (tk p)) : TakeC h c ((partsN c).flatMap tk) := by
  intro w v m hl st
  have HP := partsOf_any h c w st.src
  have hn3 := partsN_le c
  generalize partsN c = ps at *
  have hpos : 0 < ps.length := List.length_pos_iff.2 hne
  have HLEN : Hid (∀ k, k < ps.length → (m ++ (ps.take k).flatMap tk).length + (tk (ps.getD k 0)).length ≤ 1099511627776) := fun k hk => by
    have e := flatMap_take ps tk k hk
    have e2 : ps.flatMap tk = (ps.take (k + 1)).flatMap tk ++ (ps.drop (k + 1)).flatMap tk := by rw [← List.flatMap_append, List.take_append_drop]
    have e3 : (ps.flatMap tk).length = ((ps.take k).flatMap tk).length + (tk (ps.getD k 0)).length + ((ps.drop (k + 1)).flatMap tk).length := by rw [e2, e, List.length_append, List.length_append]
    rw [List.length_append]; omega
  clear hl
  obtain ⟨n, HN⟩ : ∃ n, Hid (n = ps.length) := ⟨_, rfl⟩
  go_enter Tryz.func83, Tryz.ntmps83
  go_wp2_with fail
  refine HP.mono ?_
  rintro _ w1 ⟨v0, rfl, hr0, hs1, hg1⟩
  have st1 : Hid (TakeSt h w1 v m) := st.sought hs1 hg1
  have K1 : Hid (Kp h w w1) := Kp.src hg1 st.src.lt
  have HR0 : Hid (IntRow w1 w.heap.size v0 ps) := hr0
  have hlt := st.lt
  obtain ⟨a0, cap0, rfl, _⟩ := hr0.at
  rw [← HN.out] at hpos hn3 HLEN HR0 ⊢
  have hz : ((n : Int) == 0) = false := by rw [beq_eq_false_iff_ne]; omega
  clear hr0 hs1 hg1 HP st
  go_wp2
  go_loopw [22] (fun vi wr => ∃ (k : Nat) (v' : Value), k ≤ n ∧ vi = .int .i64 k ∧ Hid (TakeSt h wr v' (m ++ (ps.take k).flatMap tk)) ∧ Hid (Kp h w1 wr)) (fun vi _ => n - (intOf vi).toNat)
  case atStart => exact ⟨0, v, Nat.zero_le _, rfl, by show TakeSt h w1 v (m ++ (ps.take 0).flatMap tk); simpa using st1.out, Kp.refl h w1⟩
  case round =>
    obtain ⟨k, v', hk, rfl, HS, HK⟩ := hrel
    by_cases hlt2 : k < n
    · have hltz : (k : Int) < (n : Int) := by omega
      have hkp : k < ps.length := by have := HN.out; omega
      have hr2 := (HK.out.row HR0.out hlt).at
      obtain ⟨a1, cap1, he, hcs⟩ := hr2
      obtain ⟨b1, o1, rfl, hb1, hc1⟩ := hcs k hkp
      cases he
      have cf := cell_of_row wr _ 0 _ _ (0, 0) HS.out.fn
      have HM : Hid (ps.getD k 0 ∈ ps) := by show ps.getD k 0 ∈ ps; simp [List.getD, hkp]
      have HT : Hid ((ps.take (k + 1)).flatMap tk = (ps.take k).flatMap tk ++ tk (ps.getD k 0)) := flatMap_take ps tk k hkp
      have hCall := HC _ HM.out wr v' _ (HLEN.out k hlt2) HS.out
      generalize ps.getD k 0 = x at *
      go_wp2_with fail
      refine hCall.mono ?_
      rintro _ w2 ⟨rfl, ⟨v2, hS2⟩, hK2⟩
      have HS2 : Hid (TakeSt h w2 v2 (m ++ (ps.take (k + 1)).flatMap tk)) := by rw [HT.out, ← List.append_assoc]; exact hS2
      have HK2 : Hid (Kp h w1 w2) := HK.out.trans hK2
      clear hCall hS2 hK2 cf hc1 hb1
      go_wp2
      go_roundw
      case rel => exact ⟨k + 1, v2, by omega, by go_num, HS2, HK2⟩
      case measure => simp [intOf]; omega
    · obtain rfl : k = n := by omega
      have HS2 : Hid (TakeSt h wr v' (m ++ ps.flatMap tk)) := by
        have h1 := HS.out
        rw [HN.out, List.take_of_length_le (Nat.le_refl _)] at h1
        exact h1
      have HK2 : Hid (Kp h w wr) := K1.out.trans HK.out
      go_wp2
      go_end0
      exact ⟨rfl, ⟨v', HS2.out⟩, HK2.out⟩

theorem tk_by (h : Nat) (c : Int) (tk : Int → List Int) (HC : ∀ p ∈ partsN c, TakeC h p (tk p)) : TakeC h c (takeBy tk c) := by
  unfold takeBy
  by_cases hp : partsN c = []
  · rw [if_pos hp]; exact tk_leaf h c hp
  · rw [if_neg hp]; exact tk_step h c tk hp HC
theorem tk_whole (h : Nat) (c : Int) : TakeC h c (takeN c) :=
  tk_by h c take1 fun d hd => tk_by h d (fun e => [e]) fun e he => tk_leaf h e (parts_two c d e hd he)

/-- 'make([]T, 0, n)': the new block is the next one -/
theorem wpList_make_at {P : Program} (w : World) {ops : Array Oper} {rest : List Oper} {o : Oper} {a : Act} {Q : Exit → Act → World → Prop}
    (hg : o.guard = none) (l c : Operand) (t : TypeId) (hop : o.op = Op.makeSlice t l c)
    (base : Nat) (e : TypeId) (i : TypeInfo) (z : Value) (size : Nat) (h1 : P.underlying t = some (.slice e)) (h2 : P.info? e = some i) (h3 : i.zero = some z) (h4 : i.size = size)
    (kl kc : IntKind) (C : Int) (n : Nat) (hl : a.eval l = .int kl 0) (hc : a.eval c = .int kc C) (hC : C = (n : Int)) (b2 : i.bytes * n ≤ 281474976710656) (b3 : n ≤ maxLen) (b4 : base ≤ w.heap.size)
    (hK : ∀ cs, (w.alloc (.cells cs e)).ownsRow base e size (.slice (some ⟨w.heap.size, 0, none⟩) 0 n) 0 [] → wpList P ops Q rest (a.put o.dst (.slice (some ⟨w.heap.size, 0, none⟩) 0 n)) (w.alloc (.cells cs e))) :
    wpList P ops Q (o :: rest) a w := by
  refine wpList_plain hg fun K hK' => ?_
  subst hC
  subst h4
  have h63 : (n : Int) ≤ 9223372036854775807 := by
    have h := b3
    simp [maxLen] at h
    omega
  have hb' : (i.bytes : Int) * (n : Int) ≤ 281474976710656 := by
    have h : ((i.bytes * n : Nat) : Int) ≤ 281474976710656 := by omega
    rwa [Int.natCast_mul] at h
  have hr := run_make (P := P) w t e i z h1 h2 h3 kl kc 0 n (Int.le_refl _) (by omega) hb' h63
  simp only [Int.toNat_zero, Int.toNat_natCast] at hr
  unfold Oper.wp
  simp [execOp, hop, hl, hc, hr, Result.andThen]
  exact hK' _ _ (hK _ (World.ownsRow_made w _ n b4 b3 (size_madeCells _ _)))

/-- what takeApart begins with -/
theorem tk_start (w : World) (cs : Array Value) (v : Value) (hr : ((w.alloc (.cells #[.map none] 114)).alloc (.cells cs 108)).ownsRow (w.heap.size + 1) 108 2 v 0 []) (hS : ∃ g n c, v = .slice (some ⟨g, 0, none⟩) n c) (F : Value)
    (hF : F = .func (.func 83) #[] #[.pointer (some ⟨w.heap.size, 0, none⟩), .pointer (some ⟨w.heap.size + 2, 0, none⟩), .pointer (some ⟨w.heap.size + 3, 0, none⟩)]) :
    TakeSt w.heap.size ((((w.alloc (.cells #[.map none] 114)).alloc (.cells cs 108)).alloc (.cells #[v] 104)).alloc (.cells #[F] 115)) v [] ∧
    Kp w.heap.size w ((((w.alloc (.cells #[.map none] 114)).alloc (.cells cs 108)).alloc (.cells #[v] 104)).alloc (.cells #[F] 115)) := by
  subst hF
  refine ⟨⟨⟨none, ?_, .inl rfl⟩, ?_, ?_, (hr.alloc _).alloc _, hS⟩, ⟨rfl, rfl, rfl, by simp only [hs_alloc]; omega, fun k hk => ?_, fun k hk _ _ _ => ?_⟩⟩
  · rw [heap_alloc_old _ _ (by simp only [hs_alloc]; omega), heap_alloc_old _ _ (by simp only [hs_alloc]; omega), heap_alloc_old _ _ (by simp only [hs_alloc]; omega), heap_alloc_new]
  · rw [heap_alloc_old _ _ (by simp only [hs_alloc]; omega)]
    have := heap_alloc_new ((w.alloc (.cells #[.map none] 114)).alloc (.cells cs 108)) (.cells #[v] 104)
    rwa [hs_alloc, hs_alloc] at this
  · have := heap_alloc_new (((w.alloc (.cells #[.map none] 114)).alloc (.cells cs 108)).alloc (.cells #[v] 104)) (.cells #[.func (.func 83) #[] #[.pointer (some ⟨w.heap.size, 0, none⟩), .pointer (some ⟨w.heap.size + 2, 0, none⟩), .pointer (some ⟨w.heap.size + 3, 0, none⟩)]] 115)
    rwa [hs_alloc, hs_alloc, hs_alloc] at this
  · rw [heap_alloc_old _ _ (by simp only [hs_alloc]; omega), heap_alloc_old _ _ (by simp only [hs_alloc]; omega), heap_alloc_old _ _ (by simp only [hs_alloc]; omega), heap_alloc_old _ _ (by omega)]
  · rw [heap_alloc_old _ _ (by simp only [hs_alloc]; omega), heap_alloc_old _ _ (by simp only [hs_alloc]; omega), heap_alloc_old _ _ (by simp only [hs_alloc]; omega), heap_alloc_old _ _ (by omega)]

theorem takes_len (l : List Int) : (l.flatMap takeN).length ≤ 9 * l.length := by
  induction l with
  | nil => simp
  | cons c l ih => rw [List.flatMap_cons, List.length_append, List.length_cons]; have := (takeN_ne c).2; omega

set_option maxRecDepth 100000 in
set_option maxHeartbeats 2000000 in
theorem takeApart_any (v : Value) (l : List Int) (w : World) (hv : IntsAt w v l) (hl : l.length ≤ 1048576) :
    Calls Tryz.prog 76 #[v] w fun e w' => ∃ g n c, e = .returned (.slice (some ⟨g, 0, none⟩) n c) ∧ PRow w' (w.heap.size + 1) (.slice (some ⟨g, 0, none⟩) n c) (l.flatMap takeN) ∧ Below w.heap.size w w' := by
  obtain ⟨i0, hi, hz0, hz1, hz2⟩ := info_parts Tryz.infoP
  have hmf : ∀ (fn : Fn) (first cap : Array Value) (w : World), (Instr.makeFunc fn first cap).run Tryz.prog w = .ok (.func fn first cap) w := fun _ _ _ _ => rfl
  obtain ⟨ad, cap, rfl, hc⟩ := hv
  have HC : Hid (∀ t, t < l.length → ∃ b off, ad = some ⟨b, off, none⟩ ∧ b < w.heap.size ∧ w.cell? ⟨b, off + t, none⟩ = some (.int .i64 (l.getD t 0))) := hc
  obtain ⟨n, HN⟩ : ∃ n, Hid (n = l.length) := ⟨_, rfl⟩
  rw [← HN.out] at hl ⊢
  have hTL := takes_len
  have HT : Hid (∀ x : Int, TakeC w.heap.size x (takeN x)) := fun x => tk_whole _ x
  clear hc
  go_enter Tryz.func76, Tryz.ntmps76
  go_wp2_with (at_make; refine wpList_make_at _ rfl _ _ 104 rfl (w.heap.size + 1) 108 i0 _ 2 Tryz.underlying104 hi hz0 hz1 .i64 .i64 _ n rfl rfl (by omega) (by rw [hz2]; omega) (by unfold maxLen; omega) (by simp) ?_; intro cs hown1)
  rw [hs_alloc] at hown1
  obtain ⟨hS0, hK0⟩ := tk_start w cs _ hown1 ⟨_, _, _, rfl⟩ _ rfl
  have HS0 : Hid _ := hS0
  have HK0 : Hid _ := hK0
  clear hS0 hK0 hown1 hi hz0 hz1 hz2
  go_loopw [14] (fun vi wr => ∃ (k : Nat) (v' : Value), k ≤ n ∧ vi = .int .i64 k ∧ Hid (TakeSt w.heap.size wr v' ((l.take k).flatMap takeN)) ∧ Hid (Kp w.heap.size w wr)) (fun vi _ => n - (intOf vi).toNat)
  case atStart => exact ⟨0, _, Nat.zero_le _, rfl, HS0, HK0⟩
  case round =>
    obtain ⟨k, v', hk, rfl, HS, HK⟩ := hrel
    by_cases hlt2 : k < n
    · have hltz : (k : Int) < (n : Int) := by omega
      have hkp : k < l.length := by have := HN.out; omega
      obtain ⟨b1, o1, rfl, hb1, hc1⟩ := HC.out k hkp
      have hc2 : wr.cell? ⟨b1, o1 + k, none⟩ = some (.int .i64 (l.getD k 0)) := (World.cell?_of_block (w := w) (HK.out.old b1 hb1)).trans hc1
      have cf := cell_of_row wr _ 0 _ _ (0, 0) HS.out.fn
      have HF : Hid ((l.take (k + 1)).flatMap takeN = (l.take k).flatMap takeN ++ takeN (l.getD k 0)) := flatMap_take l takeN k hkp
      have hCall := HT.out (l.getD k 0) wr v' _ (by have h1 := hTL (l.take k); have h2 := (takeN_ne (l.getD k 0)).2; rw [List.length_take] at h1; omega) HS.out
      clear hc1 HC
      generalize l.getD k 0 = x at *
      go_wp2_with fail
      refine hCall.mono ?_
      rintro _ w2 ⟨rfl, ⟨v2, hS2⟩, hK2⟩
      have HS2 : Hid (TakeSt w.heap.size w2 v2 ((l.take (k + 1)).flatMap takeN)) := by rw [HF.out]; exact hS2
      have HK2 : Hid (Kp w.heap.size w w2) := HK.out.trans hK2
      clear hCall hS2 hK2 cf hc2
      go_wp2
      go_roundw
      case rel => exact ⟨k + 1, v2, by omega, by go_num, HS2, HK2⟩
      case measure => simp [intOf]; omega
    · obtain rfl : k = n := by omega
      have HS2 : Hid (TakeSt w.heap.size wr v' (l.flatMap takeN)) := by
        have h1 := HS.out
        rw [HN.out, List.take_of_length_le (Nat.le_refl _)] at h1
        exact h1
      have c2 := cell_of_row wr _ 0 _ _ (0, 0) HS.out.out
      go_wp2
      go_ret
      obtain ⟨g, m, cp, hv⟩ := HS2.out.isS
      subst hv
      exact ⟨g, m, cp, rfl, HS2.out.row, ⟨HK.out.os, HK.out.tape, HK.out.output, HK.out.size, HK.out.old⟩⟩
end

section
open Go.RowKit Go.Shelf Go.Lib Go.Sort

/-- the first ones of block g are x, each with its class -/
def PAt (w : World) (g cap : Nat) (x : List Int) : Prop :=
  ∃ cur, w.heap[g]? = some (.cells cur 108 (0, 0)) ∧ cur.size = cap * 2 ∧ x.length ≤ cap ∧ ∀ j, j < x.length → cur[j * 2]? = some (.int .i64 (x.getD j 0)) ∧ cur[j * 2 + 1]? = some (.int .i64 (clsN (x.getD j 0)))

theorem flatP_at : ∀ (x : List Int) (j : Nat), j < x.length → (flatP x)[j * 2]? = some (.int .i64 (x.getD j 0)) ∧ (flatP x)[j * 2 + 1]? = some (.int .i64 (clsN (x.getD j 0)))
  | [], j, h => by simp at h
  | c :: x, 0, _ => ⟨rfl, rfl⟩
  | c :: x, j + 1, h => by
    have ih := flatP_at x j (by simpa using h)
    have e : flatP (c :: x) = .int .i64 c :: .int .i64 (clsN c) :: flatP x := by simp [flatP, encP]
    rw [e, show (j + 1) * 2 = j * 2 + 1 + 1 by omega]
    simpa using ih

theorem PRow.at {w : World} {base g n cap : Nat} {x : List Int} (h : PRow w base (.slice (some ⟨g, 0, none⟩) n cap) x) : PAt w g cap x ∧ n = x.length ∧ base ≤ g ∧ n ≤ cap := by
  rcases h.2 with ⟨e, _⟩ | ⟨g', cap', cur, e, hg, hh, hnc, hcp, hcs, htake⟩
  · cases e
  · cases e
    refine ⟨⟨cur, hh, hcs, hnc, fun j hj => ?_⟩, rfl, hg, hnc⟩
    have h1 := flatP_at x j hj
    have key : ∀ t, t < x.length * 2 → cur[t]? = (flatP x)[t]? := fun t ht => by
      rw [← htake, List.getElem?_take_of_lt ht]; simp
    rw [key _ (by omega), key _ (by omega)]
    exact h1

theorem PAt.lt {w : World} {g cap : Nat} {x : List Int} (h : PAt w g cap x) : g < w.heap.size := by
  obtain ⟨cur, hh, _⟩ := h
  exact lt_of_block hh
theorem PAt.below {w w' : World} {g cap : Nat} {x : List Int} (h : PAt w g cap x) (b : Below w.heap.size w w') : PAt w' g cap x := by
  have hl := h.lt
  obtain ⟨cur, hh, r⟩ := h
  exact ⟨cur, (b.block g hl).trans hh, r⟩
theorem PAt.cells {w : World} {g cap : Nat} {x : List Int} (h : PAt w g cap x) (j : Nat) (hj : j < x.length) : w.cell? ⟨g, j * 2, none⟩ = some (.int .i64 (x.getD j 0)) ∧ w.cell? ⟨g, j * 2 + 1, none⟩ = some (.int .i64 (clsN (x.getD j 0))) := by
  obtain ⟨cur, hh, _, _, hc⟩ := h
  rw [cell_of_row w g _ _ _ (0, 0) hh, cell_of_row w g _ _ _ (0, 0) hh]
  exact hc j hj

/-- a part of it, as the sort takes it -/
theorem PAt.holds {w : World} {g cap : Nat} {x : List Int} (h : PAt w g cap x) (f n : Nat) (hn : f + n ≤ x.length) : HoldsK encP 2 w g (f * 2) ((x.drop f).take n).toArray ∧ ((x.drop f).take n).toArray.size = n := by
  have hsz : ((x.drop f).take n).toArray.size = n := by simp; omega
  refine ⟨fun j hj => ?_, hsz⟩
  rw [size_flatK, hsz] at hj
  have hd : ((x.drop f).take n).toArray[j / 2]! = x.getD (f + j / 2) 0 := by
    rw [getElem!_pos _ _ (by rw [hsz]; omega)]
    simp [List.getD, show f + j / 2 < x.length by omega]
  have hc := h.cells (f + j / 2) (by omega)
  obtain ⟨cur, hh, _⟩ := h
  refine ⟨?_, frozen_of_row w g _ _ _ hh⟩
  show _ = some ((flatK encP 2 _)[j]!)
  rw [get_flatK _ _ _ _ (by rw [hsz]; exact hj), hd]
  rcases Nat.mod_two_eq_zero_or_one j with h2 | h2
  · rw [h2, show f * 2 + j = (f + j / 2) * 2 by omega, hc.1]; rfl
  · rw [h2, show f * 2 + j = (f + j / 2) * 2 + 1 by omega, hc.2]; rfl

/-- and as it leaves it -/
theorem PAt.sorted {w W : World} {g cap : Nat} {x : List Int} (h : PAt w g cap x) (f n : Nat) (hn : f + n ≤ x.length) {dk : Array Int} (hs : SWp w g (f * 2) dk W) (hd : dk.size = n) :
    PAt W g cap (x.take f ++ (dk.toList ++ x.drop (f + n))) ∧ w.grownBy W (some g) := by
  obtain ⟨hb, _, m, os, rfl⟩ := hs
  obtain ⟨cur, hh, hcs, hxc, hc⟩ := h
  have hold : ∀ k, k < w.heap.size → k ≠ g → (sortWorldK encP 2 w g (f * 2) m dk os).heap[k]? = w.heap[k]? := fun k hk hne => by
    unfold sortWorldK
    rw [heap_grow_old _ _ (by rw [size_putRowK]; exact hk)]
    show (w.heap.modify g _)[k]? = _
    rw [Array.getElem?_modify, if_neg (Ne.symm hne)]
  have hnew : (sortWorldK encP 2 w g (f * 2) m dk os).heap[g]? = some (.cells (putCells id (f * 2) (flatK encP 2 dk) cur) 108 (0, 0)) := by
    unfold sortWorldK
    rw [heap_grow_old _ _ (by rw [size_putRowK]; exact hb)]
    show (w.heap.modify g _)[g]? = _
    rw [Array.getElem?_modify, if_pos rfl, hh]
    rfl
  have hlen : (x.take f ++ (dk.toList ++ x.drop (f + n))).length = x.length := by simp [hd]; omega
  refine ⟨⟨_, hnew, by simp [putCells, hcs], by rw [hlen]; exact hxc, fun j hj => ?_⟩, ⟨rfl, rfl, rfl, by unfold sortWorldK; rw [size_grow, size_putRowK]; exact Nat.le_add_right _ _, fun k hk hne => hold k hk (fun e => hne (by rw [e]))⟩⟩
  rw [hlen] at hj
  have hput : ∀ t, t < cap * 2 → (putCells id (f * 2) (flatK encP 2 dk) cur)[t]? = if f * 2 ≤ t ∧ t < f * 2 + n * 2 then some (flatK encP 2 dk)[t - f * 2]! else cur[t]? := fun t ht => by
    unfold putCells
    rw [Array.getElem?_mapIdx, size_flatK, hd]
    have : t < cur.size := by omega
    rw [Array.getElem?_eq_getElem this]
    by_cases hq : f * 2 ≤ t ∧ t < f * 2 + n * 2
    · simp [hq]
    · rw [if_neg hq]; simp [hq]
  rw [hput _ (by omega), hput _ (by omega)]
  have c0 := hc j hj
  by_cases h1 : j < f
  · rw [if_neg (by omega), if_neg (by omega)]
    have e : (x.take f ++ (dk.toList ++ x.drop (f + n))).getD j 0 = x.getD j 0 := by
      simp only [List.getD]
      rw [List.getElem?_append_left (by simp; omega), List.getElem?_take_of_lt h1]
    rw [e]; exact c0
  · by_cases h2 : j < f + n
    · rw [if_pos (by omega), if_pos (by omega)]
      have e : (x.take f ++ (dk.toList ++ x.drop (f + n))).getD j 0 = dk[j - f]! := by
        simp only [List.getD]
        rw [List.getElem?_append_right (by simp; omega), List.getElem?_append_left (by simp; omega)]
        have hk : j - min f x.length < dk.size := by omega
        rw [List.length_take, Array.getElem?_toList, Array.getElem?_eq_getElem hk, getElem!_pos dk (j - f) (by omega)]
        simp only [Option.getD_some]
        congr 1; omega
      rw [e, get_flatK _ _ _ _ (by omega), get_flatK _ _ _ _ (by omega), show (j * 2 - f * 2) / 2 = j - f by omega, show (j * 2 - f * 2) % 2 = 0 by omega, show (j * 2 + 1 - f * 2) / 2 = j - f by omega, show (j * 2 + 1 - f * 2) % 2 = 1 by omega]
      exact ⟨rfl, rfl⟩
    · rw [if_neg (by omega), if_neg (by omega)]
      have e : (x.take f ++ (dk.toList ++ x.drop (f + n))).getD j 0 = x.getD j 0 := by
        simp only [List.getD]
        rw [List.getElem?_append_right (by simp; omega), List.getElem?_append_right (by simp; omega), List.getElem?_drop]
        congr 2; simp; omega
      rw [e]; exact c0
end

section
open Go.RowKit Go.Shelf Go.Lib Go.Sort

/-- a part of marks, sorted -/
theorem sort_part (g cap : Nat) (x y : List Int) (f i : Nat) (hu : Upto x i f y) (hi : i ≤ x.length) (w : World) (h : PAt w g cap y) (hl : x.length < 1152921504606846976) (n cap' : Nat) (hn : n = i - f) :
    Calls Tryz.prog 86 #[.slice (some ⟨g, f * 2, none⟩) n cap', .func (.func 87) #[] #[]] w fun e w' => e = .returned (.tuple #[]) ∧ PAt w' g cap (srtN (x.take f) ++ (srtN ((x.drop f).take (i - f)) ++ x.drop i)) ∧ w.grownBy w' (some g) := by
  subst hn
  have hle := hu.le
  have hlenS : (srtN (x.take f)).length = f := by unfold srtN; rw [List.length_reverse, srtR_len]; simp; omega
  have hylen : y.length = x.length := by rw [hu.split]; simp [hlenS]; omega
  have hdrop : (y.drop f).take (i - f) = (x.drop f).take (i - f) := by rw [hu.row, List.drop_append, hlenS, List.drop_of_length_le (by rw [hlenS]; omega)]; simp
  have htake : y.take f = srtN (x.take f) := by rw [hu.row, List.take_append_of_le_length (by omega), List.take_of_length_le (by omega)]
  have hdi : y.drop (f + (i - f)) = x.drop i := by
    rw [hu.row, List.drop_append, hlenS, List.drop_of_length_le (by rw [hlenS]; omega), List.nil_append, List.drop_drop]
    congr 1; omega
  obtain ⟨hH, hz⟩ := h.holds f (i - f) (by omega)
  rw [hdrop] at hH hz
  refine (sortStable_of g (f * 2) cap' (i - f) (fun N => sym_says _ _ _ _ (by omega) N) _ w hz hH h.lt (by omega)).mono ?_
  rintro e w' ⟨rfl, d', hD, hS, hM, hz'⟩
  have hp := h.sorted f (i - f) (by omega) hD hz'
  have hZ : d'.toList = srtN ((x.drop f).take (i - f)) := marks_one _ _ (hu.mid_marks hi) (srtd_list clsN (by rw [hz']; exact hS)) (fun k => by have := hM k; simpa using this)
  rw [htake, hZ, hdi] at hp
  exact ⟨rfl, hp.1, hp.2⟩

/-- no part at all -/
theorem sort_none (g cap : Nat) (y : List Int) (w : World) (h : PAt w g cap y) :
    Calls Tryz.prog 86 #[.slice (some ⟨g, 0, none⟩) 0 0, .func (.func 87) #[] #[]] w fun e w' => e = .returned (.tuple #[]) ∧ PAt w' g cap y ∧ w.grownBy w' (some g) := by
  obtain ⟨hH, hz⟩ := h.holds 0 0 (by omega)
  refine (sortStable_of g 0 0 0 (fun N => sym_says _ _ _ _ (by omega) N) _ w hz hH h.lt (by omega)).mono ?_
  rintro e w' ⟨rfl, d', hD, hS, hM, hz'⟩
  have hp := h.sorted 0 0 (by omega) hD hz'
  have e0 : d'.toList = [] := List.eq_nil_of_length_eq_zero (by simpa using hz')
  rw [e0] at hp
  exact ⟨rfl, by simpa using hp.1, hp.2⟩

set_option maxRecDepth 100000 in
set_option maxHeartbeats 400000 in
theorem orderMarks_any (g cap n : Nat) (x : List Int) (w : World) (h : PAt w g cap x) (hn : Hid (n = x.length)) (hnc : n ≤ cap) (hcap : cap ≤ 9223372036854775807) (hl : n ≤ 1099511627776) :
    Calls Tryz.prog 77 #[.slice (some ⟨g, 0, none⟩) n cap] w fun e w' => e = .returned (.tuple #[]) ∧ PAt w' g cap (srtN x) ∧ w.grownBy w' (some g) := by
  have HP : Hid (PAt w g cap x) := h
  clear h
  go_enter Tryz.func77, Tryz.ntmps77
  go_wp2
  go_loopw [2, 7] (fun vf vi wr => ∃ (i f : Nat) (y : List Int), i ≤ n ∧ f ≤ i ∧ vf = .int .i64 f ∧ vi = .int .i64 i ∧ Hid (PAt wr g cap y) ∧ Hid (Upto x i f y) ∧ Hid (w.grownBy wr (some g))) (fun _ vi _ => n - (intOf vi).toNat)
  case atStart => exact ⟨0, 0, x, by omega, by omega, rfl, rfl, HP, Upto.start x, (⟨rfl, rfl, rfl, Nat.le_refl _, fun _ _ _ => rfl⟩ : w.grownBy w (some g))⟩
  case round =>
    obtain ⟨i, f, y, hi, hfi, rfl, rfl, HA, HU, HG⟩ := hrel
    by_cases hlt : i < n
    · have hltz : (i : Int) < (n : Int) := by omega
      have hix : i < x.length := by have := hn.out; omega
      have hyi : y.getD i 0 = x.getD i 0 ∧ y.length = x.length := by
        have hlenS : (srtN (x.take f)).length = f := by unfold srtN; rw [List.length_reverse, srtR_len]; simp; omega
        rw [HU.out.row]
        constructor
        · simp only [List.getD]
          rw [List.getElem?_append_right (by omega), hlenS, List.getElem?_drop]
          congr 2; omega
        · simp [hlenS]; omega
      obtain ⟨l0, l1⟩ := HA.out.cells i (by omega)
      rw [hyi.1] at l0 l1
      have HMK : Hid (markB (x.getD i 0) ↔ 0 < clsN (x.getD i 0)) := Iff.rfl
      obtain ⟨k, HK⟩ : ∃ k, Hid (k = clsN (x.getD i 0)) := ⟨_, rfl⟩
      rw [← HK.out] at l1 HMK
      clear hyi
      have HXI : Hid (∃ z, x.getD i 0 = z) := ⟨_, rfl⟩
      by_cases hm : 0 < k
      · have HU2 : Hid (Upto x (i + 1) f y) := HU.out.mark (HMK.out.2 hm)
        have HA2 : Hid (∀ o, PAt (wr.alloc o) g cap y) := fun o => HA.out.below ((Below.refl _ _).alloc (Nat.le_refl _) _)
        have HG2 : Hid (∀ o, w.grownBy (wr.alloc o) (some g)) := fun o => ⟨HG.out.os, HG.out.tape, HG.out.output, by rw [hs_alloc]; exact Nat.le_succ_of_le HG.out.size, fun k hk hne => (Below.heap_alloc _ _ _ (Nat.lt_of_lt_of_le hk HG.out.size)).trans (HG.out.block k hk hne)⟩
        go_wp2
        go_roundw
        case rel => exact ⟨i + 1, f, y, by omega, by omega, rfl, by go_num, HA2.out _, HU2, HG2.out _⟩
        case measure => simp [intOf]; omega
      · have hm' : ¬ markB (x.getD i 0) := fun q => hm (HMK.out.1 q)
        have HU2 : Hid (Upto x (i + 1) (i + 1) (srtN (x.take f) ++ (srtN ((x.drop f).take (i - f)) ++ x.drop i))) := HU.out.letter hix hm' rfl
        have HA2 : Hid (∀ o, PAt (wr.alloc o) g cap y) := fun o => HA.out.below ((Below.refl _ _).alloc (Nat.le_refl _) _)
        have HG2 : Hid (∀ o, w.grownBy (wr.alloc o) (some g)) := fun o => ⟨HG.out.os, HG.out.tape, HG.out.output, by rw [hs_alloc]; exact Nat.le_succ_of_le HG.out.size, fun k hk hne => (Below.heap_alloc _ _ _ (Nat.lt_of_lt_of_le hk HG.out.size)).trans (HG.out.block k hk hne)⟩
        have HC : Hid (∀ o n' cap', n' = i - f → Calls Tryz.prog 86 #[.slice (some ⟨g, f * 2, none⟩) n' cap', .func (.func 87) #[] #[]] (wr.alloc o) fun e w' => e = .returned (.tuple #[]) ∧ PAt w' g cap (srtN (x.take f) ++ (srtN ((x.drop f).take (i - f)) ++ x.drop i)) ∧ (wr.alloc o).grownBy w' (some g)) := fun o n' cap' he => sort_part g cap x y f i HU.out (by omega) _ (HA2.out o) (by have := hn.out; omega) n' cap' he
        clear hm'
        go_wp2_with fail
        refine (HC.out _ _ _ rfl).mono ?_
        rintro _ w1 ⟨rfl, hA1, hG1⟩
        have HA1 : Hid (PAt w1 g cap (srtN (x.take f) ++ (srtN ((x.drop f).take (i - f)) ++ x.drop i))) := hA1
        have HG1 : Hid (w.grownBy w1 (some g)) := gbi_trans (HG2.out _) hG1
        clear hA1 hG1
        go_wp2
        go_roundw
        case rel => exact ⟨i + 1, i + 1, _, by omega, Nat.le_refl _, by go_num, by go_num, HA1, HU2, HG1⟩
        case measure => simp [intOf]; omega
    · obtain rfl : i = n := by omega
      have HC : Hid (∀ n' cap', n' = i - f → Calls Tryz.prog 86 #[.slice (some ⟨g, f * 2, none⟩) n' cap', .func (.func 87) #[] #[]] wr fun e w' => e = .returned (.tuple #[]) ∧ PAt w' g cap (srtN (x.take f) ++ (srtN ((x.drop f).take (i - f)) ++ x.drop i)) ∧ wr.grownBy w' (some g)) := fun n' cap' he => sort_part g cap x y f i HU.out (by have := hn.out; omega) _ HA.out (by have := hn.out; omega) n' cap' he
      have HE : Hid (srtN (x.take f) ++ (srtN ((x.drop f).take (i - f)) ++ x.drop i) = srtN x) := by
        show _ = _
        have hxi := hn.out
        have h1 : (x.drop f).take (i - f) = x.drop f := List.take_of_length_le (by simp; omega)
        have h2 : x.drop i = [] := List.drop_of_length_le (by omega)
        rw [h1, h2, List.append_nil]
        have hu := HU.out
        rw [hxi] at hu
        exact hu.last rfl
      by_cases hfc : f < cap
      · go_wp2_with fail
        refine (HC.out _ _ rfl).mono ?_
        rintro _ w1 ⟨rfl, hA1, hG1⟩
        rw [HE.out] at hA1
        have HA1 : Hid (PAt w1 g cap (srtN x)) := hA1
        have HG1 : Hid (w.grownBy w1 (some g)) := gbi_trans HG.out hG1
        clear hA1 hG1
        go_wp2
        go_end0
        exact ⟨rfl, HA1.out, HG1.out⟩
      · have HY : Hid (y = srtN x) := by
          show _ = _
          have hxi := hn.out
          rw [HU.out.row, List.take_of_length_le (by omega), List.drop_of_length_le (by omega), List.append_nil]
        have hC := sort_none g cap y wr HA.out
        have hif : i - f = 0 := by omega
        have hfc' : cap - f = 0 := by omega
        have hzz : (f : Int) = (cap : Int) := by omega
        clear HC
        go_wp2_with fail
        refine hC.mono ?_
        rintro _ w1 ⟨rfl, hA1, hG1⟩
        rw [HY.out] at hA1
        have HA1 : Hid (PAt w1 g cap (srtN x)) := hA1
        have HG1 : Hid (w.grownBy w1 (some g)) := gbi_trans HG.out hG1
        clear hA1 hG1
        go_wp2
        go_end0
        exact ⟨rfl, HA1.out, HG1.out⟩
end

section
open Go.RowKit

theorem takeI (l : List Int) (k : Nat) (h : k < l.length) : l.take (k + 1) = l.take k ++ [l.getD k 0] := by
  rw [List.take_add_one, List.getElem?_eq_getElem h]; simp [List.getD, h]

set_option maxRecDepth 100000 in
set_option maxHeartbeats 2000000 in
theorem iApart (v : Value) (l : List Int) (w : World) (hv : IntsAt w v l) (hl : l.length ≤ 1048576) :
    Calls Tryz.prog 67 #[v] w fun e w' => ∃ v', e = .returned v' ∧ IntRow w' w.heap.size v' (apartN l) ∧ Below w.heap.size w w' := by
  obtain ⟨i0, hi, hz0, hz1, hz2⟩ := info_parts Tryz.infoInt
  have hT := takeApart_any v l w hv hl
  have hTL := takes_len l
  have HA : Hid (apartN l = srtN (l.flatMap takeN)) := rfl
  generalize apartN l = ap at HA ⊢
  generalize l.flatMap takeN = x at *
  obtain ⟨ad, cp, rfl, _⟩ := hv
  go_enter Tryz.func67, Tryz.ntmps67
  go_wp2_with fail
  refine hT.mono ?_
  rintro _ w1 ⟨g, n, c, rfl, hr1, hb1⟩
  obtain ⟨hp1, hnx, hbg, hnc⟩ := hr1.at
  have HN : Hid (n = x.length) := hnx
  have hcm : c ≤ 9223372036854775807 := by
    rcases hr1.2 with ⟨e, _⟩ | ⟨_, _, _, e, _, _, _, hcp, _⟩
    · cases e
    · cases e; unfold maxLen at hcp; omega
  have hn9 : n ≤ 9437184 := by omega
  have hO := orderMarks_any g c n x w1 hp1 HN hnc hcm (by omega)
  clear hT hr1 hp1 hnx
  go_wp2_with fail
  refine hO.mono ?_
  rintro _ w2 ⟨rfl, hp2, hg2⟩
  have HP2 : Hid (PAt w2 g c (srtN x)) := hp2
  have hb2 : Below w.heap.size w w2 := hb1.trans ⟨hg2.os, hg2.tape, hg2.output, hg2.size, fun k hk => hg2.block k (Nat.lt_of_lt_of_le hk hb1.size) (fun e => by cases e; omega)⟩
  have HB2 : Hid (Below w.heap.size w w2) := hb2
  have hsx : (srtN x).length = n := by unfold srtN; rw [List.length_reverse, srtR_len, HN.out]; simp
  rw [← HA.out] at HP2 hsx
  clear hO hp2 hg2 hb2 HA
  go_wp2_with (at_make; refine wpList_make_own _ rfl _ _ 94 rfl w2.heap.size 3 i0 (.int .i64 0) 1 Tryz.underlying94 hi hz0 hz1 .i64 .i64 _ n rfl rfl (by omega) (by rw [hz2]; omega) (by unfold maxLen; omega) (Nat.le_refl _) ?_; intro w3 hown3 hgrow3)
  have hb3 : Below w2.heap.size w2 w3 := (Below.refl _ _).grown hgrow3 (Nat.le_refl _) (fun _ h => by cases h)
  clear hgrow3 hi hz0 hz1 hz2
  go_loopw [4, 16] (fun u i wr => ∃ k : Nat, k ≤ n ∧ i = .int .i64 k ∧ IntRow wr w2.heap.size u (ap.take k) ∧ Below w2.heap.size w2 wr) (fun _ i _ => n - (intOf i).toNat)
  case atStart => exact ⟨0, Nat.zero_le _, rfl, by simpa [IntRow, intsV] using hown3, hb3⟩
  case round =>
    obtain ⟨k, hk, rfl, hrow, hbel⟩ := hrel
    by_cases hlt : k < n
    · have hltz : (k : Int) < (n : Int) := by omega
      have hkl : k < ap.length := by omega
      obtain ⟨l0, l1⟩ := (HP2.out.below hbel).cells k hkl
      have HT : Hid (ap.take (k + 1) = ap.take k ++ [ap.getD k 0]) := takeI ap k hkl
      have hlen : (ap.take k).length + 1 ≤ 1099511627776 := by rw [List.length_take]; omega
      obtain ⟨y, HY⟩ : ∃ y, Hid (y = ap.getD k 0) := ⟨_, rfl⟩
      rw [← HY.out] at l0 l1 HT
      generalize clsN y = q at *
      have hrA := fun o => World.ownsRow.alloc hrow o
      have hbA := fun o => hbel.alloc hbel.size o
      have hsz : ∀ o, w2.heap.size ≤ (wr.alloc o).heap.size := fun o => (hbA o).size
      go_wp2_with (at_builtin; refine append_int (wr.alloc (.cells #[.int .i64 y, .int .i64 q] 108)) rfl (.tmp 20) (.tmp 23) rfl w2.heap.size _ _ y hlen (hrA _) rfl (by rw [hs_alloc]; rfl) (hsz _) ?_; intro v' w4 hrow4 hbel4)
      have HB4 := (hbA _).trans hbel4
      go_wp2
      go_roundw
      case rel => exact ⟨k + 1, by omega, by go_num, by rw [HT.out]; exact hrow4, HB4⟩
      case measure => simp [intOf]; omega
    · obtain rfl : k = n := by omega
      have hrow' : IntRow wr w2.heap.size u4 ap := by rw [List.take_of_length_le (by omega)] at hrow; exact hrow
      have hz := HB2.out.size
      go_wp2
      go_ret
      exact ⟨_, rfl, hrow'.mono hz, HB2.out.trans (hbel.mono hz)⟩
end

section
open Go.RowKit

theorem foldN_nn (c : Int) : foldN c ≠ [] ∧ (foldN c).length ≤ 2 := by
  unfold foldN
  split
  · simp
  · split
    · simp
    · split <;> simp
theorem folds_len (l : List Int) : (foldsN l).length ≤ 2 * l.length := by
  unfold foldsN
  induction l with
  | nil => simp
  | cons c l ih => rw [List.flatMap_cons, List.length_append, List.length_cons]; have := (foldN_nn c).2; omega

set_option maxRecDepth 100000 in
set_option maxHeartbeats 2000000 in
theorem iFold (v : Value) (l : List Int) (w : World) (hv : IntsAt w v l) (hl : l.length ≤ 16777216) :
    Calls Tryz.prog 68 #[v] w fun e w' => ∃ v', e = .returned v' ∧ IntRow w' w.heap.size v' (foldsN l) ∧ Below w.heap.size w w' := by
  obtain ⟨i0, hi, hz0, hz1, hz2⟩ := info_parts Tryz.infoInt
  obtain ⟨ad, cp, rfl, hc⟩ := hv
  have HC : Hid (∀ t, t < l.length → ∃ b off, ad = some ⟨b, off, none⟩ ∧ b < w.heap.size ∧ w.cell? ⟨b, off + t, none⟩ = some (.int .i64 (l.getD t 0))) := hc
  have hTL := folds_len
  have HA : Hid (foldsN l = l.flatMap foldN) := rfl
  obtain ⟨n, HN⟩ : ∃ n, Hid (n = l.length) := ⟨_, rfl⟩
  rw [← HN.out] at hl ⊢
  clear hc
  go_enter Tryz.func68, Tryz.ntmps68
  go_wp2_with (at_make; refine wpList_make_own _ rfl _ _ 94 rfl w.heap.size 3 i0 (.int .i64 0) 1 Tryz.underlying94 hi hz0 hz1 .i64 .i64 _ n rfl rfl (by omega) (by rw [hz2]; omega) (by unfold maxLen; omega) (Nat.le_refl _) ?_; intro w3 hown3 hgrow3)
  have hb3 : Below w.heap.size w w3 := (Below.refl _ _).grown hgrow3 (Nat.le_refl _) (fun _ h => by cases h)
  clear hgrow3 hi hz0 hz1 hz2
  go_loopw [3, 11] (fun u i wr => ∃ k : Nat, k ≤ n ∧ i = .int .i64 k ∧ IntRow wr w.heap.size u ((l.take k).flatMap foldN) ∧ Below w.heap.size w wr) (fun _ i _ => n - (intOf i).toNat)
  case atStart => exact ⟨0, Nat.zero_le _, rfl, by simpa [IntRow, intsV] using hown3, hb3⟩
  case round =>
    obtain ⟨k, hk, rfl, hrow, hbel⟩ := hrel
    by_cases hlt : k < n
    · have hltz : (k : Int) < (n : Int) := by omega
      have hkl : k < l.length := by have := HN.out; omega
      obtain ⟨b1, o1, rfl, hb1, hc1⟩ := HC.out k hkl
      have hc2 : wr.cell? ⟨b1, o1 + k, none⟩ = some (.int .i64 (l.getD k 0)) := (hbel.cell (p := ⟨b1, o1 + k, none⟩) hb1).trans hc1
      have HT : Hid ((l.take (k + 1)).flatMap foldN = (l.take k).flatMap foldN ++ foldN (l.getD k 0)) := flatMap_take l foldN k hkl
      have hFO := fun w' => iFoldOf (l.getD k 0) w'
      have hne := foldN_nn (l.getD k 0)
      have hlen : ((l.take k).flatMap foldN).length ≤ 33554432 := by have h1 := hTL (l.take k); rw [List.length_take] at h1; unfold foldsN at h1; omega
      clear hc1 HC
      generalize l.getD k 0 = x at *
      generalize foldN x = fx at *
      go_wp2_with (first | (go_at_call 78; refine (hFO _).mono ?_; rintro e w1 ⟨u1, rfl, hr1, hb4⟩; have hrow1 := hrow.below hb4; have hbel1 := hbel.trans (hb4.mono hbel.size)) | (at_builtin; refine append_ints w1 rfl (.tmp 15) (.tmp 17) rfl w.heap.size _ _ _ fx hne.1 (by omega) hrow1 hr1.at rfl rfl hbel1.size ?_; intro v' w4 hrow4 hbel4))
      have HB4 := hbel1.trans hbel4
      go_roundw
      case rel => exact ⟨k + 1, by omega, by go_num, by rw [HT.out]; exact hrow4, HB4⟩
      case measure => simp [intOf]; omega
    · obtain rfl : k = n := by omega
      have hrow' : IntRow wr w.heap.size u3 (foldsN l) := by rw [HA.out]; rw [HN.out, List.take_of_length_le (Nat.le_refl _)] at hrow; exact hrow
      go_wp2
      go_ret
      exact ⟨_, rfl, hrow', hbel⟩
end

end Go.Proofs.YtchcdgkpaipkgaaGreatDoor
