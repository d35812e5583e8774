/- Names: slices.swapRangeCmpFunc at signs with their classes: two rows change places. Names: impl.takeApart's own function: a sign is taken apart, and its parts, and laid behind what is there. -/
import Derived.Test.YtlkemmdcjnaepaaDoorRows
import Derived.Test.YtlkemmdcjnaepaaDoorG11
import Derived.Test.YtlkemmdcjnaepaaDoorG00
import Derived.Test.YtlkemmdcjnaepaaDoorG10
import Derived.Test.YtlkemmdcjnaepaaDoorG09
import Derived.Shelf.SlSortCmp.InsertionK
import Derived.Shelf.SlSortFuncK.ComposeK
import Derived.WalkKit
import Derived.WalkSpells
import Derived.WalkLawsBesides
import Derived.Deep.RegionLaw
namespace Go.Proofs.YtlkemmdcjnaepaaDoor

section
open Go.RowKit Go.Shelf Go.Lib Go.Sort

/-- a sign and its class, as they lie -/
def encP (s : Int) : List Value := [.int .i64 s, .int .i64 (clsN s)]
theorem encP_len (s : Int) : (encP s).length = 2 := rfl
theorem encP_one (s : Int) : ∀ v ∈ encP s, v.oneCell' = true := by
  intro v hv
  simp only [encP, List.mem_cons, List.not_mem_nil, or_false] at hv
  rcases hv with rfl | rfl <;> rfl

/-- what is known while two of them change places -/
theorem swap_known {W : World} {blk off : Nat} {dk : Array Int} (hH : HoldsK encP 2 W blk off dk) {p q : Nat} (hp : p < dk.size) (hq : q < dk.size) (hne : p ≠ q) :
    (W.cell? ⟨blk, off + p * 2, none⟩ = some (.int .i64 dk[p]!) ∧ W.cell? ⟨blk, off + p * 2 + 1, none⟩ = some (.int .i64 (clsN dk[p]!))) ∧
    (W.cell? ⟨blk, off + q * 2, none⟩ = some (.int .i64 dk[q]!) ∧ W.cell? ⟨blk, off + q * 2 + 1, none⟩ = some (.int .i64 (clsN dk[q]!))) ∧
    (W.frozen? ⟨blk, off + p * 2, none⟩ = false ∧ W.frozen? ⟨blk, off + p * 2 + 1, none⟩ = false ∧ W.frozen? ⟨blk, off + q * 2, none⟩ = false ∧ W.frozen? ⟨blk, off + q * 2 + 1, none⟩ = false) ∧
    (∀ u, (W.setCell ⟨blk, off + p * 2, none⟩ u).cell? ⟨blk, off + p * 2 + 1, none⟩ = some (.int .i64 (clsN dk[p]!))) ∧
    (∀ u v, ((W.setCell ⟨blk, off + p * 2, none⟩ u).setCell ⟨blk, off + p * 2 + 1, none⟩ v).cell? ⟨blk, off + q * 2, none⟩ = some (.int .i64 dk[q]!)) ∧
    (∀ u v x, (((W.setCell ⟨blk, off + p * 2, none⟩ u).setCell ⟨blk, off + p * 2 + 1, none⟩ v).setCell ⟨blk, off + q * 2, none⟩ x).cell? ⟨blk, off + q * 2 + 1, none⟩ = some (.int .i64 (clsN dk[q]!))) := by
  have la := HoldsK.cells hH encP_len hp
  have lb := HoldsK.cells hH encP_len hq
  have la0 : W.cell? ⟨blk, off + p * 2, none⟩ = some (.int .i64 dk[p]!) := la 0 _ rfl
  have la1 : W.cell? ⟨blk, off + p * 2 + 1, none⟩ = some (.int .i64 (clsN dk[p]!)) := la 1 _ rfl
  have lb0 : W.cell? ⟨blk, off + q * 2, none⟩ = some (.int .i64 dk[q]!) := lb 0 _ rfl
  have lb1 : W.cell? ⟨blk, off + q * 2 + 1, none⟩ = some (.int .i64 (clsN dk[q]!)) := lb 1 _ rfl
  have ne : ∀ x y : Nat, x ≠ y → (⟨blk, x, none⟩ : Addr) ≠ ⟨blk, y, none⟩ := fun x y h e => h (by cases e; rfl)
  refine ⟨⟨la0, la1⟩, ⟨lb0, lb1⟩, ⟨?_, ?_, ?_, ?_⟩, fun u => ?_, fun u v => ?_, fun u v x => ?_⟩
  · exact (HoldsK.cell hH hp (show 0 < 2 by omega)).2
  · exact (HoldsK.cell hH hp (show 1 < 2 by omega)).2
  · exact (HoldsK.cell hH hq (show 0 < 2 by omega)).2
  · exact (HoldsK.cell hH hq (show 1 < 2 by omega)).2
  · rw [World.cell?_setCell_other (h := ne _ _ (by omega))]; exact la1
  · rw [World.cell?_setCell_other (h := ne _ _ (by omega)), World.cell?_setCell_other (h := ne _ _ (by omega))]; exact lb0
  · rw [World.cell?_setCell_other (h := ne _ _ (by omega)), World.cell?_setCell_other (h := ne _ _ (by omega)), World.cell?_setCell_other (h := ne _ _ (by omega))]; exact lb1

/-- W is w with dk in the row's place, some draws on, some blocks behind -/
def SWp (w : World) (blk off : Nat) (dk : Array Int) (W : World) : Prop := blk < w.heap.size ∧ (∃ d0, HoldsK encP 2 w blk off d0 ∧ dk.size = d0.size) ∧ ∃ n os, W = sortWorldK encP 2 w blk off n dk os
theorem SWp.start {w : World} {blk off : Nat} {d : Array Int} (hH : HoldsK encP 2 w blk off d) (hblk : blk < w.heap.size) : SWp w blk off d w :=
  ⟨hblk, ⟨d, hH, rfl⟩, 0, #[], (sortWorldK_start encP 2 w blk off d hH).symm⟩
theorem SWp.lt {w W : World} {blk off : Nat} {dk : Array Int} (h : SWp w blk off dk W) : blk < W.heap.size := by
  obtain ⟨hb, _, n, os, rfl⟩ := h
  exact lt_sortWorldK encP 2 w blk off n dk os hb
theorem SWp.holds {w W : World} {blk off : Nat} {dk : Array Int} (h : SWp w blk off dk W) : HoldsK encP 2 W blk off dk := by
  obtain ⟨hb, ⟨d0, h0, hs⟩, n, os, rfl⟩ := h
  exact holdsK_sortWorldK encP 2 w blk off n d0 dk os hb h0 hs
theorem SWp.trans {w W V : World} {blk off : Nat} {dk dn : Array Int} (h : SWp w blk off dk W) (g : SWp W blk off dn V) (hs : dn.size = dk.size) : SWp w blk off dn V := by
  obtain ⟨hb, ⟨d0, h0, hs0⟩, n, os, rfl⟩ := h
  obtain ⟨_, _, m, os', rfl⟩ := g
  exact ⟨hb, ⟨d0, h0, hs.trans hs0⟩, n + m, os ++ os', by rw [sortWorldK_on encP 2 w blk off n m dk dn os os' hb hs]⟩
theorem SWp.grown {w W : World} {blk off : Nat} {dk : Array Int} (h : SWp w blk off dk W) (m : Nat) (os' : Array Obj) : SWp w blk off dk (grow (W.drewN m) os') := by
  obtain ⟨hb, h0, n, os, rfl⟩ := h
  exact ⟨hb, h0, n + m, os ++ os', sortWorldK_grown_c encP 2 w blk off n m dk os os'⟩
theorem SWp.swap {w W : World} {blk off : Nat} {dk : Array Int} (h : SWp w blk off dk W) {p q : Nat} (hp : p < dk.size) (hq : q < dk.size) :
    SWp w blk off (swp dk p q) ((((W.drew.setCell ⟨blk, off + p * 2, none⟩ (.int .i64 dk[q]!)).setCell ⟨blk, off + p * 2 + 1, none⟩ (.int .i64 (clsN dk[q]!))).setCell ⟨blk, off + q * 2, none⟩ (.int .i64 dk[p]!)).setCell ⟨blk, off + q * 2 + 1, none⟩ (.int .i64 (clsN dk[p]!))) := by
  obtain ⟨hb, ⟨d0, h0, hs⟩, n, os, rfl⟩ := h
  exact ⟨hb, ⟨d0, h0, by rw [swp_size]; exact hs⟩, n + 1, os, sortWorldK_swp_c encP 2 w blk off encP_len n dk os hb p q hp hq⟩

set_option maxRecDepth 1000000 in
set_option maxHeartbeats 4000000 in
theorem swapRange_any (blk off cap a b n : Nat) (cb : Value) (d : Array Int) (w : World) (hH : HoldsK encP 2 w blk off d) (hblk : blk < w.heap.size) (hab : a + n ≤ b) (hb : b + n ≤ d.size) (hsz : d.size < 4611686018427387904) :
    Calls Tryd.prog 127 #[.slice (some ⟨blk, off, none⟩) d.size cap, .int .i64 a, .int .i64 b, .int .i64 n, cb] w fun e w' => e = .returned (.tuple #[]) ∧ ∃ d', SWp w blk off d' w' ∧ Swr a b n d d' := by
  have HST : Hid (SWp w blk off d w) := SWp.start hH hblk
  clear hH
  have mixed : Tryd.prog.follows Departure.mixedOrders = true := by kernel_rfl
  go_enter Tryd.func127, Tryd.ntmps127
  go_wp2
  go_loopw [10] (fun vi wr => ∃ (i : Nat) (dk : Array Int), i ≤ n ∧ vi = .int .i64 i ∧ Hid (SWp w blk off dk wr) ∧ Hid (Swr a b i d dk)) (fun vi _ => n - (intOf vi).toNat)
  case atStart => exact ⟨0, d, by omega, rfl, HST, Swr.zero a b d⟩
  case round =>
    obtain ⟨i, dk, hi, rfl, HD, HS⟩ := hrel
    by_cases hlt : i < n
    · have hltz : (i : Int) < (n : Int) := by omega
      have hsk : dk.size = d.size := HS.out.1
      obtain ⟨p, HP⟩ : ∃ p, Hid (p = a + i) := ⟨_, rfl⟩
      obtain ⟨q, HQ⟩ : ∃ q, Hid (q = b + i) := ⟨_, rfl⟩
      have hp : p < d.size := by have := HP.out; omega
      have hq : q < d.size := by have := HQ.out; omega
      obtain ⟨⟨la0, la1⟩, ⟨lb0, lb1⟩, ⟨f0, f1, f2, f3⟩, n1, n2, n3⟩ := swap_known HD.out.holds (p := p) (q := q) (by omega) (by omega) (by have := HP.out; have := HQ.out; omega)
      have HW : Hid _ := HD.out.swap (p := p) (q := q) (by omega) (by omega)
      have HSW : Hid (Swr a b (i + 1) d (swp dk p q)) := by rw [HP.out, HQ.out]; exact HS.out.step (by omega) (by omega)
      generalize swp dk p q = dn at *
      generalize clsN dk[p]! = ka at *
      generalize clsN dk[q]! = kb at *
      generalize dk[p]! = xa at *
      generalize dk[q]! = xb at *
      have za : IntKind.i64.wrap ((a : Int) + (i : Int)) = (p : Int) := by rw [HP.out, IntKind.wrap_i64]; omega
      have zb : IntKind.i64.wrap ((b : Int) + (i : Int)) = (q : Int) := by rw [HQ.out, IntKind.wrap_i64]; omega
      have ja : (p : Int) < (d.size : Int) := by omega
      have jb : (q : Int) < (d.size : Int) := by omega
      go_wp2_with fail
      go_big_region_o
      all_goals go_wp2
      go_roundw
      case rel => exact ⟨i + 1, dn, by omega, by go_num, HW.out, HSW⟩
      case measure => simp [intOf]; omega
    · obtain rfl : i = n := by omega
      go_wp2
      go_end0
      exact ⟨rfl, dk, HD.out, HS.out⟩
end

section
open Go.RowKit

set_option maxRecDepth 100000 in
theorem iClassE (c : Int) (w : World) :
    Calls Tryd.prog 90 #[.int .i64 c] w fun e w' => e = .returned (.int .i64 (clsN c)) ∧ w = w' := by
  by_cases h : c ∈ [768, 769, 770, 771, 772, 776, 778, 803, 807]
  · simp at h
    rcases h with rfl | rfl | rfl | rfl | rfl | rfl | rfl | rfl | rfl <;>
    · go_enter Tryd.func90, Tryd.ntmps90
      go_wp2
      go_ret
      exact ⟨rfl, rfl⟩
  · have HR : Hid (clsN c = 0) := by
      show clsN c = 0
      simp at h
      simp [clsN, amongB, clsL, h]
    simp at h
    obtain ⟨h1, h2, h3, h4, h5, h6, h7, h8, h9⟩ := h
    generalize clsN c = r at HR ⊢
    go_enter Tryd.func90, Tryd.ntmps90
    go_wp2
    go_ret
    exact ⟨ret_int HR.out.symm, rfl⟩

/-- signs with their classes, as they lie side by side -/
def flatP (l : List Int) : List Value := l.flatMap encP
theorem flatP_len (l : List Int) : (flatP l).length = l.length * 2 := by
  unfold flatP
  induction l with
  | nil => rfl
  | cons c l ih => rw [List.flatMap_cons, List.length_append, ih, encP_len, List.length_cons]; omega
theorem flatP_append (l m : List Int) : flatP (l ++ m) = flatP l ++ flatP m := by simp [flatP]
theorem flatP_one (c : Int) : flatP [c] = encP c := by simp [flatP]

def PRow (w : World) (base : Nat) (v : Value) (l : List Int) : Prop := w.ownsRow base 108 2 v l.length (flatP l)

theorem Tryd.infoP : (Tryd.prog.info? 108).map (fun i => (i.zero, i.size, i.bytes)) = some (some (.agg #[.int .i64 0, .int .i64 0]), 2, 16) := by kernel_rfl

/-- 'append(out, p)' as one step of a statement whose order is open -/
theorem step_appendP {ops : Array Oper} {o : Oper} {a : Act} {w : World} {K : Act → World → Prop} {Q : Exit → Act → World → Prop} {Z : Prop}
    (hg : o.guard = none) (s x : Operand) (hop : o.op = Op.call { callee := Callee.builtin Builtin.append, args := #[s, x], argTypes := #[104, 104] }) (base : Nat)
    (v : Value) (l : List Int) (hown : w.ownsRow base 108 2 v l.length (flatP l)) (hs : a.eval s = v)
    (ad : Addr) (c : Int) (cap : Nat) (hx : a.eval x = .slice (some ad) 1 cap) (hc : ∀ j u, (encP c)[j]? = some u → w.cell? (ad.add j) = some u)
    (hl : l.length + 1 ≤ 1099511627776) (hbase : base ≤ w.heap.size)
    (hK : ∀ g n cap w', PRow w' base (.slice (some ⟨g, 0, none⟩) n cap) (l ++ [c]) → w.grownBy w' v.ownBlock → K (a.put o.dst (.slice (some ⟨g, 0, none⟩) n cap)) w') :
    if Region.wanted o (yielded ops a.tmps) = true then Oper.wp Tryd.prog o a w K Q else Z := by
  obtain ⟨i0, hi, hz0, hz1, hz2⟩ := info_parts Tryd.infoP
  have hw : Region.wanted o (yielded ops a.tmps) = true := by simp [Region.wanted, hg]
  rw [if_pos hw]
  obtain ⟨v', w', hrun, r1, r2, _⟩ := run_append_own (P := Tryd.prog) w base 104 o.type 108 i0 _ 2 16 Tryd.underlying104 hi hz0 hz1 hz2 rfl (by decide) v l.length (flatP l) hown ad 1 cap (encP c) rfl hc
    (encP_one c) (by unfold maxLen; omega) (by omega) hbase
  unfold Oper.wp
  simp [execOp, hop, resolve, invoke, builtin, hs, hx, hrun, Result.andThen]
  have r3 : PRow w' base v' (l ++ [c]) := by
    unfold PRow
    rw [flatP_append, flatP_one, List.length_append]
    exact r1
  rcases r1.2 with ⟨_, h0⟩ | ⟨g, cap, cur, rfl, _⟩
  · omega
  · exact hK g _ cap w' r3 r2

/-- the two cells of a new block -/
theorem cell_pair (w : World) (E : TypeId) (c : Int) : ∀ j u, (encP c)[j]? = some u → (w.alloc (.cells #[.int .i64 c, .int .i64 (clsN c)] E)).cell? ((⟨w.heap.size, 0, none⟩ : Addr).add j) = some u := by
  intro j u h
  rw [Addr.add_lit, Nat.zero_add, World.cell?_alloc_mark]
  simpa [encP] using h

def ptrTo (g : Nat) : Value := .pointer (some ⟨g, 0, none⟩)

/-- what takeApart's own function works on: the source at h, what is gathered at h + 2, itself at h + 3 -/
structure TakeSt (h : Nat) (w : World) (v : Value) (l : List Int) : Prop where
  src : SrcAt h w
  out : w.heap[h + 2]? = some (.cells #[v] 104 (0, 0))
  fn : w.heap[h + 3]? = some (.cells #[.func (.func 110) #[] #[.pointer (some ⟨h, 0, none⟩), .pointer (some ⟨h + 2, 0, none⟩), .pointer (some ⟨h + 3, 0, none⟩)]] 120 (0, 0))
  row : PRow w (h + 1) v l
  isS : ∃ g n c, v = .slice (some ⟨g, 0, none⟩) n c

/-- what it leaves as it was -/
structure Kp (h : Nat) (w w' : World) : Prop where
  os : w'.os = w.os
  tape : w'.tape = w.tape
  output : w'.output = w.output
  size : w.heap.size ≤ w'.heap.size
  old : ∀ k, k < h → w'.heap[k]? = w.heap[k]?
  block : ∀ k, k < w.heap.size → k ≠ h → k ≠ h + 2 → (∀ cur fr, w.heap[k]? ≠ some (.cells cur 108 fr)) → w'.heap[k]? = w.heap[k]?
theorem Kp.refl (h : Nat) (w : World) : Kp h w w := ⟨rfl, rfl, rfl, Nat.le_refl _, fun _ _ => rfl, fun _ _ _ _ _ => rfl⟩
theorem Kp.trans {h : Nat} {w w1 w2 : World} (a : Kp h w w1) (b : Kp h w1 w2) : Kp h w w2 := {
  os := b.os.trans a.os
  tape := b.tape.trans a.tape
  output := b.output.trans a.output
  size := Nat.le_trans a.size b.size
  old := fun k hk => (b.old k hk).trans (a.old k hk)
  block := fun k hk h1 h2 h3 => by
    have e := a.block k hk h1 h2 h3
    exact (b.block k (Nat.lt_of_lt_of_le hk a.size) h1 h2 (fun cur fr => by rw [e]; exact h3 cur fr)).trans e }
theorem Kp.src {h : Nat} {w w' : World} (g : w.grownBy w' (some h)) (hlt : h < w.heap.size) : Kp h w w' :=
  ⟨g.os, g.tape, g.output, g.size, fun k hk => g.block k (by omega) (fun e => by cases e; omega), fun k hk h1 _ _ => g.block k hk (fun e => h1 (by cases e; rfl))⟩

theorem TakeSt.lt {h : Nat} {w : World} {v : Value} {l : List Int} (s : TakeSt h w v l) : h + 3 < w.heap.size := lt_of_block s.fn
/-- the parts are sought: nothing else changes -/
theorem TakeSt.sought {h : Nat} {w w' : World} {v : Value} {l : List Int} (s : TakeSt h w v l) (hs : SrcAt h w') (g : w.grownBy w' (some h)) : TakeSt h w' v l := by
  have hlt := s.lt
  refine ⟨hs, (g.block _ (by omega) (fun e => by cases e)).trans s.out, (g.block _ (by omega) (fun e => by cases e)).trans s.fn, ⟨s.row.1, ?_⟩, s.isS⟩
  rcases s.row.2 with h0 | ⟨q, cap, cur, e, hq, hh, r⟩
  · exact .inl h0
  · exact .inr ⟨q, cap, cur, e, hq, (g.block q (lt_of_block hh) (fun e => by cases e; omega)).trans hh, r⟩

/-- one more is gathered -/
theorem TakeSt.more {h : Nat} {w w1 w2 : World} {v v' : Value} {l m : List Int} (s : TakeSt h w v l) (b1 : Below w.heap.size w w1) (g : w1.grownBy w2 v.ownBlock) (hr : PRow w2 (h + 1) v' m) (hS : ∃ g n c, v' = .slice (some ⟨g, 0, none⟩) n c) :
    TakeSt h (w2.setCell ⟨h + 2, 0, none⟩ v') v' m ∧ Kp h w (w2.setCell ⟨h + 2, 0, none⟩ v') := by
  have hlt := s.lt
  have hz := b1.size
  have own : ∀ k, some k = v.ownBlock → h + 1 ≤ k ∧ ∃ cur, w.heap[k]? = some (.cells cur 108 (0, 0)) := fun k hk => by
    rcases s.row.2 with ⟨rfl, _⟩ | ⟨q, cap, cur, rfl, hq, hh, _⟩
    · simp [Value.ownBlock] at hk
    · simp [Value.ownBlock] at hk; subst hk; exact ⟨hq, cur, hh⟩
  have kept : ∀ k, k < w.heap.size → k ≠ h + 2 → some k ≠ v.ownBlock → (w2.setCell ⟨h + 2, 0, none⟩ v').heap[k]? = w.heap[k]? := fun k hk h2 hn =>
    (Below.heap_setCell _ _ _ _ h2).trans ((g.block k (by omega) hn).trans (b1.block k hk))
  have ne2 : some (h + 2) ≠ v.ownBlock := fun e => by
    obtain ⟨_, cur, hc⟩ := own _ e
    rw [s.out] at hc; cases hc
  have ne3 : some (h + 3) ≠ v.ownBlock := fun e => by
    obtain ⟨_, cur, hc⟩ := own _ e
    rw [s.fn] at hc; cases hc
  have ho2 : w2.heap[h + 2]? = some (.cells #[v] 104 (0, 0)) := (g.block _ (by omega) ne2).trans ((b1.block _ (by omega)).trans s.out)
  obtain ⟨mo, hb, hm⟩ := s.src
  have ne0 : some h ≠ v.ownBlock := fun e => by have := (own _ e).1; omega
  refine ⟨⟨⟨mo, (kept h (by omega) (by omega) ne0).trans hb, ?_⟩, heap_setCell_same w2 _ 0 _ _ _ ho2, (kept _ (by omega) (by omega) ne3).trans s.fn, ⟨hr.1, ?_⟩, hS⟩, ⟨g.os.trans b1.os, g.tape.trans b1.tape, g.output.trans b1.output, ?_, fun k hk => kept k (by omega) (by omega) (fun e => by have := (own _ e).1; omega), fun k hk h1 h2 h3 => kept k hk h2 (fun e => by obtain ⟨_, cur, hc⟩ := own _ e; exact h3 _ _ hc)⟩⟩
  · rcases hm with h0 | ⟨q, L, h1, h2, h3⟩
    · exact .inl h0
    · refine .inr ⟨q, L, h1, h2.kept (kept q h2.lt ?_ ?_), h3⟩
      · intro e
        obtain ⟨es, clk, hmb, _⟩ := h2
        rw [e, s.out] at hmb; cases hmb
      · intro e
        obtain ⟨es, clk, hmb, _⟩ := h2
        obtain ⟨_, cur, hc⟩ := own _ e
        rw [hmb] at hc; cases hc
  · rcases hr.2 with h0 | ⟨q, cap, cur, e, hq, hh, r⟩
    · exact .inl h0
    · refine .inr ⟨q, cap, cur, e, hq, (Below.heap_setCell _ _ _ _ ?_).trans hh, r⟩
      intro e2
      have e2 : q = h + 2 := e2
      rw [e2, ho2] at hh; cases hh
  · have := g.size
    simp [World.setCell]; omega

/-- what takeApart's own function says of c -/
def TakeC (h : Nat) (c : Int) (l : List Int) : Prop := ∀ (w : World) (v : Value) (m : List Int), m.length + l.length ≤ 1099511627776 → TakeSt h w v m →
  Calls Tryd.prog 110 #[.int .i64 c, .pointer (some ⟨h, 0, none⟩), .pointer (some ⟨h + 2, 0, none⟩), .pointer (some ⟨h + 3, 0, none⟩)] w fun e w' => e = .returned (.tuple #[]) ∧ (∃ v', TakeSt h w' v' (m ++ l)) ∧ Kp h w w'

set_option maxRecDepth 100000 in
set_option maxHeartbeats 2000000 in
theorem tk_leaf (h : Nat) (c : Int) (hp : partsN c = []) : TakeC h c [c] := by
  intro w v m hl st
  have HP := partsOf_any h c w st.src
  rw [hp] at HP
  go_enter Tryd.func110, Tryd.ntmps110
  go_wp2_with fail
  refine HP.mono ?_
  rintro _ w1 ⟨v0, rfl, hr0, hs1, hg1⟩
  obtain ⟨a0, cap0, rfl, _⟩ := hr0.at
  have st1 : Hid (TakeSt h w1 v m) := st.sought hs1 hg1
  have K1 : Hid (Kp h w w1) := Kp.src hg1 st.src.lt
  have c0 := cell_of_row w1 _ 0 _ _ (0, 0) st1.out.out
  have hown : w1.ownsRow (h + 1) 108 2 v m.length (flatP m) := st1.out.row
  have hlt1 := st1.out.lt
  have ho := st1.out.out
  have hCl := fun w => iClassE c w
  have c0a : ∀ o, (w1.alloc o).cell? ⟨h + 2, 0, none⟩ = some v := fun o => (((Below.refl _ w1).alloc (Nat.le_refl _) o).cell (p := ⟨h + 2, 0, none⟩) (by show h + 2 < _; omega)).trans c0
  have hpair := cell_pair w1 108 c
  have FIN : Hid (∀ w2 w3 v', Below w1.heap.size w1 w2 → w2.grownBy w3 v.ownBlock → PRow w3 (h + 1) v' (m ++ [c]) → (∃ g n c, v' = .slice (some ⟨g, 0, none⟩) n c) → (w3.cell? ⟨h + 2, 0, none⟩ = some v ∧ w3.frozen? ⟨h + 2, 0, none⟩ = false) ∧ TakeSt h (w3.setCell ⟨h + 2, 0, none⟩ v') v' (m ++ [c]) ∧ Kp h w (w3.setCell ⟨h + 2, 0, none⟩ v')) := fun w2 w3 v' b1 g hr hS => by
    have hm := st1.out.more b1 g hr hS
    have ne2 : some (h + 2) ≠ v.ownBlock := fun e => by
      rcases st1.out.row.2 with ⟨rfl, _⟩ | ⟨q, cap, cur, rfl, hq, hh, _⟩
      · simp [Value.ownBlock] at e
      · simp [Value.ownBlock] at e; subst e; rw [ho] at hh; cases hh
    have ho2 : w3.heap[h + 2]? = some (.cells #[v] 104 (0, 0)) := (g.block _ (by have := b1.size; omega) ne2).trans ((b1.block _ (by omega)).trans ho)
    exact ⟨⟨cell_of_row w3 _ 0 _ _ (0, 0) ho2, frozen_of_row w3 _ 0 _ _ ho2⟩, hm.1, K1.out.trans hm.2⟩
  clear hr0 hs1 hg1 HP ho
  generalize clsN c = k at *
  go_wp2
  go_region_law (first | (refine step_appendP rfl (.tmp 13) (.tmp 18) rfl (h + 1) v m ?_ ?_ ⟨w1.heap.size, 0, none⟩ c 1 ?_ ?_ ?_ ?_ ?_; (first | exact (hown.alloc _).drew | exact hown.drew.alloc _); (simp [Act.eval]); (simp [Act.eval]); (exact hpair); (simp at hl ⊢; omega); (simp; omega); intro g3 n3 cap3 w3 hrow3 hg3; obtain ⟨⟨c3, f3⟩, FIN3⟩ := FIN.out _ w3 _ (by first | exact ((Below.refl _ _).alloc (Nat.le_refl _) _).drew | exact (Below.refl _ _).drew.alloc (Nat.le_refl _) _) hg3 hrow3 ⟨_, _, _, rfl⟩) | (go_simp; go_at_call 90; refine (hCl _).mono ?_; rintro e w' ⟨rfl, rfl⟩; dsimp only))
  all_goals
    obtain ⟨HS3, HK3⟩ := FIN3
    have HS4 : Hid _ := HS3
    have HK4 : Hid _ := HK3
    clear HS3 HK3 c3 f3 hg3 hrow3 hown hpair c0 c0a
    generalize World.setCell _ _ _ = W4 at *
    go_wp2
    go_loopw [22] (fun vi wr => vi = .int .i64 0 ∧ wr = W4) (fun _ _ => 0)
    case atStart => exact ⟨rfl, rfl⟩
    case round =>
      obtain ⟨rfl, rfl⟩ := hrel
      go_wp2
      go_end0
      exact ⟨rfl, ⟨_, HS4.out⟩, HK4.out⟩
end

end Go.Proofs.YtlkemmdcjnaepaaDoor
