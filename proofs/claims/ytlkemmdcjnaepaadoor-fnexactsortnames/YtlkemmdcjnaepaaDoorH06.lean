/- Names in order: the library's pdqsort, at places that are held against each other by the names that stand there: the part between both ends is put in order. -/
import Derived.Test.YtlkemmdcjnaepaaDoorRows
import Derived.Test.YtlkemmdcjnaepaaDoorH00
import Derived.Test.YtlkemmdcjnaepaaDoorH01
import Derived.Test.YtlkemmdcjnaepaaDoorH02
import Derived.Test.YtlkemmdcjnaepaaDoorH04
import Derived.Test.YtlkemmdcjnaepaaDoorH05
import Derived.Sort.LotD3
namespace Go.Proofs.YtlkemmdcjnaepaaDoor

section
open Go.RowKit Go.Sort Go.Shelf Go.Lib

/-- what a call of the family finds -/
structure SoSt {m : Nat} (w0 : World) (blk off n a b : Nat) (lt : Fin (m + 1) → Fin (m + 1) → Bool) (d : Array (Fin (m + 1))) (W : World) : Prop where
  sz : d.size = n
  sw : SW encF w0 blk off d W
  ab : a ≤ b
  bn : b ≤ n
  bel : Go.Sort.Below lt a b d
theorem SoSt.perm {m : Nat} {w0 : World} {blk off n a b : Nat} {lt : Fin (m + 1) → Fin (m + 1) → Bool} {d d' : Array (Fin (m + 1))} {W W' : World} (s : SoSt w0 blk off n a b lt d W) (hp : PermIn a b d d') (hw : SW encF w0 blk off d' W') : SoSt w0 blk off n a b lt d' W' :=
  ⟨hp.1.trans s.sz, hw, s.ab, s.bn, s.bel.permA permIn_all (by rw [s.sz]; exact s.bn) hp⟩
/-- whoever puts the part from a1 to b1 in order has put all of it in order -/
def GoesF {m : Nat} (lt : Fin (m + 1) → Fin (m + 1) → Bool) (a b a1 b1 : Nat) (d d1 : Array (Fin (m + 1))) : Prop :=
  ∀ R, PermIn a1 b1 d1 R → SortedIn lt a1 b1 R → PermIn a b d R ∧ SortedIn lt a b R
theorem GoesF.perm {m : Nat} {lt : Fin (m + 1) → Fin (m + 1) → Bool} {a b a1 b1 : Nat} {d d1 d2 : Array (Fin (m + 1))} (h : GoesF lt a b a1 b1 d d1) (hp : PermIn a1 b1 d1 d2) : GoesF lt a b a1 b1 d d2 :=
  fun R h1 h2 => h R (permIn_trans _ _ _ _ _ hp h1) h2
/-- what pdqsort says -/
def PdqF {m : Nat} (w0 : World) (blk off a b : Nat) (lt : Fin (m + 1) → Fin (m + 1) → Bool) (d : Array (Fin (m + 1))) (e : Ending) (w' : World) : Prop :=
  e = .returned (.tuple #[]) ∧ ∃ d', PermIn a b d d' ∧ SortedIn lt a b d' ∧ SW encF w0 blk off d' w'

set_option maxRecDepth 100000 in
set_option maxHeartbeats 16000000 in
theorem pdq_any {m : Nat} {w0 : World} {blk off : Nat} {d0 : Array (Fin (m + 1))} {rv : Value} {cf : Fin (m + 1) → Fin (m + 1) → Int} (S : Sby m w0 blk off d0 rv cf) (hO : SWO (ltOf cf)) (cap : Nat) :
    ∀ (D a b lim : Nat) (d : Array (Fin (m + 1))) (w : World), b - a ≤ D → lim ≤ 64 → SoSt w0 blk off d0.size a b (ltOf cf) d w →
    Calls Tryd.prog 56 #[.slice (some ⟨blk, off, none⟩) d0.size cap, .int .i64 a, .int .i64 b, .int .i64 lim, .func (.func 37) #[rv] #[]] w fun e w' => PdqF w0 blk off a b (ltOf cf) d e w' := by
  intro D
  induction D using Nat.strongRecOn with
  | _ D ih =>
  intro a b lim d w hD hlim st
  have hsz := S.hs
  have mixed : Tryd.prog.follows .mixedOrders = true := by kernel_rfl
  have HINS : ∀ (dk : Array (Fin (m + 1))) (W : World) (x y : Nat), SoSt w0 blk off d0.size x y (ltOf cf) dk W → Calls Tryd.prog 72 #[.slice (some ⟨blk, off, none⟩) d0.size cap, .int .i64 x, .int .i64 y, .func (.func 37) #[rv] #[]] W fun e w' => e = .returned (.tuple #[]) ∧ ∃ d', PermIn x y dk d' ∧ SortedIn (ltOf cf) x y d' ∧ SW encF w0 blk off d' w' := fun dk W x y s => by
    have h := ins_any S cap x y dk W s.sw s.sz s.ab (by rw [s.sz]; exact s.bn)
    rw [s.sz] at h
    have hh := insertionSort_holds hO dk x y s.ab (by rw [s.sz]; exact s.bn)
    exact h.mono fun e w' ⟨h1, h2⟩ => ⟨h1, _, hh.1, hh.2, h2⟩
  have HHEAP : ∀ (dk : Array (Fin (m + 1))) (W : World) (x y : Nat), x < y → SoSt w0 blk off d0.size x y (ltOf cf) dk W → Calls Tryd.prog 73 #[.slice (some ⟨blk, off, none⟩) d0.size cap, .int .i64 x, .int .i64 y, .func (.func 37) #[rv] #[]] W fun e w' => e = .returned (.tuple #[]) ∧ ∃ d', PermIn x y dk d' ∧ SortedIn (ltOf cf) x y d' ∧ SW encF w0 blk off d' w' := fun dk W x y hxy s => by
    have h := heap_any S cap x y (y - x) dk W s.sw s.sz (by omega) (by omega) (by rw [s.sz]; exact s.bn)
    rw [s.sz] at h
    have hh := heapSort_holds hO dk x y s.ab (by rw [s.sz]; exact s.bn)
    exact h.mono fun e w' ⟨h1, h2⟩ => ⟨h1, _, hh.1, hh.2, h2⟩
  have HBRK : ∀ (dk : Array (Fin (m + 1))) (W : World) (x y : Nat), x + 8 ≤ y → SoSt w0 blk off d0.size x y (ltOf cf) dk W → Calls Tryd.prog 74 #[.slice (some ⟨blk, off, none⟩) d0.size cap, .int .i64 x, .int .i64 y, .func (.func 37) #[rv] #[]] W fun e w' => e = .returned (.tuple #[]) ∧ ∃ d', PermIn x y dk d' ∧ SW encF w0 blk off d' w' := fun dk W x y hxy s => by
    have h := break_any S cap x (y - x) dk W s.sw s.sz (by omega) (by have := s.bn; rw [s.sz]; omega)
    rw [s.sz, show x + (y - x) = y by omega] at h
    exact h
  have HREV : ∀ (dk : Array (Fin (m + 1))) (W : World) (x y : Nat), x < y → SoSt w0 blk off d0.size x y (ltOf cf) dk W → Calls Tryd.prog 76 #[.slice (some ⟨blk, off, none⟩) d0.size cap, .int .i64 x, .int .i64 y, .func (.func 37) #[rv] #[]] W fun e w' => e = .returned (.tuple #[]) ∧ ∃ d', PermIn x y dk d' ∧ SW encF w0 blk off d' w' := fun dk W x y hxy s => by
    have h := rev_any S cap x y dk W s.sw s.sz hxy (by rw [s.sz]; exact s.bn)
    rw [s.sz] at h
    exact h
  have HPIV : ∀ (dk : Array (Fin (m + 1))) (W : World) (x y : Nat), x + 13 ≤ y → SoSt w0 blk off d0.size x y (ltOf cf) dk W → Calls Tryd.prog 75 #[.slice (some ⟨blk, off, none⟩) d0.size cap, .int .i64 x, .int .i64 y, .func (.func 37) #[rv] #[]] W fun e w' => PivF w0 blk off dk x y e w' := fun dk W x y hxy s => by
    have h := choose_any S cap x (y - x) dk W s.sw s.sz (by omega) (by have := s.bn; rw [s.sz]; omega)
    rw [s.sz, show x + (y - x) = y by omega] at h
    exact h
  have HPIN : ∀ (dk : Array (Fin (m + 1))) (W : World) (x y : Nat), x < y → SoSt w0 blk off d0.size x y (ltOf cf) dk W → Calls Tryd.prog 77 #[.slice (some ⟨blk, off, none⟩) d0.size cap, .int .i64 x, .int .i64 y, .func (.func 37) #[rv] #[]] W fun e w' => ∃ r : Bool, e = .returned (.bool r) ∧ ∃ d', PermIn x y dk d' ∧ (r = true → SortedIn (ltOf cf) x y d') ∧ SW encF w0 blk off d' w' := fun dk W x y hxy s => by
    have h := pins_any S cap x y dk W s.sw s.sz hxy (by rw [s.sz]; exact s.bn)
    rw [s.sz] at h
    have hh := partialInsertionSort_holds hO dk x y hxy (by rw [s.sz]; exact s.bn) s.bel
    exact h.mono fun e w' ⟨h1, h2⟩ => ⟨_, h1, _, hh.1, hh.2, h2⟩
  have HPEQ : ∀ (dk : Array (Fin (m + 1))) (W : World) (x y p : Nat), x ≤ p → p < y → SoSt w0 blk off d0.size x y (ltOf cf) dk W → Calls Tryd.prog 78 #[.slice (some ⟨blk, off, none⟩) d0.size cap, .int .i64 x, .int .i64 y, .int .i64 p, .func (.func 37) #[rv] #[]] W fun e w' => ∃ (mid : Nat) (d' : Array (Fin (m + 1))), Sort.partitionEqual (ltOf cf) dk x y p = (mid, d') ∧ e = .returned (.int .i64 (mid : Int)) ∧ SW encF w0 blk off d' w' := fun dk W x y p h1 h2 s => by
    have h := peq_any S cap x y p dk W s.sw s.sz h1 h2 (by rw [s.sz]; exact s.bn)
    rw [s.sz] at h
    exact h.mono fun e w' ⟨h1, h2⟩ => ⟨_, _, rfl, h1, h2⟩
  have HPRT : ∀ (dk : Array (Fin (m + 1))) (W : World) (x y p : Nat), x ≤ p → p < y → SoSt w0 blk off d0.size x y (ltOf cf) dk W → Calls Tryd.prog 79 #[.slice (some ⟨blk, off, none⟩) d0.size cap, .int .i64 x, .int .i64 y, .int .i64 p, .func (.func 37) #[rv] #[]] W fun e w' => ∃ (mid : Nat) (ap ap2 : Bool) (d' : Array (Fin (m + 1))), Sort.partition (ltOf cf) dk x y p = (mid, ap2, d') ∧ e = .returned (.tuple #[.int .i64 (mid : Int), .bool ap]) ∧ SW encF w0 blk off d' w' := fun dk W x y p h1 h2 s => by
    have h := part_any S cap x y p dk W s.sw s.sz h1 h2 (by rw [s.sz]; exact s.bn)
    rw [s.sz] at h
    exact h.mono fun e w' ⟨ap, h1, h2⟩ => ⟨_, ap, _, _, rfl, h1, h2⟩
  have HCM : Hid (∀ (dk : Array (Fin (m + 1))) (W : World), dk.size = d0.size → SW encF w0 blk off dk W → ∀ (x y : Fin (m + 1)) (q : Nat), Calls Tryd.prog 37 #[rv, .int .i64 ((x.val : Nat) : Int), .int .i64 ((y.val : Nat) : Int)] (W.drewN q) fun e w' => e = .returned (.int .i64 (cf x y)) ∧ ∃ p, w' = (W.drewN q).drewN p) := fun dk W h1 h2 x y q => S.cmp dk (W.drewN q) h1 (h2.drewN q) x y
  have HCL : Hid (∀ (dk : Array (Fin (m + 1))) (W : World) (i : Nat), dk.size = d0.size → SW encF w0 blk off dk W → i < d0.size → W.cell? ⟨blk, off + i, none⟩ = some (.int .i64 ((dk[i]!.val : Nat) : Int))) := fun dk W i h1 h2 h3 => S.cell h2 h1 i (by omega)
  have IH := fun (a' b' l' : Nat) (d' : Array (Fin (m + 1))) (W : World) (h1 : b' - a' < D) (h2 : l' ≤ 64) (h3 : SoSt w0 blk off d0.size a' b' (ltOf cf) d' W) => ih (b' - a') h1 a' b' l' d' W (Nat.le_refl _) h2 h3
  have ST0 : Hid (SoSt w0 blk off d0.size a b (ltOf cf) d w) := st
  have G0 : Hid (GoesF (ltOf cf) a b a b d d) := fun R h1 h2 => ⟨h1, h2⟩
  have HEND : Hid (∀ (a1 b1 : Nat) (d1 R : Array (Fin (m + 1))) (W : World), GoesF (ltOf cf) a b a1 b1 d d1 → PermIn a1 b1 d1 R → SortedIn (ltOf cf) a1 b1 R → SW encF w0 blk off R W → PdqF w0 blk off a b (ltOf cf) d (.returned (.tuple #[])) W) := fun a1 b1 d1 R W hg h1 h2 h3 => ⟨rfl, R, (hg R h1 h2).1, (hg R h1 h2).2, h3⟩
  have HPE : Hid (∀ (a1 b1 p mid : Nat) (d3 d4 : Array (Fin (m + 1))) (W3 W4 : World), 0 < a1 → a1 ≤ p → p < b1 → SoSt w0 blk off d0.size a1 b1 (ltOf cf) d3 W3 → ltOf cf d3[a1 - 1]! d3[p]! = false → Sort.partitionEqual (ltOf cf) d3 a1 b1 p = (mid, d4) → SW encF w0 blk off d4 W4 → GoesF (ltOf cf) a b a1 b1 d d3 →
      (a1 < mid ∧ mid ≤ b1) ∧ SoSt w0 blk off d0.size mid b1 (ltOf cf) d4 W4 ∧ GoesF (ltOf cf) a b mid b1 d d4) := fun a1 b1 p mid d3 d4 W3 W4 h0 h1 h2 s hn hx hw hg => by
    obtain ⟨e1, e2, e3, e4, e5⟩ := round_eq hO (partitionEqual_holds _) h0 h1 h2 (by rw [s.sz]; exact s.bn) s.bel hn hx
    exact ⟨⟨e1, e2⟩, ⟨e3.trans s.sz, hw, e2, s.bn, e4⟩, fun R q1 q2 => hg R (e5 R q1 q2).1 (e5 R q1 q2).2⟩
  have HPP : Hid (∀ (a1 b1 p mid : Nat) (ap : Bool) (d3 d4 : Array (Fin (m + 1))) (W3 W4 : World), a1 ≤ p → p < b1 → SoSt w0 blk off d0.size a1 b1 (ltOf cf) d3 W3 → Sort.partition (ltOf cf) d3 a1 b1 p = (mid, ap, d4) → SW encF w0 blk off d4 W4 → GoesF (ltOf cf) a b a1 b1 d d3 →
      (a1 ≤ mid ∧ mid < b1) ∧ SoSt w0 blk off d0.size a1 mid (ltOf cf) d4 W4 ∧ SoSt w0 blk off d0.size (mid + 1) b1 (ltOf cf) d4 W4 ∧
      (∀ L W5, PermIn a1 mid d4 L → SortedIn (ltOf cf) a1 mid L → SW encF w0 blk off L W5 → SoSt w0 blk off d0.size (mid + 1) b1 (ltOf cf) L W5 ∧ GoesF (ltOf cf) a b (mid + 1) b1 d L) ∧
      (∀ L W5, PermIn (mid + 1) b1 d4 L → SortedIn (ltOf cf) (mid + 1) b1 L → SW encF w0 blk off L W5 → SoSt w0 blk off d0.size a1 mid (ltOf cf) L W5 ∧ GoesF (ltOf cf) a b a1 mid d L)) := fun a1 b1 p mid ap d3 d4 W3 W4 h1 h2 s hx hw hg => by
    obtain ⟨e1, e2, e3, e4, e5, e6, e7⟩ := round_part hO (partition_holds _) h1 h2 (by rw [s.sz]; exact s.bn) s.bel hx
    have hbn := s.bn
    refine ⟨⟨e1, e2⟩, ⟨e3.trans s.sz, hw, e1, by omega, e4⟩, ⟨e3.trans s.sz, hw, by omega, hbn, e5⟩, fun L W5 q1 q2 q3 => ?_, fun L W5 q1 q2 q3 => ?_⟩
    · obtain ⟨f1, f2⟩ := e6 L q1 q2
      exact ⟨⟨(q1.1.trans e3).trans s.sz, q3, by omega, hbn, f1⟩, fun R r1 r2 => hg R (f2 R r1 r2).1 (f2 R r1 r2).2⟩
    · obtain ⟨f1, f2⟩ := e7 L q1 q2
      exact ⟨⟨(q1.1.trans e3).trans s.sz, q3, e1, by omega, f1⟩, fun R r1 r2 => hg R (f2 R r1 r2).1 (f2 R r1 r2).2⟩
  clear st ih
  generalize d0.size = n at *
  go_enter Tryd.func56, Tryd.ntmps56
  go_wp2
  go_loopw [1, 2, 3, 10, 11] (fun av bv lv wbv wpv wr => ∃ (a1 b1 l1 : Nat) (wb wp : Bool) (d1 : Array (Fin (m + 1))), av = .int .i64 a1 ∧ bv = .int .i64 b1 ∧ lv = .int .i64 l1 ∧ wbv = .bool wb ∧ wpv = .bool wp ∧ b1 - a1 ≤ D ∧ l1 ≤ 64 ∧ Hid (SoSt w0 blk off n a1 b1 (ltOf cf) d1 wr) ∧ Hid (GoesF (ltOf cf) a b a1 b1 d d1)) (fun av bv _ _ _ _ => (intOf bv).toNat - (intOf av).toNat)
  case atStart => exact ⟨a, b, lim, true, true, d, rfl, rfl, rfl, rfl, rfl, hD, hlim, ST0, G0⟩
  case round =>
    clear ST0 G0 hD hlim
    obtain ⟨a1, b1, l1, wb, wp, d1, rfl, rfl, rfl, rfl, rfl, hD, hlim, hst, hg⟩ := hrel
    have hab := hst.out.ab
    have hbn := hst.out.bn
    obtain ⟨len, hlen⟩ : ∃ len, len = b1 - a1 := ⟨_, rfl⟩
    have v1 : IntKind.i64.wrap ((b1 : Int) - (a1 : Int)) = (len : Int) := by rw [IntKind.wrap_i64]; omega
    by_cases h12 : len ≤ 12
    · have h12z : (len : Int) ≤ 12 := by omega
      have HC := HINS d1 wr a1 b1 hst.out
      clear HHEAP HBRK HREV HPIV HPIN HPEQ HPRT HCM HCL IH HPE HPP
      go_wp2_with fail
      refine HC.mono ?_
      rintro e w2 ⟨rfl, R, r1, r2, r3⟩
      have HE : Hid (PdqF w0 blk off a b (ltOf cf) d (.returned (.tuple #[])) w2) := HEND.out _ _ _ _ _ hg.out r1 r2 r3
      clear r1 r2 r3 HEND
      go_wp2
      first
        | go_end0
        | ((try simp only [Exit.inBlock, Exit.then]); refine bodyPost_ret (results_none rfl _ _ _) rfl ?_)
      exact HE.out
    · have h12z : ¬ (len : Int) ≤ 12 := by omega
      by_cases hl0 : l1 = 0
      · subst hl0
        have HC := HHEAP d1 wr a1 b1 (by omega) hst.out
        have h00 : (((0 : Nat) : Int) == 0) = true := rfl
        clear HINS HBRK HREV HPIV HPIN HPEQ HPRT HCM HCL IH HPE HPP
        go_wp2_with fail
        refine HC.mono ?_
        rintro e w2 ⟨rfl, R, r1, r2, r3⟩
        have HE : Hid (PdqF w0 blk off a b (ltOf cf) d (.returned (.tuple #[])) w2) := HEND.out _ _ _ _ _ hg.out r1 r2 r3
        clear r1 r2 r3 HEND
        go_wp2
        first
          | go_end0
          | ((try simp only [Exit.inBlock, Exit.then]); refine bodyPost_ret (results_none rfl _ _ _) rfl ?_)
        exact HE.out
      · have hlz : ((l1 : Int) == 0) = false := by rw [beq_eq_false_iff_ne]; omega
        have vl : IntKind.i64.wrap ((l1 : Int) - 1) = ((l1 - 1 : Nat) : Int) := by rw [IntKind.wrap_i64]; omega
        go_upto_if 39 with fail
        go_cut [3] from 40 to 46 (fun lv wx => ∃ (l2 : Nat) (d2 : Array (Fin (m + 1))), lv = .int .i64 l2 ∧ l2 ≤ 64 ∧ Hid (SoSt w0 blk off n a1 b1 (ltOf cf) d2 wx) ∧ Hid (GoesF (ltOf cf) a b a1 b1 d d2))
        case first =>
          clear HINS HHEAP HREV HPIV HPIN HPEQ HPRT HCM HCL IH HEND HPE HPP
          cases wb
          · have HC := HBRK d1 wr a1 b1 (by omega) hst.out
            go_wp2_with fail
            refine HC.mono ?_
            rintro e w2 ⟨rfl, R, r1, r2⟩
            have HS2 : Hid (SoSt w0 blk off n a1 b1 (ltOf cf) R w2) := hst.out.perm r1 r2
            have HG2 : Hid (GoesF (ltOf cf) a b a1 b1 d R) := hg.out.perm r1
            clear r1 r2 hst hg HBRK
            go_wp2_with fail
            go_meet
            exact ⟨l1 - 1, R, rfl, by omega, HS2, HG2⟩
          · clear HBRK
            go_wp2_with fail
            go_meet
            exact ⟨l1, d1, rfl, hlim, hst, hg⟩
        case rest =>
          obtain ⟨l2, d2, rfl, hl2, hst2, hg2⟩ := hcut
          clear hst hg hl0 hlz vl hlim HINS HHEAP HBRK
          have HC := HPIV d2 wc a1 b1 (by omega) hst2.out
          clear HPIV
          go_wp2_with fail
          refine HC.mono ?_
          rintro e w3 ⟨p, h, rfl, ⟨hp1, hp2⟩, r3⟩
          have hst3 : Hid (SoSt w0 blk off n a1 b1 (ltOf cf) d2 w3) := ⟨hst2.out.sz, r3, hab, hbn, hst2.out.bel⟩
          clear r3 hst2
          go_upto_if 56 with fail
          go_cut [13, 14] from 57 to 67 (fun pv hv wx => ∃ (p2 : Nat) (h2 : Int) (d3 : Array (Fin (m + 1))), pv = .int .i64 p2 ∧ hv = .int .i64 h2 ∧ (a1 ≤ p2 ∧ p2 < b1) ∧ Hid (SoSt w0 blk off n a1 b1 (ltOf cf) d3 wx) ∧ Hid (GoesF (ltOf cf) a b a1 b1 d d3))
          case first =>
            clear HPIN HPEQ HPRT HCM HCL IH HEND HPE HPP
            by_cases h2 : h = 2
            · subst h2
              have HC := HREV d2 w3 a1 b1 (by omega) hst3.out
              obtain ⟨bm, hbm⟩ : ∃ bm, bm = b1 - 1 := ⟨_, rfl⟩
              obtain ⟨pm, hpm⟩ : ∃ pm, pm = p - a1 := ⟨_, rfl⟩
              obtain ⟨pn, hpn⟩ : ∃ pn, pn = bm - pm := ⟨_, rfl⟩
              have v2 : IntKind.i64.wrap ((b1 : Int) - 1) = (bm : Int) := by rw [IntKind.wrap_i64]; omega
              have v3 : IntKind.i64.wrap ((p : Int) - (a1 : Int)) = (pm : Int) := by rw [IntKind.wrap_i64]; omega
              have v4 : IntKind.i64.wrap ((bm : Int) - (pm : Int)) = (pn : Int) := by rw [IntKind.wrap_i64]; omega
              have hq : a1 ≤ pn ∧ pn < b1 := by omega
              have h22 : ((2 : Int) == 2) = true := rfl
              clear hbm hpm hpn HREV
              go_wp2_with fail
              refine HC.mono ?_
              rintro e w4 ⟨rfl, R, r1, r2⟩
              have HS2 : Hid (SoSt w0 blk off n a1 b1 (ltOf cf) R w4) := hst3.out.perm r1 r2
              have HG2 : Hid (GoesF (ltOf cf) a b a1 b1 d R) := hg2.out.perm r1
              clear r1 r2 hst3 hg2
              go_wp2_with fail
              go_meet
              exact ⟨pn, 1, R, rfl, rfl, hq, HS2, HG2⟩
            · have h22 : (h == 2) = false := by rw [beq_eq_false_iff_ne]; exact h2
              clear HREV
              go_wp2_with fail
              go_meet
              exact ⟨p, h, d2, rfl, rfl, ⟨hp1, hp2⟩, hst3, hg2⟩
          case rest =>
            clear hst3 hg2 hp1 hp2 HREV
            obtain ⟨p2, h2, d3, rfl, rfl, ⟨hp1, hp2⟩, hst, hg⟩ := hcut
            obtain ⟨b3, HB3⟩ : ∃ b3 : Bool, Hid (b3 = (wb && wp && decide (h2 = 1))) := ⟨_, rfl⟩
            obtain ⟨w8, hw8⟩ : ∃ w8, w8 = wc := ⟨_, rfl⟩
            rw [← hw8] at hst ⊢
            clear hw8
            go_upto_region 15 with fail
            go_cut [75] from 68 to 75 (fun bv wx => bv = .bool b3 ∧ wx = w8)
            case first =>
              clear HPEQ HPRT HCM HCL IH HPE HPP HPIN hst hg HEND
              by_cases h1 : h2 = 1
              · have h11 : (h2 == 1) = true := by rw [beq_iff_eq]; exact h1
                have HE : b3 = (wb && wp) := by rw [HB3.out, decide_eq_true h1, Bool.and_true]
                clear HB3 h1
                cases wb <;> cases wp <;> (subst HE; go_wp2_with fail; go_meet; exact ⟨rfl, rfl⟩)
              · have h11 : (h2 == 1) = false := by rw [beq_eq_false_iff_ne]; exact h1
                obtain rfl : b3 = false := by rw [HB3.out, decide_eq_false h1, Bool.and_false]
                clear HB3 h1
                cases wb <;> cases wp <;> (go_wp2_with fail; go_meet; exact ⟨rfl, rfl⟩)
            case rest =>
            obtain ⟨rfl, rfl⟩ := hcut
            go_upto_if 75 with fail
            go_cut [] from 76 to 80 (fun wx => ∃ (d4 : Array (Fin (m + 1))), Hid (SoSt w0 blk off n a1 b1 (ltOf cf) d4 wx) ∧ Hid (GoesF (ltOf cf) a b a1 b1 d d4))
            case first =>
              clear HPEQ HPRT HCM HCL IH HPE HPP
              cases b3
              · have HE : Hid (∃ (d4 : Array (Fin (m + 1))), Hid (SoSt w0 blk off n a1 b1 (ltOf cf) d4 wc) ∧ Hid (GoesF (ltOf cf) a b a1 b1 d d4)) := ⟨d3, hst, hg⟩
                clear HPIN HEND hst hg HB3
                go_wp2_with fail
                go_meet
                exact HE.out
              · have HC := HPIN d3 wc a1 b1 (by omega) hst.out
                clear HPIN HB3
                go_wp2_with fail
                refine HC.mono ?_
                rintro e w5 ⟨r, rfl, R, r1, r2, r3⟩
                have HS2 : Hid (SoSt w0 blk off n a1 b1 (ltOf cf) R w5) := hst.out.perm r1 r3
                have HG2 : Hid (GoesF (ltOf cf) a b a1 b1 d R) := hg.out.perm r1
                cases r
                · clear r1 r2 r3 hst hg HEND
                  go_wp2_with fail
                  go_meet
                  exact ⟨R, HS2, HG2⟩
                · have HE : Hid (PdqF w0 blk off a b (ltOf cf) d (.returned (.tuple #[])) w5) := HEND.out _ _ _ _ _ hg.out r1 (r2 rfl) r3
                  clear r1 r2 r3 hst hg HEND
                  go_wp2
                  first
                    | go_end0
                    | ((try simp only [Exit.inBlock, Exit.then]); refine bodyPost_ret (results_none rfl _ _ _) rfl ?_)
                  exact HE.out
            case rest =>
              clear hst hg HPIN
              obtain ⟨d4, hst, hg⟩ := hcut
              obtain ⟨bb, HBB⟩ : ∃ bb : Bool, Hid (bb = true ↔ (0 < a1 ∧ ltOf cf d4[a1 - 1]! d4[p2]! = false)) := ⟨decide (0 < a1 ∧ ltOf cf d4[a1 - 1]! d4[p2]! = false), by show _ ↔ _; rw [decide_eq_true_iff]⟩
              obtain ⟨w8, hw8⟩ : ∃ w8, w8 = wc := ⟨_, rfl⟩
              rw [← hw8] at hst ⊢
              clear hw8
              go_upto_region 17 with fail
              go_cut [97] from 81 to 97 (fun bv wx => bv = .bool bb ∧ Hid (SoSt w0 blk off n a1 b1 (ltOf cf) d4 wx))
              case first =>
                clear HPEQ HPRT IH HEND HPE HPP hg
                by_cases h0 : a1 = 0
                · obtain rfl : bb = false := by
                    cases bb with
                    | false => rfl
                    | true => have := (HBB.out.1 rfl).1; omega
                  subst h0
                  have HQS : Hid (∀ q, SoSt w0 blk off n 0 b1 (ltOf cf) d4 (w8.drewN q)) := fun q => ⟨hst.out.sz, hst.out.sw.drewN q, hst.out.ab, hst.out.bn, hst.out.bel⟩
                  clear HBB HCM HCL hst
                  go_big_quiet (fail)
                  have w6H : Hid (SoSt w0 blk off n 0 b1 (ltOf cf) d4 (w8.drewN nq)) := HQS.out nq
                  clear HQS
                  generalize w8.drewN nq = w6 at w6H ⊢
                  go_wp2_with fail
                  go_meet
                  exact ⟨rfl, w6H⟩
                · obtain ⟨a2, rfl⟩ : ∃ a2, a1 = a2 + 1 := ⟨a1 - 1, by omega⟩
                  have h0z : (a2 : Int) + 1 > 0 := by omega
                  have va : IntKind.i64.wrap ((a2 : Int) + 1 - 1) = (a2 : Int) := by rw [IntKind.wrap_i64]; omega
                  have va0 : IntKind.i64.wrap (a2 : Int) = (a2 : Int) := by rw [IntKind.wrap_i64]; omega
                  have ia : (a2 : Int) < (n : Int) := by omega
                  have ip : (p2 : Int) < (n : Int) := by omega
                  have hsz4 : d4.size = n := hst.out.sz
                  have hsw4 : SW encF w0 blk off d4 w8 := hst.out.sw
                  rw [Nat.add_sub_cancel] at HBB
                  obtain ⟨q1, hb1⟩ : ∃ q, ltOf cf d4[a2]! d4[p2]! = q := ⟨_, rfl⟩
                  rw [hb1] at HBB
                  have HQS : Hid (∀ q, SoSt w0 blk off n (a2 + 1) b1 (ltOf cf) d4 (w8.drewN q)) := fun q => ⟨hst.out.sz, hst.out.sw.drewN q, hst.out.ab, hst.out.bn, hst.out.bel⟩
                  have c1a := HCL.out d4 w8 a2 hsz4 hsw4 (by omega)
                  have c1b := HCL.out d4 w8 p2 hsz4 hsw4 (by omega)
                  have HC1 := HCM.out d4 w8 hsz4 hsw4 d4[a2]! d4[p2]!
                  have HQ1 : Hid (∀ q, SW encF w0 blk off d4 (w8.drewN q)) := fun q => hsw4.drewN q
                  have hq1 : decide (cf d4[a2]! d4[p2]! < 0) = q1 := hb1
                  generalize cf d4[a2]! d4[p2]! = k1 at HC1 hq1
                  generalize ((d4[a2]!.val : Nat) : Int) = xa1 at c1a HC1
                  generalize ((d4[p2]!.val : Nat) : Int) = xb1 at c1b HC1
                  clear hsz4 hsw4 hst
                  cases q1
                  · obtain rfl : bb = true := HBB.out.2 ⟨by omega, rfl⟩
                    clear HBB HCM HCL
                    go_quiet ((go_at_call 37; exact Calls.quiet_of (HC1 _)))
                    have w6H : Hid (SoSt w0 blk off n (a2 + 1) b1 (ltOf cf) d4 (w8.drewN nq)) := HQS.out nq
                    clear c1a c1b HC1 HQ1 HQS
                    generalize w8.drewN nq = w6 at w6H ⊢
                    go_wp2_with fail
                    go_meet
                    exact ⟨rfl, w6H⟩
                  · obtain rfl : bb = false := by
                      cases bb with
                      | false => rfl
                      | true => have := (HBB.out.1 rfl).2; cases this
                    clear HBB HCM HCL
                    go_quiet ((go_at_call 37; exact Calls.quiet_of (HC1 _)))
                    have w6H : Hid (SoSt w0 blk off n (a2 + 1) b1 (ltOf cf) d4 (w8.drewN nq)) := HQS.out nq
                    clear c1a c1b HC1 HQ1 HQS
                    generalize w8.drewN nq = w6 at w6H ⊢
                    go_wp2_with fail
                    go_meet
                    exact ⟨rfl, w6H⟩
              case rest =>
                obtain ⟨rfl, hst5⟩ := hcut
                clear hst HCM HCL
                go_upto_if 97 with fail
                cases bb
                · clear HBB HPEQ HPE HEND
                  have HC := HPRT d4 wc a1 b1 p2 hp1 hp2 hst5.out
                  clear HPRT
                  go_wp2_with fail
                  refine HC.mono ?_
                  rintro e w7 ⟨mid, ap, ap2, d5, hx, rfl, hw7⟩
                  obtain ⟨⟨m1, m2⟩, hL, hR, fL, fR⟩ := HPP.out a1 b1 p2 mid ap2 d4 d5 wc w7 hp1 hp2 hst5.out hx hw7 hg.out
                  obtain ⟨ll, hll⟩ : ∃ ll, ll = mid - a1 := ⟨_, rfl⟩
                  obtain ⟨rl, hrl⟩ : ∃ rl, rl = b1 - mid := ⟨_, rfl⟩
                  obtain ⟨mp, hmp⟩ : ∃ mp, mp = mid + 1 := ⟨_, rfl⟩
                  have hmb : mid < 1048576 := by have := hst5.out.bn; omega
                  have vL : IntKind.i64.wrap ((mid : Int) - (a1 : Int)) = (ll : Int) := by rw [IntKind.wrap_i64]; omega
                  have vR : IntKind.i64.wrap ((b1 : Int) - (mid : Int)) = (rl : Int) := by rw [IntKind.wrap_i64]; omega
                  have vM : IntKind.i64.wrap ((mid : Int) + 1) = (mp : Int) := by rw [IntKind.wrap_i64]; omega
                  have CL := IH a1 mid l2 d5 w7 (by omega) hl2 hL
                  have CR := IH mp b1 l2 d5 w7 (by omega) hl2 (hmp ▸ hR)
                  rw [← hmp] at fL fR
                  have HFL : Hid (∀ L W5, PermIn a1 mid d5 L → SortedIn (ltOf cf) a1 mid L → SW encF w0 blk off L W5 → SoSt w0 blk off n mp b1 (ltOf cf) L W5 ∧ GoesF (ltOf cf) a b mp b1 d L) := fL
                  have HFR : Hid (∀ L W5, PermIn mp b1 d5 L → SortedIn (ltOf cf) mp b1 L → SW encF w0 blk off L W5 → SoSt w0 blk off n a1 mid (ltOf cf) L W5 ∧ GoesF (ltOf cf) a b a1 mid d L) := fR
                  have k1 : mp ≤ b1 ∧ a1 < mp ∧ mid < b1 ∧ a1 ≤ mid := by omega
                  clear hx hw7 hL hR fL fR IH HPP hst5 hg hll hrl hmp m1 m2
                  obtain ⟨k1, k2, k3, k4⟩ := k1
                  by_cases h4 : ll < rl
                  · have h4z : (ll : Int) < (rl : Int) := by omega
                    clear CR HFR
                    go_wp2_with fail
                    refine CL.mono ?_
                    rintro e w9 ⟨rfl, L, q1, q2, q3⟩
                    obtain ⟨hs9, hg9⟩ := HFL.out L w9 q1 q2 q3
                    have HS9 : Hid (SoSt w0 blk off n mp b1 (ltOf cf) L w9) := hs9
                    have HG9 : Hid (GoesF (ltOf cf) a b mp b1 d L) := hg9
                    clear HFL q1 q2 q3 hs9 hg9
                    go_wp2_with fail
                    go_roundw
                    case rel => exact ⟨mp, b1, l2, _, ap, L, rfl, rfl, rfl, rfl, rfl, by omega, hl2, HS9, HG9⟩
                    case measure => simp [intOf]; omega
                  · have h4z : ¬ (ll : Int) < (rl : Int) := by omega
                    clear CL HFL
                    go_wp2_with fail
                    refine CR.mono ?_
                    rintro e w9 ⟨rfl, L, q1, q2, q3⟩
                    obtain ⟨hs9, hg9⟩ := HFR.out L w9 q1 q2 q3
                    have HS9 : Hid (SoSt w0 blk off n a1 mid (ltOf cf) L w9) := hs9
                    have HG9 : Hid (GoesF (ltOf cf) a b a1 mid d L) := hg9
                    clear HFR q1 q2 q3 hs9 hg9
                    go_wp2_with fail
                    go_roundw
                    case rel => exact ⟨a1, mid, l2, _, ap, L, rfl, rfl, rfl, rfl, rfl, by omega, hl2, HS9, HG9⟩
                    case measure => simp [intOf]; omega
                · obtain ⟨h0, hn0⟩ := HBB.out.1 rfl
                  clear HBB HPRT HPP IH HEND
                  have HC := HPEQ d4 wc a1 b1 p2 hp1 hp2 hst5.out
                  clear HPEQ
                  go_wp2_with fail
                  refine HC.mono ?_
                  rintro e w7 ⟨mid, d5, hx, rfl, hw7⟩
                  obtain ⟨⟨m1, m2⟩, hs9, hg9⟩ := HPE.out a1 b1 p2 mid d4 d5 wc w7 h0 hp1 hp2 hst5.out hn0 hx hw7 hg.out
                  have HS9 : Hid (SoSt w0 blk off n mid b1 (ltOf cf) d5 w7) := hs9
                  have HG9 : Hid (GoesF (ltOf cf) a b mid b1 d d5) := hg9
                  clear hx hw7 hs9 hg9 HPE hst5 hg hn0
                  go_wp2_with fail
                  go_roundw
                  case rel => exact ⟨mid, b1, l2, wb, wp, d5, rfl, rfl, rfl, rfl, rfl, by omega, hl2, HS9, HG9⟩
                  case measure => simp [intOf]; omega
end

end Go.Proofs.YtlkemmdcjnaepaaDoor
