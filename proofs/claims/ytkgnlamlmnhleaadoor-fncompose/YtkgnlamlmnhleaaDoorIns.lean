/- Names: signs with their classes held against each other; slices.insertionSortCmpFunc over them. -/
import Derived.Test.YtkgnlamlmnhleaaDoorRows
import Derived.Test.YtkgnlamlmnhleaaDoorSwp
import Derived.Test.YtkgnlamlmnhleaaDoorShIn
namespace Go.Proofs.YtkgnlamlmnhleaaDoor
open Go.RowKit Go.Shelf Go.Lib Go.Sort

theorem clsN_bd (c : Int) : 0 ≤ clsN c ∧ clsN c ≤ 230 := by
  unfold clsN
  split
  · omega
  · split
    · omega
    · split <;> omega

set_option maxRecDepth 100000 in
set_option maxHeartbeats 1000000 in
theorem against_any (x y : Int) (W : World) :
    Calls Tryd.prog 42 #[.agg #[.int .i64 x, .int .i64 (clsN x)], .agg #[.int .i64 y, .int .i64 (clsN y)]] W fun e w' => e = .returned (.int .i64 (clsN x - clsN y)) ∧ ∃ q os, w' = grow (W.drewN q) os := by
  have hx := clsN_bd x
  have hy := clsN_bd y
  generalize clsN x = a at *
  generalize clsN y = b at *
  go_enter Tryd.func42, Tryd.ntmps42
  go_wp2
  go_ret
  exact ⟨rfl, 0, _, by rw [alloc_eq_grow, alloc_eq_grow, grow_grow]; rfl⟩

theorem insert_any (blk off cap a b : Nat) (d : Array Int) (w : World) (hH : HoldsK encP 2 w blk off d) (hblk : blk < w.heap.size) (hab : a ≤ b) (hb : b ≤ d.size) (hsz : d.size < 4611686018427387904) :
    Calls Tryd.prog 65 #[.slice (some ⟨blk, off, none⟩) d.size cap, .int .i64 a, .int .i64 b, .func (.func 42) #[] #[]] w fun e w' => e = .returned (.tuple #[]) ∧ ∃ d', SWp w blk off d' w' ∧ Merged clsN a b d d' := by
  have h := AnyQ.insertionSortCmpFunc Tryd.laysIns 2 (fun w => Tryd.isAgg47 w) (fun w => Tryd.sizeOf47 w) encP encP_len encP_one (fun x y => clsN x - clsN y) 42 #[] blk off cap a b d w (enters_of Tryd.func42 (by kernel_rfl) rfl) (fun m os dk _ x y => against_any x y _) hH hblk hab hb hsz
  refine Calls.mono (f := 65) h ?_
  rintro e w' ⟨rfl, n, os, rfl⟩
  have hm := ins_merged clsN d a b hab hb
  exact ⟨rfl, _, ⟨hblk, ⟨d, hH, hm.size⟩, n, os, rfl⟩, hm⟩

end Go.Proofs.YtkgnlamlmnhleaaDoor
