/- The draws of chapter 13. -/
import Derived.Test.YtkgnlamlmnhleaaRows
import Derived.Test.YtkgnlamlmnhleaaSd2
import Derived.Test.YtkgnlamlmnhleaaPrt3
namespace Go.Proofs.Ytkgnlamlmnhleaa
open Go.RowKit


set_option maxRecDepth 100000 in
theorem sdrawUnits_any (S : Src) (ok : S.ok) (w : World) (hl : Lies S w) :
    Calls Try.prog 8 #[.slice S.a S.len S.cap] w fun e w' => ∃ l v, l.length ≤ 10 ∧ e = .returned v ∧ IntRow w' w.heap.size v l ∧ Below w.heap.size w w' := by
  go_enter Try.func8, Try.ntmps8
  go_wp2_with fail
  refine (new_any S ok _ hl).mono ?_
  rintro e w1 ⟨rfl, c1, b1⟩
  go_wp2_with fail
  refine (slistN_any S ok 10 (by decide) _ _ _ c1).mono ?_
  rintro e w2 ⟨l, v, s', hlen, rfl, hrow, c2, g2⟩
  go_wp2
  go_ret
  exact ⟨l, v, hlen, rfl, hrow.mono b1.size, b1.trans (below_gbi g2 (fun k hk => by cases hk; exact Nat.le_refl _) b1.size)⟩

end Go.Proofs.Ytkgnlamlmnhleaa
