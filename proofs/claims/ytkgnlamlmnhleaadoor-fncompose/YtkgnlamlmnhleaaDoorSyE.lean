/- Names: slices.symMergeCmpFunc at signs with their classes: two parts in order are made one in order. -/
import Derived.Test.YtkgnlamlmnhleaaDoorRows
import Derived.Test.YtkgnlamlmnhleaaDoorSyC
import Derived.Test.YtkgnlamlmnhleaaDoorSyD
namespace Go.Proofs.YtkgnlamlmnhleaaDoor
open Go.RowKit Go.Shelf Go.Lib Go.Sort

theorem sym_says (blk off cap sz : Nat) (hsz : sz < 4611686018427387904) : ∀ N, SymSays blk off cap sz N
  | 0 => fun a m b d w h => by omega
  | N + 1 => fun a m b d w hN hz hH hblk ham hmb hb h1 h2 => by
    have IH := sym_says blk off cap sz hsz N
    by_cases c1 : m = a + 1
    · subst hz
      exact symA blk off cap a b d w hH hblk (by omega) hb hsz (c1 ▸ h2) m c1
    · by_cases c2 : b = m + 1
      · subst hz
        exact symB blk off cap a m d w hH hblk (by omega) (by omega) hsz h1 b c2
      · by_cases c3 : (a + b) / 2 < m
        · exact symC1 blk off cap sz N IH a m b d w (by omega) hz hH hblk (by omega) (by omega) hb hsz h1 h2 c3
        · exact symC2 blk off cap sz N IH a m b d w (by omega) hz hH hblk (by omega) (by omega) hb hsz h1 h2 (by omega)

end Go.Proofs.YtkgnlamlmnhleaaDoor
