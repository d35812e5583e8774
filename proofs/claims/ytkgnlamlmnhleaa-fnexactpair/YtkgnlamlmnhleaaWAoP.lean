/- The walk of the exact law of Pair at the program's own contract. -/
import Derived.Test.YtkgnlamlmnhleaaRows
import Derived.Test.YtkgnlamlmnhleaaWPai
import Derived.Test.YtkgnlamlmnhleaaIPw
namespace Go.Proofs.Ytkgnlamlmnhleaa
open Go.RowKit

theorem allPair (a b : Int) (w : World) :
    Calls Try.prog 4 #[.int .i64 a, .int .i64 b] w fun e w' => e = .returned (.bool true) ∧ Below w.heap.size w w' := wPair a b w fun w' _ => iPair a b w'
end Go.Proofs.Ytkgnlamlmnhleaa
