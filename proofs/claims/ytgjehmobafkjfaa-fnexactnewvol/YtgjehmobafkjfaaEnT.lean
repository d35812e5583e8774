/- Entries of a directory. -/
import Derived.Test.YtgjehmobafkjfaaRows
namespace Go.Proofs.Ytgjehmobafkjfaa

/-- an entry -/
structure En where
  hash : Int
  index : Int
  name : ByteArray
  id : Int
  deriving DecidableEq
instance : Inhabited En := ⟨⟨0, 0, ⟨#[]⟩, 0⟩⟩

end Go.Proofs.Ytgjehmobafkjfaa
