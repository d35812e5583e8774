/- Entries of a directory. Volumes: inodes. Pure. -/
import Derived.Test.YtchcdgkpaipkgaaGreatDoorRows
namespace Go.Proofs.YtchcdgkpaipkgaaGreatDoor

section
/-- an entry -/
structure En where
  hash : Int
  index : Int
  name : ByteArray
  id : Int
  deriving DecidableEq
instance : Inhabited En := ⟨⟨0, 0, ⟨#[]⟩, 0⟩⟩
end

section
/-- an inode -/
structure Ino where
  id : Int
  kind : Int
  links : Int
  data : ByteArray
  ents : List En
instance : Inhabited Ino := ⟨⟨0, 0, 0, ⟨#[]⟩, []⟩⟩
/-- a volume -/
structure Vo where
  next : Int
  ins : List Ino
end

end Go.Proofs.YtchcdgkpaipkgaaGreatDoor
