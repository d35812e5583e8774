/- Volumes: inodes. Pure. -/
import Derived.Test.YtgjehmobafkjfaaEnT
namespace Go.Proofs.Ytgjehmobafkjfaa

/-- an inode -/
structure Ino where
  id : Int
  kind : Int
  links : Int
  data : ByteArray
  ents : List En
instance : Inhabited Ino := ⟨⟨0, 0, 0, ⟨#[]⟩, []⟩⟩
/-- a volume -/
structure Vo where
  next : Int
  ins : List Ino

end Go.Proofs.Ytgjehmobafkjfaa
