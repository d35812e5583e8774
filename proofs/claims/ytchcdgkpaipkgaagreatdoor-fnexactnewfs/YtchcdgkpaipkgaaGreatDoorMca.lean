/- Calls. Pure. -/
import Derived.WalkKit
namespace Go.Proofs.YtchcdgkpaipkgaaGreatDoor

section
/-- a call -/
structure Ca where
  kind : Int
  dir : Int
  name : ByteArray
  to_ : Int
  as_ : ByteArray
  data : ByteArray
def twoB (c : Ca) : Bool := decide (c.kind = 5) || decide (c.kind = 6)
def callB (c : Ca) : Bool :=
  decide (1 ≤ c.kind) && decide (c.kind ≤ 8) && (decide (0 ≤ c.dir) && decide (c.dir ≤ 100000)) && (decide (0 ≤ c.to_) && decide (c.to_ ≤ 100000)) && decide (c.name.size ≤ 24) && decide (c.as_.size ≤ 24) && decide (c.data.size ≤ 20) && (twoB c || (decide (c.to_ = 0) && decide (c.as_.size = 0))) && (decide (c.kind = 7) || decide (c.data.size = 0))
/-- a call's value -/
def encC (c : Ca) : Value := .agg #[.int .i64 c.kind, .int .i64 c.dir, .string c.name, .int .i64 c.to_, .string c.as_, .string c.data]
end

end Go.Proofs.YtchcdgkpaipkgaaGreatDoor
