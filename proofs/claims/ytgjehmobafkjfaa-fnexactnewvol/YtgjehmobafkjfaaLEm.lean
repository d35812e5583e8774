/- Rows of entries: what laws.szEnt, szEntS, markText do. -/
import Derived.Test.YtgjehmobafkjfaaRows
import Derived.Test.YtgjehmobafkjfaaLEo
import Derived.Test.YtgjehmobafkjfaaOwn
namespace Go.Proofs.Ytgjehmobafkjfaa
open Go.RowKit Go.Sort

end Go.Proofs.Ytgjehmobafkjfaa
