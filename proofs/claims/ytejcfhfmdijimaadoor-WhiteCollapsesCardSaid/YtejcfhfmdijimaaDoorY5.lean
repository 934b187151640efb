/- Contract of style.apply: a style with a declaration applied. Condition: the declaration's bits are a 16-bit number. -/
import Derived.Test.YtejcfhfmdijimaaDoorY3
import Derived.Test.YtejcfhfmdijimaaDoorYBits
namespace Go.Proofs.YtejcfhfmdijimaaDoor
open Go.ChangeShapes Go.WideShapes Go.ChangeAt Go.RowKit

end Go.Proofs.YtejcfhfmdijimaaDoor
