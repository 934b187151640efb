/- Contract of unit.Scale where the quotient is at most 2^62: it is rounded, given its sign, and summed. Conditions: the arguments are int64, the divisor is at least 1. -/
import Derived.Test.YtddihpiheopleaaUnitB
namespace Go.Proofs.Ytddihpiheopleaa.Fo
open Go.ChangeShapes Go.WideShapes Go.ChangeAt Go.RowKit

end Go.Proofs.Ytddihpiheopleaa.Fo
