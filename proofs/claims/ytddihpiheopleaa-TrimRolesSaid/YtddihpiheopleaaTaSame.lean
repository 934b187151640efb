/- Contract of the document's Same for rows of numbers. Conditions: the rows lie where the slices say, at most 1048577 numbers. -/
import Derived.Test.YtddihpiheopleaaRwI
import Derived.Test.YtddihpiheopleaaClB
import Derived.BigQuiet
namespace Go.Proofs.Ytddihpiheopleaa.Ta
open Go.ChangeShapes Go.WideShapes Go.ChangeAt Go.RowKit

end Go.Proofs.Ytddihpiheopleaa.Ta
