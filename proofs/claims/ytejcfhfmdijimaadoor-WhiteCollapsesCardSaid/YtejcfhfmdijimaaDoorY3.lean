/- The row of style's parts as a value; contracts of parts, Check, First. No condition. -/
import Derived.Test.YtejcfhfmdijimaaDoorY2
namespace Go.Proofs.YtejcfhfmdijimaaDoor
open Go.ChangeShapes Go.WideShapes Go.ChangeAt Go.RowKit

def zeroPs : Array Value := #[.int .u16 0, .nilFunc, .nilFunc, .nilFunc, .int .u16 0, .nilFunc, .nilFunc, .nilFunc, .int .u16 0, .nilFunc, .nilFunc, .nilFunc, .int .u16 0, .nilFunc, .nilFunc, .nilFunc, .int .u16 0, .nilFunc, .nilFunc, .nilFunc, .int .u16 0, .nilFunc, .nilFunc, .nilFunc, .int .u16 0, .nilFunc, .nilFunc, .nilFunc, .int .u16 0, .nilFunc, .nilFunc, .nilFunc]
def zeroP : Array Value := #[.int .u16 0, .nilFunc, .nilFunc, .nilFunc]
end Go.Proofs.YtejcfhfmdijimaaDoor
