/- Contracts of package utf's functions, all in one place: Decode, Count, Valid (UP6, UP7), Encode (UP9). -/
import Derived.Test.YtgnalnppjhgmjaaDoorUP7
import Derived.Test.YtgnalnppjhgmjaaDoorUP9
namespace Go.Proofs.YtgnalnppjhgmjaaDoor
end Go.Proofs.YtgnalnppjhgmjaaDoor
