/- Shelf -/
import Derived.Test.YtlgnpiphaeoeiadDoorG18
import Derived.Test.YtlgnpiphaeoeiadDoorRows
namespace Go.Proofs.YtlgnpiphaeoeiadDoor
end Go.Proofs.YtlgnpiphaeoeiadDoor
