/- Shelf -/
import Derived.Test.YtaliegkkdhkfcacGreatDoorG19
namespace Go.Proofs.YtaliegkkdhkfcacGreatDoor
end Go.Proofs.YtaliegkkdhkfcacGreatDoor
