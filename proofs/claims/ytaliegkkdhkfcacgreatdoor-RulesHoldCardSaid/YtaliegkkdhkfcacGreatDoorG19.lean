/- Shelf -/
import Derived.Test.YtaliegkkdhkfcacGreatDoorG18
namespace Go.Proofs.YtaliegkkdhkfcacGreatDoor
end Go.Proofs.YtaliegkkdhkfcacGreatDoor
