/- Shelf -/
import Derived.Test.YtiilckjnggeeoadG14
import Derived.Test.YtiilckjnggeeoadProg
namespace Go.Proofs.Ytiilckjnggeeoad
end Go.Proofs.Ytiilckjnggeeoad
