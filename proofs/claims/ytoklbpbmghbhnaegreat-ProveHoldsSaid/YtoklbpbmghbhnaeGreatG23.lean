import Derived.Test.YtoklbpbmghbhnaeGreatG22
import Derived.Test.YtoklbpbmghbhnaeGreatRows
namespace Go.Proofs.YtoklbpbmghbhnaeGreat
set_option maxRecDepth 100000
set_option maxHeartbeats 400000
open Go.RowKit Go.Deep Go.ChangeShapes Go.WideShapes
end Go.Proofs.YtoklbpbmghbhnaeGreat
