/- Nothing of the shelf is wanted in this seat. -/
import Derived.Test.YtfnkjadfepoicacProg
namespace Go.Proofs.Ytfnkjadfepoicac
end Go.Proofs.Ytfnkjadfepoicac
