/- The load of a whole step. -/
import Derived.Deep.MidRow
import Derived.Test.YtogmdaopfnmobaaP35
namespace Go.Proofs.Ytogmdaopfnmobaa
end Go.Proofs.Ytogmdaopfnmobaa

