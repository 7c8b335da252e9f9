/- What settle of the law's world does: the walk. -/
import Derived.Test.YtogmdaopfnmobaaP14
namespace Go.Proofs.Ytogmdaopfnmobaa
end Go.Proofs.Ytogmdaopfnmobaa

