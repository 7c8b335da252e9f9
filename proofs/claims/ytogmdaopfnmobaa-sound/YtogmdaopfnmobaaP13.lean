/- What wholeNodes of the law's world does. -/
import Derived.Test.YtogmdaopfnmobaaP12
namespace Go.Proofs.Ytogmdaopfnmobaa
end Go.Proofs.Ytogmdaopfnmobaa

