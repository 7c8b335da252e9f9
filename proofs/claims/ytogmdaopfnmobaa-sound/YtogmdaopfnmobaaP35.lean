/- What one step of kind Hash, Write or Read does (words of the law's world). -/
import Derived.Test.YtogmdaopfnmobaaP15
namespace Go.Proofs.Ytogmdaopfnmobaa
end Go.Proofs.Ytogmdaopfnmobaa

/- A step of kind Read (words of the law's world). -/
namespace Go.Proofs.Ytogmdaopfnmobaa
end Go.Proofs.Ytogmdaopfnmobaa

/- A step of kind Write (words of the law's world). -/
namespace Go.Proofs.Ytogmdaopfnmobaa
end Go.Proofs.Ytogmdaopfnmobaa

/- One step of the law's world (kinds Hash, Write, Read). -/
namespace Go.Proofs.Ytogmdaopfnmobaa
end Go.Proofs.Ytogmdaopfnmobaa

