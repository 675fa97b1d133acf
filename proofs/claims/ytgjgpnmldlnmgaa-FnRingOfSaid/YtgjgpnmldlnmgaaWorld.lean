/- The worlds behind a cut and a copy. -/
import Derived.Test.YtgjgpnmldlnmgaaHas
import Derived.Test.YtgjgpnmldlnmgaaNext
import Derived.Test.YtgjgpnmldlnmgaaDrop
namespace Go.Proofs.Ytgjgpnmldlnmgaa
end Go.Proofs.Ytgjgpnmldlnmgaa
