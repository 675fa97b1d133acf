/- The word of a proof of a clash. -/
import Derived.Test.YtdndddlikdccgaaMA
namespace Go.Proofs.Ytdndddlikdccgaa

abbrev clW : ByteArray := ⟨#[99, 108, 97, 115, 104]⟩
end Go.Proofs.Ytdndddlikdccgaa
