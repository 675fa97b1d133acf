/- The word of a proof of a clash. -/
import Derived.Test.YthefnanhikjddaaDoorMA
namespace Go.Proofs.YthefnanhikjddaaDoor

abbrev clW : ByteArray := ⟨#[99, 108, 97, 115, 104]⟩
end Go.Proofs.YthefnanhikjddaaDoor
