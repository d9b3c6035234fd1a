/-
  The claim: Codes.
-/
import Derived.Test.YtginhibacgkobaaPfCodes
import Derived.Test.YtginhibacgkobaaCod5
namespace Go.Proofs.Ytginhibacgkobaa

theorem codes_holds : Rows.CodesSaid := codes_over encode_said decode_said
end Go.Proofs.Ytginhibacgkobaa
