/-
  The claim: Codes.
-/
import Derived.Test.YtbljokilfkodfaaPfCodes
import Derived.Test.YtbljokilfkodfaaCod5
namespace Go.Proofs.Ytbljokilfkodfaa

theorem codes_holds : Rows.CodesSaid := codes_over encode_said decode_said
end Go.Proofs.Ytbljokilfkodfaa
