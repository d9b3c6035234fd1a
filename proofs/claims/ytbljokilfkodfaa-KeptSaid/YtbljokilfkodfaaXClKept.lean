/-
  The claim: Kept.
-/
import Derived.Test.YtbljokilfkodfaaK4
import Derived.Test.YtbljokilfkodfaaG31
namespace Go.Proofs.Ytbljokilfkodfaa

theorem kept_holds : Rows.KeptSaid := kept_over bookIs new_said
end Go.Proofs.Ytbljokilfkodfaa
