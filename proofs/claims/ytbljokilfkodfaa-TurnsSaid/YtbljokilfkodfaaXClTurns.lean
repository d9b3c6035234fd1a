/-
  The claim: Turns.
-/
import Derived.Test.YtbljokilfkodfaaG33
import Derived.Test.YtbljokilfkodfaaG31
namespace Go.Proofs.Ytbljokilfkodfaa

theorem turns_holds : Rows.TurnsSaid := turns_over bookIs new_said
end Go.Proofs.Ytbljokilfkodfaa
