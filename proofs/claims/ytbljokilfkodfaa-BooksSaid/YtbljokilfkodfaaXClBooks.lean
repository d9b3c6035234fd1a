/-
  The claim: Books.
-/
import Derived.Test.YtbljokilfkodfaaG13
import Derived.Test.YtbljokilfkodfaaG31
namespace Go.Proofs.Ytbljokilfkodfaa

theorem books_holds : Rows.BooksSaid := books_over bookIs new_said
end Go.Proofs.Ytbljokilfkodfaa
