/-
  The claim: Journals (the second form).
-/
import Derived.Test.YtbljokilfkodfaaPfJournals
import Derived.Test.YtbljokilfkodfaaRepS
namespace Go.Proofs.Ytbljokilfkodfaa

theorem journals_holds : Rows.JournalsUptoSaid := Jou.over replay_said
end Go.Proofs.Ytbljokilfkodfaa
