/-
  The claim: Journals (the second form).
-/
import Derived.Test.YtginhibacgkobaaPfJournals
import Derived.Test.YtginhibacgkobaaRepS
namespace Go.Proofs.Ytginhibacgkobaa

theorem journals_holds : Rows.JournalsUptoSaid := Jou.over replay_said
end Go.Proofs.Ytginhibacgkobaa
