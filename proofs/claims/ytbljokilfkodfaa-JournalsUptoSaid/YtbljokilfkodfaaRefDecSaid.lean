/-
  The document's Decode keeps its contract.
-/
import Derived.Test.YtbljokilfkodfaaSaid
import Derived.Test.YtbljokilfkodfaaRefDec
namespace Go.Proofs.Ytbljokilfkodfaa
open Go.RowKit

theorem decRes_eq (s : ByteArray) : decRes s = .tuple #[.agg #[.int .i64 (decN s 0), .int .i64 (decN s 1), .int .i64 (decN s 2), .int .i64 (decN s 3), .int .i64 (decN s 4), .int .i64 (decN s 5)], .int .i64 (decErr s)] := by
  unfold decRes decN decErr
  by_cases h : decOk s = true
  · have h' := h
    unfold decOk at h'
    simp only [Bool.and_eq_true, decide_eq_true_eq] at h'
    rw [if_pos ⟨h'.1.1, by simp [h'.1.2, h'.2]⟩]
    simp [h, cmdAt]
  · have h' : ¬ (s.size = 10 ∧ (sumOk s && fairAt s) = true) := by
      rintro ⟨a, b⟩
      apply h
      unfold decOk
      simp only [Bool.and_eq_true] at b
      simp [a, b.1, b.2]
    rw [if_neg h']
    simp [h, zeroCmd]
theorem rdecode_said : DecSaid 27 := by
  intro s w hs
  rw [← decRes_eq]
  by_cases h : s.size = 10
  · exact rdecode_ten s w h
  · exact rdecode_len s w hs h
end Go.Proofs.Ytbljokilfkodfaa
