/-
  The law's own small functions: a step as a command, a command as the document's, an error's number.
-/
import Derived.Test.YtbljokilfkodfaaRef
namespace Go.Proofs.Ytbljokilfkodfaa
open Go.RowKit

set_option maxHeartbeats 400000 in
theorem command_any (k c i s p q : Int) (w : World) :
    Calls Try.prog 10 #[.agg #[.int .i64 k, .int .i64 c, .int .i64 i, .int .i64 s, .int .i64 p, .int .i64 q]] w fun e w' => e = .returned (.agg #[.int .i64 k, .int .i64 c, .int .i64 i, .int .i64 s, .int .i64 p, .int .i64 q]) ∧ Below w.heap.size w w' := by
  go_enter Try.func10, Try.ntmps10
  go_wp2
  refine bodyPost_ret (v := .agg #[.int .i64 k, .int .i64 c, .int .i64 i, .int .i64 s, .int .i64 p, .int .i64 q]) (by simp [results, Try.results10, go_sem]) rfl ⟨rfl, ?_⟩
  exact ((Below.refl _ _).alloc (Nat.le_refl _) _).alloc (by simp) _
set_option maxHeartbeats 400000 in
theorem plain_any (k c i s p q : Int) (w : World) :
    Calls Try.prog 12 #[.agg #[.int .i64 k, .int .i64 c, .int .i64 i, .int .i64 s, .int .i64 p, .int .i64 q]] w fun e w' => e = .returned (.agg #[.int .i64 k, .int .i64 c, .int .i64 i, .int .i64 s, .int .i64 p, .int .i64 q]) ∧ Below w.heap.size w w' := by
  go_enter Try.func12, Try.ntmps12
  go_wp2
  refine bodyPost_ret (v := .agg #[.int .i64 k, .int .i64 c, .int .i64 i, .int .i64 s, .int .i64 p, .int .i64 q]) (by simp [results, Try.results12, go_sem]) rfl ⟨rfl, ?_⟩
  exact ((Below.refl _ _).alloc (Nat.le_refl _) _).alloc (by simp) _
set_option maxHeartbeats 400000 in
theorem num_any (n : Int) (w : World) :
    Calls Try.prog 25 #[.int .i64 n] w fun e w' => e = .returned (.int .i64 n) ∧ w' = w := by
  go_enter Try.func25, Try.ntmps25
  go_wp2
  go_ret
  exact ⟨rfl, rfl⟩
end Go.Proofs.Ytbljokilfkodfaa
