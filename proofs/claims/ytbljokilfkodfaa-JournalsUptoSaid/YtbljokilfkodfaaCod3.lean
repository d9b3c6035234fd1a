/-
  Encode.
-/
import Derived.Test.YtbljokilfkodfaaCod2
namespace Go.Proofs.Ytbljokilfkodfaa
open Go.RowKit

set_option maxRecDepth 100000 in
set_option maxHeartbeats 1000000 in
theorem encode_said : EncSaid 23 := by
  intro k c i s p q w
  go_enter Try.func23, Try.ntmps23
  go_wp2_with (refine wpList_store_row rfl 123 (.tmp 4) (.tmp 5) rfl (w.heap.size + 1) #[.int .u32 0, .int .i32 0, .int .u32 0, .int .u32 0, .int .u32 0, .int .u32 0, .int .u32 0, .int .u32 0, .int .u32 0, .int .u32 0, .int .u32 0, .int .u32 0, .int .u32 0, .int .u32 0, .int .u32 0, .int .u32 0, .int .u32 0, .int .u32 0, .int .u32 0] rfl rfl 123 #[.int .u32 0, .int .i32 0, .int .u32 0, .int .u32 0, .int .u32 0, .int .u32 0, .int .u32 0, .int .u32 0, .int .u32 0, .int .u32 0, .int .u32 0, .int .u32 0, .int .u32 0, .int .u32 0, .int .u32 0, .int .u32 0, .int .u32 0, .int .u32 0, .int .u32 0] (tz_at _ _ (by simp)) tz_size rfl tz_one ?_; rw [setRow_self _ _ _ _ (by simp)])
  have B0 : Below w.heap.size w (tab0 (w.alloc (.cells #[.int .i64 k, .int .i64 c, .int .i64 i, .int .i64 s, .int .i64 p, .int .i64 q] 32))) := ((Below.refl _ _).alloc (Nat.le_refl _) _).alloc (by simp) _
  refine (tencode (w.heap.size + 1) k c i s p q (tab0 (w.alloc (.cells #[.int .i64 k, .int .i64 c, .int .i64 i, .int .i64 s, .int .i64 p, .int .i64 q] 32))) ?_ (by simp [tab0])).mono ?_
  · have := tab_new (w.alloc (.cells #[.int .i64 k, .int .i64 c, .int .i64 i, .int .i64 s, .int .i64 p, .int .i64 q] 32))
    simpa using this
  rintro e w' ⟨rfl, _, o⟩
  go_wp2
  go_ret2
  go_light
  exact ⟨rfl, B0.trans (o.below B0.size (fun k hk => by omega))⟩
end Go.Proofs.Ytbljokilfkodfaa
