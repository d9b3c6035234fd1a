/-
  Decode, whole.
-/
import Derived.Test.YtbljokilfkodfaaCod4
namespace Go.Proofs.Ytbljokilfkodfaa
open Go.RowKit

theorem tdecode (b : Nat) (s : ByteArray) (w : World) (h : Tab w b) (hlt : b < w.heap.size) (hs : s.size ≤ maxLen) :
    Calls Try.prog 50 #[.pointer (some ⟨b, 0, none⟩), .string s] w fun e w' =>
      e = .returned (.tuple #[.agg #[.int .i64 (decN s 0), .int .i64 (decN s 1), .int .i64 (decN s 2), .int .i64 (decN s 3), .int .i64 (decN s 4), .int .i64 (decN s 5)], .int .i64 (decErr s)]) ∧ Tab w' b ∧ Only (fun k => k = b) w w' := by
  rw [← decRes_eq]
  by_cases h10 : s.size = 10
  · exact tdecode_ten b s w h hlt h10
  · exact tdecode_len b s w h hs h10

set_option maxRecDepth 100000 in
set_option maxHeartbeats 1000000 in
theorem decode_said : DecSaid 26 := by
  intro s w hs
  go_enter Try.func26, Try.ntmps26
  go_wp2_with (refine wpList_store_row rfl 123 (.tmp 4) (.tmp 5) rfl (w.heap.size + 1) #[.int .u32 0, .int .i32 0, .int .u32 0, .int .u32 0, .int .u32 0, .int .u32 0, .int .u32 0, .int .u32 0, .int .u32 0, .int .u32 0, .int .u32 0, .int .u32 0, .int .u32 0, .int .u32 0, .int .u32 0, .int .u32 0, .int .u32 0, .int .u32 0, .int .u32 0] rfl rfl 123 #[.int .u32 0, .int .i32 0, .int .u32 0, .int .u32 0, .int .u32 0, .int .u32 0, .int .u32 0, .int .u32 0, .int .u32 0, .int .u32 0, .int .u32 0, .int .u32 0, .int .u32 0, .int .u32 0, .int .u32 0, .int .u32 0, .int .u32 0, .int .u32 0, .int .u32 0] (tz_at _ _ (by simp)) tz_size rfl tz_one ?_; rw [setRow_self _ _ _ _ (by simp)])
  have B0 : Hid (Below w.heap.size w (tab0 (w.alloc (.cells #[.int .i64 0, .int .i64 0, .int .i64 0, .int .i64 0, .int .i64 0, .int .i64 0] 32)))) := ((Below.refl _ _).alloc (Nat.le_refl _) _).alloc (by simp) _
  refine (tdecode (w.heap.size + 1) s (tab0 (w.alloc (.cells #[.int .i64 0, .int .i64 0, .int .i64 0, .int .i64 0, .int .i64 0, .int .i64 0] 32))) ?_ (by simp [tab0]) hs).mono ?_
  · have := tab_new (w.alloc (.cells #[.int .i64 0, .int .i64 0, .int .i64 0, .int .i64 0, .int .i64 0, .int .i64 0] 32))
    simpa using this
  rintro e w2 ⟨rfl, _, o⟩
  have B2 : Hid (Below w.heap.size w w2) := B0.out.trans (o.below B0.out.size (fun k hk => by omega))
  have hz : w.heap.size < w2.heap.size := by have := o.size; simp [tab0] at this; omega
  have c0 : w2.cell? ⟨w.heap.size, 0, none⟩ = some (.int .i64 0) := (o.cell (b := w.heap.size) (o := 0) (by simp [tab0]; omega) (by omega)).trans (by simp [tab0])
  have c1 : w2.cell? ⟨w.heap.size, 1, none⟩ = some (.int .i64 0) := (o.cell (b := w.heap.size) (o := 1) (by simp [tab0]; omega) (by omega)).trans (by simp [tab0])
  have c2 : w2.cell? ⟨w.heap.size, 2, none⟩ = some (.int .i64 0) := (o.cell (b := w.heap.size) (o := 2) (by simp [tab0]; omega) (by omega)).trans (by simp [tab0])
  have c3 : w2.cell? ⟨w.heap.size, 3, none⟩ = some (.int .i64 0) := (o.cell (b := w.heap.size) (o := 3) (by simp [tab0]; omega) (by omega)).trans (by simp [tab0])
  have c4 : w2.cell? ⟨w.heap.size, 4, none⟩ = some (.int .i64 0) := (o.cell (b := w.heap.size) (o := 4) (by simp [tab0]; omega) (by omega)).trans (by simp [tab0])
  have c5 : w2.cell? ⟨w.heap.size, 5, none⟩ = some (.int .i64 0) := (o.cell (b := w.heap.size) (o := 5) (by simp [tab0]; omega) (by omega)).trans (by simp [tab0])
  have hf : ∀ o, w2.frozen? ⟨w.heap.size, o, none⟩ = false := fun j => (o.frozen (b := w.heap.size) (o := j) (by simp [tab0]; omega) (by omega)).trans (by simp [tab0])
  clear o
  go_wp2
  refine bodyPost_ret (v := .tuple #[.agg #[.int .i64 (decN s 0), .int .i64 (decN s 1), .int .i64 (decN s 2), .int .i64 (decN s 3), .int .i64 (decN s 4), .int .i64 (decN s 5)], .int .i64 (decErr s)]) (by simp [results, Try.results26, go_sem, c0, c1, c2, c3, c4, c5]) rfl ⟨rfl, ?_⟩
  exact below_six B2.out (Nat.le_refl _) _ _ _ _ _ _
end Go.Proofs.Ytbljokilfkodfaa
