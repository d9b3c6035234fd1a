/-
  The table, new.
-/
import Derived.Test.YtbljokilfkodfaaCod1
import Derived.Laws.Tables
namespace Go.Proofs.Ytbljokilfkodfaa
open Go.RowKit

def tz : Array Value := #[.int .u32 0, .int .i32 0, .int .u32 0, .int .u32 0, .int .u32 0, .int .u32 0, .int .u32 0, .int .u32 0, .int .u32 0, .int .u32 0, .int .u32 0, .int .u32 0, .int .u32 0, .int .u32 0, .int .u32 0, .int .u32 0, .int .u32 0, .int .u32 0, .int .u32 0]
def tab0 (w : World) : World := w.alloc (.cells tz 123)
theorem tab_new (w : World) : Tab (tab0 w) w.heap.size := by
  refine .inl ⟨fun _ => 0, ?_⟩
  unfold tab0 tz
  refine ⟨by simp, by simp, by simp, fun i hi => ?_, fun j => by simp⟩
  obtain rfl | rfl | rfl | rfl | rfl | rfl | rfl | rfl | rfl | rfl | rfl | rfl | rfl | rfl | rfl | rfl : i = 0 ∨ i = 1 ∨ i = 2 ∨ i = 3 ∨ i = 4 ∨ i = 5 ∨ i = 6 ∨ i = 7 ∨ i = 8 ∨ i = 9 ∨ i = 10 ∨ i = 11 ∨ i = 12 ∨ i = 13 ∨ i = 14 ∨ i = 15 := by omega
  all_goals simp

theorem setRow_self (w : World) (z : Array Value) (t : TypeId) (g : Nat) (hg : g = w.heap.size) : (w.alloc (.cells z t)).setRow g z = w.alloc (.cells z t) := by
  subst hg
  unfold World.setRow World.alloc
  congr 1
  apply Array.ext
  · simp
  · intro k h1 h2
    simp only [Array.getElem_modify]
    split
    · rename_i hk; subst hk; simp
    · rfl
theorem tz_at (w0 : World) (g : Nat) (hg : g = w0.heap.size) : (w0.alloc (.cells tz 123)).heap[g]? = some (.cells tz 123 (0, 0)) := by
  subst hg; exact heap_alloc_new w0 _
theorem tz_size : (Try.prog.info? 123).map (·.size) = some tz.size := by kernel_rfl
theorem tz_one : tz.all (·.oneCell') = true := by kernel_rfl
end Go.Proofs.Ytbljokilfkodfaa
