/-
  sync.Once, one goroutine: its parts.
-/
import Derived.Test.YtbljokilfkodfaaRef
import Derived.Test.YtbljokilfkodfaaNib
import Derived.Test.YtbljokilfkodfaaOnly
import Derived.Defers
import Derived.Laws.Pointers
import Derived.Laws.LoneSync
import Derived.RegionTactic
import Derived.RegionCalls
import Derived.ChangeAlike
import Derived.Laws.NewBlocks
namespace Go.Proofs.Ytbljokilfkodfaa
open Go.RowKit

theorem disable (w : World) : (callFunc 134 #[]).run Try.prog w = .ok (.value (.tuple #[])) w := run_call_mark0 Try.func134 (by kernel_rfl) (by kernel_rfl) (by kernel_rfl) .disable (by kernel_rfl) w
theorem enable (w : World) : (callFunc 136 #[]).run Try.prog w = .ok (.value (.tuple #[])) w := run_call_mark0 Try.func136 (by kernel_rfl) (by kernel_rfl) (by kernel_rfl) .enable (by kernel_rfl) w
theorem acquire (a : Addr) (w : World) : (callFunc 137 #[.pointer (some a)]).run Try.prog w = .ok (.value (.tuple #[])) w := run_call_marked Try.func137 (by kernel_rfl) (by kernel_rfl) (by kernel_rfl) .acquire (by kernel_rfl) a w
theorem releaseMerge (a : Addr) (w : World) : (callFunc 139 #[.pointer (some a)]).run Try.prog w = .ok (.value (.tuple #[])) w := run_call_marked Try.func139 (by kernel_rfl) (by kernel_rfl) (by kernel_rfl) .releaseMerge (by kernel_rfl) a w

theorem store_deferred (a : Addr) (x : Value) (u : FrameMode) (w : World) (hc : w.cell? a = some x) (hz : w.frozen? a = false) :
    CallsD Try.prog 124 #[.pointer (some a), .bool true] u w fun e u' w' => u' = u ∧ (e = .returned (.tuple #[]) ∧ w' = w.drew.setCell a (.int .u32 1)) := by
  have hc' : w.drew.cell? a = some x := by go_simp
  have hz' : w.drew.frozen? a = false := by go_simp
  have hst := run_call_store (P := Try.prog) Try.func132 (by kernel_rfl) (by kernel_rfl) (by kernel_rfl) (by kernel_rfl) (k := .u32) (y := 1) hc' hz'
  go_enter_d Try.func124, Try.ntmps124
  go_wp2
  go_region_calls
  all_goals (go_end0; exact ⟨rfl, rfl⟩)

set_option maxRecDepth 100000 in
theorem unlock_deferred (a : Addr) (u : FrameMode) (w : World) (hc : w.cell? a = some (.int .i32 1)) (hz : w.frozen? a = false) :
    CallsD Try.prog 123 #[.pointer (some a)] u w fun e u' w' => u' = u ∧ (e = .returned (.tuple #[]) ∧ w' = w.setCell a (.int .i32 0)) := by
  have hd := disable
  have he := enable
  have hr := releaseMerge
  have hadd := run_call_add (P := Try.prog) Try.func140 (by kernel_rfl) (by kernel_rfl) (by kernel_rfl) .i32 (by kernel_rfl) (y := -1) (s := 0) hc hz (by simp [go_sem]; rfl)
  have hcv := run_convert_to_unsafe (P := Try.prog) (src := 196) (dst := 200) Try.underlying196 Try.underlying200 (by kernel_rfl) hc
  go_enter_d Try.func123, Try.ntmps123
  go_wp2
  go_end0
  go_wp2
  go_end0
  exact ⟨rfl, rfl⟩

set_option maxRecDepth 100000 in
theorem lock_free (a : Addr) (w : World) (hc : w.cell? a = some (.int .i32 0)) (hz : w.frozen? a = false) :
    Calls Try.prog 122 #[.pointer (some a)] w fun e w' => e = .returned (.tuple #[]) ∧ w' = w.setCell a (.int .i32 1) := by
  have hd := disable
  have he := enable
  have ha := acquire
  have hcas := run_call_cas_hit (P := Try.prog) Try.func135 (by kernel_rfl) (by kernel_rfl) (by kernel_rfl) .i32 (by kernel_rfl) (y := 1) hc hz
  have hc' : (w.setCell a (.int .i32 1)).cell? a = some (.int .i32 1) := World.cell?_setCell_same w a _ hc
  have hcv := run_convert_to_unsafe (P := Try.prog) (src := 196) (dst := 200) Try.underlying196 Try.underlying200 (by kernel_rfl) hc'
  go_enter Try.func122, Try.ntmps122
  go_wp2
  first | go_end0 | (simp only [Exit.inBlock, Exit.then]; refine bodyPost_ret (results_none rfl _ _ _) rfl ?_) | refine bodyPost_ret (results_none rfl _ _ _) rfl ?_
  go_wp2
  go_end0
  exact ⟨rfl, rfl⟩

/-- The table of sums with its Once, in block b: done, the lock's state, the words. -/
structure TabIs (w : World) (b : Nat) (d s : Int) (W : Nat → Nat) : Prop where
  lt : b < w.heap.size
  done : w.cell? ⟨b, 0, none⟩ = some (.int .u32 d)
  state : w.cell? ⟨b, 1, none⟩ = some (.int .i32 s)
  words : ∀ i, i < 16 → w.cell? ⟨b, 3 + i, none⟩ = some (.int .u32 (W i : Int))
  soft : ∀ j, w.frozen? ⟨b, j, none⟩ = false

theorem TabIs.keep {w w' : World} {b : Nat} {d s : Int} {W : Nat → Nat} {T : Nat → Prop} (h : TabIs w b d s W) (o : Only T w w') (hT : ¬ T b) : TabIs w' b d s W :=
  ⟨Nat.lt_of_lt_of_le h.lt o.size, (o.cell h.lt hT).trans h.done, (o.cell h.lt hT).trans h.state, fun i hi => (o.cell h.lt hT).trans (h.words i hi), fun j => (o.frozen h.lt hT).trans (h.soft j)⟩

theorem only_set (w : World) (b o : Nat) (v : Value) : Only (fun k => k = b) w (w.setCell ⟨b, o, none⟩ v) :=
  ⟨rfl, rfl, rfl, by simp [World.setCell], fun k _ hk => Below.heap_setCell _ _ _ _ hk⟩

theorem TabIs.setDone {w : World} {b : Nat} {d s : Int} {W : Nat → Nat} (h : TabIs w b d s W) (d' : Int) : TabIs (w.setCell ⟨b, 0, none⟩ (.int .u32 d')) b d' s W :=
  ⟨by simp [World.setCell]; exact h.lt, World.cell?_setCell_same _ _ _ h.done, (World.cell?_setCell_other _ ⟨b, 0, none⟩ ⟨b, 1, none⟩ _ (by simp)).trans h.state, fun i hi => (World.cell?_setCell_other _ ⟨b, 0, none⟩ ⟨b, 3 + i, none⟩ _ (by simp)).trans (h.words i hi), fun j => by simp [h.soft j]⟩
theorem TabIs.setState {w : World} {b : Nat} {d s : Int} {W : Nat → Nat} (h : TabIs w b d s W) (s' : Int) : TabIs (w.setCell ⟨b, 1, none⟩ (.int .i32 s')) b d s' W :=
  ⟨by simp [World.setCell]; exact h.lt, (World.cell?_setCell_other _ ⟨b, 1, none⟩ ⟨b, 0, none⟩ _ (by simp)).trans h.done, World.cell?_setCell_same _ _ _ h.state, fun i hi => (World.cell?_setCell_other _ ⟨b, 1, none⟩ ⟨b, 3 + i, none⟩ _ (by simp)).trans (h.words i hi), fun j => by simp [h.soft j]⟩
theorem TabIs.setWord {w : World} {b : Nat} {d s : Int} {W : Nat → Nat} (h : TabIs w b d s W) (i n : Nat) (hi : i < 16) : TabIs (w.setCell ⟨b, 3 + i, none⟩ (.int .u32 (n : Int))) b d s (fun j => if j = i then n else W j) := by
  refine ⟨by simp [World.setCell]; exact h.lt, (World.cell?_setCell_other _ ⟨b, 3 + i, none⟩ ⟨b, 0, none⟩ _ (by simp)).trans h.done, (World.cell?_setCell_other _ ⟨b, 3 + i, none⟩ ⟨b, 1, none⟩ _ (by simp)).trans h.state, fun j hj => ?_, fun j => by simp [h.soft j]⟩
  by_cases e : j = i
  · subst e; simp only [if_true]; exact World.cell?_setCell_same _ _ _ (h.words j hj)
  · simp only [if_neg e]; exact (World.cell?_setCell_other _ ⟨b, 3 + i, none⟩ ⟨b, 3 + j, none⟩ _ (by first | (simp; done) | (simp; omega))).trans (h.words j hj)
theorem TabIs.drew {w : World} {b : Nat} {d s : Int} {W : Nat → Nat} (h : TabIs w b d s W) : TabIs w.drew b d s W := ⟨h.lt, h.done, h.state, h.words, h.soft⟩
theorem TabIs.congr {w : World} {b : Nat} {d s : Int} {W V : Nat → Nat} (h : TabIs w b d s W) (e : ∀ i, i < 16 → W i = V i) : TabIs w b d s V :=
  ⟨h.lt, h.done, h.state, fun i hi => by rw [← e i hi]; exact h.words i hi, h.soft⟩
end Go.Proofs.Ytbljokilfkodfaa
