/-
  The book: Cancel.
-/
import Derived.Test.YtbljokilfkodfaaG24
import Derived.Test.YtbljokilfkodfaaG10
namespace Go.Proofs.Ytbljokilfkodfaa
open Go.RowKit

/-- New events, in memory that is none of the book's. -/
def Told (w0 w : World) (g : Gh) (v : Value) (E : List Ev) : Prop := w.ownsRow w0.heap.size 48 6 v E.length (evRows E) ∧ ∀ k, v.ownBlock = some k → g.tag k = none

theorem told_one (w0 w : World) (e : Ev) (h : w0.heap.size ≤ w.heap.size) : (w.alloc (.cells #[.int .i64 e.k, .int .i64 e.cl, .int .i64 e.id, .int .i64 e.ot, .int .i64 e.pr, .int .i64 e.q] 48)).ownsRow w0.heap.size 48 6 (.slice (some ⟨w.heap.size, 0, none⟩) 1 1) 1 (evRows [e]) := by
  refine ⟨by simp [evRows, evCells], .inr ⟨w.heap.size, 1, _, rfl, h, heap_alloc_new w _, Nat.le_refl _, by unfold maxLen; omega, by simp, ?_⟩⟩
  simp [evRows, evCells]

set_option maxRecDepth 100000 in
set_option maxHeartbeats 1000000 in
theorem cancel_any {w : World} {pb : Nat} {g : Gh} {L : List Od} (h : BkAt w pb g L) (k : Nat) (hk : k < L.length) (hok : BkOk0 (L.eraseIdx k)) :
    Calls Try.prog 55 #[.pointer (some ⟨pb, 0, none⟩), .pointer (some ⟨g.A L[k].id, 0, none⟩)] w fun e w' => ∃ v g', e = .returned v ∧ Told w w' g' v [⟨5, L[k].cl, L[k].id, 0, 0, L[k].q⟩] ∧ BkAt w' pb g' (L.eraseIdx k) ∧ Only (fun k => g.tag k ≠ none) w w' ∧ (∀ k, g'.tag k ≠ none → g.tag k ≠ none ∨ w.heap.size ≤ k) := by
  have H : Hid (BkAt w pb g L) := h
  have hm : L[k] ∈ L := List.getElem_mem _
  have hla := h.tlt _ (by rw [h.odt _ hm]; simp : g.tag (g.A L[k].id) ≠ none)
  have hrem := brem_any h k hk hok
  obtain ⟨o, ho⟩ : ∃ o, o = L[k] := ⟨_, rfl⟩
  rw [← ho] at hla hrem ⊢
  clear h ho
  go_enter Try.func55, Try.ntmps55
  go_wp2_with fail
  refine hrem.mono ?_
  rintro e w1 ⟨rfl, ⟨g', b1, o1, t1, _, _⟩, oc⟩
  clear hrem
  have c0 := oc.c0
  have c1 := oc.c1
  have c4 := oc.c4
  have hl1 : g.A o.id < w1.heap.size := Nat.lt_of_lt_of_le hla o1.size
  have HB : Hid (BkAt w1 pb g' (L.eraseIdx k)) := b1
  have HO : Hid (Only (fun k => g.tag k ≠ none) w w1) := o1
  have HT : Hid (∀ k, g'.tag k ≠ none → g.tag k ≠ none ∨ w.heap.size ≤ k) := t1
  clear b1 o1 t1 oc
  go_wp2_with fail
  refine (canceled_any _ o.cl o.id o.q hl1 c0 c1 c4).mono ?_
  rintro e w2 ⟨rfl, b2⟩
  unfold evV
  go_wp2_with fail
  go_ret
  go_light
  have B3 : Below w1.heap.size w1 (w2.alloc (.cells #[.int .i64 5, .int .i64 o.cl, .int .i64 o.id, .int .i64 0, .int .i64 0, .int .i64 o.q] 48)) := b2.alloc b2.size _
  have s1 := HO.out.size
  have s2 := b2.size
  refine ⟨_, g', rfl, ⟨told_one w w2 ⟨5, o.cl, o.id, 0, 0, o.q⟩ (by omega), fun b hb => ?_⟩, HB.out.keep (Only.of_below (S := fun _ => False) B3) (fun _ _ => id), HO.out.trans (Only.of_below B3), HT.out⟩
  simp [Value.ownBlock] at hb
  subst hb
  exact Classical.byContradiction fun hne => by have := HB.out.tlt _ hne; omega
end Go.Proofs.Ytbljokilfkodfaa
