/-
  The list of a level: add, remove.
-/
import Derived.Test.YtbljokilfkodfaaG17
import Derived.Test.YtbljokilfkodfaaG18
import Derived.Deep.QuietTactic
import Derived.BigQuiet
import Derived.BigRegion
import Derived.Maps.OwnSet
import Derived.Maps.Views
import Derived.Deep.LoopGhost
namespace Go.Proofs.Ytbljokilfkodfaa
open Go.RowKit

/-- Of what was there only the cells of T may have turned. -/
structure Cells (T : Nat → Nat → Prop) (w w' : World) : Prop where
  os : w'.os = w.os
  tape : w'.tape = w.tape
  output : w'.output = w.output
  size : w.heap.size ≤ w'.heap.size
  block : ∀ k, k < w.heap.size → (∀ o, ¬ T k o) → w'.heap[k]? = w.heap[k]?
  cell : ∀ k o, k < w.heap.size → ¬ T k o → w'.cell? ⟨k, o, none⟩ = w.cell? ⟨k, o, none⟩
  froz : ∀ k o, k < w.heap.size → w'.frozen? ⟨k, o, none⟩ = w.frozen? ⟨k, o, none⟩
theorem Cells.refl (T : Nat → Nat → Prop) (w : World) : Cells T w w := ⟨rfl, rfl, rfl, Nat.le_refl _, fun _ _ _ => rfl, fun _ _ _ _ => rfl, fun _ _ _ => rfl⟩
theorem Cells.set (w : World) (b o : Nat) (v : Value) : Cells (fun k i => k = b ∧ i = o) w (w.setCell ⟨b, o, none⟩ v) :=
  ⟨rfl, rfl, rfl, by simp [World.setCell], fun k _ hk => Below.heap_setCell _ _ _ _ (fun e => hk o ⟨e, rfl⟩), fun k i _ hT => World.cell?_setCell_other _ ⟨b, o, none⟩ ⟨k, i, none⟩ _ (by simp; intro h1 h2; exact hT ⟨h1.symm, h2.symm⟩), fun k i _ => by simp⟩
theorem Cells.trans {T : Nat → Nat → Prop} {a b c : World} (h : Cells T a b) (k : Cells T b c) : Cells T a c :=
  ⟨k.os.trans h.os, k.tape.trans h.tape, k.output.trans h.output, Nat.le_trans h.size k.size, fun i hi hT => (k.block i (Nat.lt_of_lt_of_le hi h.size) hT).trans (h.block i hi hT), fun i o hi hT => (k.cell i o (Nat.lt_of_lt_of_le hi h.size) hT).trans (h.cell i o hi hT), fun i o hi => (k.froz i o (Nat.lt_of_lt_of_le hi h.size)).trans (h.froz i o hi)⟩
theorem Cells.mono {S T : Nat → Nat → Prop} {w w' : World} (h : Cells S w w') (hs : ∀ k o, S k o → T k o) : Cells T w w' :=
  ⟨h.os, h.tape, h.output, h.size, fun k hk hT => h.block k hk fun o ho => hT o (hs k o ho), fun k o hk hT => h.cell k o hk fun ho => hT (hs k o ho), h.froz⟩
theorem Cells.only {T : Nat → Nat → Prop} {w w' : World} (h : Cells T w w') : Only (fun k => ∃ o, T k o) w w' := ⟨h.os, h.tape, h.output, h.size, fun k hk hT => h.block k hk fun o ho => hT ⟨o, ho⟩⟩
theorem Cells.set' (T : Nat → Nat → Prop) (w : World) (b o : Nat) (v : Value) (h : T b o) : Cells T w (w.setCell ⟨b, o, none⟩ v) := (Cells.set w b o v).mono (fun k i hk => by obtain ⟨rfl, rfl⟩ := hk; exact h)
theorem Cells.drew {T : Nat → Nat → Prop} {w w' : World} (h : Cells T w w') : Cells T w w'.drew := ⟨h.os, h.tape, h.output, h.size, h.block, h.cell, h.froz⟩

theorem so {w : World} {b o k i : Nat} {v x : Value} (hx : w.cell? ⟨k, i, none⟩ = some x) (hne : k = b → i = o → False) : (w.setCell ⟨b, o, none⟩ v).cell? ⟨k, i, none⟩ = some x :=
  (World.cell?_setCell_other _ ⟨b, o, none⟩ ⟨k, i, none⟩ _ (by simp; intro h1 h2; exact hne h1.symm h2.symm)).trans hx
theorem ss {w : World} {b o : Nat} {v x : Value} (hx : w.cell? ⟨b, o, none⟩ = some x) : (w.setCell ⟨b, o, none⟩ v).cell? ⟨b, o, none⟩ = some v := World.cell?_setCell_same _ _ _ hx

def ptrO (A : Int → Nat) (o : Option Int) : Value := .pointer (o.map fun id => ⟨A id, 0, none⟩)

/-- The list of a level: its two ends, and who stands about whom. -/
structure Links (w : World) (lb : Nat) (A : Int → Nat) (ids : List Int) : Prop where
  first : w.cell? ⟨lb, 1, none⟩ = some (ptrO A ids.head?)
  last : w.cell? ⟨lb, 2, none⟩ = some (ptrO A ids.getLast?)
  prev : ∀ id ∈ ids, w.cell? ⟨A id, 5, none⟩ = some (ptrO A (prevOf ids id))
  next : ∀ id ∈ ids, w.cell? ⟨A id, 6, none⟩ = some (ptrO A (nextOf ids id))
  ltl : lb < w.heap.size
  lto : ∀ id ∈ ids, A id < w.heap.size
  softl : ∀ o, w.frozen? ⟨lb, o, none⟩ = false
  softo : ∀ id ∈ ids, ∀ o, w.frozen? ⟨A id, o, none⟩ = false
  inj : ∀ i ∈ ids, ∀ j ∈ ids, A i = A j → i = j
  ne : ∀ id ∈ ids, A id ≠ lb
  nodup : ids.Nodup

def addT (lb : Nat) (A : Int → Nat) (ids : List Int) (a : Int) (k i : Nat) : Prop := (k = lb ∧ (i = 1 ∨ i = 2)) ∨ (k = A a ∧ i = 5) ∨ ∃ id ∈ ids, k = A id ∧ i = 6

theorem mem_last {l : List Int} {x : Int} (h : l.getLast? = some x) : x ∈ l := List.mem_of_getLast? h

/-- The list behind one more. -/
theorem Links.snoc {w w' : World} {lb : Nat} {A : Int → Nat} {ids : List Int} {a : Int} (h : Links w lb A ids) (ha : a ∉ ids) (hlt : A a < w.heap.size) (hs : ∀ o, w.frozen? ⟨A a, o, none⟩ = false) (hnl : A a ≠ lb) (hni : ∀ id ∈ ids, A id ≠ A a) (h6 : w.cell? ⟨A a, 6, none⟩ = some (.pointer none))
    (c : Cells (addT lb A ids a) w w') (e5 : w'.cell? ⟨A a, 5, none⟩ = some (ptrO A ids.getLast?)) (e1 : w'.cell? ⟨lb, 1, none⟩ = some (ptrO A (ids ++ [a]).head?)) (e2 : w'.cell? ⟨lb, 2, none⟩ = some (ptrO A (some a)))
    (e6 : ∀ x, ids.getLast? = some x → w'.cell? ⟨A x, 6, none⟩ = some (ptrO A (some a))) (k6 : ∀ x ∈ ids, ids.getLast? ≠ some x → w'.cell? ⟨A x, 6, none⟩ = w.cell? ⟨A x, 6, none⟩) : Links w' lb A (ids ++ [a]) := by
  refine ⟨e1, by rw [List.getLast?_append]; simpa using e2, fun id hid => ?_, fun id hid => ?_, Nat.lt_of_lt_of_le h.ltl c.size, fun id hid => ?_, fun o => (c.froz _ _ h.ltl).trans (h.softl o), fun id hid o => ?_, fun i hi j hj => ?_, fun id hid => ?_, ?_⟩
  · rw [prevOf_snoc ids a id ha]
    by_cases e : id = a
    · subst e; rw [if_pos rfl]; exact e5
    · rw [if_neg e]
      have hm : id ∈ ids := by simpa [e] using hid
      refine (c.cell _ _ (h.lto id hm) ?_).trans (h.prev id hm)
      rintro (⟨h1, _⟩ | ⟨h1, _⟩ | ⟨x, _, _, h2⟩)
      · exact h.ne id hm h1
      · exact hni id hm h1
      · omega
  · rw [nextOf_snoc ids a id ha h.nodup]
    by_cases e : id = a
    · subst e
      rw [if_neg (fun hl => ha (mem_last hl)), nextOf_notin ha]
      refine (c.cell _ _ hlt ?_).trans h6
      rintro (⟨h1, _⟩ | ⟨_, h2⟩ | ⟨x, hx, h1, _⟩)
      · exact hnl h1
      · omega
      · exact hni x hx h1.symm
    · have hm : id ∈ ids := by simpa [e] using hid
      by_cases hl : ids.getLast? = some id
      · rw [if_pos hl]; exact e6 id hl
      · rw [if_neg hl]; exact (k6 id hm hl).trans (h.next id hm)
  · rcases List.mem_append.1 hid with hm | hm
    · exact Nat.lt_of_lt_of_le (h.lto id hm) c.size
    · simp at hm; subst hm; exact Nat.lt_of_lt_of_le hlt c.size
  · rcases List.mem_append.1 hid with hm | hm
    · exact (c.froz _ _ (h.lto id hm)).trans (h.softo id hm o)
    · simp at hm; subst hm; exact (c.froz _ _ hlt).trans (hs o)
  · intro e
    rcases List.mem_append.1 hi with hi | hi <;> rcases List.mem_append.1 hj with hj | hj
    · exact h.inj i hi j hj e
    · simp at hj; rw [hj] at e; exact absurd e (hni i hi)
    · simp at hi; rw [hi] at e; exact absurd e.symm (hni j hj)
    · simp at hi hj; rw [hi, hj]
  · rcases List.mem_append.1 hid with hm | hm
    · exact h.ne id hm
    · simp at hm; subst hm; exact hnl
  · rw [List.nodup_append]
    refine ⟨h.nodup, by simp, fun x hx y hy => ?_⟩
    simp at hy
    subst hy
    intro e
    subst e
    exact ha hx

set_option maxRecDepth 100000 in
set_option maxHeartbeats 1000000 in
theorem ladd_any {w : World} {lb : Nat} {A : Int → Nat} {ids : List Int} {a : Int} (h : Links w lb A ids) (ha : a ∉ ids) (hlt : A a < w.heap.size) (hs : ∀ o, w.frozen? ⟨A a, o, none⟩ = false) (hnl : A a ≠ lb) (hni : ∀ id ∈ ids, A id ≠ A a) (x5 : Value) (h5 : w.cell? ⟨A a, 5, none⟩ = some x5) (h6 : w.cell? ⟨A a, 6, none⟩ = some (.pointer none)) :
    Calls Try.prog 112 #[.pointer (some ⟨lb, 0, none⟩), .pointer (some ⟨A a, 0, none⟩)] w fun e w' => e = .returned (.tuple #[]) ∧ Links w' lb A (ids ++ [a]) ∧ Cells (addT lb A ids a) w w' := by
  have H : Hid (Links w lb A ids) := h
  have e1 := h.first
  have e2 := h.last
  have s1 := h.softl
  have hnl' : ¬ lb = A a := fun e => hnl e.symm
  cases hl : ids.getLast? with
  | none =>
    have hn : ids = [] := by simpa using hl
    subst hn
    rw [List.head?_nil] at e1
    rw [List.getLast?_nil] at e2
    simp only [ptrO, Option.map_none] at e1 e2
    clear h
    go_enter Try.func112, Try.ntmps112
    go_wp2_with fail
    go_end0
    have C : Cells (addT lb A [] a) w (((w.setCell ⟨A a, 5, none⟩ (.pointer none)).setCell ⟨lb, 1, none⟩ (.pointer (some ⟨A a, 0, none⟩))).setCell ⟨lb, 2, none⟩ (.pointer (some ⟨A a, 0, none⟩))) :=
      ((Cells.set' _ _ _ _ _ (.inr (.inl ⟨rfl, rfl⟩))).trans (Cells.set' _ _ _ _ _ (.inl ⟨rfl, .inl rfl⟩))).trans (Cells.set' _ _ _ _ _ (.inl ⟨rfl, .inr rfl⟩))
    refine ⟨rfl, H.out.snoc ha hlt hs hnl hni h6 C ?_ ?_ ?_ (fun x hx => by cases hx) (fun x hx => by cases hx), C⟩
    · exact so (so (ss h5) (fun e => absurd e hnl)) (fun e => absurd e hnl)
    · exact so (ss (so e1 (fun e => absurd e hnl'))) (by omega)
    · exact ss (so (so e2 (fun e => absurd e hnl')) (by omega))
  | some x =>
    have hx := mem_last hl
    have e6 := h.next x hx
    have s6 := h.softo x hx
    rw [hl] at e2
    simp only [ptrO, Option.map_some] at e2
    have hxa : ¬ A x = A a := hni x hx
    have hxl : ¬ A x = lb := h.ne x hx
    clear h
    go_enter Try.func112, Try.ntmps112
    go_wp2_with fail
    go_end0
    have C : Cells (addT lb A ids a) w (((w.setCell ⟨A a, 5, none⟩ (.pointer (some ⟨A x, 0, none⟩))).setCell ⟨A x, 6, none⟩ (.pointer (some ⟨A a, 0, none⟩))).setCell ⟨lb, 2, none⟩ (.pointer (some ⟨A a, 0, none⟩))) :=
      ((Cells.set' _ _ _ _ _ (.inr (.inl ⟨rfl, rfl⟩))).trans (Cells.set' _ _ _ _ _ (.inr (.inr ⟨x, hx, rfl, rfl⟩)))).trans (Cells.set' _ _ _ _ _ (.inl ⟨rfl, .inr rfl⟩))
    have hax : ¬ A a = A x := fun e => hxa e.symm
    refine ⟨rfl, H.out.snoc ha hlt hs hnl hni h6 C ?_ ?_ ?_ (fun y hy => ?_) (fun y hy hne => ?_), C⟩
    · rw [hl]
      exact so (so (ss h5) (fun e => absurd e hax)) (fun e => absurd e hnl)
    · have : (ids ++ [a]).head? = ids.head? := by
        cases ids with
        | nil => cases hx
        | cons y t => rfl
      rw [this]
      exact so (so (so e1 (fun e => absurd e hnl')) (fun e => absurd e.symm hxl)) (by omega)
    · exact ss (so (so e2 (fun e => absurd e hnl')) (fun e => absurd e.symm hxl))
    · rw [hl] at hy
      injection hy with hy
      rw [← hy]
      exact so (ss (so e6 (fun e => absurd e hxa))) (fun e => absurd e hxl)
    · have hyx : ¬ A y = A x := fun e => hne (by rw [H.out.inj y hy x hx e]; exact hl)
      rw [H.out.next y hy]
      exact so (so (so (H.out.next y hy) (fun e => absurd e (hni y hy))) (fun e => absurd e hyx)) (fun e => absurd e (H.out.ne y hy))

def remT (lb : Nat) (A : Int → Nat) (ids : List Int) (k i : Nat) : Prop := (k = lb ∧ (i = 1 ∨ i = 2)) ∨ ∃ id ∈ ids, k = A id ∧ (i = 5 ∨ i = 6)

/-- The list behind one's taking out. -/
theorem Links.erase {w w' : World} {lb : Nat} {A : Int → Nat} {ids : List Int} {a : Int} (h : Links w lb A ids) (ha : a ∈ ids) (c : Cells (remT lb A ids) w w')
    (e1 : w'.cell? ⟨lb, 1, none⟩ = some (ptrO A (if prevOf ids a = none then nextOf ids a else ids.head?))) (e2 : w'.cell? ⟨lb, 2, none⟩ = some (ptrO A (if nextOf ids a = none then prevOf ids a else ids.getLast?)))
    (e5 : ∀ x ∈ ids, x ≠ a → w'.cell? ⟨A x, 5, none⟩ = some (ptrO A (if prevOf ids x = some a then prevOf ids a else prevOf ids x)))
    (e6 : ∀ x ∈ ids, x ≠ a → w'.cell? ⟨A x, 6, none⟩ = some (ptrO A (if nextOf ids x = some a then nextOf ids a else nextOf ids x))) : Links w' lb A (ids.erase a) := by
  have sub : ∀ x ∈ ids.erase a, x ∈ ids ∧ x ≠ a := fun x hx => ((h.nodup.mem_erase_iff).1 hx).symm
  refine ⟨by rw [head_erase ids a h.nodup ha]; exact e1, by rw [lastOf_erase ids a h.nodup ha]; exact e2, fun x hx => ?_, fun x hx => ?_, Nat.lt_of_lt_of_le h.ltl c.size, fun x hx => Nat.lt_of_lt_of_le (h.lto x (sub x hx).1) c.size, fun o => (c.froz _ _ h.ltl).trans (h.softl o), fun x hx o => (c.froz _ _ (h.lto x (sub x hx).1)).trans (h.softo x (sub x hx).1 o), fun i hi j hj e => h.inj i (sub i hi).1 j (sub j hj).1 e, fun x hx => h.ne x (sub x hx).1, h.nodup.erase a⟩
  · rw [prevOf_erase ids a x h.nodup (sub x hx).2]; exact e5 x (sub x hx).1 (sub x hx).2
  · rw [nextOf_erase ids a x h.nodup (sub x hx).2]; exact e6 x (sub x hx).1 (sub x hx).2
end Go.Proofs.Ytbljokilfkodfaa
/-
  The orders by their numbers: the book's map.
-/
namespace Go.Proofs.Ytbljokilfkodfaa
open Go.RowKit
open Go.Maps (Keyed)

def ptrElem (v : Value) : Option (DataW Nat × List MemPlace) := match v with
  | .pointer (some ⟨b, 0, none⟩) => some (.lit (.int .i64 (b : Int)), [])
  | .pointer none => some (.lit (.bool false), [])
  | _ => none
theorem ptrElem_some (b : Nat) : ptrElem (.pointer (some ⟨b, 0, none⟩)) = some (.lit (.int .i64 (b : Int)), []) := rfl
theorem ptrElem_inv {v : Value} {b : Nat} {ps : List MemPlace} (h : ptrElem v = some (.lit (.int .i64 (b : Int)), ps)) : v = .pointer (some ⟨b, 0, none⟩) := by
  unfold ptrElem at h
  split at h
  · rename_i b'
    simp at h
    obtain ⟨h, _⟩ := h
    have e : b' = b := by omega
    rw [e]
  · simp at h
  · cases h
theorem ptrElem_inv0 {v : Value} {ps : List MemPlace} (h : ptrElem v = some (.lit (.bool false), ps)) : v = .pointer none := by
  unfold ptrElem at h
  split at h
  · simp at h
  · rfl
  · cases h

theorem intKeyed : Keyed Try.prog 3 := Maps.int_keyed Try.underlying3
theorem key_wf {id : Int} (h1 : -9223372036854775808 ≤ id) (h2 : id ≤ 9223372036854775807) : keyOf Try.prog 3 (.int .i64 id) = some (.int .i64 id) := by
  refine Maps.keyOf_int_mk Try.underlying3 ?_
  unfold Lit.wf
  rw [Bool.and_eq_true, decide_eq_true_eq, decide_eq_true_eq]
  have e1 : IntKind.i64.min = -9223372036854775808 := by decide
  have e2 : IntKind.i64.max = 9223372036854775807 := by decide
  rw [e1, e2]
  exact ⟨h1, h2⟩

def MapIs (w : World) (mb : Nat) (A : Int → Nat) (ids : List Int) : Prop :=
  ∃ D : DataW Nat, w.ownsMap Try.prog 3 ptrElem mb ids.length D ∧ Maps.size D = ids.length ∧ (∀ id, Maps.has D (.int .i64 id) = decide (id ∈ ids)) ∧ (∀ id ∈ ids, D.atKey (.int .i64 id) (.lit (.bool false)) = .lit (.int .i64 (A id : Int)))

theorem MapIs.lt {w : World} {mb : Nat} {A : Int → Nat} {ids : List Int} (h : MapIs w mb A ids) : mb < w.heap.size := by
  obtain ⟨D, h, _⟩ := h; exact h.lt
theorem MapIs.keep {w w' : World} {mb : Nat} {A : Int → Nat} {ids : List Int} {T : Nat → Prop} (h : MapIs w mb A ids) (o : Only T w w') (hT : ¬ T mb) : MapIs w' mb A ids := by
  have hlt := h.lt
  obtain ⟨D, ⟨es, clock, hb, F, hs, hD⟩, r⟩ := h
  exact ⟨D, ⟨es, clock, (o.block mb hlt hT).trans hb, F, hs, hD⟩, r⟩
theorem MapIs.congr {w : World} {mb : Nat} {A A' : Int → Nat} {ids : List Int} (h : MapIs w mb A ids) (e : ∀ id ∈ ids, A' id = A id) : MapIs w mb A' ids := by
  obtain ⟨D, h1, h2, h3, h4⟩ := h
  exact ⟨D, h1, h2, h3, fun id hid => by rw [e id hid]; exact h4 id hid⟩
theorem MapIs.perm {w : World} {mb : Nat} {A : Int → Nat} {ids ids' : List Int} (h : MapIs w mb A ids) (e : ids'.Perm ids) : MapIs w mb A ids' := by
  obtain ⟨D, h1, h2, h3, h4⟩ := h
  exact ⟨D, by rw [e.length_eq]; exact h1, by rw [e.length_eq]; exact h2, fun id => by rw [h3 id, decide_eq_decide]; exact e.mem_iff.symm, fun id hid => h4 id (e.mem_iff.1 hid)⟩
theorem MapIs.made (w : World) (A : Int → Nat) : MapIs (w.alloc (.map #[] 0)) w.heap.size A [] :=
  ⟨.map [], World.ownsMap_made w _ _ _, rfl, fun id => by simp [Maps.has], fun id hid => by cases hid⟩

theorem not_has_at {D : DataW Nat} {k : Lit} {z : DataW Nat} (h : Maps.has D k = false) : D.atKey k z = z := Maps.atKey_of_not_has h z

theorem MapIs.look {w : World} {mb : Nat} {A : Int → Nat} {ids : List Int} (h : MapIs w mb A ids) {id : Int} (h1 : -9223372036854775808 ≤ id) (h2 : id ≤ 9223372036854775807) :
    (Instr.lookup 77 (.map (some mb)) (.int .i64 id) true).run Try.prog w = .ok (.tuple #[ptrO A (if id ∈ ids then some id else none), .bool (decide (id ∈ ids))]) w := by
  obtain ⟨D, h3, h4, h5, h6⟩ := h
  obtain ⟨v, ps, hrun, hv⟩ := h3.look_ok intKeyed Try.underlying77 (Try.zeroValue104 w) (zd := .lit (.bool false)) (zp := []) rfl (key_wf h1 h2)
  rw [hrun, h5 id]
  by_cases hm : id ∈ ids
  · rw [h6 id hm] at hv
    rw [ptrElem_inv hv, if_pos hm]
    rfl
  · rw [not_has_at (by rw [h5 id]; simp [hm])] at hv
    rw [ptrElem_inv0 hv, if_neg hm]
    rfl
theorem MapIs.look1 {w : World} {mb : Nat} {A : Int → Nat} {ids : List Int} (h : MapIs w mb A ids) {id : Int} (h1 : -9223372036854775808 ≤ id) (h2 : id ≤ 9223372036854775807) (hm : id ∈ ids) :
    (Instr.lookup 77 (.map (some mb)) (.int .i64 id) false).run Try.prog w = .ok (.pointer (some ⟨A id, 0, none⟩)) w := by
  obtain ⟨D, h3, h4, h5, h6⟩ := h
  obtain ⟨v, ps, hrun, hv⟩ := h3.lookup intKeyed Try.underlying77 (Try.zeroValue104 w) (zd := .lit (.bool false)) (zp := []) rfl (key_wf h1 h2)
  rw [h6 id hm] at hv
  rw [hrun, ptrElem_inv hv]
theorem MapIs.len {w : World} {mb : Nat} {A : Int → Nat} {ids : List Int} (h : MapIs w mb A ids) (ty : TypeId) : (Builtin.len_ #[77] ty #[.map (some mb)]).run Try.prog w = .ok (.int .i64 (ids.length : Int)) w := by
  obtain ⟨D, h3, h4, _⟩ := h
  rw [h3.len Try.underlying77 ty, h4]
theorem turned_only {w w' : World} {b : Nat} (h : w.mapTurned w' b) : Only (fun k => k = b) w w' := by
  have g := h.grown
  exact ⟨g.os, g.tape, g.output, g.size, fun k hk hne => g.block k hk (fun e => hne (by injection e))⟩
theorem MapIs.put {w : World} {mb : Nat} {A : Int → Nat} {ids : List Int} (h : MapIs w mb A ids) {id : Int} (h1 : -9223372036854775808 ≤ id) (h2 : id ≤ 9223372036854775807) (hm : id ∉ ids) (hl : ids.length ≤ 100) :
    ∃ w', (Instr.mapUpdate 77 (.map (some mb)) (.int .i64 id) (.pointer (some ⟨A id, 0, none⟩))).run Try.prog w = .ok () w' ∧ MapIs w' mb A (ids ++ [id]) ∧ Only (fun k => k = mb) w w' := by
  obtain ⟨D, h3, h4, h5, h6⟩ := h
  obtain ⟨w', hrun, own', ht⟩ := h3.store intKeyed Try.underlying77 (by unfold maxLen; omega) (key_wf h1 h2) (ptrElem_some (A id))
  refine ⟨w', hrun, ⟨_, by rw [List.length_append]; exact own', ?_, fun k => ?_, fun k hk => ?_⟩, turned_only ht⟩
  · rw [Maps.size_put (h3.tidy intKeyed), h5 id]; simp [hm, h4]
  · by_cases e : k = id
    · subst e; rw [Maps.has_put_same h3.isMap (by trivial)]; simp
    · rw [Maps.has_put_other (by simpa using e), h5 k]; simp [e]
  · by_cases e : k = id
    · subst e; rw [Maps.atKey_put_same h3.isMap (by trivial)]
    · rw [Maps.atKey_put_other (by simpa using e)]; exact h6 k (by simpa [e] using hk)
theorem MapIs.del {w : World} {mb : Nat} {A : Int → Nat} {ids : List Int} (h : MapIs w mb A ids) (hn : ids.Nodup) {id : Int} (h1 : -9223372036854775808 ≤ id) (h2 : id ≤ 9223372036854775807) (hm : id ∈ ids) (ty : TypeId) :
    ∃ w', (Builtin.delete_ #[77, 3] ty #[.map (some mb), .int .i64 id]).run Try.prog w = .ok (.tuple #[]) w' ∧ MapIs w' mb A (ids.erase id) ∧ Only (fun k => k = mb) w w' := by
  obtain ⟨D, h3, h4, h5, h6⟩ := h
  obtain ⟨w', hrun, own', ht⟩ := h3.drop intKeyed Try.underlying77 (key_wf h1 h2) ty
  have hsz : Maps.size (D.del (.int .i64 id)) = (ids.erase id).length := by
    have := Maps.size_del (k := .int .i64 id) (h3.tidy intKeyed)
    rw [h5 id, h4] at this
    simp [hm] at this
    rw [List.length_erase_of_mem hm]
    omega
  refine ⟨w', hrun, ⟨_, ?_, hsz, fun k => ?_, fun k hk => ?_⟩, turned_only ht⟩
  · obtain ⟨es, clock, hb, F, hs, hD⟩ := own'
    refine ⟨es, clock, hb, F, ?_, hD⟩
    rw [← hsz, hD]
    simp [Maps.size, length_sorted]
  · by_cases e : k = id
    · subst e; rw [Maps.has_del_same]; symm; rw [decide_eq_false_iff_not]; exact fun hk => ((hn.mem_erase_iff).1 hk).1 rfl
    · rw [Maps.has_del_other (by simpa using e), h5 k, decide_eq_decide, hn.mem_erase_iff]; simp [e]
  · have := (hn.mem_erase_iff).1 hk
    rw [Maps.atKey_del_other (by simpa using this.1)]; exact h6 k this.2
end Go.Proofs.Ytbljokilfkodfaa
/-
  The list of a level: remove; how much, how many.
-/
namespace Go.Proofs.Ytbljokilfkodfaa
open Go.RowKit

theorem nextOf_mem {l : List Int} {a x : Int} (h : nextOf l a = some x) : x ∈ l := by
  induction l with
  | nil => simp [nextOf] at h
  | cons y r ih =>
    simp only [nextOf] at h
    split at h
    · exact List.mem_cons_of_mem _ (List.mem_of_head? h)
    · exact List.mem_cons_of_mem _ (ih h)
theorem prev_next (x a : Int) : ∀ (l : List Int) (p : Option Int), l.Nodup → (prevFrom p l x = some a ↔ (p = some a ∧ l.head? = some x) ∨ nextOf l a = some x)
  | [], p, _ => by simp [prevFrom, nextOf]
  | y :: r, p, hn => by
    simp only [List.nodup_cons] at hn
    by_cases hy : y = x
    · subst hy
      have h2 : ¬ nextOf (y :: r) a = some y := by
        simp only [nextOf]
        split
        · exact fun h => hn.1 (List.mem_of_head? h)
        · exact fun h => hn.1 (nextOf_mem h)
      simp [prevFrom, h2]
    · simp only [prevFrom, if_neg hy]
      rw [prev_next x a r (some y) hn.2]
      have h1 : ¬ (p = some a ∧ (y :: r).head? = some x) := by
        rintro ⟨_, h⟩
        simp at h
        exact hy h
      simp only [nextOf]
      by_cases ha : y = a
      · subst ha
        rw [nextOf_notin hn.1]
        simp [hy]
      · simp [ha, hy]
theorem prevOf_iff {l : List Int} (hn : l.Nodup) (x a : Int) : prevOf l x = some a ↔ nextOf l a = some x := by
  unfold prevOf
  rw [prev_next x a l none hn]
  simp
theorem nextOf_ne {l : List Int} {a x : Int} (hn : l.Nodup) (h : nextOf l a = some x) : x ≠ a := by
  induction l with
  | nil => simp [nextOf] at h
  | cons y r ih =>
    simp only [List.nodup_cons] at hn
    simp only [nextOf] at h
    split at h
    · rename_i e
      subst e
      intro e
      subst e
      exact hn.1 (List.mem_of_head? h)
    · exact ih hn.2 h
theorem prevOf_mem {l : List Int} (hn : l.Nodup) {a x : Int} (h : prevOf l x = some a) : a ∈ l := by
  have h2 := (prevOf_iff hn x a).1 h
  by_cases hm : a ∈ l
  · exact hm
  · rw [nextOf_notin hm] at h2; cases h2

theorem Links.drew {w : World} {lb : Nat} {A : Int → Nat} {ids : List Int} (h : Links w lb A ids) : Links w.drew lb A ids := ⟨h.first, h.last, h.prev, h.next, h.ltl, h.lto, h.softl, h.softo, h.inj, h.ne, h.nodup⟩

theorem rem_end {w : World} {lb : Nat} {A : Int → Nat} {ids : List Int} {a : Int} (h : Links w lb A ids) (ha : a ∈ ids) (b1 o1 b2 o2 : Nat) (v1 v2 : Value)
    (h1 : (prevOf ids a = none ∧ b1 = lb ∧ o1 = 1) ∨ ∃ p, prevOf ids a = some p ∧ b1 = A p ∧ o1 = 6) (hv1 : v1 = ptrO A (nextOf ids a))
    (h2 : (nextOf ids a = none ∧ b2 = lb ∧ o2 = 2) ∨ ∃ n, nextOf ids a = some n ∧ b2 = A n ∧ o2 = 5) (hv2 : v2 = ptrO A (prevOf ids a)) :
    Links ((((w.setCell ⟨b1, o1, none⟩ v1).setCell ⟨b2, o2, none⟩ v2).setCell ⟨A a, 5, none⟩ (.pointer none)).setCell ⟨A a, 6, none⟩ (.pointer none)) lb A (ids.erase a) ∧
    Cells (remT lb A ids) w ((((w.setCell ⟨b1, o1, none⟩ v1).setCell ⟨b2, o2, none⟩ v2).setCell ⟨A a, 5, none⟩ (.pointer none)).setCell ⟨A a, 6, none⟩ (.pointer none)) := by
  have hnd := h.nodup
  have t1 : remT lb A ids b1 o1 := by
    rcases h1 with ⟨_, rfl, rfl⟩ | ⟨p, hp, rfl, rfl⟩
    · exact .inl ⟨rfl, .inl rfl⟩
    · exact .inr ⟨p, prevOf_mem hnd hp, rfl, .inr rfl⟩
  have t2 : remT lb A ids b2 o2 := by
    rcases h2 with ⟨_, rfl, rfl⟩ | ⟨n, hx, rfl, rfl⟩
    · exact .inl ⟨rfl, .inr rfl⟩
    · exact .inr ⟨n, nextOf_mem hx, rfl, .inl rfl⟩
  have x1 : ∃ y, w.cell? ⟨b1, o1, none⟩ = some y := by
    rcases h1 with ⟨_, rfl, rfl⟩ | ⟨p, hp, rfl, rfl⟩
    · exact ⟨_, h.first⟩
    · exact ⟨_, h.next p (prevOf_mem hnd hp)⟩
  have x2 : ∃ y, w.cell? ⟨b2, o2, none⟩ = some y := by
    rcases h2 with ⟨_, rfl, rfl⟩ | ⟨n, hx, rfl, rfl⟩
    · exact ⟨_, h.last⟩
    · exact ⟨_, h.prev n (nextOf_mem hx)⟩
  obtain ⟨y1, x1⟩ := x1
  obtain ⟨y2, x2⟩ := x2
  have hd : ¬ (b1 = b2 ∧ o1 = o2) := by
    rintro ⟨_, e2⟩
    rcases h1 with ⟨_, _, e⟩ | ⟨p, _, _, e⟩ <;> rcases h2 with ⟨_, _, f⟩ | ⟨n, _, _, f⟩ <;> omega
  have C : Cells (remT lb A ids) w ((((w.setCell ⟨b1, o1, none⟩ v1).setCell ⟨b2, o2, none⟩ v2).setCell ⟨A a, 5, none⟩ (.pointer none)).setCell ⟨A a, 6, none⟩ (.pointer none)) :=
    (((Cells.set' _ _ _ _ _ t1).trans (Cells.set' _ _ _ _ _ t2)).trans (Cells.set' _ _ _ _ _ (.inr ⟨a, ha, rfl, .inl rfl⟩))).trans (Cells.set' _ _ _ _ _ (.inr ⟨a, ha, rfl, .inr rfl⟩))
  -- a cell that is none of the four
  have keep : ∀ k i y, w.cell? ⟨k, i, none⟩ = some y → ¬ (k = b1 ∧ i = o1) → ¬ (k = b2 ∧ i = o2) → k ≠ A a → ((((w.setCell ⟨b1, o1, none⟩ v1).setCell ⟨b2, o2, none⟩ v2).setCell ⟨A a, 5, none⟩ (.pointer none)).setCell ⟨A a, 6, none⟩ (.pointer none)).cell? ⟨k, i, none⟩ = some y := fun k i y hy n1 n2 na =>
    so (so (so (so hy (fun e f => n1 ⟨e, f⟩)) (fun e f => n2 ⟨e, f⟩)) (fun e => absurd e na)) (fun e => absurd e na)
  have is1 : b1 ≠ A a → ((((w.setCell ⟨b1, o1, none⟩ v1).setCell ⟨b2, o2, none⟩ v2).setCell ⟨A a, 5, none⟩ (.pointer none)).setCell ⟨A a, 6, none⟩ (.pointer none)).cell? ⟨b1, o1, none⟩ = some v1 := fun na =>
    so (so (so (ss x1) (fun e f => hd ⟨e, f⟩)) (fun e => absurd e na)) (fun e => absurd e na)
  have is2 : b2 ≠ A a → ((((w.setCell ⟨b1, o1, none⟩ v1).setCell ⟨b2, o2, none⟩ v2).setCell ⟨A a, 5, none⟩ (.pointer none)).setCell ⟨A a, 6, none⟩ (.pointer none)).cell? ⟨b2, o2, none⟩ = some v2 := fun na =>
    so (so (ss (so x2 (fun e f => hd ⟨e.symm, f.symm⟩))) (fun e => absurd e na)) (fun e => absurd e na)
  have hla : lb ≠ A a := fun e => h.ne a ha e.symm
  generalize ((((w.setCell ⟨b1, o1, none⟩ v1).setCell ⟨b2, o2, none⟩ v2).setCell ⟨A a, 5, none⟩ (.pointer none)).setCell ⟨A a, 6, none⟩ (.pointer none)) = W at C keep is1 is2 ⊢
  subst hv1
  subst hv2
  clear x1 x2 t1 t2 hd
  refine ⟨h.erase ha C ?_ ?_ (fun x hx hxa => ?_) (fun x hx hxa => ?_), C⟩
  · rcases h1 with ⟨hp, rfl, rfl⟩ | ⟨p, hp, rfl, rfl⟩
    · rw [if_pos hp]; exact is1 hla
    · rw [if_neg (by rw [hp]; simp)]
      refine keep _ _ _ h.first (fun e => h.ne p (prevOf_mem hnd hp) e.1.symm) (fun e => ?_) hla
      rcases h2 with ⟨_, _, f⟩ | ⟨n, _, _, f⟩ <;> omega
  · rcases h2 with ⟨hx, rfl, rfl⟩ | ⟨n, hx, rfl, rfl⟩
    · rw [if_pos hx]; exact is2 hla
    · rw [if_neg (by rw [hx]; simp)]
      refine keep _ _ _ h.last (fun e => ?_) (fun e => h.ne n (nextOf_mem hx) e.1.symm) hla
      rcases h1 with ⟨_, _, f⟩ | ⟨p, _, _, f⟩ <;> omega
  · have hax : A x ≠ A a := fun e => hxa (h.inj x hx a ha e)
    have hn1 : ¬ (A x = b1 ∧ 5 = o1) := by
      rcases h1 with ⟨_, _, f⟩ | ⟨p, _, _, f⟩ <;> omega
    by_cases hpx : prevOf ids x = some a
    · have hnx := (prevOf_iff hnd x a).1 hpx
      rw [if_pos hpx]
      rcases h2 with ⟨hx', _, _⟩ | ⟨n, hx', rfl, rfl⟩
      · rw [hnx] at hx'; cases hx'
      · rw [hnx] at hx'; injection hx' with e; subst e
        exact is2 hax
    · rw [if_neg hpx]
      refine keep _ _ _ (h.prev x hx) hn1 (fun e => ?_) hax
      rcases h2 with ⟨_, _, f⟩ | ⟨n, hx', rfl, rfl⟩
      · omega
      · have := h.inj x hx n (nextOf_mem hx') e.1
        subst this
        exact hpx ((prevOf_iff hnd x a).2 hx')
  · have hax : A x ≠ A a := fun e => hxa (h.inj x hx a ha e)
    have hn2 : ¬ (A x = b2 ∧ 6 = o2) := by
      rcases h2 with ⟨_, _, f⟩ | ⟨n, _, _, f⟩ <;> omega
    by_cases hnx : nextOf ids x = some a
    · have hpx := (prevOf_iff hnd a x).2 hnx
      rw [if_pos hnx]
      rcases h1 with ⟨hp', _, _⟩ | ⟨p, hp', rfl, rfl⟩
      · rw [hpx] at hp'; cases hp'
      · rw [hpx] at hp'; injection hp' with e; subst e
        exact is1 hax
    · rw [if_neg hnx]
      refine keep _ _ _ (h.next x hx) (fun e => ?_) hn2 hax
      rcases h1 with ⟨_, _, f⟩ | ⟨p, hp', rfl, rfl⟩
      · omega
      · have := h.inj x hx p (prevOf_mem hnd hp') e.1
        subst this
        exact hnx ((prevOf_iff hnd a x).1 hp')

set_option maxRecDepth 100000 in
set_option maxHeartbeats 1000000 in
theorem lrem_any {w : World} {lb : Nat} {A : Int → Nat} {ids : List Int} {a : Int} (h : Links w lb A ids) (ha : a ∈ ids) :
    Calls Try.prog 114 #[.pointer (some ⟨lb, 0, none⟩), .pointer (some ⟨A a, 0, none⟩)] w fun e w' => e = .returned (.tuple #[]) ∧ Links w' lb A (ids.erase a) ∧ Cells (remT lb A ids) w w' := by
  have H : Hid (Links w lb A ids) := h
  have e1 := h.first
  have e2 := h.last
  have s1 := h.softl
  have sa := h.softo a ha
  have e5 := h.prev a ha
  have e6 := h.next a ha
  have hal : ¬ A a = lb := h.ne a ha
  have hla : ¬ lb = A a := fun e => hal e.symm
  cases hp : prevOf ids a with
  | none =>
    rw [hp] at e5
    cases hx : nextOf ids a with
    | none =>
      rw [hx] at e6
      simp only [ptrO, Option.map_none] at e5 e6
      clear h
      go_enter Try.func114, Try.ntmps114
      go_wp2_with fail
      go_end0
      go_light
      exact ⟨rfl, rem_end H.out ha lb 1 lb 2 _ _ (.inl ⟨hp, rfl, rfl⟩) (by rw [hx]; rfl) (.inl ⟨hx, rfl, rfl⟩) (by rw [hp]; rfl)⟩
    | some n =>
      rw [hx] at e6
      have hnm := nextOf_mem hx
      have n5 := h.prev n hnm
      have sn := h.softo n hnm
      have hna : ¬ A n = A a := fun e => nextOf_ne h.nodup hx (h.inj n hnm a ha e)
      have han : ¬ A a = A n := fun e => hna e.symm
      have hnl : ¬ A n = lb := h.ne n hnm
      simp only [ptrO, Option.map_none, Option.map_some] at e5 e6
      clear h
      go_enter Try.func114, Try.ntmps114
      go_wp2_with fail
      go_region
      go_wp2_with fail
      go_end0
      go_light
      obtain ⟨r1, r2⟩ := rem_end H.out ha lb 1 (A n) 5 (ptrO A (nextOf ids a)) (ptrO A (prevOf ids a)) (.inl ⟨hp, rfl, rfl⟩) rfl (.inr ⟨n, hx, rfl, rfl⟩) rfl
      rw [hx, hp] at r1 r2
      exact ⟨rfl, r1.drew, r2.drew⟩
  | some p =>
    rw [hp] at e5
    have hpm := prevOf_mem H.out.nodup hp
    have p6 := h.next p hpm
    have sp := h.softo p hpm
    have hpa : ¬ A p = A a := fun e => nextOf_ne h.nodup ((prevOf_iff h.nodup a p).1 hp) (h.inj a ha p hpm e.symm)
    have hap : ¬ A a = A p := fun e => hpa e.symm
    have hpl : ¬ A p = lb := h.ne p hpm
    cases hx : nextOf ids a with
    | none =>
      rw [hx] at e6
      simp only [ptrO, Option.map_none, Option.map_some] at e5 e6
      clear h
      go_enter Try.func114, Try.ntmps114
      go_wp2_with fail
      go_region
      go_wp2_with fail
      go_end0
      go_light
      obtain ⟨r1, r2⟩ := rem_end H.out ha (A p) 6 lb 2 (ptrO A (nextOf ids a)) (ptrO A (prevOf ids a)) (.inr ⟨p, hp, rfl, rfl⟩) rfl (.inl ⟨hx, rfl, rfl⟩) rfl
      rw [hx, hp] at r1 r2
      exact ⟨rfl, r1.drew, r2.drew⟩
    | some n =>
      rw [hx] at e6
      have hnm := nextOf_mem hx
      have n5 := h.prev n hnm
      have sn := h.softo n hnm
      have hna : ¬ A n = A a := fun e => nextOf_ne h.nodup hx (h.inj n hnm a ha e)
      have han : ¬ A a = A n := fun e => hna e.symm
      have hnl : ¬ A n = lb := h.ne n hnm
      simp only [ptrO, Option.map_some] at e5 e6
      clear h
      go_enter Try.func114, Try.ntmps114
      go_wp2_with fail
      go_region
      go_wp2_with fail
      go_region
      go_wp2_with fail
      go_end0
      go_light
      obtain ⟨r1, r2⟩ := rem_end H.out ha (A p) 6 (A n) 5 (ptrO A (nextOf ids a)) (ptrO A (prevOf ids a)) (.inr ⟨p, hp, rfl, rfl⟩) rfl (.inr ⟨n, hx, rfl, rfl⟩) rfl
      rw [hx, hp] at r1 r2
      exact ⟨rfl, r1.drew.drew, r2.drew.drew⟩
end Go.Proofs.Ytbljokilfkodfaa
/-
  The list of a level: how much, how many.
-/
namespace Go.Proofs.Ytbljokilfkodfaa
open Go.RowKit

theorem nextOf_at {l : List Int} (hn : l.Nodup) (k : Nat) (hk : k < l.length) : nextOf l l[k] = l[k + 1]? := by
  induction l generalizing k with
  | nil => simp at hk
  | cons y r ih =>
    simp only [List.nodup_cons] at hn
    cases k with
    | zero =>
      simp only [List.getElem_cons_zero, nextOf, if_pos, Nat.zero_add, List.getElem?_cons_succ]
      cases r <;> rfl
    | succ k =>
      have hk' : k < r.length := by simpa using hk
      have hne : ¬ y = r[k] := fun e => hn.1 (by rw [e]; exact List.getElem_mem _)
      simp only [List.getElem_cons_succ, nextOf, if_neg hne]
      rw [ih hn.2 k hk']
      simp
def sumTo (f : Int → Int) (l : List Int) : Nat → Int
  | 0 => 0
  | k + 1 => sumTo f l k + f (l.getD k 0)
theorem sumTo_bound {f : Int → Int} {l : List Int} (h : ∀ x ∈ l, 0 ≤ f x ∧ f x ≤ 99) : ∀ k, k ≤ l.length → 0 ≤ sumTo f l k ∧ sumTo f l k ≤ 99 * k
  | 0, _ => by simp [sumTo]
  | k + 1, hk => by
    have ih := sumTo_bound h k (by omega)
    have hm : l.getD k 0 ∈ l := by rw [List.getD_eq_getElem?_getD, List.getElem?_eq_getElem (by omega)]; exact List.getElem_mem _
    have := h _ hm
    simp only [sumTo]
    omega

set_option maxRecDepth 100000 in
set_option maxHeartbeats 1000000 in
theorem lqty_any {w : World} {lb : Nat} {A : Int → Nat} {ids : List Int} {f : Int → Int} (h : Links w lb A ids) (hf : ∀ id ∈ ids, w.cell? ⟨A id, 4, none⟩ = some (.int .i64 (f id))) (hb : ∀ x ∈ ids, 0 ≤ f x ∧ f x ≤ 99) (hl : ids.length ≤ 13) :
    Calls Try.prog 62 #[.pointer (some ⟨lb, 0, none⟩)] w fun e w' => e = .returned (.int .i64 (sumTo f ids ids.length)) ∧ w' = w := by
  have H : Hid (Links w lb A ids) := h
  have HF : Hid (∀ id ∈ ids, w.cell? ⟨A id, 4, none⟩ = some (.int .i64 (f id))) := hf
  have HB : Hid (∀ x ∈ ids, 0 ≤ f x ∧ f x ≤ 99) := hb
  have e1 := h.first
  have e0 : ids.head? = ids[0]? := by cases ids <;> rfl
  rw [e0] at e1
  clear h hf hb e0
  go_enter Try.func62, Try.ntmps62
  go_wp2_with fail
  go_loopg [3, 4] ids.length (fun n s o wr => ∃ k : Nat, k + n = ids.length ∧ s = .int .i64 (sumTo f ids k) ∧ o = ptrO A ids[k]? ∧ wr = w)
  case atStart => exact ⟨0, by omega, rfl, rfl, rfl⟩
  case round =>
    obtain ⟨k, hk, rfl, rfl, rfl⟩ := hrel
    have hs := sumTo_bound HB.out k (by omega)
    by_cases hlt : k < ids.length
    · have e : ids[k]? = some ids[k] := List.getElem?_eq_getElem hlt
      have hm : ids[k] ∈ ids := List.getElem_mem _
      have c4 := HF.out _ hm
      have c6 := H.out.next _ hm
      rw [nextOf_at H.out.nodup k hlt] at c6
      have hb := HB.out _ hm
      have hsn : Hid (sumTo f ids (k + 1) = sumTo f ids k + f ids[k]) := by
        show _ = _
        simp only [sumTo, List.getD_eq_getElem?_getD, e]
        rfl
      rw [e]
      simp only [ptrO, Option.map_some]
      clear e
      go_wp2_with fail
      go_roundg (gk - 1)
      case measure => omega
      case rel => exact ⟨k + 1, by omega, by rw [hsn.out], rfl, rfl⟩
    · have e : ids[k]? = none := List.getElem?_eq_none (by omega)
      rw [e]
      simp only [ptrO, Option.map_none]
      have ek : k = ids.length := by omega
      clear e
      go_wp2_with fail
      go_ret
      subst ek
      exact ⟨rfl, rfl⟩
set_option maxRecDepth 100000 in
set_option maxHeartbeats 1000000 in
theorem lcount_any {w : World} {lb : Nat} {A : Int → Nat} {ids : List Int} (h : Links w lb A ids) (hl : ids.length ≤ 13) :
    Calls Try.prog 63 #[.pointer (some ⟨lb, 0, none⟩)] w fun e w' => e = .returned (.int .i64 (ids.length : Int)) ∧ w' = w := by
  have H : Hid (Links w lb A ids) := h
  have e1 := h.first
  have e0 : ids.head? = ids[0]? := by cases ids <;> rfl
  rw [e0] at e1
  clear h e0
  go_enter Try.func63, Try.ntmps63
  go_wp2_with fail
  go_loopg [3, 4] ids.length (fun n s o wr => ∃ k : Nat, k + n = ids.length ∧ s = .int .i64 (k : Int) ∧ o = ptrO A ids[k]? ∧ wr = w)
  case atStart => exact ⟨0, by omega, rfl, rfl, rfl⟩
  case round =>
    obtain ⟨k, hk, rfl, rfl, rfl⟩ := hrel
    by_cases hlt : k < ids.length
    · have e : ids[k]? = some ids[k] := List.getElem?_eq_getElem hlt
      have hm : ids[k] ∈ ids := List.getElem_mem _
      have c6 := H.out.next _ hm
      rw [nextOf_at H.out.nodup k hlt] at c6
      rw [e]
      simp only [ptrO, Option.map_some]
      clear e
      go_wp2_with fail
      go_roundg (gk - 1)
      case measure => omega
      case rel => exact ⟨k + 1, by omega, by go_num, rfl, rfl⟩
    · have e : ids[k]? = none := List.getElem?_eq_none (by omega)
      rw [e]
      simp only [ptrO, Option.map_none]
      have ek : k = ids.length := by omega
      clear e
      go_wp2_with fail
      go_ret
      subst ek
      exact ⟨rfl, rfl⟩
end Go.Proofs.Ytbljokilfkodfaa
