/-
  A journal: frames of ten bytes, as far as they are commands; what is said of Replay, whoever's.
-/
import Derived.Test.YtbljokilfkodfaaSaid
namespace Go.Proofs.Ytbljokilfkodfaa
open Go.RowKit

def fr (s : ByteArray) (j : Nat) : ByteArray := s.extract (10 * j) (10 * j + 10)
def okF (s : ByteArray) (j : Nat) : Bool := decide (10 * j + 10 ≤ s.size) && decOk (fr s j)
/-- Commands in memory: command j's six numbers, one behind the other. -/
def rowZ (Z : Nat → Nat → Int) (j : Nat) : List Value := [.int .i64 (Z j 0), .int .i64 (Z j 1), .int .i64 (Z j 2), .int .i64 (Z j 3), .int .i64 (Z j 4), .int .i64 (Z j 5)]
def rows (Z : Nat → Nat → Int) (k : Nat) : List Value := (List.range k).flatMap (rowZ Z)
theorem rows_succ (Z : Nat → Nat → Int) (k : Nat) : rows Z (k + 1) = rows Z k ++ rowZ Z k := by
  unfold rows; rw [List.range_succ, List.flatMap_append]; simp
theorem rows_length (Z : Nat → Nat → Int) (k : Nat) : (rows Z k).length = k * 6 := by
  induction k with
  | zero => rfl
  | succ k ih => rw [rows_succ, List.length_append, ih]; simp [rowZ]; omega
theorem rows_at (Z : Nat → Nat → Int) (k j i : Nat) (hj : j < k) (hi : i < 6) : (rows Z k)[j * 6 + i]? = some (.int .i64 (Z j i)) := by
  induction k with
  | zero => omega
  | succ k ih =>
    rw [rows_succ]
    by_cases h : j < k
    · rw [List.getElem?_append_left (by rw [rows_length]; omega)]; exact ih h
    · have e : j = k := by omega
      subst e
      rw [List.getElem?_append_right (by rw [rows_length]; omega), rows_length, show j * 6 + i - j * 6 = i by omega]
      unfold rowZ
      obtain rfl | rfl | rfl | rfl | rfl | rfl : i = 0 ∨ i = 1 ∨ i = 2 ∨ i = 3 ∨ i = 4 ∨ i = 5 := by omega
      all_goals rfl
theorem rows_congr {Z Y : Nat → Nat → Int} {k : Nat} (h : ∀ j i, j < k → Z j i = Y j i) : rows Z k = rows Y k := by
  induction k with
  | zero => rfl
  | succ k ih => rw [rows_succ, rows_succ, ih (fun j i hj => h j i (by omega))]; unfold rowZ; simp [h k _ (Nat.lt_succ_self k)]
/-- The numbers of the journal's commands. -/
def decZ (s : ByteArray) (j i : Nat) : Int := decN (fr s j) i
theorem owned_cell {w : World} {base : Nat} {e : TypeId} {g k cap : Nat} {Z : Nat → Nat → Int} (h : w.ownsRow base e 6 (.slice (some ⟨g, 0, none⟩) k cap) k (rows Z k)) (j i : Nat) (hj : j < k) (hi : i < 6) : w.cell? ⟨g, j * 6 + i, none⟩ = some (.int .i64 (Z j i)) :=
  (h.cellAt (j * 6 + i) (by omega)).trans (rows_at Z k j i hj hi)

theorem ownsRow_below {w w' : World} {base : Nat} {e : TypeId} {size n : Nat} {v : Value} {xs : List Value} (h : w.ownsRow base e size v n xs) (hb : Below w.heap.size w w') : w'.ownsRow base e size v n xs := by
  obtain ⟨h1, h2⟩ := h
  refine ⟨h1, ?_⟩
  rcases h2 with h2 | ⟨g, cap, cur, hv, hg, hh, r⟩
  · exact .inl h2
  · have hlt : g < w.heap.size := by
      rcases Nat.lt_or_ge g w.heap.size with hl | hl
      · exact hl
      · rw [Array.getElem?_eq_none hl] at hh; cases hh
    exact .inr ⟨g, cap, cur, hv, hg, by rw [hb.block g hlt]; exact hh, r⟩

theorem new6 (W : World) (g : Nat) (hg : g = W.heap.size) (T : TypeId) (v0 v1 v2 v3 v4 v5 : Value) : ∀ (j : Nat) (u : Value), [v0, v1, v2, v3, v4, v5][j]? = some u → (W.alloc (.cells #[v0, v1, v2, v3, v4, v5] T)).cell? ((⟨g, 0, none⟩ : Addr).add j) = some u := by
  subst hg
  intro j u hj
  match j, hj with
  | 0, hj => simp at hj; subst hj; simp [Addr.add]
  | 1, hj => simp at hj; subst hj; simp [Addr.add]
  | 2, hj => simp at hj; subst hj; simp [Addr.add]
  | 3, hj => simp at hj; subst hj; simp [Addr.add]
  | 4, hj => simp at hj; subst hj; simp [Addr.add]
  | 5, hj => simp at hj; subst hj; simp [Addr.add]
theorem one6 (a b c d e f : Int) : ∀ u ∈ [Value.int .i64 a, .int .i64 b, .int .i64 c, .int .i64 d, .int .i64 e, .int .i64 f], u.oneCell' = true := by
  intro u hu
  simp at hu
  rcases hu with rfl | rfl | rfl | rfl | rfl | rfl <;> rfl

def ReplaySaid (F T : Nat) : Prop := ∀ (s : ByteArray) (w : World), s.size ≤ 16777216 →
  Calls Try.prog F #[.string s] w fun e w' => ∃ (v : Value) (k : Nat), e = .returned (.tuple #[v, .int .i64 ((10 * k : Nat) : Int)]) ∧ (∀ j, j < k → okF s j = true) ∧ okF s k = false ∧ w'.ownsRow w.heap.size T 6 v k (rows (decZ s) k) ∧ Below w.heap.size w w'

theorem ok_unique {s : ByteArray} {k l : Nat} (h1 : ∀ j, j < k → okF s j = true) (h2 : okF s k = false) (h3 : ∀ j, j < l → okF s j = true) (h4 : okF s l = false) : k = l := by
  rcases Nat.lt_trichotomy k l with h | h | h
  · rw [h3 k h] at h2; cases h2
  · exact h
  · rw [h1 l h] at h4; cases h4
end Go.Proofs.Ytbljokilfkodfaa
