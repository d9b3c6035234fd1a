/-
  A script of steps that came in, opened.
-/
import Derived.Test.YtbljokilfkodfaaProg
import Derived.WalkKit
import Derived.ProofKit
import Derived.OpenShut
import Derived.Deep.Slices
import Derived.Lib.SmallJoins
namespace Go.Proofs.Ytbljokilfkodfaa
open Go.ChangeShapes Go.WideShapes Go.ChangeAt Go.RowKit Go.Deep

theorem cellsOp : Try.prog.cellsOf 34 = 6 := by kernel_rfl

/-- What the walks are told of a script. -/
def IsOps (w : World) (a : Option Addr) (n : Nat) (K C I S P Q : Nat → Int) : Prop :=
  0 < n → ∃ b off, a = some ⟨b, off, none⟩ ∧ b < w.heap.size ∧ ∀ j, j < n →
    w.cell? ⟨b, off + j * 6, none⟩ = some (.int .i64 (K j)) ∧ w.cell? ⟨b, off + j * 6 + 1, none⟩ = some (.int .i64 (C j)) ∧ w.cell? ⟨b, off + j * 6 + 2, none⟩ = some (.int .i64 (I j)) ∧
    w.cell? ⟨b, off + j * 6 + 3, none⟩ = some (.int .i64 (S j)) ∧ w.cell? ⟨b, off + j * 6 + 4, none⟩ = some (.int .i64 (P j)) ∧ w.cell? ⟨b, off + j * 6 + 5, none⟩ = some (.int .i64 (Q j))

theorem cell_lt {w : World} {b o : Nat} {v : Value} (h : w.cell? ⟨b, o, none⟩ = some v) : b < w.heap.size := by
  rcases Nat.lt_or_ge b w.heap.size with hl | hl
  · exact hl
  · exfalso
    unfold World.cell? at h
    simp [Array.getElem?_eq_none hl] at h

theorem wf_i64 {z : Int} (h : (Lit.int .i64 z).wf = true) : -9223372036854775808 ≤ z ∧ z ≤ 9223372036854775807 := by
  have h1 : IntKind.i64.min ≤ z ∧ z ≤ IntKind.i64.max := by
    unfold Lit.wf at h
    rw [Bool.and_eq_true, decide_eq_true_eq, decide_eq_true_eq] at h
    exact h
  have e1 : IntKind.i64.min = -9223372036854775808 := by decide
  have e2 : IntKind.i64.max = 9223372036854775807 := by decide
  rw [e1, e2] at h1
  exact h1

set_option maxRecDepth 100000 in
theorem op_cell {H : Type} {enc : TypeId × Value → H} {W : World} {n : Nat} {cs : List Value} {x : DataW H × List MemPlace}
    (h : DataW.trod enc Try.prog W 0 (fun _ => true) true n 34 cs = some x) (hlen : cs.length = 6) (i : Nat) (hi : i < 6) : ∃ z : Int, (-9223372036854775808 ≤ z ∧ z ≤ 9223372036854775807) ∧ cs[i]? = some (.int .i64 z) := by
  obtain ⟨xs, n', _, _, _, hxl, hfs⟩ := DataW.trod_struct Try.underlying34 h
  match cs, hlen with
  | [c0, c1, c2, c3, c4, c5], _ =>
    have key : ∀ (v : Value) (y : DataW H × List MemPlace), DataW.trod enc Try.prog W 0 (fun _ => true) true n' 3 [v] = some y → ∃ z : Int, (-9223372036854775808 ≤ z ∧ z ≤ 9223372036854775807) ∧ v = .int .i64 z := by
      intro v y hv
      obtain ⟨z, hz, _, hw⟩ := DataW.trod_int Try.underlying3 hv
      simp at hz
      exact ⟨z, wf_i64 hw, hz⟩
    have cellsI : Try.prog.cellsOf 3 = 1 := by kernel_rfl
    match xs, hxl with
    | [y0, y1, y2, y3, y4, y5], _ =>
      have g0 := hfs 0 _ rfl
      have g1 := hfs 1 _ rfl
      have g2 := hfs 2 _ rfl
      have g3 := hfs 3 _ rfl
      have g4 := hfs 4 _ rfl
      have g5 := hfs 5 _ rfl
      simp [cellsI] at g0 g1 g2 g3 g4 g5
      obtain ⟨z0, r0, rfl⟩ := key _ _ g0
      obtain ⟨z1, r1, rfl⟩ := key _ _ g1
      obtain ⟨z2, r2, rfl⟩ := key _ _ g2
      obtain ⟨z3, r3, rfl⟩ := key _ _ g3
      obtain ⟨z4, r4, rfl⟩ := key _ _ g4
      obtain ⟨z5, r5, rfl⟩ := key _ _ g5
      obtain rfl | rfl | rfl | rfl | rfl | rfl : i = 0 ∨ i = 1 ∨ i = 2 ∨ i = 3 ∨ i = 4 ∨ i = 5 := by omega
      · exact ⟨_, r0, rfl⟩
      · exact ⟨_, r1, rfl⟩
      · exact ⟨_, r2, rfl⟩
      · exact ⟨_, r3, rfl⟩
      · exact ⟨_, r4, rfl⟩
      · exact ⟨_, r5, rfl⟩

set_option maxRecDepth 100000 in
theorem ops_of_trodR {H : Type} {enc : TypeId × Value → H} {W : World} {fuel : Nat} {a : Option Addr} {len cap : Nat} {x : DataW H × List MemPlace}
    (hf : DataW.trod enc Try.prog W 0 (fun _ => true) true fuel 22 [.slice a len cap] = some x) :
    ∃ K C I S P Q, IsOps W a len K C I S P Q ∧ ∀ j, j < len → -9223372036854775808 ≤ I j ∧ I j ≤ 9223372036854775807 := by
  rcases open_slice Try.underlying22 hf with ⟨hcs, _⟩ | ⟨a', len', cap', m, n, D, Pl, hcs, _, hl, hm, hmm, _, hel⟩
  · simp at hcs
    obtain ⟨rfl, rfl, rfl⟩ := hcs
    exact ⟨fun _ => 0, fun _ => 0, fun _ => 0, fun _ => 0, fun _ => 0, fun _ => 0, fun h => absurd h (by omega), fun j hj => absurd hj (by omega)⟩
  · simp at hcs
    obtain ⟨rfl, rfl, rfl⟩ := hcs
    simp only [if_true] at hmm
    subst hmm
    rw [cellsOp] at hel
    have one : ∀ t, t < m * 6 → ∃ z : Int, W.cell? (a'.add t) = some (.int .i64 z) ∧ (-9223372036854775808 ≤ z ∧ z ≤ 9223372036854775807) := by
      intro t ht
      obtain ⟨cs, h1, h2⟩ := hel (t / 6) (by omega)
      obtain ⟨_, hlen, hc⟩ := World.cells?_some h1
      have hcell := hc (t % 6) (by omega)
      rw [add_add, show t / 6 * 6 + t % 6 = t by omega] at hcell
      obtain ⟨z, hr, hz⟩ := op_cell h2 hlen (t % 6) (by omega)
      exact ⟨z, hcell.trans hz, hr⟩
    obtain ⟨V, hVR⟩ := choose_lt one
    have hV := fun t ht => (hVR t ht).1
    refine ⟨fun j => V (j * 6), fun j => V (j * 6 + 1), fun j => V (j * 6 + 2), fun j => V (j * 6 + 3), fun j => V (j * 6 + 4), fun j => V (j * 6 + 5), fun h0 => ?_, fun j hj => (hVR (j * 6 + 2) (by omega)).2⟩
    obtain ⟨b, off, spot⟩ := a'
    have hc := hV 0 (by omega)
    have hspot : spot = none := by simpa [Addr.add] using World.cell?_spot hc
    subst hspot
    have hV' : ∀ t, t < m * 6 → W.cell? ⟨b, off + t, none⟩ = some (.int .i64 (V t)) := fun t ht => by
      have h := hV t ht
      have e : (⟨b, off, none⟩ : Addr).add t = ⟨b, off + t, none⟩ := by unfold Addr.add; split <;> simp_all
      rw [e] at h
      exact h
    refine ⟨b, off, rfl, ?_, fun j hj => ⟨hV' (j * 6) (by omega), hV' (j * 6 + 1) (by omega), hV' (j * 6 + 2) (by omega), hV' (j * 6 + 3) (by omega), hV' (j * 6 + 4) (by omega), hV' (j * 6 + 5) (by omega)⟩⟩
    have := hV' 0 (by omega)
    exact cell_lt this
theorem ops_of_trod {H : Type} {enc : TypeId × Value → H} {W : World} {fuel : Nat} {a : Option Addr} {len cap : Nat} {x : DataW H × List MemPlace}
    (hf : DataW.trod enc Try.prog W 0 (fun _ => true) true fuel 22 [.slice a len cap] = some x) :
    ∃ K C I S P Q, IsOps W a len K C I S P Q := by
  obtain ⟨K, C, I, S, P, Q, h, _⟩ := ops_of_trodR hf
  exact ⟨K, C, I, S, P, Q, h⟩
end Go.Proofs.Ytbljokilfkodfaa
