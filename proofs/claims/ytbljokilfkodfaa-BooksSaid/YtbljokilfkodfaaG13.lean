/-
  The row of Books.
-/
import Derived.Test.YtbljokilfkodfaaG2
import Derived.Test.YtbljokilfkodfaaG6
import Derived.Test.YtbljokilfkodfaaG12
namespace Go.Proofs.Ytbljokilfkodfaa
open Go.ChangeShapes Go.WideShapes Go.ChangeAt Go.RowKit

theorem books_any {Rep : World → Value → (Nat → Prop) → List Od → Prop} (hC : BookIs Rep 9 42 16) (hN : NewSaid Rep 8) (a : Option Addr) (n cap : Nat) (K C I S P Q : Nat → Int) (w : World) (hn : n < 1152921504606846976) (ho : IsOps w a n K C I S P Q) :
    Calls Try.prog 3 #[.slice a n cap] w fun e w' => e = .returned (.bool true) ∧ Below w.heap.size w w' := by
  rcases Nat.eq_zero_or_pos n with rfl | h
  · exact books_nil hC ref_is hN ref_made a cap w
  · obtain ⟨b, off, rfl, hb, hc⟩ := ho h
    exact books_walk hC ref_is hN ref_made b off n cap K C I S P Q w hb hn (fun j hj => (hc j hj).1) (fun j hj => (hc j hj).2.1) (fun j hj => (hc j hj).2.2.1) (fun j hj => (hc j hj).2.2.2.1) (fun j hj => (hc j hj).2.2.2.2.1) (fun j hj => (hc j hj).2.2.2.2.2)

set_option maxRecDepth 100000 in
theorem books_lifted {Rep : World → Value → (Nat → Prop) → List Od → Prop} (hC : BookIs Rep 9 42 16) (hN : NewSaid Rep 8) (os : Os) (started : os.Started) (H : Type) (enc : TypeId × Value → H) :
    ReturnsInHanded {} Try.checked os 3 .any (Rows.booksSpec.pre6 enc Try.prog Try.f3 Rows.booksRow.domain false) (Rows.booksSpec.post enc Try.prog Try.f3 false true false false) := by
  refine returnsInHanded_of_change_sized (C := Try.checked) own started (by kernel_rfl) Try.func3
    (ChangeSpec.witness6 (enc := enc) (C := Try.checked) false ⟨#[], #[.slice none 0 0], []⟩ 8 (by kernel_rfl) (by kernel_rfl) (by kernel_rfl) (by kernel_rfl)) ?_
  intro W base args ds gs before hval0 hW hcnd hsz0 _
  have hval : ∀ (j : Nat) t v, Try.f3.params[j]? = some t → args[j]? = some v → Value.okWide Try.prog W .any base t v := hval0
  have hsz : (DataW.weightsEach Try.prog (Try.f3.params.toList ++ Rows.booksSpec.plain.varTypes Try.prog) (ds ++ gs)).all (· ≤ reachBytes) = true := hsz0
  have hW' := hW
  obtain ⟨p, q, hA0, hV, rfl, hfz, hnd⟩ := hW
  have hA : DataW.TrodAll enc Try.prog W 0 (fun _ => true) true Try.f3.params.toList args.toList ds p := hA0
  rw [Try.params3] at hA hval hsz
  obtain ⟨v0, vs0, d0, ds0, p0, q0, hargs, rfl, rfl, h0, r0⟩ := trodAll_cons hA
  obtain ⟨rfl, rfl, rfl⟩ := trodAll_nil r0
  obtain rfl : args = #[v0] := by cases args; simp_all
  obtain ⟨rfl, rfl⟩ := trodVars_none hV
  obtain ⟨a0, len0, cap0, rfl⟩ := okWide_slice Try.underlying22 (hval 0 22 v0 rfl rfl)
  have k0 := h0
  have lt0 : ∀ x ∈ p0, x.block < W.heap.size := by obtain ⟨m, hm⟩ := k0; exact DataW.trod_lt m _ _ _ hm
  obtain ⟨K, C, I, S, P, Q, ho⟩ : ∃ K C I S P Q, IsOps W a0 len0 K C I S P Q := by
    obtain ⟨fuel, hf⟩ := h0
    exact ops_of_trod (by simpa [Value.cells] using hf)
  have hn : len0 < 1152921504606846976 := by
    have := ops_bound k0 (j := 0) rfl rfl hsz
    omega
  clear hA0 hval0
  refine (books_any hC hN a0 len0 cap0 K C I S P Q W hn ho).mono fun e W' ⟨he, bel⟩ => ?_
  subst he
  exact ⟨_, rfl, _, _, _, [], _, [], hW', trodAll_mk1 (shut_bool Try.underlying4 _), (trodAll_cons_mk (Below.trod laidOut (by kernel_rfl) (of_decide_eq_true (by kernel_rfl)) k0 bel lt0) trodAll_mk0), rfl, bel.frame _, fun h => by cases h⟩

theorem books_over {Rep : World → Value → (Nat → Prop) → List Od → Prop} (hC : BookIs Rep 9 42 16) (hN : NewSaid Rep 8) : Rows.BooksSaid :=
  OpenClaim.holds_of_wide 3 Try.f3 rfl rfl rfl rfl rfl rfl rfl ⟨rfl, rfl, rfl, rfl, rfl⟩ rfl rfl rfl rfl rfl (by kernel_rfl) Try.func3 (by kernel_rfl)
    (of_decide_eq_true (by kernel_rfl)) (by unfold Func.isWrapper; first | (rw [if_pos (by decide +kernel)]; kernel_rfl) | (rw [if_neg (by decide +kernel)]; exact ⟨rfl, rfl⟩))
    (fun os started H enc _ => books_lifted hC hN os started H enc)
end Go.Proofs.Ytbljokilfkodfaa
