/-
  The row of Codes, out of the contracts of the program's Encode and Decode.
-/
import Derived.Test.YtbljokilfkodfaaPfCommon
import Derived.Test.YtbljokilfkodfaaLawCodes
import Derived.Test.YtbljokilfkodfaaRefDecSaid
namespace Go.Proofs.Ytbljokilfkodfaa
open Go.ChangeShapes Go.WideShapes Go.ChangeAt Go.RowKit
open Go.ChangeMaps (open_string shut_string)

theorem codes_any (hE : EncSaid 23) (hD : DecSaid 26) (a : Option Addr) (n cap : Nat) (K C I S P Q : Nat → Int) (s : ByteArray) (w : World) (hs : s.size ≤ maxLen) (hn : n < 1152921504606846976) (ho : IsOps w a n K C I S P Q) :
    Calls Try.prog 6 #[.slice a n cap, .string s] w fun e w' => e = .returned (.bool true) ∧ Below w.heap.size w w' := by
  rcases Nat.eq_zero_or_pos n with rfl | h
  · exact codes_nil hD rdecode_said a cap s w hs
  · obtain ⟨b, off, rfl, hb, hc⟩ := ho h
    exact codes_walk hE hD rdecode_said b off n cap K C I S P Q s w hs hb hn (fun j hj => (hc j hj).1) (fun j hj => (hc j hj).2.1) (fun j hj => (hc j hj).2.2.1) (fun j hj => (hc j hj).2.2.2.1) (fun j hj => (hc j hj).2.2.2.2.1) (fun j hj => (hc j hj).2.2.2.2.2)

set_option maxRecDepth 100000 in
theorem codes_lifted (hE : EncSaid 23) (hD : DecSaid 26) (os : Os) (started : os.Started) (H : Type) (enc : TypeId × Value → H) :
    ReturnsInHanded {} Try.checked os 6 .any (Rows.codesSpec.pre6 enc Try.prog Try.f6 Rows.codesRow.domain false) (Rows.codesSpec.post enc Try.prog Try.f6 false true false false) := by
  refine returnsInHanded_of_change_sized (C := Try.checked) own started (by kernel_rfl) Try.func6
    (ChangeSpec.witness6 (enc := enc) (C := Try.checked) false ⟨#[], #[.slice none 0 0, .string ⟨#[]⟩], []⟩ 8 (by kernel_rfl) (by kernel_rfl) (by kernel_rfl) (by kernel_rfl)) ?_
  intro W base args ds gs before hval0 hW hcnd hsz0 _
  have hval : ∀ (j : Nat) t v, Try.f6.params[j]? = some t → args[j]? = some v → Value.okWide Try.prog W .any base t v := hval0
  have hsz : (DataW.weightsEach Try.prog (Try.f6.params.toList ++ Rows.codesSpec.plain.varTypes Try.prog) (ds ++ gs)).all (· ≤ reachBytes) = true := hsz0
  have hW' := hW
  obtain ⟨p, q, hA0, hV, rfl, hfz, hnd⟩ := hW
  have hA : DataW.TrodAll enc Try.prog W 0 (fun _ => true) true Try.f6.params.toList args.toList ds p := hA0
  rw [Try.params6] at hA hval hsz
  obtain ⟨v0, vs0, d0, ds0, p0, q0, hargs, rfl, rfl, h0, r0⟩ := trodAll_cons hA
  obtain ⟨v1, vs1, d1, ds1, p1, q1, rfl, rfl, rfl, h1, r1⟩ := trodAll_cons r0
  obtain ⟨rfl, rfl, rfl⟩ := trodAll_nil r1
  obtain rfl : args = #[v0, v1] := by cases args; simp_all
  obtain ⟨rfl, rfl⟩ := trodVars_none hV
  obtain ⟨a0, len0, cap0, rfl⟩ := okWide_slice Try.underlying22 (hval 0 22 v0 rfl rfl)
  have k0 := h0
  have lt0 : ∀ x ∈ p0, x.block < W.heap.size := by obtain ⟨m, hm⟩ := k0; exact DataW.trod_lt m _ _ _ hm
  obtain ⟨K, C, I, S, P, Q, ho⟩ : ∃ K C I S P Q, IsOps W a0 len0 K C I S P Q := by
    obtain ⟨fuel, hf⟩ := h0
    exact ops_of_trod (by simpa [Value.cells] using hf)
  have hn : len0 < 1152921504606846976 := by
    have := ops_bound k0 (j := 0) rfl rfl hsz
    omega
  obtain ⟨s, rfl, rfl, rfl, hs⟩ := open_string Try.underlying9 (hval 1 9 v1 rfl rfl) h1
  clear hA0 hval0
  refine (codes_any hE hD a0 len0 cap0 K C I S P Q s W hs hn ho).mono fun e W' ⟨he, bel⟩ => ?_
  subst he
  exact ⟨_, rfl, _, _, _, [], _, [], hW', trodAll_mk1 (shut_bool Try.underlying4 _), (trodAll_cons_mk (Below.trod laidOut (by kernel_rfl) (of_decide_eq_true (by kernel_rfl)) k0 bel lt0) (trodAll_cons_mk (shut_string Try.underlying9 hs) trodAll_mk0)), rfl, bel.frame _, fun h => by cases h⟩

theorem codes_over (hE : EncSaid 23) (hD : DecSaid 26) : Rows.CodesSaid :=
  OpenClaim.holds_of_wide 6 Try.f6 rfl rfl rfl rfl rfl rfl rfl ⟨rfl, rfl, rfl, rfl, rfl⟩ rfl rfl rfl rfl rfl (by kernel_rfl) Try.func6 (by kernel_rfl)
    (of_decide_eq_true (by kernel_rfl)) (by unfold Func.isWrapper; first | (rw [if_pos (by decide +kernel)]; kernel_rfl) | (rw [if_neg (by decide +kernel)]; exact ⟨rfl, rfl⟩))
    (fun os started H enc _ => codes_lifted hE hD os started H enc)
end Go.Proofs.Ytbljokilfkodfaa
