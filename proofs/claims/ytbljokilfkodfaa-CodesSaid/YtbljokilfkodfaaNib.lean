/-
  Four halvings at once: what four bits bring, and what is shifted down.
-/
import Derived.Test.YtbljokilfkodfaaPlain
namespace Go.Proofs.Ytbljokilfkodfaa

theorem xor_div2 (a b : Nat) : (a ^^^ b) / 2 = a / 2 ^^^ b / 2 := by
  have := Nat.shiftRight_xor_distrib (i := 1) (a := a) (b := b)
  simpa [Nat.shiftRight_eq_div_pow] using this
theorem xor_mod2 (a b : Nat) : (a ^^^ b) % 2 = (a % 2 + b % 2) % 2 := by
  have h : (a ^^^ b) % 2 = (a % 2) ^^^ (b % 2) := by
    have := Nat.xor_mod_two_pow (a := a) (b := b) (n := 1)
    simpa using this
  rw [h]
  rcases Nat.mod_two_eq_zero_or_one a with ha | ha <;> rcases Nat.mod_two_eq_zero_or_one b with hb | hb <;> rw [ha, hb] <;> rfl
theorem pStep_xor (a b : Nat) : pStep (a ^^^ b) = pStep a ^^^ pStep b := by
  unfold pStep
  rw [xor_div2, xor_mod2]
  rcases Nat.mod_two_eq_zero_or_one a with ha | ha <;> rcases Nat.mod_two_eq_zero_or_one b with hb | hb <;> simp only [ha, hb] <;> simp
  · rw [Nat.xor_assoc]
  · rw [Nat.xor_assoc, Nat.xor_assoc, Nat.xor_comm (b/2)]
  · have : (a / 2 ^^^ 3988292384) ^^^ (b / 2 ^^^ 3988292384) = (a/2 ^^^ b/2) ^^^ (3988292384 ^^^ 3988292384) := by ac_rfl
    rw [this]; simp
theorem pSteps_xor (k a b : Nat) : pSteps k (a ^^^ b) = pSteps k a ^^^ pSteps k b := by
  induction k with
  | zero => rfl
  | succ k ih => rw [pSteps, pSteps, pSteps, ih, pStep_xor]
theorem pSteps_even (k h : Nat) : pSteps k (2 ^ k * h) = h := by
  induction k generalizing h with
  | zero => simp [pSteps]
  | succ k ih =>
    rw [pSteps, show 2 ^ (k+1) * h = 2 ^ k * (2 * h) by rw [Nat.pow_succ]; ac_rfl, ih, pStep, if_neg (by omega)]; omega
theorem split16 (c : Nat) : c = (16 * (c / 16)) ^^^ (c % 16) := by
  apply Nat.eq_of_testBit_eq
  intro i
  rw [Nat.testBit_xor, show (16:Nat) = 2^4 from rfl, Nat.testBit_two_pow_mul, Nat.testBit_mod_two_pow]
  by_cases hi : i < 4
  · simp [hi, show ¬ 4 ≤ i by omega]
  · simp [hi, show 4 ≤ i by omega]
    rw [show (16:Nat) = 2^4 from rfl, Nat.testBit_div_two_pow, show i - 4 + 4 = i by omega]
theorem nib (c : Nat) : pSteps 4 c = (c / 16) ^^^ pSteps 4 (c % 16) := by
  conv => lhs; rw [split16 c]
  rw [pSteps_xor]
  rw [show pSteps 4 (16 * (c/16)) = c / 16 from pSteps_even 4 (c/16)]
theorem pSteps_add (a b c : Nat) : pSteps (a + b) c = pSteps a (pSteps b c) := by
  induction a with
  | zero => simp [pSteps]
  | succ a ih => rw [Nat.succ_add, pSteps, pSteps, ih]
theorem pByte_nib (c b : Nat) : pByte c b = (let n := c ^^^ b; let m := (n / 16) ^^^ pSteps 4 (n % 16); (m / 16) ^^^ pSteps 4 (m % 16)) := by
  unfold pByte
  rw [show (8 : Nat) = 4 + 4 from rfl, pSteps_add, nib (pSteps 4 (c ^^^ b)), nib (c ^^^ b)]
end Go.Proofs.Ytbljokilfkodfaa
