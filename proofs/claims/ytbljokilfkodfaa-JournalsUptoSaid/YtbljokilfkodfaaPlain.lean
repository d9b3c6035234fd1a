/-
  Plain mathematics of commands as bytes: which commands are fair, the CRC-32 bit by bit, ten bytes. No walk, no program.
-/
namespace Go.Proofs.Ytbljokilfkodfaa

def inB (n lo hi : Int) : Bool := decide (lo ≤ n) && decide (n ≤ hi)
theorem inB_iff {n lo hi : Int} : inB n lo hi = true ↔ lo ≤ n ∧ n ≤ hi := by simp [inB]
theorem inB_not {n lo hi : Int} (h : lo ≤ n → hi < n) : inB n lo hi = false := by
  rw [Bool.eq_false_iff]; intro hb; rw [inB_iff] at hb; omega

/-- P3, for the numbers of one command. -/
def fairB (k c i s p q : Int) : Bool :=
  inB k 1 6 && inB c 0 3 && inB i 0 99 &&
  (if k = 2 then inB s 1 2 && decide (p = 0) && inB q 1 99
   else if k = 5 then decide (s = 0) && decide (p = 0) && decide (q = 0)
   else if k = 6 then decide (s = 0) && inB p 1 99 && inB q 1 99
   else inB s 1 2 && inB p 1 99 && inB q 1 99)

theorem fairB_bounds {k c i s p q : Int} (h : fairB k c i s p q = true) :
    (1 ≤ k ∧ k ≤ 6) ∧ (0 ≤ c ∧ c ≤ 3) ∧ (0 ≤ i ∧ i ≤ 99) ∧ (0 ≤ s ∧ s ≤ 2) ∧ (0 ≤ p ∧ p ≤ 99) ∧ (0 ≤ q ∧ q ≤ 99) := by
  unfold fairB at h
  by_cases h2 : k = 2
  · simp [h2, inB] at h; omega
  by_cases h5 : k = 5
  · simp [h5, inB] at h; omega
  by_cases h6 : k = 6
  · simp [h6, inB] at h; omega
  simp [h2, h5, h6, inB] at h
  omega

/-- One of the eight halvings of a byte. -/
def pStep (c : Nat) : Nat := if c % 2 = 1 then c / 2 ^^^ 3988292384 else c / 2
def pSteps : Nat → Nat → Nat
  | 0, c => c
  | k + 1, c => pStep (pSteps k c)
def pByte (c b : Nat) : Nat := pSteps 8 (c ^^^ b)
def pCrcTo (l : List UInt8) : Nat := l.foldl (fun c b => pByte c b.toNat) 4294967295
def pCrc (l : List UInt8) : Nat := 4294967295 ^^^ pCrcTo l

theorem pStep_lt {c : Nat} (h : c < 4294967296) : pStep c < 4294967296 := by
  unfold pStep
  split
  · have : c / 2 ^^^ 3988292384 < 2 ^ 32 := Nat.xor_lt_two_pow (by omega) (by omega)
    omega
  · omega
theorem pSteps_lt {c : Nat} (h : c < 4294967296) : ∀ k, pSteps k c < 4294967296
  | 0 => h
  | k + 1 => pStep_lt (pSteps_lt h k)
theorem pByte_lt {c b : Nat} (h : c < 4294967296) (hb : b < 256) : pByte c b < 4294967296 := by
  have : c ^^^ b < 2 ^ 32 := Nat.xor_lt_two_pow (by omega) (by omega)
  exact pSteps_lt (by omega) 8
theorem pFold_lt (l : List UInt8) : ∀ c, c < 4294967296 → l.foldl (fun c b => pByte c b.toNat) c < 4294967296 := by
  induction l with
  | nil => intro c h; exact h
  | cons b l ih => intro c h; exact ih _ (pByte_lt h b.toNat_lt)
theorem pCrcTo_lt (l : List UInt8) : pCrcTo l < 4294967296 := pFold_lt l _ (by omega)
theorem pCrc_lt (l : List UInt8) : pCrc l < 4294967296 := by
  have : 4294967295 ^^^ pCrcTo l < 2 ^ 32 := Nat.xor_lt_two_pow (by omega) (by have := pCrcTo_lt l; omega)
  unfold pCrc; omega
theorem pCrcTo_snoc (l : List UInt8) (b : UInt8) : pCrcTo (l ++ [b]) = pByte (pCrcTo l) b.toNat := by
  unfold pCrcTo; rw [List.foldl_append]; rfl

/-- A sum's four bytes, the lowest first. -/
def pFour (n : Nat) : List UInt8 := [UInt8.ofNat (n % 256), UInt8.ofNat (n / 256 % 256), UInt8.ofNat (n / 65536 % 256), UInt8.ofNat (n / 16777216 % 256)]
/-- The six bytes of a command's numbers. -/
def pSix (k c i s p q : Int) : List UInt8 := [UInt8.ofNat k.toNat, UInt8.ofNat c.toNat, UInt8.ofNat i.toNat, UInt8.ofNat s.toNat, UInt8.ofNat p.toNat, UInt8.ofNat q.toNat]
def pTen (k c i s p q : Int) : List UInt8 := pSix k c i s p q ++ pFour (pCrc (pSix k c i s p q))

end Go.Proofs.Ytbljokilfkodfaa
