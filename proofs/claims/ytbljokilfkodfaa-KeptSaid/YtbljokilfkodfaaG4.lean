/-
  The document's sum, bit by bit: the walk of bourseref.Crc.
-/
import Derived.Test.YtbljokilfkodfaaProg
import Derived.Test.YtbljokilfkodfaaG3
import Derived.WalkKit
import Derived.WalkSpells
import Derived.WalkLawsBesides
namespace Go.Proofs.Ytbljokilfkodfaa
open Go.RowKit

theorem ret_int {k : IntKind} {a b : Int} (h : a = b) : Ending.returned (.int k a) = .returned (.int k b) := by rw [h]
theorem val_int {k : IntKind} {a b : Int} (h : a = b) : Value.int k a = .int k b := by rw [h]
theorem take_snoc (s : ByteArray) (k : Nat) (h : k < s.size) : s.data.toList.take (k + 1) = s.data.toList.take k ++ [s[k]] := by
  rw [List.take_succ_eq_append_getElem (by simpa using h)]; rfl

theorem xor_in (c b : Nat) (hc : c < 4294967296) (hb : b < 256) : bits .xor .u32 (c : Int) (b : Int) = ((c ^^^ b : Nat) : Int) :=
  u32_xor_nat c b hc (by omega)
theorem and_one (c : Nat) (hc : c < 4294967296) : bits .and .u32 (c : Int) 1 = ((c % 2 : Nat) : Int) := by
  have := u32_and_nat c 1 hc (by omega)
  rw [Nat.and_one_is_mod] at this
  exact this
theorem step_odd (c : Nat) (hc : c < 4294967296) (h : (bits .and .u32 (c : Int) 1 == 1) = true) : bits .xor .u32 ((c : Int) / 2) 3988292384 = ((pStep c : Nat) : Int) := by
  rw [and_one c hc, beq_iff_eq] at h
  unfold pStep
  rw [if_pos (by omega)]
  exact u32_xor_nat (c / 2) 3988292384 (by omega) (by omega)
theorem step_even (c : Nat) (hc : c < 4294967296) (h : (bits .and .u32 (c : Int) 1 == 1) = false) : ((c : Int) / 2) = ((pStep c : Nat) : Int) := by
  rw [and_one c hc, beq_eq_false_iff_ne] at h
  unfold pStep
  rw [if_neg (by omega)]
  omega
theorem last_not (c : Nat) (hc : c < 4294967296) : bits .xor .u32 IntKind.u32.max (c : Int) = ((4294967295 ^^^ c : Nat) : Int) :=
  u32_xor_nat 4294967295 c (by omega) hc

set_option maxHeartbeats 400000 in
theorem crc_any (s : ByteArray) (w : World) (hs : s.size ≤ maxLen) :
    Calls Try.prog 49 #[.string s] w fun e w' => e = .returned (.int .u32 (pCrc s.data.toList)) ∧ w' = w := by
  unfold maxLen at hs
  go_enter Try.func49, Try.ntmps49
  go_wp2
  go_loop [3, 4] (fun c i => ∃ k : Nat, k ≤ s.size ∧ i = .int .i64 k ∧ c = .int .u32 (pCrcTo (s.data.toList.take k))) (fun _ i => s.size - (intOf i).toNat)
  case atStart => exact ⟨0, Nat.zero_le _, rfl, rfl⟩
  case round =>
    obtain ⟨k, hk, rfl, rfl⟩ := hrel
    by_cases hlt : k < s.size
    · have hc := pCrcTo_lt (s.data.toList.take k)
      have hb := s[k].toNat_lt
      have hx : pCrcTo (s.data.toList.take k) ^^^ s[k].toNat < 4294967296 := by
        have : pCrcTo (s.data.toList.take k) ^^^ s[k].toNat < 2 ^ 32 := Nat.xor_lt_two_pow (by omega) (by omega)
        omega
      have hsn : Hid (pSteps 8 (pCrcTo (s.data.toList.take k) ^^^ s[k].toNat) = pCrcTo (s.data.toList.take (k + 1))) := by
        rw [take_snoc s k hlt, pCrcTo_snoc]; rfl
      go_wp2
      go_loop [3, 5] (fun c i => ∃ j : Nat, j ≤ 8 ∧ i = .int .i64 j ∧ c = .int .u32 (pSteps j (pCrcTo (s.data.toList.take k) ^^^ s[k].toNat) : Nat)) (fun _ i => 8 - (intOf i).toNat)
      case atStart => refine ⟨0, Nat.zero_le _, rfl, ?_⟩; rw [xor_in _ _ hc hb, pSteps]
      case round =>
        obtain ⟨j, hj, rfl, rfl⟩ := hrel
        have hp := pSteps_lt hx j
        by_cases hj8 : j < 8
        · go_wp2
          · refine ⟨⟨j + 1, by omega, by go_num, ?_⟩, by simp [intOf]; omega⟩
            rw [step_odd _ hp ‹_›, pSteps]
          · refine ⟨⟨j + 1, by omega, by go_num, ?_⟩, by simp [intOf]; omega⟩
            rw [step_even _ hp ‹_›, pSteps]
        · go_wp2
          have e8 : j = 8 := by omega
          subst e8
          exact ⟨⟨k + 1, by omega, by go_num, by rw [hsn.out]⟩, by simp [intOf]; omega⟩
    · go_wp2
      go_ret
      refine ⟨ret_int ?_, rfl⟩
      rw [last_not _ (pCrcTo_lt _), List.take_of_length_le (by simp; omega)]
      rfl
end Go.Proofs.Ytbljokilfkodfaa
