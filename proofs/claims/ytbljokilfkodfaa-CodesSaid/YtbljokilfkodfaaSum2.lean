/-
  The table is filled: halve, fill.
-/
import Derived.Test.YtbljokilfkodfaaSum1
namespace Go.Proofs.Ytbljokilfkodfaa
open Go.RowKit

theorem and_15 (a : Nat) (h : a < 4294967296) : bits .and .u32 (a : Int) 15 = ((a % 16 : Nat) : Int) := by
  have e := u32_and_nat a 15 h (by omega)
  rw [show (15 : Nat) = 2 ^ 4 - 1 from rfl, Nat.and_two_pow_sub_one_eq_mod] at e
  exact e

set_option maxHeartbeats 400000 in
theorem halve_any (c : Nat) (hc : c < 4294967296) (w : World) :
    Calls Try.prog 109 #[.int .u32 (c : Int)] w fun e w' => e = .returned (.int .u32 (pStep c : Nat)) ∧ w' = w := by
  go_enter Try.func109, Try.ntmps109
  go_wp2
  · go_ret
    exact ⟨ret_int (step_odd _ hc ‹_›), rfl⟩
  · go_ret
    exact ⟨ret_int (step_even _ hc ‹_›), rfl⟩

def tabW (i : Nat) : Nat := pSteps 4 i
theorem tabW_lt (i : Nat) (h : i < 16) : tabW i < 4294967296 := pSteps_lt (by omega) 4

set_option maxHeartbeats 1000000 in
theorem fill_any (b : Nat) (d s : Int) (W : Nat → Nat) (w : World) (h : TabIs w b d s W) :
    Calls Try.prog 87 #[.pointer (some ⟨b, 0, none⟩)] w fun e w' => e = .returned (.tuple #[]) ∧ TabIs w' b d s tabW ∧ Only (fun k => k = b) w w' := by
  have H : Hid (TabIs w b d s W) := h
  clear h
  go_enter Try.func87, Try.ntmps87
  go_wp2_with fail
  go_loopw [4] (fun i wr => ∃ k : Nat, k ≤ 16 ∧ i = .int .i64 (k : Int) ∧ TabIs wr b d s (fun j => if j < k then tabW j else W j) ∧ Only (fun k => k = b) w wr) (fun i _ => 16 - (intOf i).toNat)
  case atStart => exact ⟨0, Nat.zero_le _, rfl, H.out.congr (fun i _ => by simp), Only.refl _ _⟩
  case round =>
    obtain ⟨k, hk, rfl, hT, hO⟩ := hrel
    have HT : Hid (TabIs wr b d s (fun j => if j < k then tabW j else W j)) := hT
    have HO : Hid (Only (fun k => k = b) w wr) := hO
    clear hT hO H
    by_cases hlt : k < 16
    · have hki : (k : Int) < 16 := by omega
      have hcell := HT.out.words k hlt
      have hsoft := HT.out.soft (3 + k)
      go_wp2_with fail
      go_loop [3, 9] (fun c i => ∃ j : Nat, j ≤ 4 ∧ i = .int .i64 (j : Int) ∧ c = .int .u32 (pSteps j k : Nat)) (fun _ i => 4 - (intOf i).toNat)
      case atStart => exact ⟨0, Nat.zero_le _, rfl, by go_num⟩
      case round =>
        obtain ⟨j, hj, rfl, rfl⟩ := hrel
        have hp := pSteps_lt (show k < 4294967296 by omega) j
        by_cases hj4 : j < 4
        · have hji : (j : Int) < 4 := by omega
          go_wp2_with fail
          refine (halve_any _ hp _).mono ?_
          rintro e w' ⟨rfl, rfl⟩
          go_wp2
          exact ⟨⟨j + 1, by omega, by go_num, rfl⟩, by simp [intOf]; omega⟩
        · have hji : decide ((j : Int) < 4) = false := decide_eq_false (by omega)
          have e4 : j = 4 := by omega
          subst e4
          go_wp2_with fail
          refine ⟨⟨k + 1, by omega, by go_num, (HT.out.setWord k (pSteps 4 k) hlt).congr ?_, HO.out.trans (only_set _ _ _ _)⟩, by simp [intOf]; omega⟩
          intro i hi
          by_cases h1 : i = k
          · subst h1; simp [tabW]
          · by_cases h2 : i < k
            · simp [h1, h2, show i < k + 1 by omega]
            · simp [h1, h2, show ¬ i < k + 1 by omega]
    · have hki : decide ((k : Int) < 16) = false := decide_eq_false (by omega)
      have e4 : k = 16 := by omega
      subst e4
      go_wp2
      go_end0
      exact ⟨rfl, HT.out.congr (fun i hi => by simp [hi]), HO.out⟩
end Go.Proofs.Ytbljokilfkodfaa
