/-
  The program's Encode, Decode: the table's encode, decode.
-/
import Derived.Test.YtbljokilfkodfaaSum3
import Derived.Test.YtbljokilfkodfaaCodFair
namespace Go.Proofs.Ytbljokilfkodfaa
open Go.RowKit

theorem four_low (n : Nat) (hn : n < 4294967296) :
    strOfNums [(n : Int) % 256, (n : Int) / 256 % 256, (n : Int) / 65536 % 256, (n : Int) / 16777216] = ⟨(pFour n).toArray⟩ := by
  have e1 : (n : Int) % 256 = ((n % 256 : Nat) : Int) := by omega
  have e2 : (n : Int) / 256 % 256 = ((n / 256 % 256 : Nat) : Int) := by omega
  have e3 : (n : Int) / 65536 % 256 = ((n / 65536 % 256 : Nat) : Int) := by omega
  have e4 : (n : Int) / 16777216 = ((n / 16777216 % 256 : Nat) : Int) := by omega
  rw [e1, e2, e3, e4]
  rfl

set_option maxHeartbeats 400000 in
theorem lowest_any (n : Nat) (hn : n < 4294967296) (w : World) :
    Calls Try.prog 67 #[.int .u32 n] w fun e w' => e = .returned (.string ⟨(pFour n).toArray⟩) ∧ Below w.heap.size w w' := by
  have hcv := conv4
  go_enter Try.func67, Try.ntmps67
  go_wp2
  go_ret
  go_light
  exact ⟨ret_str (four_low n hn), (Below.refl _ _).alloc (Nat.le_refl _) _⟩

set_option maxRecDepth 100000 in
set_option maxHeartbeats 1000000 in
theorem tencode (b : Nat) (k c i s p q : Int) (w : World) (h : Tab w b) (_hlt : b < w.heap.size) :
    Calls Try.prog 47 #[.pointer (some ⟨b, 0, none⟩), .agg #[.int .i64 k, .int .i64 c, .int .i64 i, .int .i64 s, .int .i64 p, .int .i64 q]] w fun e w' =>
      e = .returned (.tuple #[.string (encStr k c i s p q), .int .i64 (encErr k c i s p q)]) ∧ Tab w' b ∧ Only (fun k => k = b) w w' := by
  have H : Hid (Tab w b) := h
  clear h
  unfold encStr encErr
  by_cases hf : fairB k c i s p q = true
  · obtain ⟨⟨k1, k2⟩, ⟨c1, c2⟩, ⟨i1, i2⟩, ⟨s1, s2⟩, ⟨p1, p2⟩, q1, q2⟩ := fairB_bounds hf
    have hcv := conv6
    go_enter Try.func47, Try.ntmps47
    go_wp2_with fail
    refine (fair_any _ _ _ _ _ _ _).mono ?_
    rintro e w1 ⟨rfl, b1⟩
    have B1 : Hid (Below w.heap.size w w1) := ((Below.refl _ _).alloc (Nat.le_refl _) _).trans (b1.mono (by simp))
    obtain ⟨hc, hz⟩ := bcell b1
    go_wp2_with fail
    refine (sum_tab b _ _ (H.out.keep (Only.of_below (S := fun _ => False) (B1.out.alloc B1.out.size _)) id) (nums6_le _ _ _ _ _ _)).mono ?_
    rintro e w2 ⟨rfl, t2, o2⟩
    have T2 : Hid (TabIs w2 b 1 0 tabW) := t2
    have O2 : Hid (Only (fun k => k = b) w w2) := (Only.of_below (B1.out.alloc B1.out.size _)).trans o2
    clear t2 o2 hc hz b1
    go_wp2_with fail
    refine (lowest_any _ (pCrc_lt _) _).mono ?_
    rintro e w3 ⟨rfl, b3⟩
    go_wp2
    go_ret2
    go_light
    exact ⟨ret_str2 (ten_eq k c i s p q), .inr (T2.out.keep (Only.of_below (S := fun _ => False) b3) id), O2.out.trans (Only.of_below b3)⟩
  · have hf' : fairB k c i s p q = false := by simpa using hf
    rw [hf']
    go_enter Try.func47, Try.ntmps47
    go_wp2_with fail
    refine (fair_any _ _ _ _ _ _ _).mono ?_
    rintro e w1 ⟨rfl, b1⟩
    have B1 : Hid (Below w.heap.size w w1) := ((Below.refl _ _).alloc (Nat.le_refl _) _).trans (b1.mono (by simp))
    go_wp2
    go_ret2
    go_light
    exact ⟨rfl, H.out.keep (Only.of_below (S := fun _ => False) B1.out) id, Only.of_below B1.out⟩

end Go.Proofs.Ytbljokilfkodfaa
