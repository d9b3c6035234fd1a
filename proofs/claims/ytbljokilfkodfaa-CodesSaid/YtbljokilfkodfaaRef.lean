/-
  The document's own answer: which commands are fair, a sum's four bytes, ten bytes.
-/
import Derived.Test.YtbljokilfkodfaaCrc
import Derived.Deep.Light
import Derived.Laws.BytesArg
namespace Go.Proofs.Ytbljokilfkodfaa
open Go.RowKit

theorem bcell {W w1 : World} (hb : Below W.heap.size W w1) : (∀ b o, b < W.heap.size → w1.cell? ⟨b, o, none⟩ = W.cell? ⟨b, o, none⟩) ∧ (∀ b o, b < W.heap.size → w1.frozen? ⟨b, o, none⟩ = W.frozen? ⟨b, o, none⟩) :=
  ⟨fun b o h => hb.cell (p := ⟨b, o, none⟩) h, fun b o h => hb.frozen (p := ⟨b, o, none⟩) h⟩

set_option maxHeartbeats 400000 in
theorem rwithin_any (n lo hi : Int) (w : World) :
    Calls Try.prog 46 #[.int .i64 n, .int .i64 lo, .int .i64 hi] w fun e w' => e = .returned (.bool (inB n lo hi)) ∧ w' = w := by
  unfold inB
  by_cases h1 : lo ≤ n
  · go_enter Try.func46, Try.ntmps46
    go_wp2
    go_ret
    simp [h1]
  · go_enter Try.func46, Try.ntmps46
    go_wp2
    go_ret
    exact ⟨by simp; omega, rfl⟩

set_option maxHeartbeats 1000000 in
theorem rfair_any (k c i s p q : Int) (w : World) :
    Calls Try.prog 19 #[.agg #[.int .i64 k, .int .i64 c, .int .i64 i, .int .i64 s, .int .i64 p, .int .i64 q]] w fun e w' => e = .returned (.bool (fairB k c i s p q)) ∧ Below w.heap.size w w' := by
  go_enter Try.func19, Try.ntmps19
  go_wp2_with (go_at_call 46; refine (rwithin_any _ _ _ _).mono ?_; rintro e w' ⟨rfl, rfl⟩)
  all_goals (go_ret; go_light; refine ⟨?_, (Below.refl _ _).alloc (Nat.le_refl _) _⟩)
  all_goals first | (simp_all [fairB]; done) | (simp_all [fairB]; rfl)

theorem conv4 (w0 : World) (a b c d : Int) :
    (convert 124 9 (.slice (some ⟨w0.heap.size, 0, none⟩) 4 4)).run Try.prog (w0.alloc (.cells #[.int .u8 a, .int .u8 b, .int .u8 c, .int .u8 d] 5)) = .ok (.string (strOfNums [a, b, c, d])) (w0.alloc (.cells #[.int .u8 a, .int .u8 b, .int .u8 c, .int .u8 d] 5)) :=
  run_convert_bytes_arg _ 124 5 Try.underlying124 Try.underlying5 _ 0 4 4 [a, b, c, d] rfl (fun i hi => by
    obtain rfl | rfl | rfl | rfl : i = 0 ∨ i = 1 ∨ i = 2 ∨ i = 3 := by omega
    all_goals simp [go_sem]) 9 Try.underlying9
theorem conv6 (w0 : World) (a b c d e f : Int) :
    (convert 124 9 (.slice (some ⟨w0.heap.size, 0, none⟩) 6 6)).run Try.prog (w0.alloc (.cells #[.int .u8 a, .int .u8 b, .int .u8 c, .int .u8 d, .int .u8 e, .int .u8 f] 5)) = .ok (.string (strOfNums [a, b, c, d, e, f])) (w0.alloc (.cells #[.int .u8 a, .int .u8 b, .int .u8 c, .int .u8 d, .int .u8 e, .int .u8 f] 5)) :=
  run_convert_bytes_arg _ 124 5 Try.underlying124 Try.underlying5 _ 0 6 6 [a, b, c, d, e, f] rfl (fun i hi => by
    obtain rfl | rfl | rfl | rfl | rfl | rfl : i = 0 ∨ i = 1 ∨ i = 2 ∨ i = 3 ∨ i = 4 ∨ i = 5 := by omega
    all_goals simp [go_sem]) 9 Try.underlying9

theorem and_255 (a : Nat) (h : a < 4294967296) : bits .and .u32 (a : Int) 255 % 256 = ((a % 256 : Nat) : Int) := by
  have e := u32_and_nat a 255 h (by omega)
  rw [show (255 : Nat) = 2 ^ 8 - 1 from rfl, Nat.and_two_pow_sub_one_eq_mod] at e
  have e2 : bits .and .u32 (a : Int) 255 = ((a % 2 ^ 8 : Nat) : Int) := e
  rw [e2]; omega
theorem four_bytes (n : Nat) (hn : n < 4294967296) :
    strOfNums [bits .and .u32 (n : Int) 255 % 256, bits .and .u32 ((n : Int) / 256) 255 % 256, bits .and .u32 ((n : Int) / 65536) 255 % 256, (n : Int) / 16777216] = ⟨(pFour n).toArray⟩ := by
  have e1 := and_255 n hn
  have e2 : bits .and .u32 ((n : Int) / 256) 255 % 256 = ((n / 256 % 256 : Nat) : Int) := and_255 (n / 256) (by omega)
  have e3 : bits .and .u32 ((n : Int) / 65536) 255 % 256 = ((n / 65536 % 256 : Nat) : Int) := and_255 (n / 65536) (by omega)
  have e4 : (n : Int) / 16777216 = ((n / 16777216 % 256 : Nat) : Int) := by omega
  rw [e1, e2, e3, e4]
  rfl
theorem ret_str {a b : ByteArray} (h : a = b) : Ending.returned (.string a) = .returned (.string b) := by rw [h]

set_option maxHeartbeats 400000 in
theorem rfour_any (n : Nat) (hn : n < 4294967296) (w : World) :
    Calls Try.prog 48 #[.int .u32 n] w fun e w' => e = .returned (.string ⟨(pFour n).toArray⟩) ∧ Below w.heap.size w w' := by
  have hcv := conv4
  go_enter Try.func48, Try.ntmps48
  go_wp2
  go_ret
  go_light
  exact ⟨ret_str (four_bytes n hn), (Below.refl _ _).alloc (Nat.le_refl _) _⟩

set_option maxHeartbeats 400000 in
theorem rencode_no (k c i s p q : Int) (w : World) (h : fairB k c i s p q = false) :
    Calls Try.prog 24 #[.agg #[.int .i64 k, .int .i64 c, .int .i64 i, .int .i64 s, .int .i64 p, .int .i64 q]] w fun e w' => e = .returned (.tuple #[.string ⟨#[]⟩, .int .i64 2]) ∧ Below w.heap.size w w' := by
  go_enter Try.func24, Try.ntmps24
  go_wp2_with (go_at_call 19; refine (rfair_any _ _ _ _ _ _ _).mono ?_; rintro e w' ⟨rfl, hb⟩)
  go_ret2
  exact ⟨rfl, ((Below.refl _ _).alloc (Nat.le_refl _) _).trans (hb.mono (by simp))⟩

def tenB (k c i s p q : Int) : ByteArray := ⟨(pTen k c i s p q).toArray⟩
theorem ten_eq (k c i s p q : Int) : strOfNums [k, c, i, s, p, q] ++ ⟨(pFour (pCrc (strOfNums [k, c, i, s, p, q]).data.toList)).toArray⟩ = tenB k c i s p q := by
  apply ByteArray.ext
  rw [ByteArray.data_append]
  rfl
theorem nums6_le (k c i s p q : Int) : (strOfNums [k, c, i, s, p, q]).size ≤ maxLen := by
  rw [strOfNums_size]; show 6 ≤ 2 ^ 63 - 1; decide
theorem ret_str2 {a b : ByteArray} {v : Value} (h : a = b) : Ending.returned (.tuple #[.string a, v]) = .returned (.tuple #[.string b, v]) := by rw [h]

set_option maxHeartbeats 400000 in
theorem rencode_yes (k c i s p q : Int) (w : World) (h : fairB k c i s p q = true) :
    Calls Try.prog 24 #[.agg #[.int .i64 k, .int .i64 c, .int .i64 i, .int .i64 s, .int .i64 p, .int .i64 q]] w fun e w' => e = .returned (.tuple #[.string (tenB k c i s p q), .int .i64 0]) ∧ Below w.heap.size w w' := by
  obtain ⟨⟨k1, k2⟩, ⟨c1, c2⟩, ⟨i1, i2⟩, ⟨s1, s2⟩, ⟨p1, p2⟩, q1, q2⟩ := fairB_bounds h
  have hcv := conv6
  go_enter Try.func24, Try.ntmps24
  go_wp2_with (go_at_call 19; refine (rfair_any _ _ _ _ _ _ _).mono ?_; rintro e w' ⟨rfl, hb⟩; obtain ⟨hc, hf⟩ := bcell hb)
  refine (crc_any _ _ (nums6_le _ _ _ _ _ _)).mono ?_
  rintro e w2 ⟨rfl, rfl⟩
  go_wp2_with fail
  refine (rfour_any _ (pCrc_lt _) _).mono ?_
  rintro e w3 ⟨rfl, hb3⟩
  go_wp2
  go_ret2
  go_light
  exact ⟨ret_str2 (ten_eq k c i s p q), (((Below.refl _ _).alloc (Nat.le_refl _) _).trans (hb.mono (by simp))).trans (((Below.refl _ _).alloc (Nat.le_refl _) _).trans (hb3.mono (by simp)) |>.mono (by have := hb.size; simp at this; omega))⟩
end Go.Proofs.Ytbljokilfkodfaa
