/-
  The document's own answer: ten bytes as a command.
-/
import Derived.Test.YtbljokilfkodfaaRef
import Derived.Test.YtbljokilfkodfaaDecDefs
import Derived.Deep.QuietTactic
import Derived.BigQuiet
import Derived.Deep.RegionWith
import Derived.BigRegion
namespace Go.Proofs.Ytbljokilfkodfaa
open Go.RowKit

def zeroCmd : Value := .agg #[.int .i64 0, .int .i64 0, .int .i64 0, .int .i64 0, .int .i64 0, .int .i64 0]
def cmdAt (s : ByteArray) : Value := .agg #[.int .i64 (byteAt s 0), .int .i64 (byteAt s 1), .int .i64 (byteAt s 2), .int .i64 (byteAt s 3), .int .i64 (byteAt s 4), .int .i64 (byteAt s 5)]

def decRes (s : ByteArray) : Value := if s.size = 10 ∧ (sumOk s && fairAt s) = true then .tuple #[cmdAt s, .int .i64 0] else .tuple #[zeroCmd, .int .i64 6]
theorem decRes_no {s : ByteArray} (h : s.size = 10 → sumOk s = true → fairAt s = true → False) : .tuple #[zeroCmd, .int .i64 6] = decRes s := by
  unfold decRes; rw [if_neg]; rintro ⟨h1, h2⟩; rw [Bool.and_eq_true] at h2; exact h h1 h2.1 h2.2
theorem decRes_yes {s : ByteArray} (h : s.size = 10) (h1 : sumOk s = true) (h2 : fairAt s = true) : .tuple #[cmdAt s, .int .i64 0] = decRes s := by
  unfold decRes; rw [if_pos ⟨h, by simp [h1, h2]⟩]
theorem below_six {B : Nat} {a w : World} (h : Below B a w) {b : Nat} (hb : B ≤ b) (v0 v1 v2 v3 v4 v5 : Value) :
    Below B a ((((((w.setCell ⟨b, 0, none⟩ v0).setCell ⟨b, 1, none⟩ v1).setCell ⟨b, 2, none⟩ v2).setCell ⟨b, 3, none⟩ v3).setCell ⟨b, 4, none⟩ v4).setCell ⟨b, 5, none⟩ v5) :=
  (((((h.setCell hb _).setCell hb _).setCell hb _).setCell hb _).setCell hb _).setCell hb _
theorem byte_at (s : ByteArray) (j : Nat) (h : j < s.size) : wrap64 ((s[j]'h).toNat : Int) = byteAt s j := by
  have hb := (s[j]'h).toNat_lt
  have e : s.data.toList.getD j 0 = s[j]'h := by
    rw [List.getD_eq_getElem?_getD, List.getElem?_eq_getElem (by simpa using h)]; rfl
  unfold byteAt
  rw [e]
  unfold wrap64
  omega
theorem ret_eq {a b : Value} (h : a = b) : Ending.returned a = .returned b := by rw [h]

set_option maxHeartbeats 400000 in
theorem rdecode_len (s : ByteArray) (w : World) (_hs : s.size ≤ maxLen) (h : s.size ≠ 10) :
    Calls Try.prog 27 #[.string s] w fun e w' => e = .returned (decRes s) ∧ Below w.heap.size w w' := by
  have hg : ((s.size : Int) != 10) = true := by rw [bne_iff_ne]; omega
  go_enter Try.func27, Try.ntmps27
  go_wp2
  go_quiet (fail)
  go_wp2
  exact bodyPost_ret (v := .tuple #[zeroCmd, .int .i64 6]) (by simp [results, Try.results27, go_sem, zeroCmd]) rfl ⟨ret_eq (decRes_no fun h' => absurd h' h), below_six (below_drewN ((Below.refl _ _).alloc (Nat.le_refl _) _) nq) (Nat.le_refl _) _ _ _ _ _ _⟩

set_option maxHeartbeats 2000000 in
theorem rdecode_ten (s : ByteArray) (w : World) (h : s.size = 10) :
    Calls Try.prog 27 #[.string s] w fun e w' => e = .returned (decRes s) ∧ Below w.heap.size w w' := by
  have hg : ((s.size : Int) != 10) = false := by rw [bne_eq_false_iff_eq]; omega
  have H : Hid (s.size = 10) := h
  have h6 : 6 ≤ s.size := by omega
  have h6i : (6 : Int) ≤ (s.size : Int) := by omega
  clear h
  go_enter Try.func27, Try.ntmps27
  go_wp2
  go_region_with (first | (go_at_call 49; refine (crc_any _ _ ?_).mono ?_; (show _ ≤ 2 ^ 63 - 1; simp; omega); rintro e w1 ⟨rfl, rfl⟩) | (go_at_call 48; refine (rfour_any _ (pCrc_lt _) _).mono ?_; rintro e w1 ⟨rfl, hb⟩))
  obtain ⟨hc, hf⟩ := bcell hb
  have hz : w.heap.size < w1.heap.size := by have := hb.size; simp at this; omega
  have hi0 : 0 < s.size := by omega
  have hi1 : (1 : Int) < (s.size : Int) := by omega
  have hi2 : (2 : Int) < (s.size : Int) := by omega
  have hi3 : (3 : Int) < (s.size : Int) := by omega
  have hi4 : (4 : Int) < (s.size : Int) := by omega
  have hi5 : (5 : Int) < (s.size : Int) := by omega
  have hy0 : wrap64 ((s[0]'hi0).toNat : Int) = byteAt s 0 := byte_at s 0 hi0
  have hy1 : wrap64 ((s[1]'(by omega)).toNat : Int) = byteAt s 1 := byte_at s 1 _
  have hy2 : wrap64 ((s[2]'(by omega)).toNat : Int) = byteAt s 2 := byte_at s 2 _
  have hy3 : wrap64 ((s[3]'(by omega)).toNat : Int) = byteAt s 3 := byte_at s 3 _
  have hy4 : wrap64 ((s[4]'(by omega)).toNat : Int) = byteAt s 4 := byte_at s 4 _
  have hy5 : wrap64 ((s[5]'(by omega)).toNat : Int) = byteAt s 5 := byte_at s 5 _
  cases hso : (s.extract 6 s.size).toList == pFour (pCrc (s.data.toList.take 6))
  · go_wp2
    refine bodyPost_ret (v := .tuple #[zeroCmd, .int .i64 6]) (by simp [results, Try.results27, go_sem, zeroCmd, hc]) rfl ⟨ret_eq (decRes_no fun _ h' _ => ?_), below_six (((Below.refl _ _).alloc (Nat.le_refl _) _).drew.trans (hb.mono (by simp))) (Nat.le_refl _) _ _ _ _ _ _⟩
    unfold sumOk at h'
    rw [hso] at h'
    exact Bool.noConfusion h'
  · go_wp2
    go_simp
    go_region
    go_wp2_with fail
    refine (rfair_any _ _ _ _ _ _ _).mono ?_
    rintro e w2 ⟨rfl, hb2⟩
    obtain ⟨hc2, hf2⟩ := bcell hb2
    have hz2 : w1.heap.size < w2.heap.size := by have := hb2.size; simp at this; omega
    have hz' : w.heap.size < w1.heap.size + 1 := by omega
    have hz3 : w.heap.size < w2.heap.size := by omega
    have B1 : Below w.heap.size w w1 := ((Below.refl _ _).alloc (Nat.le_refl _) _).drew.trans (hb.mono (by simp))
    have B2 : Below w.heap.size w w2 := (B1.alloc (by omega) _).drew.trans (hb2.mono (by simp; omega))
    cases hfa : fairB (byteAt s 0) (byteAt s 1) (byteAt s 2) (byteAt s 3) (byteAt s 4) (byteAt s 5)
    · go_wp2
      refine bodyPost_ret (v := .tuple #[zeroCmd, .int .i64 6]) (by simp [results, Try.results27, go_sem, zeroCmd, hc, hz, hc2, hz']) rfl ⟨ret_eq (decRes_no fun _ _ h' => ?_), below_six B2 (Nat.le_refl _) _ _ _ _ _ _⟩
      unfold fairAt at h'
      rw [hfa] at h'
      exact Bool.noConfusion h'
    · go_wp2
      exact bodyPost_ret (v := .tuple #[cmdAt s, .int .i64 0]) (by simp [results, Try.results27, go_sem, cmdAt, hc, hz, hc2, hz']) rfl ⟨ret_eq (decRes_yes H.out hso hfa), below_six B2 (Nat.le_refl _) _ _ _ _ _ _⟩
end Go.Proofs.Ytbljokilfkodfaa
