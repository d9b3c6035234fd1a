/-
  Decode.
-/
import Derived.Test.YtbljokilfkodfaaCod3
import Derived.Test.YtbljokilfkodfaaRefDecSaid
namespace Go.Proofs.Ytbljokilfkodfaa
open Go.RowKit

theorem dec_ten (s : ByteArray) (h : s.size = 10) : decide (tenB (byteAt s 0) (byteAt s 1) (byteAt s 2) (byteAt s 3) (byteAt s 4) (byteAt s 5) = s) = sumOk s := by
  obtain ⟨⟨l⟩⟩ := s
  have hl : l.length = 10 := h
  match l, hl with
  | [a, b, c, d, e, f, g, h, i, j], _ =>
    have e6 : pSix (byteAt ⟨⟨[a, b, c, d, e, f, g, h, i, j]⟩⟩ 0) (byteAt ⟨⟨[a, b, c, d, e, f, g, h, i, j]⟩⟩ 1) (byteAt ⟨⟨[a, b, c, d, e, f, g, h, i, j]⟩⟩ 2) (byteAt ⟨⟨[a, b, c, d, e, f, g, h, i, j]⟩⟩ 3) (byteAt ⟨⟨[a, b, c, d, e, f, g, h, i, j]⟩⟩ 4) (byteAt ⟨⟨[a, b, c, d, e, f, g, h, i, j]⟩⟩ 5) = [a, b, c, d, e, f] := by
      simp [pSix, byteAt]
    have e4 : (ByteArray.extract ⟨⟨[a, b, c, d, e, f, g, h, i, j]⟩⟩ 6 (ByteArray.size ⟨⟨[a, b, c, d, e, f, g, h, i, j]⟩⟩)).toList = [g, h, i, j] := by
      rw [ByteArray.toList_eq]
      rfl
    rw [Bool.eq_iff_iff]
    unfold sumOk tenB pTen
    rw [e6, e4]
    simp only [decide_eq_true_eq, beq_iff_eq]
    show _ ↔ [g, h, i, j] = pFour (pCrc [a, b, c, d, e, f])
    constructor
    · intro hh
      have := congrArg (fun x => x.data.toList.drop 6) hh
      simpa using this.symm
    · intro hh
      rw [← hh]
      rfl

theorem only_six {S : Nat → Prop} {a w : World} (h : Only S a w) {b : Nat} (hb : a.heap.size ≤ b) (v0 v1 v2 v3 v4 v5 : Value) :
    Only S a ((((((w.setCell ⟨b, 0, none⟩ v0).setCell ⟨b, 1, none⟩ v1).setCell ⟨b, 2, none⟩ v2).setCell ⟨b, 3, none⟩ v3).setCell ⟨b, 4, none⟩ v4).setCell ⟨b, 5, none⟩ v5) := by
  have s1 : ∀ (W : World) (o : Nat) (v : Value), Only S a W → Only S a (W.setCell ⟨b, o, none⟩ v) := fun W o v hW => hW.then (only_set W b o v) (fun i hi he => absurd he (by omega))
  exact s1 _ _ _ (s1 _ _ _ (s1 _ _ _ (s1 _ _ _ (s1 _ _ _ (s1 _ _ _ h)))))
theorem tab_six {w : World} {b c : Nat} (h : Tab w b) (hb : b ≠ c) (v0 v1 v2 v3 v4 v5 : Value) :
    Tab ((((((w.setCell ⟨c, 0, none⟩ v0).setCell ⟨c, 1, none⟩ v1).setCell ⟨c, 2, none⟩ v2).setCell ⟨c, 3, none⟩ v3).setCell ⟨c, 4, none⟩ v4).setCell ⟨c, 5, none⟩ v5) b := by
  have s1 : ∀ (W : World) (o : Nat) (v : Value), Tab W b → Tab (W.setCell ⟨c, o, none⟩ v) b := fun W o v hW => hW.keep (only_set W c o v) hb
  exact s1 _ _ _ (s1 _ _ _ (s1 _ _ _ (s1 _ _ _ (s1 _ _ _ (s1 _ _ _ h)))))

theorem dec_tenL (s : ByteArray) (h : s.size = 10) : ((tenB (byteAt s 0) (byteAt s 1) (byteAt s 2) (byteAt s 3) (byteAt s 4) (byteAt s 5)).toList == s.toList) = sumOk s := by
  rw [← dec_ten s h, Bool.eq_iff_iff]
  simp only [beq_iff_eq, decide_eq_true_eq]
  constructor
  · intro hh
    apply ByteArray.ext
    rw [ByteArray.toList_eq, ByteArray.toList_eq] at hh
    exact Array.toList_inj.1 hh
  · intro hh; rw [hh]

set_option maxRecDepth 100000 in
set_option maxHeartbeats 1000000 in
theorem tdecode_len (b : Nat) (s : ByteArray) (w : World) (h : Tab w b) (_hs : s.size ≤ maxLen) (h10 : s.size ≠ 10) :
    Calls Try.prog 50 #[.pointer (some ⟨b, 0, none⟩), .string s] w fun e w' => e = .returned (decRes s) ∧ Tab w' b ∧ Only (fun k => k = b) w w' := by
  have H : Hid (Tab w b) := h
  clear h
  have hi : ((s.size : Int) == 10) = false := by simp; omega
  go_enter Try.func50, Try.ntmps50
  go_wp2
  refine bodyPost_ret (v := .tuple #[zeroCmd, .int .i64 6]) (by simp [results, Try.results50, go_sem, zeroCmd]) rfl ⟨ret_eq (decRes_no fun h' => absurd h' h10), ?_⟩
  have B := (Below.refl w.heap.size w).alloc (Nat.le_refl _) (.cells #[.int .i64 0, .int .i64 0, .int .i64 0, .int .i64 0, .int .i64 0, .int .i64 0] 32)
  exact ⟨H.out.keep (Only.of_below (S := fun _ => False) B) id, Only.of_below B⟩

set_option maxRecDepth 100000 in
set_option maxHeartbeats 8000000 in
theorem tdecode_ten (b : Nat) (s : ByteArray) (w : World) (h : Tab w b) (hlt : b < w.heap.size) (h10 : s.size = 10) :
    Calls Try.prog 50 #[.pointer (some ⟨b, 0, none⟩), .string s] w fun e w' => e = .returned (decRes s) ∧ Tab w' b ∧ Only (fun k => k = b) w w' := by
  have H : Hid (Tab w b) := h
  have H10 : Hid (s.size = 10) := h10
  clear h
  have hi0 : 0 < s.size := by omega
  have hi1 : (1 : Int) < (s.size : Int) := by omega
  have hi2 : (2 : Int) < (s.size : Int) := by omega
  have hi3 : (3 : Int) < (s.size : Int) := by omega
  have hi4 : (4 : Int) < (s.size : Int) := by omega
  have hi5 : (5 : Int) < (s.size : Int) := by omega
  have l1 : 1 < s.size := by omega
  have l2 : 2 < s.size := by omega
  have l3 : 3 < s.size := by omega
  have l4 : 4 < s.size := by omega
  have l5 : 5 < s.size := by omega
  have hy0 : wrap64 ((s[0]'hi0).toNat : Int) = byteAt s 0 := byte_at s 0 hi0
  have hy1 : wrap64 ((s[1]'l1).toNat : Int) = byteAt s 1 := byte_at s 1 l1
  have hy2 : wrap64 ((s[2]'l2).toNat : Int) = byteAt s 2 := byte_at s 2 l2
  have hy3 : wrap64 ((s[3]'l3).toNat : Int) = byteAt s 3 := byte_at s 3 l3
  have hy4 : wrap64 ((s[4]'l4).toNat : Int) = byteAt s 4 := byte_at s 4 l4
  have hy5 : wrap64 ((s[5]'l5).toNat : Int) = byteAt s 5 := byte_at s 5 l5
  have hg : ((s.size : Int) != 10) = false := by rw [bne_eq_false_iff_eq]; omega
  have hT := dec_tenL s h10
  clear h10
  go_enter Try.func50, Try.ntmps50
  go_wp2
  go_simp
  go_region
  go_wp2_with fail
  have B0 : Hid (Below w.heap.size w ((w.alloc (.cells #[.int .i64 0, .int .i64 0, .int .i64 0, .int .i64 0, .int .i64 0, .int .i64 0] 32)).alloc (.cells #[.int .i64 (byteAt s 0), .int .i64 (byteAt s 1), .int .i64 (byteAt s 2), .int .i64 (byteAt s 3), .int .i64 (byteAt s 4), .int .i64 (byteAt s 5)] 32)).drew) := (((Below.refl _ _).alloc (Nat.le_refl _) _).alloc (by simp) _).drew
  refine (tencode b _ _ _ _ _ _ _ (H.out.keep (Only.of_below (S := fun _ => False) B0.out) id) (by simp; omega)).mono ?_
  rintro e w2 ⟨rfl, t2, o2⟩
  have T2 : Hid (Tab w2 b) := t2
  have O2 : Hid (Only (fun k => k = b) w w2) := (Only.of_below B0.out).trans o2
  have hz : w.heap.size + 1 < w2.heap.size := by have := o2.size; simp at this; omega
  have hz0 : w.heap.size < w2.heap.size := by omega
  have c0 : w2.cell? ⟨w.heap.size, 0, none⟩ = some (.int .i64 0) := (o2.cell (b := w.heap.size) (o := 0) (by simp; omega) (by omega)).trans (by simp)
  have c1 : w2.cell? ⟨w.heap.size, 1, none⟩ = some (.int .i64 0) := (o2.cell (b := w.heap.size) (o := 1) (by simp; omega) (by omega)).trans (by simp)
  have c2 : w2.cell? ⟨w.heap.size, 2, none⟩ = some (.int .i64 0) := (o2.cell (b := w.heap.size) (o := 2) (by simp; omega) (by omega)).trans (by simp)
  have c3 : w2.cell? ⟨w.heap.size, 3, none⟩ = some (.int .i64 0) := (o2.cell (b := w.heap.size) (o := 3) (by simp; omega) (by omega)).trans (by simp)
  have c4 : w2.cell? ⟨w.heap.size, 4, none⟩ = some (.int .i64 0) := (o2.cell (b := w.heap.size) (o := 4) (by simp; omega) (by omega)).trans (by simp)
  have c5 : w2.cell? ⟨w.heap.size, 5, none⟩ = some (.int .i64 0) := (o2.cell (b := w.heap.size) (o := 5) (by simp; omega) (by omega)).trans (by simp)
  have d0 : w2.cell? ⟨w.heap.size + 1, 0, none⟩ = some (.int .i64 (byteAt s 0)) := (o2.cell (b := w.heap.size + 1) (o := 0) (by simp) (by omega)).trans (by simp)
  have d1 : w2.cell? ⟨w.heap.size + 1, 1, none⟩ = some (.int .i64 (byteAt s 1)) := (o2.cell (b := w.heap.size + 1) (o := 1) (by simp) (by omega)).trans (by simp)
  have d2 : w2.cell? ⟨w.heap.size + 1, 2, none⟩ = some (.int .i64 (byteAt s 2)) := (o2.cell (b := w.heap.size + 1) (o := 2) (by simp) (by omega)).trans (by simp)
  have d3 : w2.cell? ⟨w.heap.size + 1, 3, none⟩ = some (.int .i64 (byteAt s 3)) := (o2.cell (b := w.heap.size + 1) (o := 3) (by simp) (by omega)).trans (by simp)
  have d4 : w2.cell? ⟨w.heap.size + 1, 4, none⟩ = some (.int .i64 (byteAt s 4)) := (o2.cell (b := w.heap.size + 1) (o := 4) (by simp) (by omega)).trans (by simp)
  have d5 : w2.cell? ⟨w.heap.size + 1, 5, none⟩ = some (.int .i64 (byteAt s 5)) := (o2.cell (b := w.heap.size + 1) (o := 5) (by simp) (by omega)).trans (by simp)
  have hf : ∀ o, w2.frozen? ⟨w.heap.size, o, none⟩ = false := fun o => (o2.frozen (b := w.heap.size) (o := o) (by simp; omega) (by omega)).trans (by simp)
  clear t2 o2
  by_cases hfa : fairB (byteAt s 0) (byteAt s 1) (byteAt s 2) (byteAt s 3) (byteAt s 4) (byteAt s 5) = true
  · have e1 : encErr (byteAt s 0) (byteAt s 1) (byteAt s 2) (byteAt s 3) (byteAt s 4) (byteAt s 5) = 0 := by simp [encErr, hfa]
    have e2 : encStr (byteAt s 0) (byteAt s 1) (byteAt s 2) (byteAt s 3) (byteAt s 4) (byteAt s 5) = tenB (byteAt s 0) (byteAt s 1) (byteAt s 2) (byteAt s 3) (byteAt s 4) (byteAt s 5) := by simp [encStr, hfa]
    rw [e1, e2]
    have HF : Hid (fairAt s = true) := hfa
    clear e1 e2 hfa
    cases hso : sumOk s
    · rw [hso] at hT
      go_wp2
      refine bodyPost_ret (v := .tuple #[zeroCmd, .int .i64 6]) (by simp [results, Try.results50, go_sem, zeroCmd, c0, c1, c2, c3, c4, c5]) rfl ⟨ret_eq (decRes_no fun _ h' _ => ?_), ?_, ?_⟩
      · rw [hso] at h'; exact Bool.noConfusion h'
      · exact tab_six T2.out (by omega) _ _ _ _ _ _
      · exact only_six O2.out (Nat.le_refl _) _ _ _ _ _ _
    · rw [hso] at hT
      go_wp2
      refine bodyPost_ret (v := .tuple #[cmdAt s, .int .i64 0]) (by simp [results, Try.results50, go_sem, cmdAt, c0, c1, c2, c3, c4, c5]) rfl ⟨ret_eq (decRes_yes H10.out hso HF.out), ?_, ?_⟩
      · exact tab_six T2.out (by omega) _ _ _ _ _ _
      · exact only_six O2.out (Nat.le_refl _) _ _ _ _ _ _
  · have e1 : encErr (byteAt s 0) (byteAt s 1) (byteAt s 2) (byteAt s 3) (byteAt s 4) (byteAt s 5) = 2 := by simp [encErr, hfa]
    rw [e1]
    have HF : Hid (¬ fairAt s = true) := hfa
    clear e1 hfa hT
    go_wp2
    refine bodyPost_ret (v := .tuple #[zeroCmd, .int .i64 6]) (by simp [results, Try.results50, go_sem, zeroCmd, c0, c1, c2, c3, c4, c5]) rfl ⟨ret_eq (decRes_no fun _ _ h' => HF.out h'), ?_, ?_⟩
    · exact tab_six T2.out (by omega) _ _ _ _ _ _
    · exact only_six O2.out (Nat.le_refl _) _ _ _ _ _ _
end Go.Proofs.Ytbljokilfkodfaa
