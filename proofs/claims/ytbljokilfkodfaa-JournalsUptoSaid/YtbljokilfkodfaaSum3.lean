/-
  The Once over the table: doSlow, Do; a sum.
-/
import Derived.Test.YtbljokilfkodfaaSum2
namespace Go.Proofs.Ytbljokilfkodfaa
open Go.RowKit

theorem hnot : ∀ (x : Bool) (w : World), (Op.unary .not (.bool x)).run Try.prog w = .ok (.bool (!x)) w := fun _ _ => rfl
theorem hmf : ∀ (fn : Fn) (first cap : Array Value) (w : World), (Instr.makeFunc fn first cap).run Try.prog w = .ok (.func fn first cap) w := fun _ _ _ _ => rfl

theorem load_any (a : Addr) (d : Int) (w : World) (h : w.cell? a = some (.int .u32 d)) :
    Calls Try.prog 107 #[.pointer (some a)] w fun e w' => e = .returned (.bool (d != 0)) ∧ w' = w := by
  have hl := run_call_load (P := Try.prog) Try.func121 (by kernel_rfl) (by kernel_rfl) (by kernel_rfl) .u32 (by kernel_rfl) h
  go_enter Try.func107, Try.ntmps107
  go_wp2
  go_ret
  exact ⟨rfl, rfl⟩

set_option maxRecDepth 100000 in
set_option maxHeartbeats 1600000 in
theorem slow_any (b : Nat) (W : Nat → Nat) (w : World) (h : TabIs w b 0 0 W) :
    Calls Try.prog 108 #[.pointer (some ⟨b, 0, none⟩), .func (.func 87) #[.pointer (some ⟨b, 0, none⟩)] #[]] w fun e w' => e = .returned (.tuple #[]) ∧ TabIs w' b 1 0 tabW ∧ Only (fun k => k = b) w w' := by
  have t1 := h.setState 1
  have o1 := only_set w b 1 (.int .i32 1)
  have hn := hnot
  have H1 : Hid (TabIs (w.setCell ⟨b, 1, none⟩ (.int .i32 1)) b 0 1 W) := t1
  have hs := h.state
  have hz := h.soft 1
  clear t1 h
  go_enter_defers Try.func108, Try.ntmps108
  go_wp2_with (go_at_call 122; refine (lock_free ⟨b, 1, none⟩ _ hs hz).mono ?_; rintro e w' ⟨rfl, rfl⟩)
  refine (load_any _ 0 _ H1.out.done).mono ?_
  rintro e w' ⟨rfl, rfl⟩
  go_wp2_with fail
  refine (fill_any b 0 1 W _ H1.out).mono ?_
  rintro e w2 ⟨rfl, t2, o2⟩
  have t3 := t2.drew.setDone 1
  have t4 := t3.setState 0
  go_wp2
  refine leaves_cons (f := 124) (args := #[.pointer (some ⟨b, 0, none⟩), .bool true]) (by simp) (by simp [go_sem]) ?_
  refine (store_deferred ⟨b, 0, none⟩ (.int .u32 0) .returning _ t2.done (t2.soft 0)).mono ?_
  rintro e u' w'' ⟨rfl, rfl, rfl⟩
  refine leaves_cons (f := 123) (args := #[.pointer (some ⟨b, 1, none⟩)]) (by simp [settle]) (by simp [go_sem]) ?_
  refine (unlock_deferred ⟨b, 1, none⟩ _ _ t3.state (t3.soft 1)).mono ?_
  rintro e u' w'' ⟨rfl, rfl, rfl⟩
  simp only [Leaves, settle, results, Try.results108]
  refine ⟨.tuple #[], by simp [go_sem], rfl, t4, ((o1.trans o2).drewN 1).trans ((only_set _ _ _ _).trans (only_set _ _ _ _))⟩
/-- The table, filled or not yet. -/
def Tab (w : World) (b : Nat) : Prop := (∃ W, TabIs w b 0 0 W) ∨ TabIs w b 1 0 tabW
theorem Tab.keep {w w' : World} {b : Nat} {T : Nat → Prop} (h : Tab w b) (o : Only T w w') (hT : ¬ T b) : Tab w' b := by
  rcases h with ⟨W, h⟩ | h
  · exact .inl ⟨W, h.keep o hT⟩
  · exact .inr (h.keep o hT)

set_option maxRecDepth 100000 in
set_option maxHeartbeats 1600000 in
theorem once_any (b : Nat) (w : World) (h : Tab w b) :
    Calls Try.prog 86 #[.pointer (some ⟨b, 0, none⟩), .func (.func 87) #[.pointer (some ⟨b, 0, none⟩)] #[]] w fun e w' => e = .returned (.tuple #[]) ∧ TabIs w' b 1 0 tabW ∧ Only (fun k => k = b) w w' := by
  rcases h with ⟨W, h⟩ | h
  · have H : Hid (TabIs w b 0 0 W) := h
    have hn := hnot
    clear h
    go_enter Try.func86, Try.ntmps86
    go_wp2_with fail
    refine (load_any _ 0 _ H.out.done).mono ?_
    rintro e w' ⟨rfl, rfl⟩
    go_wp2_with fail
    refine (slow_any b W _ H.out).mono ?_
    rintro e w' ⟨rfl, t, o⟩
    go_wp2
    go_end0
    exact ⟨rfl, t, o⟩
  · have H : Hid (TabIs w b 1 0 tabW) := h
    have hn := hnot
    clear h
    go_enter Try.func86, Try.ntmps86
    go_wp2_with fail
    refine (load_any _ 1 _ H.out.done).mono ?_
    rintro e w' ⟨rfl, rfl⟩
    go_wp2
    go_end0
    exact ⟨rfl, H.out, Only.refl _ _⟩

theorem nib_xor (n : Nat) (hn : n < 4294967296) : bits .xor .u32 ((n : Int) / 16) (tabW (n % 16) : Int) = ((n / 16 ^^^ tabW (n % 16) : Nat) : Int) :=
  u32_xor_nat (n / 16) (tabW (n % 16)) (by omega) (tabW_lt _ (by omega))
theorem xor_lt32 {a b : Nat} (ha : a < 4294967296) (hb : b < 4294967296) : a ^^^ b < 4294967296 := by
  have : a ^^^ b < 2 ^ 32 := Nat.xor_lt_two_pow (by omega) (by omega)
  omega

set_option maxRecDepth 100000 in
set_option maxHeartbeats 1600000 in
theorem sum_tab (b : Nat) (s : ByteArray) (w : World) (h : Tab w b) (hs : s.size ≤ maxLen) :
    Calls Try.prog 68 #[.pointer (some ⟨b, 0, none⟩), .string s] w fun e w' => e = .returned (.int .u32 (pCrc s.data.toList)) ∧ TabIs w' b 1 0 tabW ∧ Only (fun k => k = b) w w' := by
  unfold maxLen at hs
  have H : Hid (Tab w b) := h
  have hm := hmf
  clear h
  go_enter Try.func68, Try.ntmps68
  go_wp2_with fail
  refine (once_any b _ H.out).mono ?_
  rintro e w1 ⟨rfl, t1, o1⟩
  have T1 : Hid (TabIs w1 b 1 0 tabW) := t1
  clear t1 H
  go_wp2_with fail
  go_loop [5, 15] (fun c i => ∃ k : Nat, k ≤ s.size ∧ i = .int .i64 k ∧ c = .int .u32 (pCrcTo (s.data.toList.take k))) (fun _ i => s.size - (intOf i).toNat)
  case atStart => exact ⟨0, Nat.zero_le _, rfl, rfl⟩
  case round =>
    obtain ⟨k, hk, rfl, rfl⟩ := hrel
    by_cases hlt : k < s.size
    · have hc := pCrcTo_lt (s.data.toList.take k)
      have hb := s[k].toNat_lt
      obtain ⟨n1, hn1⟩ : ∃ n1, n1 = pCrcTo (s.data.toList.take k) ^^^ s[k].toNat := ⟨_, rfl⟩
      have l1 : n1 < 4294967296 := by rw [hn1]; exact xor_lt32 hc (by omega)
      have e1 : bits .xor .u32 (pCrcTo (s.data.toList.take k) : Int) (s[k].toNat : Int) = (n1 : Int) := by rw [hn1]; exact xor_in _ _ hc hb
      have e2 := and_15 n1 l1
      obtain ⟨m1, hm1⟩ : ∃ m, m = n1 % 16 := ⟨_, rfl⟩
      have lm1 : m1 < 16 := by omega
      obtain ⟨n2, hn2⟩ : ∃ n, n = n1 / 16 ^^^ tabW m1 := ⟨_, rfl⟩
      have l2 : n2 < 4294967296 := by rw [hn2]; exact xor_lt32 (by omega) (tabW_lt _ lm1)
      have e3 : bits .xor .u32 ((n1 : Int) / 16) (tabW m1 : Int) = (n2 : Int) := by rw [hn2, hm1]; exact nib_xor n1 l1
      have e4 := and_15 n2 l2
      obtain ⟨m2, hm2⟩ : ∃ m, m = n2 % 16 := ⟨_, rfl⟩
      have lm2 : m2 < 16 := by omega
      obtain ⟨n3, hn3⟩ : ∃ n, n = n2 / 16 ^^^ tabW m2 := ⟨_, rfl⟩
      have e5 : bits .xor .u32 ((n2 : Int) / 16) (tabW m2 : Int) = (n3 : Int) := by rw [hn3, hm2]; exact nib_xor n2 l2
      have hsn : Hid (n3 = pCrcTo (s.data.toList.take (k + 1))) := by
        rw [take_snoc s k hlt, pCrcTo_snoc, pByte_nib]
        show n3 = _
        simp only
        rw [← hn1, hn3, hm2, hn2, hm1]
        rfl
      rw [← hm1] at e2
      rw [← hm2] at e4
      have c1 := T1.out.words m1 lm1
      have c2 := T1.out.words m2 lm2
      clear hn1 hm1 hn2 hm2 hn3
      have i1 : (m1 : Int) < 16 := by omega
      have i2 : (m2 : Int) < 16 := by omega
      have j1 : (n1 : Int) < 4294967296 := by omega
      have j2 : (n2 : Int) < 4294967296 := by omega
      go_wp2_with fail
      exact ⟨⟨k + 1, by omega, by go_num, by rw [hsn.out]⟩, by simp [intOf]; omega⟩
    · go_wp2
      go_ret
      refine ⟨ret_int ?_, T1.out, o1⟩
      rw [last_not _ (pCrcTo_lt _), List.take_of_length_le (by simp; omega)]
      rfl
end Go.Proofs.Ytbljokilfkodfaa
