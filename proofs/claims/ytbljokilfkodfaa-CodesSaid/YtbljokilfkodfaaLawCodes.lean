/-
  The law Codes, out of the contracts of what it calls.
-/
import Derived.Test.YtbljokilfkodfaaLawSmall
import Derived.Test.YtbljokilfkodfaaSaid
import Derived.Deep.QuietTactic
import Derived.BigQuiet
import Derived.Deep.RegionWith
namespace Go.Proofs.Ytbljokilfkodfaa
open Go.RowKit

set_option maxHeartbeats 1000000 in
theorem codes_walk (hE : EncSaid 23) (hD : DecSaid 26) (hR : DecSaid 27)
    (b off n cap : Nat) (K C I S P Q : Nat → Int) (s : ByteArray) (w : World) (hs : s.size ≤ maxLen) (hb : b < w.heap.size) (hn : n < 1152921504606846976)
    (h0 : ∀ j, j < n → w.cell? ⟨b, off + j * 6, none⟩ = some (.int .i64 (K j)))
    (h1 : ∀ j, j < n → w.cell? ⟨b, off + j * 6 + 1, none⟩ = some (.int .i64 (C j)))
    (h2 : ∀ j, j < n → w.cell? ⟨b, off + j * 6 + 2, none⟩ = some (.int .i64 (I j)))
    (h3 : ∀ j, j < n → w.cell? ⟨b, off + j * 6 + 3, none⟩ = some (.int .i64 (S j)))
    (h4 : ∀ j, j < n → w.cell? ⟨b, off + j * 6 + 4, none⟩ = some (.int .i64 (P j)))
    (h5 : ∀ j, j < n → w.cell? ⟨b, off + j * 6 + 5, none⟩ = some (.int .i64 (Q j))) :
    Calls Try.prog 6 #[.slice (some ⟨b, off, none⟩) n cap, .string s] w fun e w' => e = .returned (.bool true) ∧ Below w.heap.size w w' := by
  go_enter Try.func6, Try.ntmps6
  go_wp2_with fail
  go_loopw [5] (fun i wr => ∃ k : Nat, k ≤ n ∧ i = .int .i64 k ∧ Below w.heap.size w wr) (fun i _ => n - (intOf i).toNat)
  case atStart => exact ⟨0, Nat.zero_le _, rfl, Below.refl _ _⟩
  case round =>
    obtain ⟨k, hk, rfl, hB⟩ := hrel
    obtain ⟨hc, hf⟩ := bcell hB
    by_cases hlt : k < n
    · have cells : ∀ W, Below w.heap.size w W → W.cell? ⟨b, off + k * 6, none⟩ = some (.int .i64 (K k)) ∧ W.cell? ⟨b, off + k * 6 + 1, none⟩ = some (.int .i64 (C k)) ∧ W.cell? ⟨b, off + k * 6 + 2, none⟩ = some (.int .i64 (I k)) ∧ W.cell? ⟨b, off + k * 6 + 3, none⟩ = some (.int .i64 (S k)) ∧ W.cell? ⟨b, off + k * 6 + 4, none⟩ = some (.int .i64 (P k)) ∧ W.cell? ⟨b, off + k * 6 + 5, none⟩ = some (.int .i64 (Q k)) := fun W hW => by
        obtain ⟨hc, _⟩ := bcell hW
        exact ⟨(hc b _ hb).trans (h0 k hlt), (hc b _ hb).trans (h1 k hlt), (hc b _ hb).trans (h2 k hlt), (hc b _ hb).trans (h3 k hlt), (hc b _ hb).trans (h4 k hlt), (hc b _ hb).trans (h5 k hlt)⟩
      have hcells : Hid (∀ W, Below w.heap.size w W → W.cell? ⟨b, off + k * 6, none⟩ = some (.int .i64 (K k)) ∧ W.cell? ⟨b, off + k * 6 + 1, none⟩ = some (.int .i64 (C k)) ∧ W.cell? ⟨b, off + k * 6 + 2, none⟩ = some (.int .i64 (I k)) ∧ W.cell? ⟨b, off + k * 6 + 3, none⟩ = some (.int .i64 (S k)) ∧ W.cell? ⟨b, off + k * 6 + 4, none⟩ = some (.int .i64 (P k)) ∧ W.cell? ⟨b, off + k * 6 + 5, none⟩ = some (.int .i64 (Q k))) := cells
      obtain ⟨c0, c1, c2, c3, c4, c5⟩ := cells wr hB
      clear cells h0 h1 h2 h3 h4 h5 hc hf
      have hlti : (k : Int) < (n : Int) := by omega
      have hbig : (k : Int) < 1152921504606846976 := by omega
      go_wp2_with fail
      refine (command_any _ _ _ _ _ _ _).mono ?_
      rintro e w1 ⟨rfl, b1⟩
      have B1 := bstep hB b1
      go_wp2_with fail
      refine (hE _ _ _ _ _ _ _).mono ?_
      rintro e w2 ⟨rfl, b2⟩
      have B2 := bstep B1 b2
      obtain ⟨d0, d1, d2, d3, d4, d5⟩ := hcells.out w2 B2
      go_wp2_with fail
      refine (command_any _ _ _ _ _ _ _).mono ?_
      rintro e w3 ⟨rfl, b3⟩
      have B3 := bstep B2 b3
      go_wp2_with fail
      refine (plain_any _ _ _ _ _ _ _).mono ?_
      rintro e w4 ⟨rfl, b4⟩
      have B4 := bstep B3 b4
      go_wp2_with fail
      refine (rencode_said _ _ _ _ _ _ _).mono ?_
      rintro e w5 ⟨rfl, b5⟩
      have B5 := bstep B4 b5
      go_wp2_with fail
      refine (num_any _ _).mono ?_
      rintro e w6 ⟨rfl, rfl⟩
      go_wp2_with fail
      exact ⟨⟨k + 1, by omega, by go_num, B5⟩, by simp [intOf]; omega⟩
    · clear h0 h1 h2 h3 h4 h5 hc hf
      go_wp2_with fail
      refine (hD _ _ hs).mono ?_
      rintro e w1 ⟨rfl, b1⟩
      have B1 := bstep hB b1
      go_wp2_with fail
      refine (hR _ _ hs).mono ?_
      rintro e w2 ⟨rfl, b2⟩
      have B2 := bstep B1 (((Below.refl _ _).alloc (Nat.le_refl _) _).trans (b2.mono (by simp)))
      obtain ⟨hc2, hf2⟩ := bcell b2
      have hz2 : w1.heap.size < w2.heap.size := by have := b2.size; simp at this; omega
      go_wp2_with fail
      go_region_with (first | (go_at_call 12; refine (plain_any _ _ _ _ _ _ _).mono ?_; rintro e w3 ⟨rfl, b3⟩; obtain ⟨hc3, hf3⟩ := bcell b3) | (go_at_call 25; refine (num_any _ _).mono ?_; rintro e w4 ⟨rfl, rfl⟩))
      all_goals go_wp2
      all_goals go_simp
      all_goals go_ret
      all_goals go_light
      all_goals exact ⟨rfl, (B2.alloc B2.size _).drew.trans (b3.mono (by have := B2.size; simp; omega))⟩

set_option maxHeartbeats 1000000 in
theorem codes_nil (hD : DecSaid 26) (hR : DecSaid 27) (a : Option Addr) (cap : Nat) (s : ByteArray) (w : World) (hs : s.size ≤ maxLen) :
    Calls Try.prog 6 #[.slice a 0 cap, .string s] w fun e w' => e = .returned (.bool true) ∧ Below w.heap.size w w' := by
  go_enter Try.func6, Try.ntmps6
  go_wp2_with fail
  go_loopw [5] (fun i wr => i = .int .i64 0 ∧ Below w.heap.size w wr) (fun _ _ => 0)
  case atStart => exact ⟨rfl, Below.refl _ _⟩
  case round =>
    obtain ⟨rfl, hB⟩ := hrel
    go_wp2_with fail
    refine (hD _ _ hs).mono ?_
    rintro e w1 ⟨rfl, b1⟩
    have B1 := bstep hB b1
    go_wp2_with fail
    refine (hR _ _ hs).mono ?_
    rintro e w2 ⟨rfl, b2⟩
    have B2 := bstep B1 (((Below.refl _ _).alloc (Nat.le_refl _) _).trans (b2.mono (by simp)))
    obtain ⟨hc2, hf2⟩ := bcell b2
    have hz2 : w1.heap.size < w2.heap.size := by have := b2.size; simp at this; omega
    go_wp2_with fail
    go_region_with (first | (go_at_call 12; refine (plain_any _ _ _ _ _ _ _).mono ?_; rintro e w3 ⟨rfl, b3⟩; obtain ⟨hc3, hf3⟩ := bcell b3) | (go_at_call 25; refine (num_any _ _).mono ?_; rintro e w4 ⟨rfl, rfl⟩))
    all_goals go_wp2
    all_goals go_simp
    all_goals go_ret
    all_goals go_light
    all_goals exact ⟨rfl, (B2.alloc B2.size _).drew.trans (b3.mono (by have := B2.size; simp; omega))⟩
end Go.Proofs.Ytbljokilfkodfaa
