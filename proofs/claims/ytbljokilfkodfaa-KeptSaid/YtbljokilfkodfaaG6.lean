/-
  Lists of events and of levels, held against each other.
-/
import Derived.Test.YtbljokilfkodfaaG5
import Derived.Deep.QuietTactic
import Derived.BigQuiet
import Derived.Deep.RegionWith
import Derived.Test.YtbljokilfkodfaaG3
namespace Go.Proofs.Ytbljokilfkodfaa
open Go.RowKit

set_option maxRecDepth 100000 in
set_option maxHeartbeats 400000 in
theorem event_any (k c i s p q : Int) (w : World) :
    Calls Try.prog 41 #[.agg #[.int .i64 k, .int .i64 c, .int .i64 i, .int .i64 s, .int .i64 p, .int .i64 q]] w fun e w' => e = .returned (.agg #[.int .i64 k, .int .i64 c, .int .i64 i, .int .i64 s, .int .i64 p, .int .i64 q]) ∧ Below w.heap.size w w' := by
  go_enter Try.func41, Try.ntmps41
  go_wp2
  refine bodyPost_ret (v := .agg #[.int .i64 k, .int .i64 c, .int .i64 i, .int .i64 s, .int .i64 p, .int .i64 q]) (by simp [results, Try.results41, go_sem]) rfl ⟨rfl, ?_⟩
  exact ((Below.refl _ _).alloc (Nat.le_refl _) _).alloc (by simp) _

set_option maxRecDepth 100000 in
set_option maxHeartbeats 1000000 in
theorem sameEv_row (Z : Nat → Nat → Int) (g off cap g' off' cap' n : Nat) (w : World) (hn : n ≤ 1000000) (hg : g < w.heap.size) (hg' : g' < w.heap.size)
    (h1 : ∀ j i, j < n → i < 6 → w.cell? ⟨g, off + j * 6 + i, none⟩ = some (.int .i64 (Z j i))) (h2 : ∀ j i, j < n → i < 6 → w.cell? ⟨g', off' + j * 6 + i, none⟩ = some (.int .i64 (Z j i))) :
    Calls Try.prog 13 #[.slice (some ⟨g, off, none⟩) n cap, .slice (some ⟨g', off', none⟩) n cap'] w fun e w' => e = .returned (.bool true) ∧ Below w.heap.size w w' := by
  have H1 : Hid (∀ j i, j < n → i < 6 → w.cell? ⟨g, off + j * 6 + i, none⟩ = some (.int .i64 (Z j i))) := h1
  have H2 : Hid (∀ j i, j < n → i < 6 → w.cell? ⟨g', off' + j * 6 + i, none⟩ = some (.int .i64 (Z j i))) := h2
  clear h1 h2
  go_enter Try.func13, Try.ntmps13
  go_wp2_with fail
  go_loopw [5] (fun i wr => ∃ j : Nat, j ≤ n ∧ i = .int .i64 (j : Int) ∧ Below w.heap.size w wr) (fun i _ => n - (intOf i).toNat)
  case atStart => exact ⟨0, Nat.zero_le _, rfl, Below.refl _ _⟩
  case round =>
    obtain ⟨j, hj, rfl, hB⟩ := hrel
    by_cases hlt : j < n
    · have c : ∀ W, Below w.heap.size w W → ∀ i, i < 6 → W.cell? ⟨g, off + j * 6 + i, none⟩ = some (.int .i64 (Z j i)) := fun W hW i hi => ((bcell hW).1 g _ hg).trans (H1.out j i hlt hi)
      have d : ∀ W, Below w.heap.size w W → ∀ i, i < 6 → W.cell? ⟨g', off' + j * 6 + i, none⟩ = some (.int .i64 (Z j i)) := fun W hW i hi => ((bcell hW).1 g' _ hg').trans (H2.out j i hlt hi)
      have c0 := c wr hB 0 (by omega)
      have c1 := c wr hB 1 (by omega)
      have c2 := c wr hB 2 (by omega)
      have c3 := c wr hB 3 (by omega)
      have c4 := c wr hB 4 (by omega)
      have c5 := c wr hB 5 (by omega)
      have d0 := d wr hB 0 (by omega)
      have d1 := d wr hB 1 (by omega)
      have d2 := d wr hB 2 (by omega)
      have d3 := d wr hB 3 (by omega)
      have d4 := d wr hB 4 (by omega)
      have d5 := d wr hB 5 (by omega)
      rw [Nat.add_zero] at c0 d0
      have D : Hid (∀ W, Below w.heap.size w W → ∀ i, i < 6 → W.cell? ⟨g', off' + j * 6 + i, none⟩ = some (.int .i64 (Z j i))) := d
      clear c d
      have hlti : (j : Int) < (n : Int) := by omega
      go_wp2
      go_region_with (go_at_call 41; refine (event_any _ _ _ _ _ _ _).mono ?_; rintro e w1 ⟨rfl, b1⟩; have B1 := bstep hB (show Below wr.heap.size wr w1 from (⟨b1.os, b1.tape, b1.output, b1.size, b1.block⟩)); have e0 := D.out w1 B1 0 (by omega); have e1 := D.out w1 B1 1 (by omega); have e2 := D.out w1 B1 2 (by omega); have e3 := D.out w1 B1 3 (by omega); have e4 := D.out w1 B1 4 (by omega); have e5 := D.out w1 B1 5 (by omega); rw [Nat.add_zero] at e0)
      all_goals go_wp2
      all_goals exact ⟨⟨j + 1, by omega, by go_num, B1⟩, by simp [intOf]; omega⟩
    · go_wp2
      go_ret
      exact ⟨rfl, hB⟩

set_option maxRecDepth 100000 in
set_option maxHeartbeats 400000 in
theorem sameEv_zero (a a' : Option Addr) (cap cap' : Nat) (w : World) : Calls Try.prog 13 #[.slice a 0 cap, .slice a' 0 cap'] w fun e w' => e = .returned (.bool true) ∧ w' = w := by
  go_enter Try.func13, Try.ntmps13
  go_wp2_with fail
  go_loop [5] (fun i => i = .int .i64 0) (fun _ => 0)
  case atStart => exact rfl
  case round =>
    obtain rfl := hrel
    go_wp2
    go_ret
    exact ⟨rfl, rfl⟩

theorem sameEv_any {Z : Nat → Nat → Int} {v v' : Value} {n base base' : Nat} {N N' : Nat → Prop} {w : World} (hn : n ≤ 1000000) (h1 : IsRow w base N 6 v n Z) (h2 : IsRow w base' N' 6 v' n Z) :
    Calls Try.prog 13 #[v, v'] w fun e w' => e = .returned (.bool true) ∧ Below w.heap.size w w' := by
  obtain ⟨a, cap, rfl, g1⟩ := h1
  obtain ⟨a', cap', rfl, g2⟩ := h2
  rcases Nat.eq_zero_or_pos n with rfl | hp
  · refine (sameEv_zero a a' cap cap' w).mono ?_
    rintro e w' ⟨rfl, rfl⟩
    exact ⟨rfl, Below.refl _ _⟩
  · obtain ⟨g, off, rfl, _, hl, _, hc⟩ := g1 hp
    obtain ⟨g', off', rfl, _, hl', _, hc'⟩ := g2 hp
    exact sameEv_row Z g off cap g' off' cap' n w hn hl hl' (fun j i hj hi => (hc j i hj hi).1) (fun j i hj hi => (hc' j i hj hi).1)

set_option maxRecDepth 100000 in
set_option maxHeartbeats 1000000 in
theorem sameLv_row (Z : Nat → Nat → Int) (g off cap g' off' cap' n : Nat) (w : World) (hn : n ≤ 1000000)
    (h1 : ∀ j i, j < n → i < 3 → w.cell? ⟨g, off + j * 3 + i, none⟩ = some (.int .i64 (Z j i))) (h2 : ∀ j i, j < n → i < 3 → w.cell? ⟨g', off' + j * 3 + i, none⟩ = some (.int .i64 (Z j i))) :
    Calls Try.prog 44 #[.slice (some ⟨g, off, none⟩) n cap, .slice (some ⟨g', off', none⟩) n cap'] w fun e w' => e = .returned (.bool true) ∧ ∃ m, w' = w.drewN m := by
  have H1 : Hid (∀ j i, j < n → i < 3 → w.cell? ⟨g, off + j * 3 + i, none⟩ = some (.int .i64 (Z j i))) := h1
  have H2 : Hid (∀ j i, j < n → i < 3 → w.cell? ⟨g', off' + j * 3 + i, none⟩ = some (.int .i64 (Z j i))) := h2
  clear h1 h2
  go_enter Try.func44, Try.ntmps44
  go_wp2_with fail
  go_loopw [5] (fun i wr => ∃ j : Nat, j ≤ n ∧ i = .int .i64 (j : Int) ∧ ∃ m, wr = w.drewN m) (fun i _ => n - (intOf i).toNat)
  case atStart => exact ⟨0, Nat.zero_le _, rfl, 0, rfl⟩
  case round =>
    obtain ⟨j, hj, rfl, m, rfl⟩ := hrel
    by_cases hlt : j < n
    · have c0 := H1.out j 0 hlt (by omega)
      have c1 := H1.out j 1 hlt (by omega)
      have c2 := H1.out j 2 hlt (by omega)
      have d0 := H2.out j 0 hlt (by omega)
      have d1 := H2.out j 1 hlt (by omega)
      have d2 := H2.out j 2 hlt (by omega)
      rw [Nat.add_zero] at c0 d0
      have hlti : (j : Int) < (n : Int) := by omega
      go_wp2
      go_quiet (fail)
      go_wp2
      exact ⟨⟨j + 1, by omega, by go_num, m + nq, rfl⟩, by simp [intOf]; omega⟩
    · go_wp2
      go_ret
      exact ⟨rfl, m, rfl⟩

set_option maxRecDepth 100000 in
set_option maxHeartbeats 400000 in
theorem sameLv_zero (a a' : Option Addr) (cap cap' : Nat) (w : World) : Calls Try.prog 44 #[.slice a 0 cap, .slice a' 0 cap'] w fun e w' => e = .returned (.bool true) ∧ w' = w := by
  go_enter Try.func44, Try.ntmps44
  go_wp2_with fail
  go_loop [5] (fun i => i = .int .i64 0) (fun _ => 0)
  case atStart => exact rfl
  case round =>
    obtain rfl := hrel
    go_wp2
    go_ret
    exact ⟨rfl, rfl⟩

theorem sameLv_any {Z : Nat → Nat → Int} {v v' : Value} {n base base' : Nat} {N N' : Nat → Prop} {w : World} (hn : n ≤ 1000000) (h1 : IsRow w base N 3 v n Z) (h2 : IsRow w base' N' 3 v' n Z) :
    Calls Try.prog 44 #[v, v'] w fun e w' => e = .returned (.bool true) ∧ ∃ m, w' = w.drewN m := by
  obtain ⟨a, cap, rfl, g1⟩ := h1
  obtain ⟨a', cap', rfl, g2⟩ := h2
  rcases Nat.eq_zero_or_pos n with rfl | hp
  · refine (sameLv_zero a a' cap cap' w).mono ?_
    rintro e w' ⟨rfl, rfl⟩
    exact ⟨rfl, 0, rfl⟩
  · obtain ⟨g, off, rfl, _, hl, _, hc⟩ := g1 hp
    obtain ⟨g', off', rfl, _, hl', _, hc'⟩ := g2 hp
    exact sameLv_row Z g off cap g' off' cap' n w hn (fun j i hj hi => (hc j i hj hi).1) (fun j i hj hi => (hc' j i hj hi).1)
end Go.Proofs.Ytbljokilfkodfaa
/-
  All that can be asked of two books agrees: bourselaw.same, out of what is said of the two.
-/
namespace Go.Proofs.Ytbljokilfkodfaa
open Go.RowKit

theorem bDepthTo_len (L : List Od) (sd : Int) : ∀ n, (bDepthTo L sd n).length ≤ n
  | 0 => Nat.le_refl _
  | n + 1 => by
    have := bDepthTo_len L sd n
    unfold bDepthTo
    split <;> simp <;> omega
theorem bDepth_len (L : List Od) (sd : Int) : (bDepth L sd).length ≤ 99 := bDepthTo_len L sd 99

/-- Two books side by side, since w0, each in blocks of its own. -/
def Two (Rep RepR : World → Value → (Nat → Prop) → List Od → Prop) (w0 : World) (S R : Nat → Prop) (b r : Value) (L : List Od) (w : World) : Prop :=
  ∃ S' R', Rep w b S' L ∧ RepR w r R' L ∧ (∀ k, S' k → ¬ R' k) ∧ Only (fun k => S k ∨ R k) w0 w ∧ (∀ k, S' k → S k ∨ w0.heap.size ≤ k) ∧ (∀ k, R' k → R k ∨ w0.heap.size ≤ k)

section
variable {Rep RepR : World → Value → (Nat → Prop) → List Od → Prop} {fD fP fL gD gP gL : Nat}

theorem two_code (_hC : BookIs Rep fD fP fL) (hR : BookIs RepR gD gP gL) {w0 w w1 : World} {S R S' R' S1 : Nat → Prop} {b r : Value} {L L1 : List Od} (rR : RepR w r R' L) (dis : ∀ k, S' k → ¬ R' k)
    (on : Only (fun k => S k ∨ R k) w0 w) (sS : ∀ k, S' k → S k ∨ w0.heap.size ≤ k) (_sR : ∀ k, R' k → R k ∨ w0.heap.size ≤ k) (_rC1 : Rep w1 b S1 L1) (o1 : Only S' w w1) (s1 : ∀ k, S1 k → S' k ∨ w.heap.size ≤ k) :
    RepR w1 r R' L ∧ (∀ k, S1 k → ¬ R' k) ∧ Only (fun k => S k ∨ R k) w0 w1 ∧ (∀ k, S1 k → S k ∨ w0.heap.size ≤ k) := by
  refine ⟨hR.keep rR o1 fun k h1 h2 => dis k h2 h1, fun k h1 h2 => ?_, on.then o1 (fun i hi h => ?_), fun k h => ?_⟩
  · rcases s1 k h1 with h | h
    · exact dis k h h2
    · have := hR.lt rR k h2; omega
  · rcases sS i h with h | h
    · exact .inl h
    · omega
  · rcases s1 k h with h | h
    · exact sS k h
    · have := on.size; exact .inr (by omega)

theorem two_ref (hC : BookIs Rep fD fP fL) (_hR : BookIs RepR gD gP gL) {w0 w w1 : World} {S R S' R' R1 : Nat → Prop} {b r : Value} {L L1 : List Od} (rC : Rep w b S' L) (dis : ∀ k, S' k → ¬ R' k)
    (on : Only (fun k => S k ∨ R k) w0 w) (sR : ∀ k, R' k → R k ∨ w0.heap.size ≤ k) (_rR1 : RepR w1 r R1 L1) (o1 : Only R' w w1) (s1 : ∀ k, R1 k → R' k ∨ w.heap.size ≤ k) :
    Rep w1 b S' L ∧ (∀ k, S' k → ¬ R1 k) ∧ Only (fun k => S k ∨ R k) w0 w1 ∧ (∀ k, R1 k → R k ∨ w0.heap.size ≤ k) := by
  refine ⟨hC.keep rC o1 fun k h1 h2 => dis k h1 h2, fun k h1 h2 => ?_, on.then o1 (fun i hi h => ?_), fun k h => ?_⟩
  · rcases s1 k h2 with h | h
    · exact dis k h1 h
    · have := hC.lt rC k h1; omega
  · rcases sR i h with h | h
    · exact .inr h
    · omega
  · rcases s1 k h with h | h
    · exact sR k h
    · have := on.size; exact .inr (by omega)

theorem two_below (hC : BookIs Rep fD fP fL) (hR : BookIs RepR gD gP gL) {w0 w w1 : World} {S R : Nat → Prop} {b r : Value} {L : List Od} (h : Two Rep RepR w0 S R b r L w) (o : Below w.heap.size w w1) : Two Rep RepR w0 S R b r L w1 := by
  obtain ⟨S', R', rC, rR, dis, on, sS, sR⟩ := h
  have o' : Only (fun _ => False) w w1 := Only.of_below o
  exact ⟨S', R', hC.keep rC o' (fun _ _ => id), hR.keep rR o' (fun _ _ => id), dis, on.then o' (fun _ _ h => h.elim), sS, sR⟩
end

set_option maxRecDepth 100000 in
set_option maxHeartbeats 1000000 in
theorem same_books {Rep RepR : World → Value → (Nat → Prop) → List Od → Prop} (hC : BookIs Rep 9 42 16) (hR : BookIs RepR 11 43 45)
    {w0 w : World} {S R : Nat → Prop} {a a' : Addr} {L : List Od} (hL : BookOk L) (h : Two Rep RepR w0 S R (.pointer (some a)) (.pointer (some a')) L w) :
    Calls Try.prog 14 #[.pointer (some a), .pointer (some a')] w fun e w' => e = .returned (.bool true) ∧ Two Rep RepR w0 S R (.pointer (some a)) (.pointer (some a')) L w' := by
  go_enter Try.func14, Try.ntmps14
  go_wp2_with fail
  go_loopw [5] (fun i wr => ∃ k : Nat, k ≤ 4 ∧ i = .int .i64 (k : Int) ∧ Two Rep RepR w0 S R (.pointer (some a)) (.pointer (some a')) L wr) (fun i _ => 4 - (intOf i).toNat)
  case atStart => exact ⟨0, Nat.zero_le _, rfl, h⟩
  case round =>
    obtain ⟨k, hk, rfl, hT⟩ := hrel
    by_cases hlt : k < 4
    · have hle : (k : Int) ≤ 3 := by omega
      have HT : Hid (Two Rep RepR w0 S R (.pointer (some a)) (.pointer (some a')) L wr) := hT
      clear hT h
      go_wp2_with fail
      obtain ⟨S1, R1, rC, rR, dis, on, sS, sR⟩ := HT.out
      have ltR := hR.lt rR
      refine (hC.depth (k : Int) rC hL (by omega) (by omega)).mono ?_
      rintro e w1 ⟨lv, S2, rfl, row1, rC2, o1, s1⟩
      obtain ⟨rR2, dis2, on2, sS2⟩ := two_code hC hR rR dis on sS sR rC2 o1 s1
      clear rC rR dis on sS HT
      go_wp2_with fail
      refine (hR.depth (k : Int) rR2 hL (by omega) (by omega)).mono ?_
      rintro e w2 ⟨lv', R2, rfl, row2, rR3, o2, s2⟩
      have row1' := row1.keep o2 (fun j hj h1 h2 => by have := ltR j hj; omega)
      obtain ⟨rC3, dis3, on3, sR3⟩ := two_ref hC hR rC2 dis2 on2 sR rR3 o2 s2
      go_wp2_with fail
      refine (sameLv_any (by have := bDepth_len L k; omega) row1' row2).mono ?_
      rintro e w3 ⟨rfl, m, rfl⟩
      go_wp2
      have T3 : Two Rep RepR w0 S R (.pointer (some a)) (.pointer (some a')) L (w2.drewN m) := two_below hC hR ⟨S2, R2, rC3, rR3, dis3, on3, sS2, sR3⟩ (below_drewN (Below.refl _ _) m)
      exact ⟨⟨k + 1, by omega, by go_num, T3⟩, by simp [intOf]; omega⟩
    · have hgt : ¬ (k : Int) ≤ 3 := by omega
      have hd : decide ((k : Int) ≤ 3) = false := by simp; omega
      clear h
      go_wp2_with fail
      go_loopw [9] (fun i wr => ∃ j : Nat, j ≤ 102 ∧ i = .int .i64 ((j : Int) - 1) ∧ Two Rep RepR w0 S R (.pointer (some a)) (.pointer (some a')) L wr) (fun i _ => 102 - (intOf i + 1).toNat)
      case atStart => exact ⟨0, Nat.zero_le _, rfl, hT⟩
      case round =>
        obtain ⟨j, hj, rfl, hT2⟩ := hrel
        have HT : Hid (Two Rep RepR w0 S R (.pointer (some a)) (.pointer (some a')) L wr) := hT2
        clear hT2 hT
        by_cases hlt2 : j < 102
        · have hle : (j : Int) - 1 ≤ 100 := by omega
          go_wp2_with fail
          obtain ⟨S1, R1, rC, rR, dis, on, sS, sR⟩ := HT.out
          have ltR := hR.lt rR
          refine (hC.left _ rC hL (by omega) (by omega)).mono ?_
          rintro e w1 ⟨S2, rfl, rC2, o1, s1⟩
          obtain ⟨rR2, dis2, on2, sS2⟩ := two_code hC hR rR dis on sS sR rC2 o1 s1
          clear rC rR dis on sS HT
          go_wp2_with fail
          refine (hR.left _ rR2 hL (by omega) (by omega)).mono ?_
          rintro e w2 ⟨R2, rfl, rR3, o2, s2⟩
          obtain ⟨rC3, dis3, on3, sR3⟩ := two_ref hC hR rC2 dis2 on2 sR rR3 o2 s2
          go_wp2_with fail
          refine (num_any _ _).mono ?_
          rintro e w3 ⟨rfl, rfl⟩
          go_wp2
          have T3 : Two Rep RepR w0 S R (.pointer (some a)) (.pointer (some a')) L w3 := ⟨S2, R2, rC3, rR3, dis3, on3, sS2, sR3⟩
          exact ⟨⟨j + 1, by omega, by go_num, T3⟩, by simp [intOf]; omega⟩
        · have hd2 : decide ((j : Int) - 1 ≤ 100) = false := by simp; omega
          go_wp2
          go_ret
          exact ⟨rfl, HT.out⟩
end Go.Proofs.Ytbljokilfkodfaa
/-
  The law Books, out of what is said of the two books.
-/
namespace Go.Proofs.Ytbljokilfkodfaa
open Go.RowKit

def NewSaid (Rep : World → Value → (Nat → Prop) → List Od → Prop) (f : Nat) : Prop := ∀ w : World,
  Calls Try.prog f #[] w fun e w' => ∃ a S, e = .returned (.pointer (some a)) ∧ Rep w' (.pointer (some a)) S [] ∧ Below w.heap.size w w' ∧ (∀ k, S k → w.heap.size ≤ k)
/-- The document's book is made in place. -/
def MadeSaid (Rep : World → Value → (Nat → Prop) → List Od → Prop) : Prop := ∀ w : World,
  Rep (w.alloc (.cells #[.slice none 0 0] 28)) (.pointer (some ⟨w.heap.size, 0, none⟩)) (fun k => k = w.heap.size) []

def stepsTo (K C I S P Q : Nat → Int) : Nat → List Od
  | 0 => []
  | n + 1 => (bDo (stepsTo K C I S P Q n) ⟨K n, C n, I n, S n, P n, Q n⟩).2
theorem stepsTo_ok (K C I S P Q : Nat → Int) : ∀ n, BookOk (stepsTo K C I S P Q n)
  | 0 => BookOk.nil
  | n + 1 => bDo_ok _ (stepsTo_ok K C I S P Q n)

set_option maxRecDepth 100000 in
set_option maxHeartbeats 1000000 in
theorem books_walk {Rep RepR : World → Value → (Nat → Prop) → List Od → Prop} (hC : BookIs Rep 9 42 16) (hR : BookIs RepR 11 43 45)
    (hN : NewSaid Rep 8) (hM : MadeSaid RepR)
    (b off n cap : Nat) (K C I S P Q : Nat → Int) (w : World) (hb : b < w.heap.size) (hn : n < 1152921504606846976)
    (h0 : ∀ j, j < n → w.cell? ⟨b, off + j * 6, none⟩ = some (.int .i64 (K j)))
    (h1 : ∀ j, j < n → w.cell? ⟨b, off + j * 6 + 1, none⟩ = some (.int .i64 (C j)))
    (h2 : ∀ j, j < n → w.cell? ⟨b, off + j * 6 + 2, none⟩ = some (.int .i64 (I j)))
    (h3 : ∀ j, j < n → w.cell? ⟨b, off + j * 6 + 3, none⟩ = some (.int .i64 (S j)))
    (h4 : ∀ j, j < n → w.cell? ⟨b, off + j * 6 + 4, none⟩ = some (.int .i64 (P j)))
    (h5 : ∀ j, j < n → w.cell? ⟨b, off + j * 6 + 5, none⟩ = some (.int .i64 (Q j))) :
    Calls Try.prog 3 #[.slice (some ⟨b, off, none⟩) n cap] w fun e w' => e = .returned (.bool true) ∧ Below w.heap.size w w' := by
  have hall : Hid (∀ j, j < n → ∀ W, Below w.heap.size w W → W.cell? ⟨b, off + j * 6, none⟩ = some (.int .i64 (K j)) ∧ W.cell? ⟨b, off + j * 6 + 1, none⟩ = some (.int .i64 (C j)) ∧ W.cell? ⟨b, off + j * 6 + 2, none⟩ = some (.int .i64 (I j)) ∧ W.cell? ⟨b, off + j * 6 + 3, none⟩ = some (.int .i64 (S j)) ∧ W.cell? ⟨b, off + j * 6 + 4, none⟩ = some (.int .i64 (P j)) ∧ W.cell? ⟨b, off + j * 6 + 5, none⟩ = some (.int .i64 (Q j))) := fun j hj W hW => by
    obtain ⟨hc, _⟩ := bcell hW
    exact ⟨(hc b _ hb).trans (h0 j hj), (hc b _ hb).trans (h1 j hj), (hc b _ hb).trans (h2 j hj), (hc b _ hb).trans (h3 j hj), (hc b _ hb).trans (h4 j hj), (hc b _ hb).trans (h5 j hj)⟩
  clear h0 h1 h2 h3 h4 h5
  go_enter Try.func3, Try.ntmps3
  go_wp2_with fail
  refine (hN _).mono ?_
  rintro e w1 ⟨a, S0, rfl, rC, B1, s0⟩
  have rR := hM w1
  have hz : w.heap.size ≤ w1.heap.size := B1.size
  have BW : Below w.heap.size w (w1.alloc (.cells #[.slice none 0 0] 28)) := B1.alloc hz _
  have rC0 := hC.keep rC (Only.of_below (S := fun _ => False) ((Below.refl _ _).alloc (Nat.le_refl _) (.cells #[.slice none 0 0] 28))) (fun _ _ => id)
  have T0 : Hid (Two Rep RepR (w1.alloc (.cells #[.slice none 0 0] 28)) S0 (fun k => k = w1.heap.size) (.pointer (some a)) (.pointer (some ⟨w1.heap.size, 0, none⟩)) [] (w1.alloc (.cells #[.slice none 0 0] 28))) :=
    ⟨S0, fun k => k = w1.heap.size, rC0, rR, fun k h1 h2 => by have := hC.lt rC k h1; omega, Only.refl _ _, fun _ h => .inl h, fun _ h => .inl h⟩
  have hBo : Hid (∀ W, Only (fun k => S0 k ∨ k = w1.heap.size) (w1.alloc (.cells #[.slice none 0 0] 28)) W → Below w.heap.size w W) := fun W on => by
    refine BW.trans (on.below BW.size fun k hk => ?_)
    rcases hk with hk | hk
    · exact s0 k hk
    · omega
  have hBel : Hid (∀ L W, Two Rep RepR (w1.alloc (.cells #[.slice none 0 0] 28)) S0 (fun k => k = w1.heap.size) (.pointer (some a)) (.pointer (some ⟨w1.heap.size, 0, none⟩)) L W → Below w.heap.size w W) := fun L W h => by
    obtain ⟨_, _, _, _, _, on, _, _⟩ := h
    exact hBo.out W on
  clear rR rC0 rC BW B1
  go_wp2_with fail
  go_loopw [5] (fun i wr => ∃ k : Nat, k ≤ n ∧ i = .int .i64 (k : Int) ∧ Two Rep RepR (w1.alloc (.cells #[.slice none 0 0] 28)) S0 (fun k => k = w1.heap.size) (.pointer (some a)) (.pointer (some ⟨w1.heap.size, 0, none⟩)) (stepsTo K C I S P Q k) wr) (fun i _ => n - (intOf i).toNat)
  case atStart => exact ⟨0, Nat.zero_le _, rfl, T0.out⟩
  case round =>
    obtain ⟨k, hk, rfl, hT⟩ := hrel
    have hok := stepsTo_ok K C I S P Q k
    have HT : Hid (Two Rep RepR (w1.alloc (.cells #[.slice none 0 0] 28)) S0 (fun k => k = w1.heap.size) (.pointer (some a)) (.pointer (some ⟨w1.heap.size, 0, none⟩)) (stepsTo K C I S P Q k) wr) := hT
    clear hT T0
    by_cases hlt : k < n
    · have hlti : (k : Int) < (n : Int) := by omega
      have hbig : (k : Int) < 1152921504606846976 := by omega
      have hB := hBel.out _ _ HT.out
      obtain ⟨c0, c1, c2, c3, c4, c5⟩ := hall.out k hlt wr hB
      go_wp2_with fail
      refine (command_any _ _ _ _ _ _ _).mono ?_
      rintro e w2 ⟨rfl, b2⟩
      have T2 := two_below hC hR HT.out b2
      clear HT c0 c1 c2 c3 c4 c5
      go_wp2_with fail
      obtain ⟨S1, R1, rC, rR, dis, on, sS, sR⟩ := T2
      have ltR := hR.lt rR
      refine (hC.does ⟨K k, C k, I k, S k, P k, Q k⟩ rC hok).mono ?_
      rintro e w3 ⟨ev, S2, rfl, row1, rC2, o1, s1⟩
      obtain ⟨rR2, dis2, on2, sS2⟩ := two_code hC hR rR dis on sS sR rC2 o1 s1
      have B3 : Below w.heap.size w w3 := hBo.out _ on2
      obtain ⟨d0, d1, d2, d3, d4, d5⟩ := hall.out k hlt w3 B3
      clear rC rR dis on sS
      go_wp2_with fail
      refine (command_any _ _ _ _ _ _ _).mono ?_
      rintro e w4 ⟨rfl, b4⟩
      clear d0 d1 d2 d3 d4 d5
      go_wp2_with fail
      refine (plain_any _ _ _ _ _ _ _).mono ?_
      rintro e w5 ⟨rfl, b5⟩
      have b45 : Below w3.heap.size w3 w5 := bstep b4 b5
      have rC3 := hC.keep rC2 (Only.of_below (S := fun _ => False) b45) (fun _ _ => id)
      have rR3 := hR.keep rR2 (Only.of_below (S := fun _ => False) b45) (fun _ _ => id)
      have on3 := on2.then (Only.of_below (S := fun _ => False) b45) (fun _ _ h => h.elim)
      have row2 := row1.keepB b45
      go_wp2_with fail
      refine (hR.does ⟨K k, C k, I k, S k, P k, Q k⟩ rR3 hok).mono ?_
      rintro e w6 ⟨ev', R2, rfl, row3, rR4, o2, s2⟩
      have row4 := row2.keep o2 (fun j hj h1 h2 => by have := ltR j hj; omega)
      obtain ⟨rC4, dis4, on4, sR4⟩ := two_ref hC hR rC3 dis2 on3 sR rR4 o2 s2
      clear row1 row2 rC2 rC3 rR2 rR3 on2 on3 o1 o2
      go_wp2_with fail
      refine (sameEv_any (by have := bDo_len ⟨K k, C k, I k, S k, P k, Q k⟩ hok; omega) row4 row3).mono ?_
      rintro e w7 ⟨rfl, b7⟩
      have T7 : Two Rep RepR (w1.alloc (.cells #[.slice none 0 0] 28)) S0 (fun k => k = w1.heap.size) (.pointer (some a)) (.pointer (some ⟨w1.heap.size, 0, none⟩)) (stepsTo K C I S P Q (k + 1)) w7 := two_below hC hR ⟨S2, R2, rC4, rR4, dis4, on4, sS2, sR4⟩ b7
      clear row3 row4 rC4 rR4 on4
      go_wp2_with fail
      refine (same_books hC hR (stepsTo_ok K C I S P Q (k + 1)) T7).mono ?_
      rintro e w8 ⟨rfl, T8⟩
      go_wp2
      exact ⟨⟨k + 1, by omega, by go_num, T8⟩, by simp [intOf]; omega⟩
    · go_wp2_with fail
      refine (same_books hC hR hok HT.out).mono ?_
      rintro e w8 ⟨rfl, T8⟩
      go_wp2
      go_ret
      exact ⟨rfl, hBel.out _ _ T8⟩

set_option maxRecDepth 100000 in
set_option maxHeartbeats 1000000 in
theorem books_nil {Rep RepR : World → Value → (Nat → Prop) → List Od → Prop} (hC : BookIs Rep 9 42 16) (hR : BookIs RepR 11 43 45)
    (hN : NewSaid Rep 8) (hM : MadeSaid RepR) (ad : Option Addr) (cap : Nat) (w : World) :
    Calls Try.prog 3 #[.slice ad 0 cap] w fun e w' => e = .returned (.bool true) ∧ Below w.heap.size w w' := by
  go_enter Try.func3, Try.ntmps3
  go_wp2_with fail
  refine (hN _).mono ?_
  rintro e w1 ⟨a, S0, rfl, rC, B1, s0⟩
  have rR := hM w1
  have hz : w.heap.size ≤ w1.heap.size := B1.size
  have BW : Below w.heap.size w (w1.alloc (.cells #[.slice none 0 0] 28)) := B1.alloc hz _
  have rC0 := hC.keep rC (Only.of_below (S := fun _ => False) ((Below.refl _ _).alloc (Nat.le_refl _) (.cells #[.slice none 0 0] 28))) (fun _ _ => id)
  have T0 : Two Rep RepR (w1.alloc (.cells #[.slice none 0 0] 28)) S0 (fun k => k = w1.heap.size) (.pointer (some a)) (.pointer (some ⟨w1.heap.size, 0, none⟩)) [] (w1.alloc (.cells #[.slice none 0 0] 28)) :=
    ⟨S0, fun k => k = w1.heap.size, rC0, rR, fun k h1 h2 => by have := hC.lt rC k h1; omega, Only.refl _ _, fun _ h => .inl h, fun _ h => .inl h⟩
  have HT : Hid (Two Rep RepR (w1.alloc (.cells #[.slice none 0 0] 28)) S0 (fun k => k = w1.heap.size) (.pointer (some a)) (.pointer (some ⟨w1.heap.size, 0, none⟩)) [] (w1.alloc (.cells #[.slice none 0 0] 28))) := T0
  clear rR rC0 rC T0
  go_wp2_with fail
  go_loopw [5] (fun i wr => i = .int .i64 0 ∧ wr = w1.alloc (.cells #[.slice none 0 0] 28)) (fun _ _ => 0)
  case atStart => exact ⟨rfl, rfl⟩
  case round =>
    obtain ⟨rfl, rfl⟩ := hrel
    go_wp2_with fail
    refine (same_books hC hR BookOk.nil HT.out).mono ?_
    rintro e w8 ⟨rfl, T8⟩
    go_wp2
    go_ret
    obtain ⟨_, _, _, _, _, on, _, _⟩ := T8
    refine ⟨rfl, BW.trans (on.below BW.size fun k hk => ?_)⟩
    rcases hk with hk | hk
    · exact s0 k hk
    · omega
end Go.Proofs.Ytbljokilfkodfaa
/-
  The document's examples, played: bourselaw.alive.
-/
namespace Go.Proofs.Ytbljokilfkodfaa
open Go.RowKit

def ex1 : Cm := ⟨1, 0, 1, 2, 10, 5⟩
def ex2 : Cm := ⟨3, 1, 2, 1, 11, 3⟩
theorem ex1_book : (bDo [] ex1).2 = [⟨0, 1, 2, 10, 5⟩] := by rfl
theorem ex2_events : (bDo [⟨0, 1, 2, 10, 5⟩] ex2).1 = [⟨1, 1, 2, 0, 0, 0⟩, ⟨3, 1, 2, 1, 10, 3⟩, ⟨3, 0, 1, 2, 10, 3⟩, ⟨4, 1, 2, 0, 0, 0⟩] := by rfl
theorem ex2_book : (bDo [⟨0, 1, 2, 10, 5⟩] ex2).2 = [⟨0, 1, 2, 10, 2⟩] := by rfl
theorem ex_left : bLeft [⟨0, 1, 2, 10, 2⟩] 1 = (2, 0) := by rfl

set_option maxRecDepth 100000 in
set_option maxHeartbeats 1000000 in
theorem alive_any {Rep : World → Value → (Nat → Prop) → List Od → Prop} (hC : BookIs Rep 9 42 16) (hN : NewSaid Rep 8) (w : World) :
    Calls Try.prog 22 #[] w fun e w' => e = .returned (.bool true) ∧ Below w.heap.size w w' := by
  have ok1 : BookOk [⟨0, 1, 2, 10, 5⟩] := by rw [← ex1_book]; exact bDo_ok _ BookOk.nil
  have ok2 : BookOk [⟨0, 1, 2, 10, 2⟩] := by rw [← ex2_book]; exact bDo_ok _ ok1
  go_enter Try.func22, Try.ntmps22
  go_wp2_with fail
  refine (hN _).mono ?_
  rintro e w1 ⟨a, S0, rfl, rC, B1, s0⟩
  go_wp2_with fail
  refine (hC.does ex1 rC BookOk.nil).mono ?_
  rintro e w2 ⟨ev1, S1, rfl, _, rC1, o1, t1⟩
  rw [ex1_book] at rC1
  have s1 : ∀ k, S1 k → w.heap.size ≤ k := fun k hk => (t1 k hk).elim (s0 k) (fun h => Nat.le_trans B1.size h)
  have B2 : Below w.heap.size w w2 := B1.trans (o1.below B1.size s0)
  clear rC o1 t1
  go_wp2_with fail
  refine (hC.does ex2 rC1 ok1).mono ?_
  rintro e w3 ⟨ev2, S2, rfl, row, rC2, o2, t2⟩
  rw [ex2_book] at rC2
  rw [ex2_events] at row
  have s2 : ∀ k, S2 k → w.heap.size ≤ k := fun k hk => (t2 k hk).elim (s1 k) (fun h => Nat.le_trans B2.size h)
  have B3 : Below w.heap.size w w3 := B2.trans (o2.below B2.size s1)
  clear rC1 o2 t2
  go_wp2_with fail
  refine (hC.left 1 rC2 ok2 (by omega) (by omega)).mono ?_
  rintro e w4 ⟨S3, rfl, rC3, o3, t3⟩
  have row4 := row.keep o3 (fun k hk _ _ => hk)
  have B4 : Below w.heap.size w w4 := B3.trans (o3.below B3.size s2)
  rw [ex_left]
  obtain ⟨a2, cap2, hv, hg⟩ := row4
  obtain ⟨g, off, ha, _, _, _, hc⟩ := hg (by decide)
  have c0 := (hc 1 0 (by decide) (by decide)).1
  have c1 := (hc 1 1 (by decide) (by decide)).1
  have c2 := (hc 1 2 (by decide) (by decide)).1
  have c3 := (hc 1 3 (by decide) (by decide)).1
  have c4 := (hc 1 4 (by decide) (by decide)).1
  have c5 := (hc 1 5 (by decide) (by decide)).1
  simp [evZ] at c0 c1 c2 c3 c4 c5
  rw [hv, ha]
  clear hc hg row rC2 rC3 o3 t3
  go_wp2_with fail
  refine (num_any _ _).mono ?_
  rintro e w5 ⟨rfl, rfl⟩
  go_wp2
  go_ret
  go_light
  exact ⟨rfl, B4⟩
end Go.Proofs.Ytbljokilfkodfaa
