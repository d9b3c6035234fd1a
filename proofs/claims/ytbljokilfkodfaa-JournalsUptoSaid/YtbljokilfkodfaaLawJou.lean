/-
  Lists of commands: as the document's, and held against each other; the law Journals out of the contracts of what it calls.
-/
import Derived.Test.YtbljokilfkodfaaJDefs
import Derived.Test.YtbljokilfkodfaaLawSmall
import Derived.Test.YtbljokilfkodfaaRefRep
import Derived.Deep.QuietTactic
import Derived.BigQuiet
namespace Go.Proofs.Ytbljokilfkodfaa
open Go.RowKit

set_option maxHeartbeats 1000000 in
theorem plains_row (Z : Nat → Nat → Int) (g k cap base : Nat) (w : World) (hb : g < w.heap.size) (hk : k ≤ 2097152) (hown : w.ownsRow base 32 6 (.slice (some ⟨g, 0, none⟩) k cap) k (rows Z k)) :
    Calls Try.prog 31 #[.slice (some ⟨g, 0, none⟩) k cap] w fun e w' => ∃ v, e = .returned v ∧ w'.ownsRow w.heap.size 37 6 v k (rows Z k) ∧ Below w.heap.size w w' := by
  obtain ⟨i0, hi, hz0, hz1, hz2⟩ := info_parts infoRC
  have cell := fun j i hj hi => owned_cell hown j i hj hi
  have hcell : Hid (∀ j i, j < k → i < 6 → w.cell? ⟨g, j * 6 + i, none⟩ = some (.int .i64 (Z j i))) := cell
  clear cell hown
  go_enter Try.func31, Try.ntmps31
  go_wp2_with fail
  go_loopw [3, 4] (fun v i wr => ∃ j : Nat, j ≤ k ∧ i = .int .i64 (j : Int) ∧ wr.ownsRow w.heap.size 37 6 v j (rows Z j) ∧ Below w.heap.size w wr) (fun _ i _ => k - (intOf i).toNat)
  case atStart => exact ⟨0, Nat.zero_le _, rfl, World.ownsRow_nil _ _ _ _, Below.refl _ _⟩
  case round =>
    obtain ⟨j, hj, rfl, ho, hB⟩ := hrel
    by_cases hlt : j < k
    · have hc : ∀ i, i < 6 → wr.cell? ⟨g, j * 6 + i, none⟩ = some (.int .i64 (Z j i)) := fun i hi => ((bcell hB).1 g _ hb).trans (hcell.out j i hlt hi)
      have c0 := hc 0 (by omega)
      have c1 := hc 1 (by omega)
      have c2 := hc 2 (by omega)
      have c3 := hc 3 (by omega)
      have c4 := hc 4 (by omega)
      have c5 := hc 5 (by omega)
      rw [Nat.add_zero] at c0
      clear hc
      have hlti : (j : Int) < (k : Int) := by omega
      go_wp2_with fail
      refine (plain_any _ _ _ _ _ _ _).mono ?_
      rintro e w1 ⟨rfl, b1⟩
      have B1 := bstep hB b1
      have O1 := ownsRow_below ho b1
      clear ho
      go_wp2_with (at_builtin; refine wpList_append_own _ rfl _ _ 71 rfl w.heap.size 37 i0 _ 6 48 Try.underlying71 hi hz0 hz1 hz2 rfl (by decide) _ _ _ rfl (O1.alloc _) ⟨w1.heap.size, 0, none⟩ 1 1 (rowZ Z j) rfl rfl ?c1 ?c2 ?c3 ?c4 ?c5 ?_)
      case c1 => exact new6 _ _ rfl _ _ _ _ _ _ _
      case c2 => exact one6 _ _ _ _ _ _
      case c3 => unfold maxLen; omega
      case c4 => omega
      case c5 => have := B1.size; simp; omega
      · intro v' w2 hown' hgrow _
        have R := hown'
        rw [← rows_succ] at R
        have B2 : Below w.heap.size w w2 := (B1.alloc B1.size _).grown hgrow (by have := B1.size; simp; omega) (fun g hg => (O1.lt g hg).1)
        clear hown' hgrow O1
        go_wp2
        go_roundw
        case rel => exact ⟨j + 1, by omega, by go_num, R, B2⟩
        case measure => simp [intOf]; omega
    · go_wp2
      go_ret
      have e : j = k := by omega
      subst e
      exact ⟨_, rfl, ho, hB⟩

set_option maxHeartbeats 1000000 in
theorem plains_nil (w : World) : Calls Try.prog 31 #[.slice none 0 0] w fun e w' => e = .returned (.slice none 0 0) ∧ w' = w := by
  go_enter Try.func31, Try.ntmps31
  go_wp2_with fail
  go_loop [3, 4] (fun v i => v = .slice none 0 0 ∧ i = .int .i64 0) (fun _ _ => 0)
  case atStart => exact ⟨rfl, rfl⟩
  case round =>
    obtain ⟨rfl, rfl⟩ := hrel
    go_wp2
    go_ret
    exact ⟨rfl, rfl⟩

theorem plains_any (Z : Nat → Nat → Int) (k base : Nat) (v : Value) (w : World) (hk : k ≤ 2097152) (hown : w.ownsRow base 32 6 v k (rows Z k)) :
    Calls Try.prog 31 #[v] w fun e w' => ∃ v, e = .returned v ∧ w'.ownsRow w.heap.size 37 6 v k (rows Z k) ∧ Below w.heap.size w w' := by
  have hlt := hown.lt
  have h' := hown
  obtain ⟨_, h2⟩ := h'
  rcases h2 with ⟨rfl, rfl⟩ | ⟨g, cap, cur, rfl, _⟩
  · refine (plains_nil w).mono ?_
    rintro e w' ⟨rfl, rfl⟩
    exact ⟨_, rfl, World.ownsRow_nil _ _ _ _, Below.refl _ _⟩
  · exact plains_row Z g k cap base w (hlt g rfl).2 hk hown

set_option maxHeartbeats 1000000 in
theorem same_row (Z : Nat → Nat → Int) (g g' k cap cap' : Nat) (w : World) (h1 : ∀ j i, j < k → i < 6 → w.cell? ⟨g, j * 6 + i, none⟩ = some (.int .i64 (Z j i))) (h2 : ∀ j i, j < k → i < 6 → w.cell? ⟨g', j * 6 + i, none⟩ = some (.int .i64 (Z j i))) (hk : k ≤ 2097152) :
    Calls Try.prog 30 #[.slice (some ⟨g, 0, none⟩) k cap, .slice (some ⟨g', 0, none⟩) k cap'] w fun e w' => e = .returned (.bool true) ∧ ∃ n, w' = w.drewN n := by
  have H1 : Hid (∀ j i, j < k → i < 6 → w.cell? ⟨g, j * 6 + i, none⟩ = some (.int .i64 (Z j i))) := h1
  have H2 : Hid (∀ j i, j < k → i < 6 → w.cell? ⟨g', j * 6 + i, none⟩ = some (.int .i64 (Z j i))) := h2
  clear h1 h2
  go_enter Try.func30, Try.ntmps30
  go_wp2_with fail
  go_loopw [5] (fun i wr => ∃ j : Nat, j ≤ k ∧ i = .int .i64 (j : Int) ∧ ∃ n, wr = w.drewN n) (fun i _ => k - (intOf i).toNat)
  case atStart => exact ⟨0, Nat.zero_le _, rfl, 0, rfl⟩
  case round =>
    obtain ⟨j, hj, rfl, n, rfl⟩ := hrel
    by_cases hlt : j < k
    · have c0 := H1.out j 0 hlt (by omega)
      have c1 := H1.out j 1 hlt (by omega)
      have c2 := H1.out j 2 hlt (by omega)
      have c3 := H1.out j 3 hlt (by omega)
      have c4 := H1.out j 4 hlt (by omega)
      have c5 := H1.out j 5 hlt (by omega)
      have d0 := H2.out j 0 hlt (by omega)
      have d1 := H2.out j 1 hlt (by omega)
      have d2 := H2.out j 2 hlt (by omega)
      have d3 := H2.out j 3 hlt (by omega)
      have d4 := H2.out j 4 hlt (by omega)
      have d5 := H2.out j 5 hlt (by omega)
      rw [Nat.add_zero] at c0 d0
      have hlti : (j : Int) < (k : Int) := by omega
      go_wp2
      go_quiet (fail)
      go_wp2
      exact ⟨⟨j + 1, by omega, by go_num, n + nq, rfl⟩, by simp [intOf]; omega⟩
    · go_wp2
      go_ret
      exact ⟨rfl, n, rfl⟩

set_option maxHeartbeats 1000000 in
theorem same_nil (w : World) : Calls Try.prog 30 #[.slice none 0 0, .slice none 0 0] w fun e w' => e = .returned (.bool true) ∧ w' = w := by
  go_enter Try.func30, Try.ntmps30
  go_wp2_with fail
  go_loop [5] (fun i => i = .int .i64 0) (fun _ => 0)
  case atStart => exact rfl
  case round =>
    obtain rfl := hrel
    go_wp2
    go_ret
    exact ⟨rfl, rfl⟩

set_option maxHeartbeats 1000000 in
theorem same_zero (a a' : Option Addr) (cap cap' : Nat) (w : World) : Calls Try.prog 30 #[.slice a 0 cap, .slice a' 0 cap'] w fun e w' => e = .returned (.bool true) ∧ w' = w := by
  go_enter Try.func30, Try.ntmps30
  go_wp2_with fail
  go_loop [5] (fun i => i = .int .i64 0) (fun _ => 0)
  case atStart => exact rfl
  case round =>
    obtain rfl := hrel
    go_wp2
    go_ret
    exact ⟨rfl, rfl⟩

theorem same_any (Z : Nat → Nat → Int) (k base base' : Nat) (e e' : TypeId) (v v' : Value) (w : World) (hk : k ≤ 2097152) (h1 : w.ownsRow base e 6 v k (rows Z k)) (h2 : w.ownsRow base' e' 6 v' k (rows Z k)) :
    Calls Try.prog 30 #[v, v'] w fun e w' => e = .returned (.bool true) ∧ ∃ n, w' = w.drewN n := by
  have g1 := h1
  have g2 := h2
  obtain ⟨_, r1⟩ := g1
  obtain ⟨_, r2⟩ := g2
  rcases r1 with ⟨rfl, rfl⟩ | ⟨g, cap, cur, rfl, _⟩
  · have ex : ∃ a c, v' = .slice a 0 c := by
      rcases r2 with ⟨rfl, _⟩ | ⟨g, cap, cur, rfl, _⟩
      · exact ⟨_, _, rfl⟩
      · exact ⟨_, _, rfl⟩
    obtain ⟨a, c, rfl⟩ := ex
    refine (same_zero none a 0 c w).mono ?_
    rintro e w' ⟨rfl, rfl⟩
    exact ⟨rfl, 0, rfl⟩
  · rcases r2 with ⟨rfl, rfl⟩ | ⟨g', cap', cur', rfl, _⟩
    · refine (same_zero _ none cap 0 w).mono ?_
      rintro e w' ⟨rfl, rfl⟩
      exact ⟨rfl, 0, rfl⟩
    · exact same_row Z g g' k cap cap' w (fun j i hj hi => owned_cell h1 j i hj hi) (fun j i hj hi => owned_cell h2 j i hj hi) hk

set_option maxHeartbeats 1000000 in
theorem journals_walk (hR : ReplaySaid 28 32) (s : ByteArray) (w : World) (hs : s.size ≤ 16777216) :
    Calls Try.prog 7 #[.string s] w fun e w' => e = .returned (.bool true) ∧ Below w.heap.size w w' := by
  go_enter Try.func7, Try.ntmps7
  go_wp2_with fail
  refine (hR s _ hs).mono ?_
  rintro e w1 ⟨v, k, rfl, ok1, no1, own1, B1⟩
  go_wp2_with fail
  refine (rreplay_said s _ hs).mono ?_
  rintro e w2 ⟨v', k', rfl, ok2, no2, own2, b2⟩
  obtain rfl := ok_unique ok1 no1 ok2 no2
  have hk : k ≤ 2097152 := by
    rcases Nat.eq_zero_or_pos k with h | h
    · omega
    · have := ok1 (k - 1) (by omega)
      unfold okF at this
      simp at this
      omega
  clear ok1 no1 ok2 no2
  have own1' := ownsRow_below own1 b2
  have B2 := bstep B1 b2
  clear own1
  go_wp2_with fail
  refine (plains_any (decZ s) k _ v _ hk own1').mono ?_
  rintro e w3 ⟨v3, rfl, own3, b3⟩
  have own2' := ownsRow_below own2 b3
  have B3 := bstep B2 b3
  clear own1' own2
  go_wp2_with fail
  refine (same_any (decZ s) k _ _ _ _ v3 v' _ hk own3 own2').mono ?_
  rintro e w4 ⟨rfl, n, rfl⟩
  clear own3 own2'
  go_wp2
  go_ret
  go_light
  exact ⟨rfl, below_drewN B3 n⟩
end Go.Proofs.Ytbljokilfkodfaa
