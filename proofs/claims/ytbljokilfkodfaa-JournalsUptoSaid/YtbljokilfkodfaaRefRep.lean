/-
  The document's Replay.
-/
import Derived.Test.YtbljokilfkodfaaJDefs
import Derived.Test.YtbljokilfkodfaaRefDecSaid
namespace Go.Proofs.Ytbljokilfkodfaa
open Go.RowKit

theorem infoRC : (Try.prog.info? 37).map (fun i => (i.zero, i.size, i.bytes)) = some (some (.agg #[.int .i64 0, .int .i64 0, .int .i64 0, .int .i64 0, .int .i64 0, .int .i64 0]), 6, 48) := by kernel_rfl

set_option maxRecDepth 100000 in
set_option maxHeartbeats 1000000 in
theorem rreplay_said : ReplaySaid 29 37 := by
  intro s w hs
  obtain ⟨i0, hi, hz0, hz1, hz2⟩ := info_parts infoRC
  go_enter Try.func29, Try.ntmps29
  go_wp2_with fail
  go_loopw [4, 5] (fun v i wr => ∃ k : Nat, 10 * k ≤ s.size ∧ i = .int .i64 ((10 * k : Nat) : Int) ∧ (∀ j, j < k → okF s j = true) ∧ wr.ownsRow w.heap.size 37 6 v k (rows (decZ s) k) ∧ Below w.heap.size w wr) (fun _ i _ => s.size - (intOf i).toNat)
  case atStart => exact ⟨0, Nat.zero_le _, rfl, fun j hj => absurd hj (by omega), World.ownsRow_nil _ _ _ _, Below.refl _ _⟩
  case round =>
    obtain ⟨k, hk, rfl, hok, hown, hB⟩ := hrel
    have Hok : Hid (∀ j, j < k → okF s j = true) := hok
    clear hok
    by_cases hlt : 10 * k + 10 ≤ s.size
    · have hsz : (s.extract (10 * k) (10 * k + 10)).size ≤ maxLen := by simp [maxLen]; omega
      go_wp2_with fail
      refine (rdecode_said _ _ hsz).mono ?_
      rintro e w1 ⟨rfl, b1⟩
      have B1 := bstep hB b1
      have O1 := ownsRow_below hown b1
      clear hown
      by_cases hd : decOk (s.extract (10 * k) (10 * k + 10)) = true
      · have hde : decErr (s.extract (10 * k) (10 * k + 10)) = 0 := by unfold decErr; rw [if_pos hd]
        go_wp2_with (at_builtin; refine wpList_append_own _ rfl _ _ 71 rfl w.heap.size 37 i0 _ 6 48 Try.underlying71 hi hz0 hz1 hz2 rfl (by decide) _ _ _ rfl ((O1.alloc _).alloc _) ⟨w1.heap.size + 1, 0, none⟩ 1 1 (rowZ (decZ s) k) rfl rfl ?c1 ?c2 ?c3 ?c4 ?c5 ?_)
        case c1 => exact new6 _ _ (by simp) _ _ _ _ _ _ _
        case c2 => exact one6 _ _ _ _ _ _
        case c3 => unfold maxLen; omega
        case c4 => omega
        case c5 => have := B1.size; simp; omega
        · intro v' w2 hown' hgrow _
          have R := hown'
          rw [← rows_succ] at R
          have B2 : Below w.heap.size w w2 := ((B1.alloc B1.size _).alloc (by have := B1.size; simp; omega) _).grown hgrow (by have := B1.size; simp; omega) (fun g hg => (O1.lt g hg).1)
          clear hown' hgrow O1
          go_wp2
          go_roundw
          case rel =>
            refine ⟨k + 1, by omega, by go_num, ?_, R, B2⟩
            intro j hj
            by_cases hjk : j < k
            · exact Hok.out j hjk
            · obtain rfl : j = k := by omega
              unfold okF fr
              simp [hd]; omega
          case measure => simp [intOf]; omega
      · have hde : decErr (s.extract (10 * k) (10 * k + 10)) = 6 := by unfold decErr; rw [if_neg hd]
        go_wp2
        go_ret2
        refine ⟨_, k, rfl, Hok.out, ?_, O1.alloc _, B1.alloc B1.size _⟩
        unfold okF fr
        simp [hd]
    · go_wp2_with fail
      go_ret2
      refine ⟨_, k, rfl, Hok.out, ?_, hown, hB⟩
      unfold okF
      simp; omega
end Go.Proofs.Ytbljokilfkodfaa
