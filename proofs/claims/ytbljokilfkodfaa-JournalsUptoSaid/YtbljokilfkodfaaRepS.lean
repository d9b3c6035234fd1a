/-
  Replay.
-/
import Derived.Test.YtbljokilfkodfaaCod5
import Derived.Test.YtbljokilfkodfaaRefRep
namespace Go.Proofs.Ytbljokilfkodfaa
open Go.RowKit

theorem infoC : (Try.prog.info? 32).map (fun i => (i.zero, i.size, i.bytes)) = some (some (.agg #[.int .i64 0, .int .i64 0, .int .i64 0, .int .i64 0, .int .i64 0, .int .i64 0]), 6, 48) := by kernel_rfl

theorem own_only {w w' : World} {base n : Nat} {e : TypeId} {size : Nat} {v : Value} {xs : List Value} {T : Nat → Prop} (h : w.ownsRow base e size v n xs) (o : Only T w w') (hT : ∀ k, T k → k < base) : w'.ownsRow base e size v n xs := by
  obtain ⟨a1, a2⟩ := h
  refine ⟨a1, ?_⟩
  rcases a2 with a2 | ⟨g, cap, cur, hv, hg, hh, r⟩
  · exact .inl a2
  · have hlt : g < w.heap.size := by
      rcases Nat.lt_or_ge g w.heap.size with hl | hl
      · exact hl
      · rw [Array.getElem?_eq_none hl] at hh; cases hh
    exact .inr ⟨g, cap, cur, hv, hg, by rw [o.block g hlt (fun ht => by have := hT g ht; omega)]; exact hh, r⟩
theorem own_base {w : World} {base base' n : Nat} {e : TypeId} {size : Nat} {v : Value} {xs : List Value} (h : w.ownsRow base e size v n xs) (hb : base' ≤ base) : w.ownsRow base' e size v n xs := by
  obtain ⟨a1, a2⟩ := h
  refine ⟨a1, ?_⟩
  rcases a2 with a2 | ⟨g, cap, cur, hv, hg, r⟩
  · exact .inl a2
  · exact .inr ⟨g, cap, cur, hv, by omega, r⟩
theorem only_grown {S : Nat → Prop} {a w w' : World} {row : Option Nat} (h : Only S a w) (hg : w.grownBy w' row) (hr : ∀ k, row = some k → k < a.heap.size → S k) : Only S a w' :=
  ⟨hg.os.trans h.os, hg.tape.trans h.tape, hg.output.trans h.output, Nat.le_trans h.size hg.size, fun k hk hS => (hg.block k (Nat.lt_of_lt_of_le hk h.size) (fun e => hS (hr k e.symm hk))).trans (h.block k hk hS)⟩
theorem only_alloc {S : Nat → Prop} {a w : World} (h : Only S a w) (o : Obj) : Only S a (w.alloc o) := h.trans (Only.of_below ((Below.refl _ _).alloc (Nat.le_refl _) o))

set_option maxRecDepth 100000 in
set_option maxHeartbeats 1000000 in
theorem replay_said : ReplaySaid 28 32 := by
  intro s w hs
  obtain ⟨i0, hi, hz0, hz1, hz2⟩ := info_parts infoC
  go_enter Try.func28, Try.ntmps28
  go_wp2_with (refine wpList_store_row rfl 123 (.tmp 4) (.tmp 9) rfl w.heap.size #[.int .u32 0, .int .i32 0, .int .u32 0, .int .u32 0, .int .u32 0, .int .u32 0, .int .u32 0, .int .u32 0, .int .u32 0, .int .u32 0, .int .u32 0, .int .u32 0, .int .u32 0, .int .u32 0, .int .u32 0, .int .u32 0, .int .u32 0, .int .u32 0, .int .u32 0] rfl rfl 123 #[.int .u32 0, .int .i32 0, .int .u32 0, .int .u32 0, .int .u32 0, .int .u32 0, .int .u32 0, .int .u32 0, .int .u32 0, .int .u32 0, .int .u32 0, .int .u32 0, .int .u32 0, .int .u32 0, .int .u32 0, .int .u32 0, .int .u32 0, .int .u32 0, .int .u32 0] (tz_at _ _ (by simp)) tz_size rfl tz_one ?_; rw [setRow_self _ _ _ _ (by simp)])
  have B0 : Hid (Below w.heap.size w (tab0 w)) := (Below.refl _ _).alloc (Nat.le_refl _) _
  go_loopw [5, 6] (fun v i wr => ∃ k : Nat, 10 * k ≤ s.size ∧ i = .int .i64 ((10 * k : Nat) : Int) ∧ (∀ j, j < k → okF s j = true) ∧ wr.ownsRow (w.heap.size + 1) 32 6 v k (rows (decZ s) k) ∧ Tab wr w.heap.size ∧ w.heap.size + 1 ≤ wr.heap.size ∧ Below w.heap.size w wr) (fun _ i _ => s.size - (intOf i).toNat)
  case atStart => exact ⟨0, Nat.zero_le _, rfl, fun j hj => absurd hj (by omega), World.ownsRow_nil _ _ _ _, tab_new w, by simp, B0.out⟩
  case round =>
    obtain ⟨k, hk, rfl, hok, hown, hT, hsz, hB⟩ := hrel
    have Hok : Hid (∀ j, j < k → okF s j = true) := hok
    have HT : Hid (Tab wr w.heap.size) := hT
    have HO : Hid (World.ownsRow wr (w.heap.size + 1) 32 6 _ k (rows (decZ s) k)) := hown
    have HB : Hid (Below w.heap.size w wr) := hB
    clear hok hT hown hB B0
    by_cases hlt : 10 * k + 10 ≤ s.size
    · have hse : (s.extract (10 * k) (10 * k + 10)).size ≤ maxLen := by simp [maxLen]; omega
      go_wp2_with fail
      refine (tdecode w.heap.size _ _ HT.out (by omega) hse).mono ?_
      rintro e w1 ⟨rfl, t1, o1⟩
      have HT1 : Hid (Tab w1 w.heap.size) := t1
      have HO1 : Hid (World.ownsRow w1 (w.heap.size + 1) 32 6 _ k (rows (decZ s) k)) := own_only HO.out o1 (fun k hk => by omega)
      have HB1 : Hid (Below w.heap.size w w1) := HB.out.trans (o1.below HB.out.size (fun k hk => by omega))
      have hs1 : w.heap.size + 1 ≤ w1.heap.size := Nat.le_trans hsz o1.size
      clear t1 o1 HT HO HB hse
      by_cases hd : decOk (s.extract (10 * k) (10 * k + 10)) = true
      · have hde : decErr (s.extract (10 * k) (10 * k + 10)) = 0 := by unfold decErr; rw [if_pos hd]
        go_wp2_with (at_builtin; refine wpList_append_own _ rfl _ _ 68 rfl (w.heap.size + 1) 32 i0 _ 6 48 Try.underlying68 hi hz0 hz1 hz2 rfl (by decide) _ _ _ rfl ((HO1.out.alloc _).alloc _) ⟨w1.heap.size + 1, 0, none⟩ 1 1 (rowZ (decZ s) k) rfl rfl ?c1 ?c2 ?c3 ?c4 ?c5 ?_)
        case c1 => exact new6 _ _ (by simp) _ _ _ _ _ _ _
        case c2 => exact one6 _ _ _ _ _ _
        case c3 => unfold maxLen; omega
        case c4 => omega
        case c5 => simp; omega
        · intro v' w2 hown' hgrow _
          have R := hown'
          rw [← rows_succ] at R
          have B2 : Below w.heap.size w w2 := ((HB1.out.alloc HB1.out.size _).alloc (by simp; omega) _).grown hgrow (by simp; omega) (fun g hg => by have := (HO1.out.lt g hg).1; omega)
          have T2 : Tab w2 w.heap.size := HT1.out.keep (T := fun k => k ≠ w.heap.size) (only_grown (only_alloc (only_alloc (Only.refl _ _) _) _) hgrow (fun g hg _ => by have := (HO1.out.lt g hg).1; omega)) (fun h => h rfl)
          have hs2 : w.heap.size + 1 ≤ w2.heap.size := by have := hgrow.size; simp at this; omega
          clear hown' hgrow HO1 HT1 HB1
          go_wp2
          go_roundw
          case rel =>
            refine ⟨k + 1, by omega, by go_num, ?_, R, T2, hs2, B2⟩
            intro j hj
            by_cases hjk : j < k
            · exact Hok.out j hjk
            · obtain rfl : j = k := by omega
              unfold okF fr
              simp [hd]; omega
          case measure => simp [intOf]; omega
      · have hde : decErr (s.extract (10 * k) (10 * k + 10)) = 6 := by unfold decErr; rw [if_neg hd]
        go_wp2
        go_ret2
        refine ⟨_, k, rfl, Hok.out, ?_, own_base (HO1.out.alloc _) (Nat.le_succ _), HB1.out.alloc HB1.out.size _⟩
        unfold okF fr
        simp [hd]
    · go_wp2_with fail
      go_ret2
      refine ⟨_, k, rfl, Hok.out, ?_, own_base HO.out (Nat.le_succ _), HB.out⟩
      unfold okF
      simp; omega
end Go.Proofs.Ytbljokilfkodfaa
