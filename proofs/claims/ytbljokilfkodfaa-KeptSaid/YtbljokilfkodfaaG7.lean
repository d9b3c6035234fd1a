/-
  The document's book in memory: where it lies; what is only asked of it.
-/
import Derived.Test.YtbljokilfkodfaaG5
import Derived.Test.YtbljokilfkodfaaG3
import Derived.Deep.QuietTactic
import Derived.BigQuiet
import Derived.BigRegion
namespace Go.Proofs.Ytbljokilfkodfaa
open Go.RowKit

def odCells (o : Od) : List Value := [.int .i64 o.cl, .int .i64 o.id, .int .i64 o.sd, .int .i64 o.pr, .int .i64 o.q]
def odRows (L : List Od) : List Value := L.flatMap odCells
def odF (o : Od) : Nat → Int
  | 0 => o.cl
  | 1 => o.id
  | 2 => o.sd
  | 3 => o.pr
  | _ => o.q
theorem odRows_length : ∀ L : List Od, (odRows L).length = L.length * 5
  | [] => rfl
  | o :: L => by
    have := odRows_length L
    unfold odRows at this ⊢
    rw [List.flatMap_cons, List.length_append, this]; simp [odCells]; omega
theorem odRows_at : ∀ (L : List Od) (j i : Nat), j < L.length → i < 5 → (odRows L)[j * 5 + i]? = some (.int .i64 (odF (L.getD j od0) i))
  | [], j, i, hj, _ => absurd hj (by simp)
  | o :: L, 0, i, _, hi => by
    unfold odRows
    rw [List.flatMap_cons, List.getElem?_append_left (by simp [odCells]; omega)]
    obtain rfl | rfl | rfl | rfl | rfl : i = 0 ∨ i = 1 ∨ i = 2 ∨ i = 3 ∨ i = 4 := by omega
    all_goals rfl
  | o :: L, j + 1, i, hj, hi => by
    have := odRows_at L j i (by simpa using hj) hi
    unfold odRows at this ⊢
    rw [List.flatMap_cons, List.getElem?_append_right (by simp [odCells]; omega)]
    have e : (j + 1) * 5 + i - (odCells o).length = j * 5 + i := by simp [odCells]; omega
    rw [e, this]
    rfl
theorem odRows_append (L M : List Od) : odRows (L ++ M) = odRows L ++ odRows M := by unfold odRows; rw [List.flatMap_append]
theorem odRows_set : ∀ (L : List Od) (k : Nat) (q : Int), k < L.length → (odRows L).set (k * 5 + 4) (.int .i64 q) = odRows (L.set k { L.getD k od0 with q := q })
  | [], k, _, hk => absurd hk (by simp)
  | o :: L, 0, q, _ => by
    show (odRows (o :: L)).set 4 _ = odRows ({ o with q := q } :: L)
    unfold odRows
    rw [List.flatMap_cons, List.flatMap_cons]
    rfl
  | o :: L, k + 1, q, hk => by
    have ih := odRows_set L k q (by simpa using hk)
    show (odRows (o :: L)).set ((k + 1) * 5 + 4) _ = odRows (o :: L.set k { L.getD k od0 with q := q })
    unfold odRows at ih ⊢
    rw [List.flatMap_cons, List.flatMap_cons, ← ih, List.set_append]
    have hl : (odCells o).length = 5 := rfl
    rw [if_neg (by omega), hl, show (k + 1) * 5 + 4 - 5 = k * 5 + 4 by omega]

/-- The document's book at block pb; its list's value: sv. -/
structure RefAt (w : World) (pb : Nat) (sv : Value) (L : List Od) : Prop where
  lt : pb < w.heap.size
  cell : w.cell? ⟨pb, 0, none⟩ = some sv
  free : w.frozen? ⟨pb, 0, none⟩ = false
  own : w.ownsRow 0 90 5 sv L.length (odRows L)
  ne : sv.ownBlock ≠ some pb
  kind : ∃ c fz, w.heap[pb]? = some (.cells c 28 fz)

theorem RefAt.form {w : World} {pb : Nat} {sv : Value} {L : List Od} (h : RefAt w pb sv L) : ∃ a cap, sv = .slice a L.length cap ∧ (0 < L.length → ∃ g, a = some ⟨g, 0, none⟩ ∧ g < w.heap.size ∧ g ≠ pb ∧
    ∀ j i, j < L.length → i < 5 → w.cell? ⟨g, j * 5 + i, none⟩ = some (.int .i64 (odF (L.getD j od0) i))) := by
  have hlt := h.own.lt
  have ho := h.own
  obtain ⟨_, ho2⟩ := ho
  rcases ho2 with ⟨hv, hn⟩ | ⟨g, cap, cur, hv, _⟩
  · exact ⟨none, 0, by rw [hv, hn], fun hp => by omega⟩
  · refine ⟨_, cap, hv, fun _ => ⟨g, rfl, (hlt g (by rw [hv]; rfl)).2, fun e => h.ne (by rw [hv]; simp [Value.ownBlock, e]), fun j i hj hi => ?_⟩⟩
    have hown := h.own
    rw [hv] at hown
    exact (hown.cellAt (j * 5 + i) (by omega)).trans (odRows_at L j i hj hi)

def optI (o : Option Nat) : Int := match o with
  | none => -1
  | some i => (i : Int)

theorem bFindTo_past {L : List Od} {id : Int} {k : Nat} (h : bFindTo L id k = none) (hn : (L.getD k od0).id ≠ id) : bFindTo L id (k + 1) = none := by
  unfold bFindTo; rw [h]; simp only [hn, if_false]
theorem bFindTo_keep {L : List Od} {id : Int} {k i : Nat} (h : bFindTo L id k = some i) : ∀ n, k ≤ n → bFindTo L id n = some i := by
  intro n hn
  induction n with
  | zero => obtain rfl : k = 0 := by omega
            exact h
  | succ n ih =>
    by_cases e : k = n + 1
    · subst e; exact h
    · unfold bFindTo; rw [ih (by omega)]
theorem bFindTo_at {L : List Od} {id : Int} {k : Nat} (h : bFindTo L id k = none) (hk : k < L.length) (he : (L.getD k od0).id = id) : bFindTo L id L.length = some k := by
  refine bFindTo_keep (k := k + 1) ?_ _ hk
  unfold bFindTo; rw [h]; simp only [he, if_true]

set_option maxRecDepth 100000 in
set_option maxHeartbeats 1000000 in
theorem rfind_any {w : World} {pb : Nat} {sv : Value} {L : List Od} (id : Int) (h : RefAt w pb sv L) (hl : L.length ≤ 1000) :
    Calls Try.prog 37 #[.pointer (some ⟨pb, 0, none⟩), .int .i64 id] w fun e w' => e = .returned (.int .i64 (optI (bFind L id))) ∧ w' = w := by
  obtain ⟨a, cap, hsv, hg⟩ := h.form
  have hcell := h.cell
  rw [hsv] at hcell
  have HG : Hid (0 < L.length → ∃ g, a = some ⟨g, 0, none⟩ ∧ g < w.heap.size ∧ g ≠ pb ∧ ∀ j i, j < L.length → i < 5 → w.cell? ⟨g, j * 5 + i, none⟩ = some (.int .i64 (odF (L.getD j od0) i))) := hg
  clear hg hsv h
  go_enter Try.func37, Try.ntmps37
  go_wp2_with fail
  go_loop [5] (fun i => ∃ k : Nat, k ≤ L.length ∧ i = .int .i64 (k : Int) ∧ bFindTo L id k = none) (fun i => L.length - (intOf i).toNat)
  case atStart => exact ⟨0, Nat.zero_le _, rfl, rfl⟩
  case round =>
    obtain ⟨k, hk, rfl, hf⟩ := hrel
    have HF : Hid (bFindTo L id k = none) := hf
    clear hf
    by_cases hlt : k < L.length
    · obtain ⟨g, ha, _, _, hc⟩ := HG.out (by omega)
      obtain ⟨m, hm⟩ : ∃ m, m = L.getD k od0 := ⟨_, rfl⟩
      have c1 : w.cell? ⟨g, k * 5 + 1, none⟩ = some (.int .i64 m.id) := by rw [hm]; exact hc k 1 hlt (by omega)
      have HM : Hid (m = L.getD k od0) := hm
      clear hc hm
      have hlti : (k : Int) < (L.length : Int) := by omega
      go_wp2
      · have hid : m.id = id := by simpa using ‹(m.id == id) = true›
        go_ret
        go_light
        have hex := bFindTo_at HF.out hlt (by rw [← HM.out]; exact hid)
        refine ⟨ret_int ?_, rfl⟩
        unfold bFind optI
        rw [hex]
      · have hid : m.id ≠ id := by simpa using ‹(m.id == id) = false›
        exact ⟨⟨k + 1, by omega, by go_num, bFindTo_past HF.out (by rw [← HM.out]; exact hid)⟩, by simp [intOf]; omega⟩
    · go_wp2
      go_ret
      go_light
      obtain rfl : k = L.length := by omega
      refine ⟨ret_int ?_, rfl⟩
      unfold bFind optI
      rw [HF.out]
end Go.Proofs.Ytbljokilfkodfaa
/-
  The document's book in memory: which one is best, how much is met.
-/
namespace Go.Proofs.Ytbljokilfkodfaa
open Go.RowKit

theorem rbetter_any (sd a b : Int) (w : World) :
    Calls Try.prog 95 #[.int .i64 sd, .int .i64 a, .int .i64 b] w fun e w' => e = .returned (.bool (bBetter sd a b)) ∧ w' = w := by
  unfold bBetter
  by_cases h : sd = 1
  · subst h
    go_enter Try.func95, Try.ntmps95
    go_wp2
    go_ret
    exact ⟨rfl, rfl⟩
  · have hb : (sd == 1) = false := by simp [h]
    rw [if_neg h]
    go_enter Try.func95, Try.ntmps95
    go_wp2
    go_ret
    exact ⟨rfl, rfl⟩

set_option maxRecDepth 100000 in
set_option maxHeartbeats 400000 in
theorem rmeets_any (sd pr : Int) (o : Od) (w : World) :
    Calls Try.prog 81 #[.int .i64 sd, .int .i64 pr, .agg #[.int .i64 o.cl, .int .i64 o.id, .int .i64 o.sd, .int .i64 o.pr, .int .i64 o.q]] w fun e w' => e = .returned (.bool (bMeets sd pr o)) ∧ Below w.heap.size w w' := by
  unfold bMeets
  go_enter Try.func81, Try.ntmps81
  go_wp2
  all_goals (go_ret; go_light; refine ⟨?_, (Below.refl _ _).alloc (Nat.le_refl _) _⟩)
  all_goals simp_all

theorem bBestTo_no {L : List Od} {sd pr : Int} {k : Nat} (h : bMeets sd pr (L.getD k od0) = false) : bBestTo L sd pr (k + 1) = bBestTo L sd pr k := by
  rw [bBestTo]
  cases bBestTo L sd pr k with
  | none => simp only [h]; simp
  | some j => simp only [h]; simp
theorem bBestTo_first {L : List Od} {sd pr : Int} {k : Nat} (h : bMeets sd pr (L.getD k od0) = true) (hn : bBestTo L sd pr k = none) : bBestTo L sd pr (k + 1) = some k := by
  rw [bBestTo, hn]; simp only [h, if_true]
theorem bBestTo_new {L : List Od} {sd pr : Int} {k j : Nat} (h : bMeets sd pr (L.getD k od0) = true) (hn : bBestTo L sd pr k = some j) (hb : bBetter (L.getD k od0).sd (L.getD k od0).pr (L.getD j od0).pr = true) : bBestTo L sd pr (k + 1) = some k := by
  rw [bBestTo, hn]; simp only [h, hb]; simp
theorem bBestTo_old {L : List Od} {sd pr : Int} {k j : Nat} (hn : bBestTo L sd pr k = some j) (hb : bBetter (L.getD k od0).sd (L.getD k od0).pr (L.getD j od0).pr = false) : bBestTo L sd pr (k + 1) = some j := by
  rw [bBestTo, hn]; simp only [hb]; simp

set_option maxRecDepth 100000 in
set_option maxHeartbeats 2000000 in
theorem rbest_any {w : World} {pb : Nat} {sv : Value} {L : List Od} (sd pr : Int) (h : RefAt w pb sv L) (hl : L.length ≤ 1000) :
    Calls Try.prog 82 #[.pointer (some ⟨pb, 0, none⟩), .int .i64 sd, .int .i64 pr] w fun e w' => e = .returned (.int .i64 (optI (bBest L sd pr))) ∧ Below w.heap.size w w' := by
  obtain ⟨a, cap, hsv, hg⟩ := h.form
  have hpb := h.lt
  have hcell : Hid (∀ W, Below w.heap.size w W → W.cell? ⟨pb, 0, none⟩ = some (.slice a L.length cap)) := fun W hW => ((bcell hW).1 pb 0 hpb).trans (by rw [h.cell, hsv])
  have HG : Hid (0 < L.length → ∃ g, a = some ⟨g, 0, none⟩ ∧ ∀ W, Below w.heap.size w W → ∀ j i, j < L.length → i < 5 → W.cell? ⟨g, j * 5 + i, none⟩ = some (.int .i64 (odF (L.getD j od0) i))) := fun hp => by
    obtain ⟨g, ha, hgl, _, hc⟩ := hg hp
    exact ⟨g, ha, fun W hW j i hj hi => ((bcell hW).1 g _ hgl).trans (hc j i hj hi)⟩
  clear hg hsv h
  go_enter Try.func82, Try.ntmps82
  go_wp2_with fail
  go_loopw [7, 8] (fun v i wr => ∃ k : Nat, k ≤ L.length ∧ i = .int .i64 (k : Int) ∧ v = .int .i64 (optI (bBestTo L sd pr k)) ∧ Below w.heap.size w wr) (fun _ i _ => L.length - (intOf i).toNat)
  case atStart => exact ⟨0, Nat.zero_le _, rfl, rfl, Below.refl _ _⟩
  case round =>
    obtain ⟨k, hk, rfl, rfl, hB⟩ := hrel
    have hcl := hcell.out wr hB
    by_cases hlt : k < L.length
    · obtain ⟨g, ha, hc⟩ := HG.out (by omega)
      obtain ⟨m, hm⟩ : ∃ m, m = L.getD k od0 := ⟨_, rfl⟩
      have cm : ∀ W, Below w.heap.size w W → W.cell? ⟨g, k * 5, none⟩ = some (.int .i64 m.cl) ∧ W.cell? ⟨g, k * 5 + 1, none⟩ = some (.int .i64 m.id) ∧ W.cell? ⟨g, k * 5 + 2, none⟩ = some (.int .i64 m.sd) ∧ W.cell? ⟨g, k * 5 + 3, none⟩ = some (.int .i64 m.pr) ∧ W.cell? ⟨g, k * 5 + 4, none⟩ = some (.int .i64 m.q) := fun W hW => by
        rw [hm]; exact ⟨hc W hW k 0 hlt (by omega), hc W hW k 1 hlt (by omega), hc W hW k 2 hlt (by omega), hc W hW k 3 hlt (by omega), hc W hW k 4 hlt (by omega)⟩
      have HM : Hid (m = L.getD k od0) := hm
      have HC : Hid (∀ W, Below w.heap.size w W → ∀ j i, j < L.length → i < 5 → W.cell? ⟨g, j * 5 + i, none⟩ = some (.int .i64 (odF (L.getD j od0) i))) := hc
      obtain ⟨c0, c1, c2, c3, c4⟩ := cm wr hB
      have CM : Hid (∀ W, Below w.heap.size w W → W.cell? ⟨g, k * 5, none⟩ = some (.int .i64 m.cl) ∧ W.cell? ⟨g, k * 5 + 1, none⟩ = some (.int .i64 m.id) ∧ W.cell? ⟨g, k * 5 + 2, none⟩ = some (.int .i64 m.sd) ∧ W.cell? ⟨g, k * 5 + 3, none⟩ = some (.int .i64 m.pr) ∧ W.cell? ⟨g, k * 5 + 4, none⟩ = some (.int .i64 m.q)) := cm
      clear hc hm cm
      have hlti : (k : Int) < (L.length : Int) := by omega
      go_wp2_with fail
      refine (rmeets_any sd pr m _).mono ?_
      rintro e w1 ⟨rfl, b1⟩
      have B1 := bstep hB b1
      have hcl1 := hcell.out w1 B1
      obtain ⟨d0, d1, d2, d3, d4⟩ := CM.out w1 B1
      clear c0 c1 c2 c3 c4 hcl
      cases hmt : bMeets sd pr m with
      | false =>
        have hnx : Hid (bBestTo L sd pr (k + 1) = bBestTo L sd pr k) := bBestTo_no (by rw [← HM.out]; exact hmt)
        go_wp2
        go_quiet (fail)
        go_wp2
        exact ⟨⟨k + 1, by omega, by go_num, by rw [hnx.out], below_drewN B1 nq⟩, by simp [intOf]; omega⟩
      | true =>
        cases hbt : bBestTo L sd pr k with
        | none =>
          have hnx : Hid (bBestTo L sd pr (k + 1) = some k) := bBestTo_first (by rw [← HM.out]; exact hmt) hbt
          have hneg : decide (optI none < 0) = true := rfl
          go_wp2
          go_quiet (fail)
          go_wp2
          exact ⟨⟨k + 1, by omega, by go_num, by rw [hnx.out]; rfl, below_drewN B1 nq⟩, by simp [intOf]; omega⟩
        | some j =>
          have hj : j < k := bBestTo_some hbt
          obtain ⟨x, hx⟩ : ∃ x, x = L.getD j od0 := ⟨_, rfl⟩
          have e3 : w1.cell? ⟨g, j * 5 + 3, none⟩ = some (.int .i64 x.pr) := by rw [hx]; exact HC.out w1 B1 j 3 (by omega) (by omega)
          have HX : Hid (x = L.getD j od0) := hx
          clear hx
          have hneg : decide ((j : Int) < 0) = false := decide_eq_false (by omega)
          have hneg2 : ¬ (j : Int) < 0 := by omega
          have hoj : optI (some j) = (j : Int) := rfl
          have hji : (j : Int) < (L.length : Int) := by omega
          go_wp2
          go_quiet ((go_at_call 95; exact Calls.quiet_of_same (rbetter_any _ _ _ _)))
          cases hbb : bBetter m.sd m.pr x.pr with
          | false =>
            have hnx : Hid (bBestTo L sd pr (k + 1) = some j) := bBestTo_old hbt (by rw [← HM.out, ← HX.out]; exact hbb)
            go_wp2
            all_goals exact ⟨⟨k + 1, by omega, by go_num, by rw [hnx.out]; rfl, below_drewN B1 nq⟩, by simp [intOf]; omega⟩
          | true =>
            have hnx : Hid (bBestTo L sd pr (k + 1) = some k) := bBestTo_new (by rw [← HM.out]; exact hmt) hbt (by rw [← HM.out, ← HX.out]; exact hbb)
            go_wp2
            all_goals exact ⟨⟨k + 1, by omega, by go_num, by rw [hnx.out]; rfl, below_drewN B1 nq⟩, by simp [intOf]; omega⟩
    · go_wp2
      go_ret
      go_light
      obtain rfl : k = L.length := by omega
      exact ⟨rfl, hB⟩
end Go.Proofs.Ytbljokilfkodfaa
/-
  The document's book in memory: how much is met; what is left of an order.
-/
namespace Go.Proofs.Ytbljokilfkodfaa
open Go.RowKit

/-- What is read of a book, in every world in which what was there has not turned. -/
def Seen (w : World) (pb : Nat) (a : Option Addr) (cap : Nat) (L : List Od) : Prop :=
  (∀ W, Below w.heap.size w W → W.cell? ⟨pb, 0, none⟩ = some (.slice a L.length cap)) ∧
  (0 < L.length → ∃ g, a = some ⟨g, 0, none⟩ ∧ ∀ W, Below w.heap.size w W → ∀ j i, j < L.length → i < 5 → W.cell? ⟨g, j * 5 + i, none⟩ = some (.int .i64 (odF (L.getD j od0) i)))
theorem RefAt.seen {w : World} {pb : Nat} {sv : Value} {L : List Od} (h : RefAt w pb sv L) : ∃ a cap, Seen w pb a cap L := by
  obtain ⟨a, cap, hsv, hg⟩ := h.form
  refine ⟨a, cap, fun W hW => ((bcell hW).1 pb 0 h.lt).trans (by rw [h.cell, hsv]), fun hp => ?_⟩
  obtain ⟨g, ha, hgl, _, hc⟩ := hg hp
  exact ⟨g, ha, fun W hW j i hj hi => ((bcell hW).1 g _ hgl).trans (hc j i hj hi)⟩
/-- One order's cells. -/
def OdIn (g k : Nat) (m : Od) (W : World) : Prop := W.cell? ⟨g, k * 5, none⟩ = some (.int .i64 m.cl) ∧ W.cell? ⟨g, k * 5 + 1, none⟩ = some (.int .i64 m.id) ∧ W.cell? ⟨g, k * 5 + 2, none⟩ = some (.int .i64 m.sd) ∧ W.cell? ⟨g, k * 5 + 3, none⟩ = some (.int .i64 m.pr) ∧ W.cell? ⟨g, k * 5 + 4, none⟩ = some (.int .i64 m.q)
theorem Seen.at {w : World} {pb : Nat} {a : Option Addr} {cap : Nat} {L : List Od} (h : Seen w pb a cap L) {k : Nat} (hk : k < L.length) : ∃ g m, a = some ⟨g, 0, none⟩ ∧ Hid (m = L.getD k od0) ∧ Hid (∀ W, Below w.heap.size w W → OdIn g k m W) := by
  obtain ⟨g, ha, hc⟩ := h.2 (by omega)
  exact ⟨g, L.getD k od0, ha, (show L.getD k od0 = L.getD k od0 from rfl), (show ∀ W, Below w.heap.size w W → OdIn g k (L.getD k od0) W from fun W hW => ⟨hc W hW k 0 hk (by omega), hc W hW k 1 hk (by omega), hc W hW k 2 hk (by omega), hc W hW k 3 hk (by omega), hc W hW k 4 hk (by omega)⟩)⟩

theorem bRoomTo_bd {L : List Od} (h : BookOk L) (sd pr : Int) : ∀ k, k ≤ L.length → 0 ≤ bRoomTo L sd pr k ∧ bRoomTo L sd pr k ≤ 99 * (k : Int)
  | 0, _ => by simp [bRoomTo]
  | k + 1, hk => by
    have := bRoomTo_bd h sd pr k (by omega)
    have hm := (h.each _ (getD_mem (show k < L.length by omega))).2.2.2.2
    unfold bRoomTo
    split <;> omega

set_option maxRecDepth 100000 in
set_option maxHeartbeats 1000000 in
theorem rroom_any {w : World} {pb : Nat} {sv : Value} {L : List Od} (sd pr : Int) (h : RefAt w pb sv L) (hL : BookOk L) :
    Calls Try.prog 58 #[.pointer (some ⟨pb, 0, none⟩), .int .i64 sd, .int .i64 pr] w fun e w' => e = .returned (.int .i64 (bRoom L sd pr)) ∧ Below w.heap.size w w' := by
  have hl := hL.len
  obtain ⟨a, cap, hs⟩ := h.seen
  have HS : Hid (Seen w pb a cap L) := hs
  clear hs h
  go_enter Try.func58, Try.ntmps58
  go_wp2_with fail
  go_loopw [7, 8] (fun v i wr => ∃ k : Nat, k ≤ L.length ∧ i = .int .i64 (k : Int) ∧ v = .int .i64 (bRoomTo L sd pr k) ∧ Below w.heap.size w wr) (fun _ i _ => L.length - (intOf i).toNat)
  case atStart => exact ⟨0, Nat.zero_le _, rfl, rfl, Below.refl _ _⟩
  case round =>
    obtain ⟨k, hk, rfl, rfl, hB⟩ := hrel
    have hcl := HS.out.1 wr hB
    obtain ⟨bd1, bd2⟩ := bRoomTo_bd hL sd pr k hk
    by_cases hlt : k < L.length
    · obtain ⟨g, m, ha, HM, HC⟩ := HS.out.at hlt
      obtain ⟨c0, c1, c2, c3, c4⟩ := HC.out wr hB
      obtain ⟨q1, q2⟩ : 1 ≤ m.q ∧ m.q ≤ 99 := by rw [HM.out]; exact (hL.each _ (getD_mem hlt)).2.2.2.2
      have hnx : Hid (bRoomTo L sd pr (k + 1) = bRoomTo L sd pr k + (if bMeets sd pr m then m.q else 0)) := by rw [HM.out]; rfl
      have hlti : (k : Int) < (L.length : Int) := by omega
      go_wp2_with fail
      refine (rmeets_any sd pr m _).mono ?_
      rintro e w1 ⟨rfl, b1⟩
      have B1 := bstep hB b1
      have hcl1 := HS.out.1 w1 B1
      obtain ⟨d0, d1, d2, d3, d4⟩ := HC.out w1 B1
      clear c0 c1 c2 c3 c4 hcl
      cases hmt : bMeets sd pr m with
      | false =>
        go_wp2
        exact ⟨⟨k + 1, by omega, by go_num, by rw [hnx.out, hmt]; simp, B1⟩, by simp [intOf]; omega⟩
      | true =>
        go_wp2
        exact ⟨⟨k + 1, by omega, by go_num, by rw [hnx.out, hmt]; simp, B1⟩, by simp [intOf]; omega⟩
    · go_wp2
      go_ret
      go_light
      obtain rfl : k = L.length := by omega
      exact ⟨rfl, hB⟩

set_option maxRecDepth 100000 in
set_option maxHeartbeats 1000000 in
theorem rleft_any {w : World} {pb : Nat} {sv : Value} {L : List Od} (id : Int) (h : RefAt w pb sv L) (hL : BookOk L) :
    Calls Try.prog 45 #[.pointer (some ⟨pb, 0, none⟩), .int .i64 id] w fun e w' => e = .returned (.tuple #[.int .i64 (bLeft L id).1, .int .i64 (bLeft L id).2]) ∧ w' = w := by
  have hl := hL.len
  have hf := rfind_any id h (by omega)
  have HF : Hid (Calls Try.prog 37 #[.pointer (some ⟨pb, 0, none⟩), .int .i64 id] w fun e w' => e = .returned (.int .i64 (optI (bFind L id))) ∧ w' = w) := hf
  obtain ⟨a, cap, hs⟩ := h.seen
  have hcl := hs.1 w (Below.refl _ _)
  have HS : Hid (Seen w pb a cap L) := hs
  clear hf hs h
  unfold bLeft
  cases hfd : bFind L id with
  | none =>
    have ho : optI none = -1 := rfl
    rw [hfd] at HF
    go_enter Try.func45, Try.ntmps45
    go_wp2_with fail
    refine HF.out.mono ?_
    rintro e w' ⟨rfl, rfl⟩
    go_wp2
    go_ret2
    exact ⟨rfl, rfl⟩
  | some i =>
    obtain ⟨hil, _⟩ := bFind_some hfd
    obtain ⟨g, m, ha, HM, HC⟩ := HS.out.at hil
    obtain ⟨c0, c1, c2, c3, c4⟩ := HC.out w (Below.refl _ _)
    have ho : optI (some i) = (i : Int) := rfl
    have hneg : ¬ (i : Int) < 0 := by omega
    have hlti : (i : Int) < (L.length : Int) := by omega
    rw [hfd] at HF
    show Calls Try.prog 45 #[.pointer (some ⟨pb, 0, none⟩), .int .i64 id] w fun e w' => e = .returned (.tuple #[.int .i64 (L.getD i od0).q, .int .i64 0]) ∧ w' = w
    rw [← HM.out]
    go_enter Try.func45, Try.ntmps45
    go_wp2_with fail
    refine HF.out.mono ?_
    rintro e w' ⟨rfl, rfl⟩
    go_wp2
    go_ret2
    exact ⟨rfl, rfl⟩
end Go.Proofs.Ytbljokilfkodfaa
/-
  The document's Depth.
-/
namespace Go.Proofs.Ytbljokilfkodfaa
open Go.RowKit

def lvCells (l : Lv) : List Value := [.int .i64 l.pr, .int .i64 l.q, .int .i64 l.n]
def lvRows (l : List Lv) : List Value := l.flatMap lvCells
theorem lvRows_append (l m : List Lv) : lvRows (l ++ m) = lvRows l ++ lvRows m := by unfold lvRows; rw [List.flatMap_append]
theorem lvRows_length : ∀ l : List Lv, (lvRows l).length = l.length * 3
  | [] => rfl
  | o :: l => by
    have := lvRows_length l
    unfold lvRows at this ⊢
    rw [List.flatMap_cons, List.length_append, this]; simp [lvCells]; omega
theorem lvRows_at : ∀ (l : List Lv) (j i : Nat), j < l.length → i < 3 → (lvRows l)[j * 3 + i]? = some (.int .i64 (lvZ l j i))
  | [], j, i, hj, _ => absurd hj (by simp)
  | o :: l, 0, i, _, hi => by
    unfold lvRows
    rw [List.flatMap_cons, List.getElem?_append_left (by simp [lvCells]; omega)]
    obtain rfl | rfl | rfl : i = 0 ∨ i = 1 ∨ i = 2 := by omega
    all_goals rfl
  | o :: l, j + 1, i, hj, hi => by
    have := lvRows_at l j i (by simpa using hj) hi
    unfold lvRows at this ⊢
    rw [List.flatMap_cons, List.getElem?_append_right (by simp [lvCells]; omega)]
    have e : (j + 1) * 3 + i - (lvCells o).length = j * 3 + i := by simp [lvCells]; omega
    rw [e, this]
    obtain rfl | rfl | rfl : i = 0 ∨ i = 1 ∨ i = 2 := by omega
    all_goals rfl

theorem bLevelTo_bd {L : List Od} (h : BookOk L) (sd pr : Int) : ∀ k, k ≤ L.length → (0 ≤ (bLevelTo L sd pr k).1 ∧ (bLevelTo L sd pr k).1 ≤ 99 * (k : Int)) ∧ 0 ≤ (bLevelTo L sd pr k).2 ∧ (bLevelTo L sd pr k).2 ≤ (k : Int)
  | 0, _ => by simp [bLevelTo]
  | k + 1, hk => by
    have := bLevelTo_bd h sd pr k (by omega)
    have hm := (h.each _ (getD_mem (show k < L.length by omega))).2.2.2.2
    unfold bLevelTo
    simp only
    split
    · simp only; omega
    · omega
theorem bLevelTo_yes {L : List Od} {sd pr : Int} {k : Nat} (h1 : (L.getD k od0).sd = sd) (h2 : (L.getD k od0).pr = pr) : bLevelTo L sd pr (k + 1) = ((bLevelTo L sd pr k).1 + (L.getD k od0).q, (bLevelTo L sd pr k).2 + 1) := by
  rw [bLevelTo]; simp only [h1, h2]; simp
theorem bLevelTo_no {L : List Od} {sd pr : Int} {k : Nat} (h : ¬ ((L.getD k od0).sd = sd ∧ (L.getD k od0).pr = pr)) : bLevelTo L sd pr (k + 1) = bLevelTo L sd pr k := by
  rw [bLevelTo]; simp only [h, if_false]
theorem bDepth_eq (L : List Od) (sd : Int) {p : Nat} (h : p = 99) : bDepthTo L sd p = bDepth L sd := by subst h; rfl
theorem two_set {W : World} {X : Nat} {v0 v1 v2 : Value} (u1 u2 : Value) (h0 : W.cell? ⟨X, 0, none⟩ = some v0) (h1 : W.cell? ⟨X, 1, none⟩ = some v1) (h2 : W.cell? ⟨X, 2, none⟩ = some v2) :
    ((W.setCell ⟨X, 1, none⟩ u1).setCell ⟨X, 2, none⟩ u2).drew.cell? ⟨X, 0, none⟩ = some v0 ∧ ((W.setCell ⟨X, 1, none⟩ u1).setCell ⟨X, 2, none⟩ u2).drew.cell? ⟨X, 1, none⟩ = some u1 ∧ ((W.setCell ⟨X, 1, none⟩ u1).setCell ⟨X, 2, none⟩ u2).drew.cell? ⟨X, 2, none⟩ = some u2 := by
  refine ⟨?_, ?_, ?_⟩
  · rw [World.cell?_drew, World.cell?_setCell_other _ _ _ _ (by simp), World.cell?_setCell_other _ _ _ _ (by simp)]; exact h0
  · rw [World.cell?_drew, World.cell?_setCell_other _ _ _ _ (by simp)]; exact World.cell?_setCell_same _ _ _ h1
  · rw [World.cell?_drew]
    exact World.cell?_setCell_same _ _ _ ((World.cell?_setCell_other _ _ _ _ (by simp)).trans h2)
theorem ownsRow_below' {w w' : World} {base : Nat} {e : TypeId} {size n : Nat} {v : Value} {xs : List Value} (h : w.ownsRow base e size v n xs) (hb : Below w.heap.size w w') : w'.ownsRow base e size v n xs := by
  obtain ⟨h1, h2⟩ := h
  refine ⟨h1, ?_⟩
  rcases h2 with h2 | ⟨g, cap, cur, hv, hg, hh, r⟩
  · exact .inl h2
  · have hlt : g < w.heap.size := by
      rcases Nat.lt_or_ge g w.heap.size with hl | hl
      · exact hl
      · rw [Array.getElem?_eq_none hl] at hh; cases hh
    exact .inr ⟨g, cap, cur, hv, hg, by rw [hb.block g hlt]; exact hh, r⟩
theorem infoLv : (Try.prog.info? 143).map (fun i => (i.zero, i.size, i.bytes)) = some (some (.agg #[.int .i64 0, .int .i64 0, .int .i64 0]), 3, 24) := by kernel_rfl
theorem bDepthTo_len' (L : List Od) (sd : Int) : ∀ n, (bDepthTo L sd n).length ≤ n
  | 0 => Nat.le_refl _
  | n + 1 => by
    have := bDepthTo_len' L sd n
    unfold bDepthTo
    split <;> simp <;> omega
theorem new3 (W : World) (g : Nat) (hg : g = W.heap.size) (T : TypeId) (v0 v1 v2 : Value) : ∀ (j : Nat) (u : Value), [v0, v1, v2][j]? = some u → (W.alloc (.cells #[v0, v1, v2] T)).cell? ((⟨g, 0, none⟩ : Addr).add j) = some u := by
  subst hg
  intro j u hj
  match j, hj with
  | 0, hj => simp at hj; subst hj; simp [Addr.add]
  | 1, hj => simp at hj; subst hj; simp [Addr.add]
  | 2, hj => simp at hj; subst hj; simp [Addr.add]
theorem one3 (a b c : Int) : ∀ u ∈ [Value.int .i64 a, .int .i64 b, .int .i64 c], u.oneCell' = true := by
  intro u hu
  simp at hu
  rcases hu with rfl | rfl | rfl <;> rfl

set_option maxRecDepth 100000 in
set_option maxHeartbeats 2000000 in
theorem rdepth_buy {w : World} {pb : Nat} {sv : Value} {L : List Od} (sd : Int) (hsd : sd = 1) (h : RefAt w pb sv L) (hL : BookOk L) :
    Calls Try.prog 43 #[.pointer (some ⟨pb, 0, none⟩), .int .i64 sd] w fun e w' => ∃ v, e = .returned v ∧ w'.ownsRow w.heap.size 143 3 v (bDepth L sd).length (lvRows (bDepth L sd)) ∧ Below w.heap.size w w' := by
  have hl := hL.len
  obtain ⟨a, cap, hs⟩ := h.seen
  have HS : Hid (Seen w pb a cap L) := hs
  clear hs h
  obtain ⟨i0, hi, hz0, hz1, hz2⟩ := info_parts infoLv
  have hb : (sd == 1) = true := by simp [hsd]
  have HSd : Hid (sd = 1) := hsd
  clear hsd
  go_enter Try.func43, Try.ntmps43
  go_wp2_with fail
  go_loopw [5, 6] (fun v i wr => ∃ p : Nat, p ≤ 99 ∧ i = .int .i64 ((p : Int) + 1) ∧ wr.ownsRow w.heap.size 143 3 v (bDepthTo L sd p).length (lvRows (bDepthTo L sd p)) ∧ Below w.heap.size w wr) (fun _ i _ => 100 - (intOf i).toNat)
  case atStart => exact ⟨0, Nat.zero_le _, rfl, World.ownsRow_nil _ _ _ _, Below.refl _ _⟩
  case round =>
    obtain ⟨p, hp, rfl, hown, hB⟩ := hrel
    have HO : Hid (wr.ownsRow w.heap.size 143 3 u5 (bDepthTo L sd p).length (lvRows (bDepthTo L sd p))) := hown
    clear hown
    by_cases hlt : p < 99
    · have hle : (p : Int) + 1 ≤ 99 := by omega
      have hpr0 : bPrice sd (p + 1) = 100 - ((p : Int) + 1) := by unfold bPrice; rw [if_pos HSd.out]; omega
      have hpr : Hid (bPrice sd (p + 1) = 100 - ((p : Int) + 1)) := hpr0
      clear hpr0
      obtain ⟨wo, hwo⟩ : ∃ wo : World, wo = wr := ⟨wr, rfl⟩
      subst hwo
      go_wp2_with fail
      have hwz : w.heap.size ≤ wo.heap.size := hB.size
      go_loopw [9] (fun i wi => ∃ j : Nat, j ≤ L.length ∧ i = .int .i64 (j : Int) ∧ wi.cell? ⟨wo.heap.size, 0, none⟩ = some (.int .i64 (100 - ((p : Int) + 1))) ∧ wi.cell? ⟨wo.heap.size, 1, none⟩ = some (.int .i64 (bLevelTo L sd (100 - ((p : Int) + 1)) j).1) ∧ wi.cell? ⟨wo.heap.size, 2, none⟩ = some (.int .i64 (bLevelTo L sd (100 - ((p : Int) + 1)) j).2) ∧ (∀ o, wi.frozen? ⟨wo.heap.size, o, none⟩ = false) ∧ wo.heap.size < wi.heap.size ∧ Below wo.heap.size wo wi) (fun i _ => L.length - (intOf i).toNat)
      case atStart => exact ⟨0, Nat.zero_le _, rfl, by simp, by simp [bLevelTo], by simp [bLevelTo], fun o => by simp, by simp, (Below.refl _ _).alloc (Nat.le_refl _) _⟩
      case round =>
        obtain ⟨j, hj, rfl, x0, x1, x2, fz, hsz, hbi⟩ := hrel
        have f1 := fz 1
        have f2 := fz 2
        have FZ : Hid (∀ o, wr.frozen? ⟨wo.heap.size, o, none⟩ = false) := fz
        clear fz
        have BI : Below w.heap.size w wr := bstep hB hbi
        have hcl := HS.out.1 wr BI
        obtain ⟨⟨l1, l2⟩, l3, l4⟩ := bLevelTo_bd hL sd (100 - ((p : Int) + 1)) j hj
        by_cases hjl : j < L.length
        · obtain ⟨g, m, ha, HM, HC⟩ := HS.out.at hjl
          obtain ⟨c0, c1, c2, c3, c4⟩ := HC.out wr BI
          obtain ⟨q1, q2⟩ : 1 ≤ m.q ∧ m.q ≤ 99 := by rw [HM.out]; exact (hL.each _ (getD_mem hjl)).2.2.2.2
          have hji : (j : Int) < (L.length : Int) := by omega
          by_cases ms : m.sd = sd
          · by_cases mp : m.pr = 100 - ((p : Int) + 1)
            · have hnx : Hid (bLevelTo L sd (100 - ((p : Int) + 1)) (j + 1) = ((bLevelTo L sd (100 - ((p : Int) + 1)) j).1 + m.q, (bLevelTo L sd (100 - ((p : Int) + 1)) j).2 + 1)) := by rw [HM.out]; exact bLevelTo_yes (by rw [← HM.out]; exact ms) (by rw [← HM.out]; exact mp)
              have hb1 : (m.sd == sd) = true := by simp [ms]
              have hb2 : (m.pr == 100 - ((p : Int) + 1)) = true := by simp [mp]
              clear ms mp
              go_wp2
              go_region
              go_wp2
              obtain ⟨y0, y1, y2⟩ := two_set (.int .i64 ((bLevelTo L sd (100 - ((p : Int) + 1)) j).1 + m.q)) (.int .i64 ((bLevelTo L sd (100 - ((p : Int) + 1)) j).2 + 1)) x0 x1 x2
              exact ⟨⟨j + 1, by omega, by go_num, y0, by rw [y1, hnx.out], by rw [y2, hnx.out], fun o => by simp [FZ.out o], by simp; omega, ((hbi.setCell (Nat.le_refl _) _).setCell (Nat.le_refl _) _).drew⟩, by simp [intOf]; omega⟩
            · have hnx : Hid (bLevelTo L sd (100 - ((p : Int) + 1)) (j + 1) = bLevelTo L sd (100 - ((p : Int) + 1)) j) := bLevelTo_no (by rw [← HM.out]; exact fun h => mp h.2)
              have hb1 : (m.sd == sd) = true := by simp [ms]
              have hb2 : (m.pr == 100 - ((p : Int) + 1)) = false := by simp; exact mp
              clear ms mp
              go_wp2
              exact ⟨⟨j + 1, by omega, by go_num, x0, by rw [x1, hnx.out], by rw [x2, hnx.out], FZ.out, hsz, hbi⟩, by simp [intOf]; omega⟩
          · have hnx : Hid (bLevelTo L sd (100 - ((p : Int) + 1)) (j + 1) = bLevelTo L sd (100 - ((p : Int) + 1)) j) := bLevelTo_no (by rw [← HM.out]; exact fun h => ms h.1)
            have hb1 : (m.sd == sd) = false := by simp [ms]
            clear ms
            go_wp2
            exact ⟨⟨j + 1, by omega, by go_num, x0, by rw [x1, hnx.out], by rw [x2, hnx.out], FZ.out, hsz, hbi⟩, by simp [intOf]; omega⟩
        · have hje : j = L.length := by omega
          have hlv : Hid (bLevel L sd (bPrice sd (p + 1)) = ⟨100 - ((p : Int) + 1), (bLevelTo L sd (100 - ((p : Int) + 1)) j).1, (bLevelTo L sd (100 - ((p : Int) + 1)) j).2⟩) := by rw [hpr.out, hje]; rfl
          have hje' : Hid (j = L.length) := hje
          clear hje
          have O1 := ownsRow_below' HO.out hbi
          obtain ⟨lq, hlq⟩ : ∃ lq, lq = (bLevelTo L sd (100 - ((p : Int) + 1)) j).1 := ⟨_, rfl⟩
          obtain ⟨ln, hln⟩ : ∃ ln, ln = (bLevelTo L sd (100 - ((p : Int) + 1)) j).2 := ⟨_, rfl⟩
          rw [← hlq, ← hln] at hlv
          rw [← hlq] at x1 l1 l2
          rw [← hln] at x2 l3 l4
          clear hlq hln
          have hdl := bDepthTo_len' L sd p
          by_cases hpos : 0 < ln
          · have hnx : Hid (bDepthTo L sd (p + 1) = bDepthTo L sd p ++ [⟨100 - ((p : Int) + 1), lq, ln⟩]) := by
              show bDepthTo L sd (p + 1) = _
              rw [bDepthTo, hlv.out]; simp only [hpos, if_true]
            have OX : Hid (wr.ownsRow w.heap.size 143 3 u5 (bDepthTo L sd p).length (lvRows (bDepthTo L sd p))) := O1
            clear O1
            go_wp2_with (at_builtin; refine wpList_append_own _ rfl _ _ 97 rfl w.heap.size 143 i0 _ 3 24 Try.underlying97 hi hz0 hz1 hz2 rfl (by decide) _ _ _ rfl (OX.out.alloc _) ⟨wr.heap.size, 0, none⟩ 1 1 [.int .i64 (100 - ((p : Int) + 1)), .int .i64 lq, .int .i64 ln] rfl rfl ?c1 ?c2 ?c3 ?c4 ?c5 ?_)
            case c1 => exact new3 _ _ rfl _ _ _ _
            case c2 => exact one3 _ _ _
            case c3 => unfold maxLen; omega
            case c4 => omega
            case c5 => have := BI.size; simp; omega
            · intro v' w2 hown' hgrow _
              have B2 : Below w.heap.size w w2 := (BI.alloc BI.size _).grown hgrow (by have := BI.size; simp; omega) (fun g hg => (OX.out.lt g hg).1)
              have R : w2.ownsRow w.heap.size 143 3 v' (bDepthTo L sd (p + 1)).length (lvRows (bDepthTo L sd (p + 1))) := by
                rw [hnx.out, lvRows_append, List.length_append]; exact hown'
              clear hown' hgrow OX
              go_wp2
              exact ⟨⟨p + 1, by omega, by go_num, R, B2⟩, by simp [intOf]; omega⟩
          · have hnx : Hid (bDepthTo L sd (p + 1) = bDepthTo L sd p) := by
              show bDepthTo L sd (p + 1) = _
              rw [bDepthTo, hlv.out]; simp only [hpos, if_false]; simp
            go_wp2
            exact ⟨⟨p + 1, by omega, by go_num, by rw [hnx.out]; exact O1, BI⟩, by simp [intOf]; omega⟩
    · go_wp2
      go_ret
      go_light
      have e := HO.out
      rw [bDepth_eq L sd (show p = 99 by omega)] at e
      exact ⟨_, rfl, e, hB⟩

set_option maxRecDepth 100000 in
set_option maxHeartbeats 2000000 in
theorem rdepth_other {w : World} {pb : Nat} {sv : Value} {L : List Od} (sd : Int) (hsd : ¬ sd = 1) (h : RefAt w pb sv L) (hL : BookOk L) :
    Calls Try.prog 43 #[.pointer (some ⟨pb, 0, none⟩), .int .i64 sd] w fun e w' => ∃ v, e = .returned v ∧ w'.ownsRow w.heap.size 143 3 v (bDepth L sd).length (lvRows (bDepth L sd)) ∧ Below w.heap.size w w' := by
  have hl := hL.len
  obtain ⟨a, cap, hs⟩ := h.seen
  have HS : Hid (Seen w pb a cap L) := hs
  clear hs h
  obtain ⟨i0, hi, hz0, hz1, hz2⟩ := info_parts infoLv
  have hb : (sd == 1) = false := by simp [hsd]
  go_enter Try.func43, Try.ntmps43
  go_wp2_with fail
  go_loopw [5, 6] (fun v i wr => ∃ p : Nat, p ≤ 99 ∧ i = .int .i64 ((p : Int) + 1) ∧ wr.ownsRow w.heap.size 143 3 v (bDepthTo L sd p).length (lvRows (bDepthTo L sd p)) ∧ Below w.heap.size w wr) (fun _ i _ => 100 - (intOf i).toNat)
  case atStart => exact ⟨0, Nat.zero_le _, rfl, World.ownsRow_nil _ _ _ _, Below.refl _ _⟩
  case round =>
    obtain ⟨p, hp, rfl, hown, hB⟩ := hrel
    have HO : Hid (wr.ownsRow w.heap.size 143 3 u5 (bDepthTo L sd p).length (lvRows (bDepthTo L sd p))) := hown
    clear hown
    by_cases hlt : p < 99
    · have hle : (p : Int) + 1 ≤ 99 := by omega
      have hpr0 : bPrice sd (p + 1) = (p : Int) + 1 := by unfold bPrice; rw [if_neg hsd]; omega
      have hpr : Hid (bPrice sd (p + 1) = (p : Int) + 1) := hpr0
      clear hpr0
      obtain ⟨wo, hwo⟩ : ∃ wo : World, wo = wr := ⟨wr, rfl⟩
      subst hwo
      go_wp2_with fail
      have hwz : w.heap.size ≤ wo.heap.size := hB.size
      go_loopw [9] (fun i wi => ∃ j : Nat, j ≤ L.length ∧ i = .int .i64 (j : Int) ∧ wi.cell? ⟨wo.heap.size, 0, none⟩ = some (.int .i64 ((p : Int) + 1)) ∧ wi.cell? ⟨wo.heap.size, 1, none⟩ = some (.int .i64 (bLevelTo L sd ((p : Int) + 1) j).1) ∧ wi.cell? ⟨wo.heap.size, 2, none⟩ = some (.int .i64 (bLevelTo L sd ((p : Int) + 1) j).2) ∧ (∀ o, wi.frozen? ⟨wo.heap.size, o, none⟩ = false) ∧ wo.heap.size < wi.heap.size ∧ Below wo.heap.size wo wi) (fun i _ => L.length - (intOf i).toNat)
      case atStart => exact ⟨0, Nat.zero_le _, rfl, by simp, by simp [bLevelTo], by simp [bLevelTo], fun o => by simp, by simp, (Below.refl _ _).alloc (Nat.le_refl _) _⟩
      case round =>
        obtain ⟨j, hj, rfl, x0, x1, x2, fz, hsz, hbi⟩ := hrel
        have f1 := fz 1
        have f2 := fz 2
        have FZ : Hid (∀ o, wr.frozen? ⟨wo.heap.size, o, none⟩ = false) := fz
        clear fz
        have BI : Below w.heap.size w wr := bstep hB hbi
        have hcl := HS.out.1 wr BI
        obtain ⟨⟨l1, l2⟩, l3, l4⟩ := bLevelTo_bd hL sd ((p : Int) + 1) j hj
        by_cases hjl : j < L.length
        · obtain ⟨g, m, ha, HM, HC⟩ := HS.out.at hjl
          obtain ⟨c0, c1, c2, c3, c4⟩ := HC.out wr BI
          obtain ⟨q1, q2⟩ : 1 ≤ m.q ∧ m.q ≤ 99 := by rw [HM.out]; exact (hL.each _ (getD_mem hjl)).2.2.2.2
          have hji : (j : Int) < (L.length : Int) := by omega
          by_cases ms : m.sd = sd
          · by_cases mp : m.pr = (p : Int) + 1
            · have hnx : Hid (bLevelTo L sd ((p : Int) + 1) (j + 1) = ((bLevelTo L sd ((p : Int) + 1) j).1 + m.q, (bLevelTo L sd ((p : Int) + 1) j).2 + 1)) := by rw [HM.out]; exact bLevelTo_yes (by rw [← HM.out]; exact ms) (by rw [← HM.out]; exact mp)
              have hb1 : (m.sd == sd) = true := by simp [ms]
              have hb2 : (m.pr == (p : Int) + 1) = true := by simp [mp]
              clear ms mp
              go_wp2
              go_region
              go_wp2
              obtain ⟨y0, y1, y2⟩ := two_set (.int .i64 ((bLevelTo L sd ((p : Int) + 1) j).1 + m.q)) (.int .i64 ((bLevelTo L sd ((p : Int) + 1) j).2 + 1)) x0 x1 x2
              exact ⟨⟨j + 1, by omega, by go_num, y0, by rw [y1, hnx.out], by rw [y2, hnx.out], fun o => by simp [FZ.out o], by simp; omega, ((hbi.setCell (Nat.le_refl _) _).setCell (Nat.le_refl _) _).drew⟩, by simp [intOf]; omega⟩
            · have hnx : Hid (bLevelTo L sd ((p : Int) + 1) (j + 1) = bLevelTo L sd ((p : Int) + 1) j) := bLevelTo_no (by rw [← HM.out]; exact fun h => mp h.2)
              have hb1 : (m.sd == sd) = true := by simp [ms]
              have hb2 : (m.pr == (p : Int) + 1) = false := by simp; exact mp
              clear ms mp
              go_wp2
              exact ⟨⟨j + 1, by omega, by go_num, x0, by rw [x1, hnx.out], by rw [x2, hnx.out], FZ.out, hsz, hbi⟩, by simp [intOf]; omega⟩
          · have hnx : Hid (bLevelTo L sd ((p : Int) + 1) (j + 1) = bLevelTo L sd ((p : Int) + 1) j) := bLevelTo_no (by rw [← HM.out]; exact fun h => ms h.1)
            have hb1 : (m.sd == sd) = false := by simp [ms]
            clear ms
            go_wp2
            exact ⟨⟨j + 1, by omega, by go_num, x0, by rw [x1, hnx.out], by rw [x2, hnx.out], FZ.out, hsz, hbi⟩, by simp [intOf]; omega⟩
        · have hje : j = L.length := by omega
          have hlv : Hid (bLevel L sd (bPrice sd (p + 1)) = ⟨(p : Int) + 1, (bLevelTo L sd ((p : Int) + 1) j).1, (bLevelTo L sd ((p : Int) + 1) j).2⟩) := by rw [hpr.out, hje]; rfl
          have hje' : Hid (j = L.length) := hje
          clear hje
          have O1 := ownsRow_below' HO.out hbi
          obtain ⟨lq, hlq⟩ : ∃ lq, lq = (bLevelTo L sd ((p : Int) + 1) j).1 := ⟨_, rfl⟩
          obtain ⟨ln, hln⟩ : ∃ ln, ln = (bLevelTo L sd ((p : Int) + 1) j).2 := ⟨_, rfl⟩
          rw [← hlq, ← hln] at hlv
          rw [← hlq] at x1 l1 l2
          rw [← hln] at x2 l3 l4
          clear hlq hln
          have hdl := bDepthTo_len' L sd p
          by_cases hpos : 0 < ln
          · have hnx : Hid (bDepthTo L sd (p + 1) = bDepthTo L sd p ++ [⟨(p : Int) + 1, lq, ln⟩]) := by
              show bDepthTo L sd (p + 1) = _
              rw [bDepthTo, hlv.out]; simp only [hpos, if_true]
            have OX : Hid (wr.ownsRow w.heap.size 143 3 u5 (bDepthTo L sd p).length (lvRows (bDepthTo L sd p))) := O1
            clear O1
            go_wp2_with (at_builtin; refine wpList_append_own _ rfl _ _ 97 rfl w.heap.size 143 i0 _ 3 24 Try.underlying97 hi hz0 hz1 hz2 rfl (by decide) _ _ _ rfl (OX.out.alloc _) ⟨wr.heap.size, 0, none⟩ 1 1 [.int .i64 ((p : Int) + 1), .int .i64 lq, .int .i64 ln] rfl rfl ?c1 ?c2 ?c3 ?c4 ?c5 ?_)
            case c1 => exact new3 _ _ rfl _ _ _ _
            case c2 => exact one3 _ _ _
            case c3 => unfold maxLen; omega
            case c4 => omega
            case c5 => have := BI.size; simp; omega
            · intro v' w2 hown' hgrow _
              have B2 : Below w.heap.size w w2 := (BI.alloc BI.size _).grown hgrow (by have := BI.size; simp; omega) (fun g hg => (OX.out.lt g hg).1)
              have R : w2.ownsRow w.heap.size 143 3 v' (bDepthTo L sd (p + 1)).length (lvRows (bDepthTo L sd (p + 1))) := by
                rw [hnx.out, lvRows_append, List.length_append]; exact hown'
              clear hown' hgrow OX
              go_wp2
              exact ⟨⟨p + 1, by omega, by go_num, R, B2⟩, by simp [intOf]; omega⟩
          · have hnx : Hid (bDepthTo L sd (p + 1) = bDepthTo L sd p) := by
              show bDepthTo L sd (p + 1) = _
              rw [bDepthTo, hlv.out]; simp only [hpos, if_false]; simp
            go_wp2
            exact ⟨⟨p + 1, by omega, by go_num, by rw [hnx.out]; exact O1, BI⟩, by simp [intOf]; omega⟩
    · go_wp2
      go_ret
      go_light
      have e := HO.out
      rw [bDepth_eq L sd (show p = 99 by omega)] at e
      exact ⟨_, rfl, e, hB⟩
end Go.Proofs.Ytbljokilfkodfaa
