/-
  The document's match: what its rounds keep, outside the walk.
-/
import Derived.Test.YtbljokilfkodfaaG8
import Derived.Lib.OwnKind
import Derived.Deep.LoopGhost
namespace Go.Proofs.Ytbljokilfkodfaa
open Go.RowKit

def evCells (e : Ev) : List Value := [.int .i64 e.k, .int .i64 e.cl, .int .i64 e.id, .int .i64 e.ot, .int .i64 e.pr, .int .i64 e.q]
def evRows (l : List Ev) : List Value := l.flatMap evCells
theorem evRows_append (l m : List Ev) : evRows (l ++ m) = evRows l ++ evRows m := by unfold evRows; rw [List.flatMap_append]
theorem evRows_length : ∀ l : List Ev, (evRows l).length = l.length * 6
  | [] => rfl
  | o :: l => by
    have := evRows_length l
    unfold evRows at this ⊢
    rw [List.flatMap_cons, List.length_append, this]; simp [evCells]; omega
theorem evRows_at : ∀ (l : List Ev) (j i : Nat), j < l.length → i < 6 → (evRows l)[j * 6 + i]? = some (.int .i64 (evZ l j i))
  | [], j, i, hj, _ => absurd hj (by simp)
  | o :: l, 0, i, _, hi => by
    unfold evRows
    rw [List.flatMap_cons, List.getElem?_append_left (by simp [evCells]; omega)]
    obtain rfl | rfl | rfl | rfl | rfl | rfl : i = 0 ∨ i = 1 ∨ i = 2 ∨ i = 3 ∨ i = 4 ∨ i = 5 := by omega
    all_goals rfl
  | o :: l, j + 1, i, hj, hi => by
    have := evRows_at l j i (by simpa using hj) hi
    unfold evRows at this ⊢
    rw [List.flatMap_cons, List.getElem?_append_right (by simp [evCells]; omega)]
    have e : (j + 1) * 6 + i - (evCells o).length = j * 6 + i := by simp [evCells]; omega
    rw [e, this]
    obtain rfl | rfl | rfl | rfl | rfl | rfl : i = 0 ∨ i = 1 ∨ i = 2 ∨ i = 3 ∨ i = 4 ∨ i = 5 := by omega
    all_goals rfl
theorem infoEv : (Try.prog.info? 87).map (fun i => (i.zero, i.size, i.bytes)) = some (some (.agg #[.int .i64 0, .int .i64 0, .int .i64 0, .int .i64 0, .int .i64 0, .int .i64 0]), 6, 48) := by kernel_rfl
theorem new6' (W : World) (g : Nat) (hg : g = W.heap.size) (T : TypeId) (v0 v1 v2 v3 v4 v5 : Value) : ∀ (j : Nat) (u : Value), [v0, v1, v2, v3, v4, v5][j]? = some u → (W.alloc (.cells #[v0, v1, v2, v3, v4, v5] T)).cell? ((⟨g, 0, none⟩ : Addr).add j) = some u := by
  subst hg
  intro j u hj
  match j, hj with
  | 0, hj => simp at hj; subst hj; simp [Addr.add]
  | 1, hj => simp at hj; subst hj; simp [Addr.add]
  | 2, hj => simp at hj; subst hj; simp [Addr.add]
  | 3, hj => simp at hj; subst hj; simp [Addr.add]
  | 4, hj => simp at hj; subst hj; simp [Addr.add]
  | 5, hj => simp at hj; subst hj; simp [Addr.add]
theorem one6' (e : Ev) : ∀ u ∈ evCells e, u.oneCell' = true := by
  intro u hu
  simp [evCells] at hu
  rcases hu with rfl | rfl | rfl | rfl | rfl | rfl <;> rfl

/-- An order in a box of its own. -/
def Box5 (W : World) (X : Nat) (c i s p q : Int) : Prop := W.heap[X]? = some (.cells #[.int .i64 c, .int .i64 i, .int .i64 s, .int .i64 p, .int .i64 q] 90 (0, 0))
theorem Box5.lt {W : World} {X : Nat} {c i s p q : Int} (h : Box5 W X c i s p q) : X < W.heap.size := by
  rcases Nat.lt_or_ge X W.heap.size with hl | hl
  · exact hl
  · unfold Box5 at h; rw [Array.getElem?_eq_none hl] at h; cases h
theorem Box5.cells {W : World} {X : Nat} {c i s p q : Int} (h : Box5 W X c i s p q) : W.cell? ⟨X, 0, none⟩ = some (.int .i64 c) ∧ W.cell? ⟨X, 1, none⟩ = some (.int .i64 i) ∧ W.cell? ⟨X, 2, none⟩ = some (.int .i64 s) ∧ W.cell? ⟨X, 3, none⟩ = some (.int .i64 p) ∧ W.cell? ⟨X, 4, none⟩ = some (.int .i64 q) ∧ ∀ o, W.frozen? ⟨X, o, none⟩ = false := by
  unfold Box5 at h
  refine ⟨?_, ?_, ?_, ?_, ?_, fun o => ?_⟩
  all_goals simp [World.cell?, World.frozen?, h]
theorem Box5.keep {W W' : World} {X : Nat} {T : Nat → Prop} {c i s p q : Int} (h : Box5 W X c i s p q) (o : Only T W W') (hT : ¬ T X) : Box5 W' X c i s p q := (o.block X h.lt hT).trans h
theorem Box5.made (W : World) (c i s p q : Int) : Box5 (W.alloc (.cells #[.int .i64 c, .int .i64 i, .int .i64 s, .int .i64 p, .int .i64 q] 90)) W.heap.size c i s p q := by
  unfold Box5; show (W.heap.push _)[W.heap.size]? = _; rw [Array.getElem?_push, if_pos rfl]
theorem Box5.set4 {W : World} {X : Nat} {c i s p q : Int} (h : Box5 W X c i s p q) (r : Int) : Box5 (W.setCell ⟨X, 4, none⟩ (.int .i64 r)) X c i s p r := by
  unfold Box5 at h ⊢
  simp [World.setCell, Array.getElem?_modify, h]

theorem RefAt.keep {w w' : World} {pb : Nat} {sv : Value} {L : List Od} {T : Nat → Prop} (h : RefAt w pb sv L) (o : Only T w w') (h1 : ¬ T pb) (h2 : ∀ k, sv.ownBlock = some k → ¬ T k) : RefAt w' pb sv L := by
  refine ⟨Nat.lt_of_lt_of_le h.lt o.size, (o.cell h.lt h1).trans h.cell, (o.frozen h.lt h1).trans h.free, ?_, h.ne, ?_⟩
  · obtain ⟨a1, a2⟩ := h.own
    refine ⟨a1, ?_⟩
    rcases a2 with a2 | ⟨g, cap, cur, hv, hg, hh, r⟩
    · exact .inl a2
    · have hlt := (h.own.lt g (by rw [hv]; rfl)).2
      exact .inr ⟨g, cap, cur, hv, hg, by rw [o.block g hlt (h2 g (by rw [hv]; rfl))]; exact hh, r⟩
  · obtain ⟨c, fz, hk⟩ := h.kind
    exact ⟨c, fz, by rw [o.block pb h.lt h1]; exact hk⟩
theorem RefAt.keepB {w w' : World} {pb : Nat} {sv : Value} {L : List Od} (h : RefAt w pb sv L) (o : Below w.heap.size w w') : RefAt w' pb sv L :=
  h.keep (T := fun _ => False) (Only.of_below o) id (fun _ _ => id)

/-- The events' row is no block of another kind. -/
theorem row_ne {w : World} {base n k : Nat} {v : Value} {xs : List Value} {c : Array Value} {T : TypeId} {fz : Nat × Nat} (h : w.ownsRow base 87 6 v n xs) (hk : w.heap[k]? = some (.cells c T fz)) (hT : T ≠ 87) : v.ownBlock ≠ some k := by
  intro e
  obtain ⟨c', fz', h'⟩ := Lib.ownsRow_kind h k e
  rw [hk] at h'
  simp at h'
  exact hT h'.2.1
theorem RefAt.row_ne {w : World} {pb base n : Nat} {sv v : Value} {L : List Od} {xs : List Value} (h : RefAt w pb sv L) (hv : w.ownsRow base 87 6 v n xs) : v.ownBlock ≠ some pb ∧ ∀ k, sv.ownBlock = some k → v.ownBlock ≠ some k := by
  obtain ⟨c, fz, hk⟩ := h.kind
  refine ⟨Go.Proofs.Ytbljokilfkodfaa.row_ne hv hk (by decide), fun k hk => ?_⟩
  obtain ⟨c', fz', hk'⟩ := Lib.ownsRow_kind h.own k hk
  exact Go.Proofs.Ytbljokilfkodfaa.row_ne hv hk' (by decide)
theorem only_grown {W W' : World} {row : Option Nat} (h : W.grownBy W' row) : Only (fun k => row = some k) W W' := ⟨h.os, h.tape, h.output, h.size, fun k hk hne => h.block k hk (fun e => hne e.symm)⟩
theorem only_alloc (W : World) (o : Obj) : Only (fun _ => False) W (W.alloc o) := Only.of_below ((Below.refl _ _).alloc (Nat.le_refl _) o)
theorem only_set (W : World) (X o : Nat) (u : Value) : Only (fun k => k = X) W (W.setCell ⟨X, o, none⟩ u) := ⟨rfl, rfl, rfl, by simp [World.setCell], fun k _ hne => Below.heap_setCell _ _ _ _ hne⟩
/-- A row of events is kept by what turns no block of its own. -/
theorem row_keep {w w' : World} {base n : Nat} {e : TypeId} {size : Nat} {v : Value} {xs : List Value} {T : Nat → Prop} (h : w.ownsRow base e size v n xs) (o : Only T w w') (hT : ∀ k, v.ownBlock = some k → ¬ T k) : w'.ownsRow base e size v n xs := by
  obtain ⟨a1, a2⟩ := h
  refine ⟨a1, ?_⟩
  rcases a2 with a2 | ⟨g, cap, cur, hv, hg, hh, r⟩
  · exact .inl a2
  · have hlt : g < w.heap.size := by
      rcases Nat.lt_or_ge g w.heap.size with hl | hl
      · exact hl
      · rw [Array.getElem?_eq_none hl] at hh; cases hh
    exact .inr ⟨g, cap, cur, hv, hg, by rw [o.block g hlt (hT g (by rw [hv]; rfl))]; exact hh, r⟩

/-- Behind an append to the events: all else is as it was. -/
theorem after_append {W W' : World} {pb X Y base n : Nat} {sv v : Value} {M : List Od} {xs : List Value} {c i s p q c' i' s' p' q' : Int} {T : Obj} (R : RefAt W pb sv M) (BX : Box5 W X c i s p q) (BY : Box5 W Y c' i' s' p' q')
    (O : W.ownsRow base 87 6 v n xs) (G : (W.alloc T).grownBy W' v.ownBlock) : RefAt W' pb sv M ∧ Box5 W' X c i s p q ∧ Box5 W' Y c' i' s' p' q' ∧ Only (fun k => v.ownBlock = some k) W W' := by
  have R' := R.keepB ((Below.refl _ _).alloc (Nat.le_refl _) T)
  have BX' := BX.keep (only_alloc W T) id
  have BY' := BY.keep (only_alloc W T) id
  have O' := O.alloc T
  have on := only_grown G
  obtain ⟨n1, n2⟩ := R'.row_ne O'
  exact ⟨R'.keep on n1 n2, BX'.keep on (row_ne O' BX' (by decide)), BY'.keep on (row_ne O' BY' (by decide)), ((only_alloc W T).mono (fun _ _ h => h.elim)).then on (fun _ _ h => h)⟩

theorem RefAt.setq {W : World} {pb g cap : Nat} {M : List Od} (R : RefAt W pb (.slice (some ⟨g, 0, none⟩) M.length cap) M) {k : Nat} (hk : k < M.length) (r : Int) :
    RefAt (W.setCell ⟨g, k * 5 + 4, none⟩ (.int .i64 r)) pb (.slice (some ⟨g, 0, none⟩) M.length cap) (M.set k { M.getD k od0 with q := r }) := by
  have hgpb : g ≠ pb := fun e => R.ne (by simp [Value.ownBlock, e])
  have on := only_set W g (k * 5 + 4) (.int .i64 r)
  refine ⟨Nat.lt_of_lt_of_le R.lt on.size, (on.cell R.lt (fun e => hgpb e.symm)).trans R.cell, (on.frozen R.lt (fun e => hgpb e.symm)).trans R.free, ?_, R.ne, ?_⟩
  · have st := R.own.stored (k * 5 + 4) (.int .i64 r)
    rw [odRows_set M k r hk] at st
    rw [List.length_set]
    exact st.1
  · obtain ⟨c, fz, hkd⟩ := R.kind
    exact ⟨c, fz, by rw [on.block pb R.lt (fun e => hgpb e.symm)]; exact hkd⟩
/-- Behind the two stores of a trade. -/
theorem after_stores {W : World} {pb X Y g cap base n k : Nat} {v : Value} {M : List Od} {xs : List Value} {c i s p q c' i' s' p' q' : Int} (R : RefAt W pb (.slice (some ⟨g, 0, none⟩) M.length cap) M) (BX : Box5 W X c i s p q) (BY : Box5 W Y c' i' s' p' q')
    (O : W.ownsRow base 87 6 v n xs) (hk : k < M.length) (hXp : pb ≠ X) (hgX : g ≠ X) (hgY : g ≠ Y) (hXY : X ≠ Y) (r t : Int) :
    RefAt ((W.setCell ⟨X, 4, none⟩ (.int .i64 t)).setCell ⟨g, k * 5 + 4, none⟩ (.int .i64 r)).drew pb (.slice (some ⟨g, 0, none⟩) M.length cap) (M.set k { M.getD k od0 with q := r }) ∧
    Box5 ((W.setCell ⟨X, 4, none⟩ (.int .i64 t)).setCell ⟨g, k * 5 + 4, none⟩ (.int .i64 r)).drew X c i s p t ∧ Box5 ((W.setCell ⟨X, 4, none⟩ (.int .i64 t)).setCell ⟨g, k * 5 + 4, none⟩ (.int .i64 r)).drew Y c' i' s' p' q' ∧
    ((W.setCell ⟨X, 4, none⟩ (.int .i64 t)).setCell ⟨g, k * 5 + 4, none⟩ (.int .i64 r)).drew.ownsRow base 87 6 v n xs ∧ Only (fun j => j = X ∨ j = g) W ((W.setCell ⟨X, 4, none⟩ (.int .i64 t)).setCell ⟨g, k * 5 + 4, none⟩ (.int .i64 r)).drew := by
  have on1 := only_set W X 4 (.int .i64 t)
  have R1 := R.keep on1 hXp (fun j hj => by simp [Value.ownBlock] at hj; omega)
  have X1 := BX.set4 t
  have Y1 := BY.keep on1 (fun e => hXY e.symm)
  have vX := row_ne O BX (by decide)
  have O1 := row_keep O on1 (fun j hj e => vX (by rw [← e]; exact hj))
  have on2 := only_set (W.setCell ⟨X, 4, none⟩ (.int .i64 t)) g (k * 5 + 4) (.int .i64 r)
  have R2 := R1.setq hk r
  have vg := (R1.row_ne O1).2 g rfl
  have d : ∀ W' : World, Below W'.heap.size W' W'.drew := fun W' => (Below.refl _ _).drew
  refine ⟨R2.keepB (d _), (X1.keep on2 (fun e => hgX e.symm)).keep (Only.of_below (S := fun _ => False) (d _)) id, (Y1.keep on2 (fun e => hgY e.symm)).keep (Only.of_below (S := fun _ => False) (d _)) id, row_keep (row_keep O1 on2 (fun j hj e => vg (by rw [← e]; exact hj))) (Only.of_below (S := fun _ => False) (d _)) (fun _ _ => id), ?_⟩
  exact ((on1.mono (fun _ _ h => Or.inl h)).then (on2.mono (fun _ _ h => Or.inr h)) (fun _ _ h => h)).then (Only.of_below (S := fun _ => False) (d _)) (fun _ _ h => h.elim)
theorem set_erase (M : List Od) (k : Nat) (o : Od) : (M.set k o).eraseIdx k = M.eraseIdx k := by
  apply List.ext_getElem?
  intro j
  rw [List.getElem?_eraseIdx, List.getElem?_eraseIdx]
  split
  · rw [List.getElem?_set_ne (by omega)]
  · rw [List.getElem?_set_ne (by omega)]

/-- How a match goes on from where it stands. -/
def MEq (F : Nat) (L : List Od) (o : Od) (pr : Int) (evs : List Ev) (n : Nat) (M : List Od) (q : Int) : Prop :=
  bMatch F L o pr = (evs ++ (bMatch n M { o with q := q } pr).1, (bMatch n M { o with q := q } pr).2.1, (bMatch n M { o with q := q } pr).2.2)
theorem MEq.start (F : Nat) (L : List Od) (o : Od) (pr : Int) : MEq F L o pr [] F L o.q := by unfold MEq; simp
theorem MEq.stop {F : Nat} {L : List Od} {o : Od} {pr : Int} {evs : List Ev} {n : Nat} {M : List Od} {q : Int} (h : MEq F L o pr evs (n + 1) M q) (hq : 0 < q) (hb : bBest M o.sd pr = none) : bMatch F L o pr = (evs, M, q) := by
  unfold MEq at h
  have hb' : bBest M ({ o with q := q } : Od).sd pr = none := hb
  rw [h, bMatch, if_neg (show ¬ q ≤ 0 by omega), hb']
  simp
theorem MEq.done {F : Nat} {L : List Od} {o : Od} {pr : Int} {evs : List Ev} {n : Nat} {M : List Od} {q : Int} (h : MEq F L o pr evs (n + 1) M q) (hq : q ≤ 0) : bMatch F L o pr = (evs ++ [evFilled o], M, 0) := by
  unfold MEq at h
  rw [h, bMatch, if_pos (show q ≤ 0 from hq)]
  rfl
theorem MEq.next {F : Nat} {L : List Od} {o : Od} {pr : Int} {evs : List Ev} {n : Nat} {M : List Od} {q : Int} (h : MEq F L o pr evs (n + 1) M q) (hq : 0 < q) {k : Nat} (hb : bBest M o.sd pr = some k) :
    MEq F L o pr (evs ++ bTradeEv M k { o with q := q } (bTake { o with q := q } (M.getD k od0))) n (bTraded M k (bTake { o with q := q } (M.getD k od0))) (q - bTake { o with q := q } (M.getD k od0)) := by
  unfold MEq at h ⊢
  have hb' : bBest M ({ o with q := q } : Od).sd pr = some k := hb
  rw [h, bMatch, if_neg (show ¬ q ≤ 0 by omega), hb']
  simp
end Go.Proofs.Ytbljokilfkodfaa
/-
  The document's match: the walk.
-/
namespace Go.Proofs.Ytbljokilfkodfaa
open Go.RowKit

theorem len_ok {n : Nat} (h : n ≤ 60) : n + 1 ≤ maxLen := by unfold maxLen; omega
theorem bytes_ok {n : Nat} (h : n ≤ 60) : (n + 1) * 48 ≤ 140737488355328 := by omega

/-- What holds ahead of each round, n at most to come. -/
def MInv (w : World) (pb : Nat) (S : Nat → Prop) (F : Nat) (L : List Od) (o : Od) (pr : Int) (n : Nat) (v : Value) (wr : World) : Prop :=
  ∃ (M : List Od) (q : Int) (evs : List Ev) (sv : Value), (M.length + 2 ≤ n ∨ (q = 0 ∧ 1 ≤ n)) ∧ n ≤ F ∧ evs.length ≤ 3 * (F - n) ∧ MEq F L o pr evs n M q ∧ BookOk M ∧ 0 ≤ q ∧ q ≤ 99 ∧
    RefAt wr pb sv M ∧ (∀ k, sv.ownBlock = some k → S k ∨ w.heap.size < k) ∧ Box5 wr w.heap.size o.cl o.id o.sd o.pr q ∧ wr.ownsRow w.heap.size 87 6 v evs.length (evRows evs) ∧ Only S w wr

set_option maxRecDepth 100000 in
set_option maxHeartbeats 2000000 in
theorem rmatch_any {w : World} {pb : Nat} {sv0 : Value} {L : List Od} (o : Od) (pr : Int) (h : RefAt w pb sv0 L) (hL : BookOk L) (hq : 1 ≤ o.q ∧ o.q ≤ 99) :
    Calls Try.prog 59 #[.pointer (some ⟨pb, 0, none⟩), .agg #[.int .i64 o.cl, .int .i64 o.id, .int .i64 o.sd, .int .i64 o.pr, .int .i64 o.q], .int .i64 pr] w fun e w' => ∃ v sv, e = .returned (.tuple #[v, .int .i64 (bMatch (L.length + 2) L o pr).2.2]) ∧
      w'.ownsRow w.heap.size 87 6 v (bMatch (L.length + 2) L o pr).1.length (evRows (bMatch (L.length + 2) L o pr).1) ∧ RefAt w' pb sv (bMatch (L.length + 2) L o pr).2.1 ∧ (∀ k, sv.ownBlock = some k → sv0.ownBlock = some k ∨ w.heap.size ≤ k) ∧ Only (fun k => k = pb ∨ sv0.ownBlock = some k) w w' := by
  obtain ⟨i0, hi, hz0, hz1, hz2⟩ := info_parts infoEv
  have hl := hL.len
  have hpb := h.lt
  have I0 : Hid (MInv w pb (fun k => k = pb ∨ sv0.ownBlock = some k) (L.length + 2) L o pr (L.length + 2) (.slice none 0 0) (w.alloc (.cells #[.int .i64 o.cl, .int .i64 o.id, .int .i64 o.sd, .int .i64 o.pr, .int .i64 o.q] 90))) :=
    ⟨L, o.q, [], sv0, .inl (Nat.le_refl _), Nat.le_refl _, by simp, MEq.start _ _ _ _, hL, by omega, by omega, h.keepB ((Below.refl _ _).alloc (Nat.le_refl _) _), fun k hk => .inl (.inr hk), Box5.made w _ _ _ _ _, World.ownsRow_nil _ _ _ _, (only_alloc w _).mono (fun _ _ h => h.elim)⟩
  have hsv0 : Hid (∀ k, sv0.ownBlock = some k → k < w.heap.size) := fun k hk => (h.own.lt k hk).2
  clear h
  go_enter Try.func59, Try.ntmps59
  go_wp2_with fail
  go_loopg [8] (L.length + 2) (fun n v wr => MInv w pb (fun k => k = pb ∨ sv0.ownBlock = some k) (L.length + 2) L o pr n v wr)
  case atStart => exact I0.out
  case round =>
    obtain ⟨M, q, evs, sv, hfu, hnF, hel, meq, okM, q0, q99, ra, svn, bx, own, on⟩ := hrel
    obtain ⟨n, rfl⟩ : ∃ n, gk = n + 1 := ⟨gk - 1, by omega⟩
    have HM : Hid (MEq (L.length + 2) L o pr evs (n + 1) M q) := meq
    have HR : Hid (RefAt wr pb sv M) := ra
    have HO : Hid (wr.ownsRow w.heap.size 87 6 u8 evs.length (evRows evs)) := own
    have HB : Hid (Box5 wr w.heap.size o.cl o.id o.sd o.pr q) := bx
    have HSv : Hid (∀ k, sv.ownBlock = some k → (k = pb ∨ sv0.ownBlock = some k) ∨ w.heap.size < k) := svn
    have HON : Hid (Only (fun k => k = pb ∨ sv0.ownBlock = some k) w wr) := on
    obtain ⟨x0, x1, x2, x3, x4, fx⟩ := bx.cells
    have hXlt := bx.lt
    have hev : evs.length ≤ 50 := by omega
    have hnF2 : n ≤ L.length + 2 := by omega
    have hel3 : evs.length + 3 ≤ 3 * (L.length + 2 - n) := by omega
    clear meq ra own bx svn on I0
    by_cases hqp : 0 < q
    · go_wp2_with fail
      refine (rbest_any o.sd pr HR.out (by have := okM.len; omega)).mono ?_
      rintro e w1 ⟨rfl, b1⟩
      have R1 := HR.out.keepB b1
      have X1 := HB.out.keep (Only.of_below (S := fun _ => False) b1) id
      have O1 := row_keep HO.out (Only.of_below (S := fun _ => False) b1) (fun _ _ => id)
      have N1 := HON.out.then (Only.of_below (S := fun _ => False) b1) (fun _ _ h => h.elim)
      obtain ⟨y0, y1, y2, y3, y4, fy⟩ := X1.cells
      clear x0 x1 x2 x3 x4 fx
      cases hbst : bBest M o.sd pr with
      | none =>
        have ho : optI none = -1 := rfl
        have hfin : Hid (bMatch (L.length + 2) L o pr = (evs, M, q)) := HM.out.stop hqp hbst
        go_wp2
        go_quiet (fail)
        go_wp2
        go_ret2
        go_light
        have hfo := hfin.out
        rw [hfo]
        exact ⟨_, sv, rfl, row_keep O1 (Only.of_below (S := fun _ => False) (below_drewN (Below.refl _ _) nq)) (fun _ _ => id), R1.keepB (below_drewN (Below.refl _ _) nq), fun k hk => by rcases HSv.out k hk with (h | h) | h; exact absurd hk (by rw [h]; exact R1.ne); exact .inl h; exact .inr (by omega), N1.drewN nq⟩
      | some k =>
        have ho : optI (some k) = (k : Int) := rfl
        have hneg : ¬ (k : Int) < 0 := by omega
        have hkM := bBest_some hbst
        have hEl2 : (M.eraseIdx k).length + 2 ≤ n := by rw [List.length_eraseIdx_of_lt hkM]; omega
        have hn1 : 1 ≤ n := by omega
        obtain ⟨a, cap, hsv, hgg⟩ := R1.form
        obtain ⟨g, ha, hg1, hgpb, hcells⟩ := hgg (by omega)
        rw [ha] at hsv
        have hcl : w1.cell? ⟨pb, 0, none⟩ = some (.slice (some ⟨g, 0, none⟩) M.length cap) := by rw [R1.cell, hsv]
        obtain ⟨m, hm⟩ : ∃ m, m = M.getD k od0 := ⟨_, rfl⟩
        have c0 : w1.cell? ⟨g, k * 5, none⟩ = some (.int .i64 m.cl) := by rw [hm]; exact hcells k 0 hkM (by omega)
        have c1 : w1.cell? ⟨g, k * 5 + 1, none⟩ = some (.int .i64 m.id) := by rw [hm]; exact hcells k 1 hkM (by omega)
        have c2 : w1.cell? ⟨g, k * 5 + 2, none⟩ = some (.int .i64 m.sd) := by rw [hm]; exact hcells k 2 hkM (by omega)
        have c3 : w1.cell? ⟨g, k * 5 + 3, none⟩ = some (.int .i64 m.pr) := by rw [hm]; exact hcells k 3 hkM (by omega)
        have c4 : w1.cell? ⟨g, k * 5 + 4, none⟩ = some (.int .i64 m.q) := by rw [hm]; exact hcells k 4 hkM (by omega)
        have HMm : Hid (m = M.getD k od0) := hm
        have HSV : Hid (sv = .slice (some ⟨g, 0, none⟩) M.length cap) := hsv
        obtain ⟨mq1, mq2⟩ : 1 ≤ m.q ∧ m.q ≤ 99 := by rw [hm]; exact (okM.each _ (getD_mem hkM)).2.2.2.2
        clear hcells hm hsv ha
        have hki : (k : Int) < (M.length : Int) := by omega
        have hX1 := X1.lt
        have hp1 := R1.lt
        have HR1 : Hid (RefAt w1 pb sv M) := R1
        have HX1 : Hid (Box5 w1 w.heap.size o.cl o.id o.sd o.pr q) := X1
        have HO1 : Hid (w1.ownsRow w.heap.size 87 6 u8 evs.length (evRows evs)) := O1
        have HN1 : Hid (Only (fun k => k = pb ∨ sv0.ownBlock = some k) w w1) := N1
        clear R1 X1 O1 N1
        by_cases hmq : m.q < q
        · have hA : Hid (m.q < q) := hmq
          go_wp2_with (at_builtin; refine wpList_append_own _ rfl (.tmp 40) (.tmp 51) 35 rfl w.heap.size 87 i0 _ 6 48 Try.underlying35 hi hz0 hz1 hz2 rfl (by decide) _ _ _ rfl ((HO1.out.alloc _).alloc _) ⟨w1.heap.size + 1, 0, none⟩ 1 1 (evCells ⟨3, o.cl, o.id, m.id, m.pr, m.q⟩) rfl rfl ?c1 ?c2 ?c3 ?c4 ?c5 ?_)
          case c1 => exact new6' _ _ (by simp) _ _ _ _ _ _ _
          case c2 => exact one6' _
          case c3 => exact len_ok (Nat.le_trans hev (by decide))
          case c4 => exact bytes_ok (Nat.le_trans hev (by decide))
          case c5 => have := HN1.out.size; simp; omega
          · intro v3 w3 own3 grow3 _
            obtain ⟨R3, X3, Y3, N3⟩ := after_append (HR1.out.keepB ((Below.refl _ _).alloc (Nat.le_refl _) _)) (HX1.out.keep (only_alloc _ _) id) (Box5.made w1 m.cl m.id m.sd m.pr m.q) (HO1.out.alloc _) grow3
            obtain ⟨x30, x31, x32, x33, x34, fx3⟩ := X3.cells
            obtain ⟨m30, m31, m32, m33, m34, fm3⟩ := Y3.cells
            have HO3 : Hid (w3.ownsRow w.heap.size 87 6 v3 (evs.length + 1) (evRows evs ++ evCells ⟨3, o.cl, o.id, m.id, m.pr, m.q⟩)) := own3
            have hX3 := X3.lt
            have hY3 := Y3.lt
            have S3 : Hid (Only (fun k => k = pb ∨ sv0.ownBlock = some k) w w3) := HN1.out.then (((only_alloc w1 _).mono (fun _ _ h => h.elim)).then N3 (fun _ _ h => h)) (fun i hi h => by have := (HO1.out.lt i h).1; omega)
            clear own3 grow3 y0 y1 y2 y3 y4 fy c0 c1 c2 c3 c4 hcl
            go_wp2_with (at_builtin; refine wpList_append_own _ rfl (.tmp 53) (.tmp 64) 35 rfl w.heap.size 87 i0 _ 6 48 Try.underlying35 hi hz0 hz1 hz2 rfl (by decide) _ _ _ rfl (HO3.out.alloc _) ⟨w3.heap.size, 0, none⟩ 1 1 (evCells ⟨3, m.cl, m.id, o.id, m.pr, m.q⟩) rfl rfl ?d1 ?d2 ?d3 ?d4 ?d5 ?_)
            case d1 => exact new6' _ _ rfl _ _ _ _ _ _ _
            case d2 => exact one6' _
            case d3 => exact len_ok (Nat.le_trans (Nat.succ_le_succ hev) (by decide))
            case d4 => exact bytes_ok (Nat.le_trans (Nat.succ_le_succ hev) (by decide))
            case d5 => have := S3.out.size; simp; omega
            · intro v4 w4 own4 grow4 _
              obtain ⟨R4, X4, Y4, N4⟩ := after_append R3 X3 Y3 HO3.out grow4
              obtain ⟨x40, x41, x42, x43, x44, fx4⟩ := X4.cells
              obtain ⟨m40, m41, m42, m43, m44, fm4⟩ := Y4.cells
              have O4 : w4.ownsRow w.heap.size 87 6 v4 (evs.length + 1 + 1) (evRows evs ++ (evCells ⟨3, o.cl, o.id, m.id, m.pr, m.q⟩ ++ evCells ⟨3, m.cl, m.id, o.id, m.pr, m.q⟩)) := own4
              have hX4 := X4.lt
              have hY4 := Y4.lt
              have S4 : Hid (Only (fun k => k = pb ∨ sv0.ownBlock = some k) w w4) := S3.out.then N4 (fun i hi h => by have := (HO3.out.lt i h).1; omega)
              rw [HSV.out] at R4
              have hcl4 := R4.cell
              have gc4 : w4.cell? ⟨g, k * 5 + 4, none⟩ = some (.int .i64 (odF (M.getD k od0) 4)) := (R4.own.cellAt (k * 5 + 4) (by omega)).trans (odRows_at M k 4 hkM (by omega))
              have gf4 : w4.frozen? ⟨g, k * 5 + 4, none⟩ = false := R4.own.frozenAt _
              obtain ⟨gq, hgq⟩ : ∃ gq, gq = odF (M.getD k od0) 4 := ⟨_, rfl⟩
              rw [← hgq] at gc4
              clear hgq
              have hgX : g ≠ w.heap.size := by
                intro e
                rcases HSv.out g (by rw [HSV.out]; rfl) with (h | h) | h
                · omega
                · have := hsv0.out g h; omega
                · omega
              have hgY : g ≠ w1.heap.size := by omega
              have hpX : pb ≠ w.heap.size := by omega
              have hXY : w.heap.size ≠ w1.heap.size := by omega
              obtain ⟨R6, X6, Y6, O6, N6⟩ := after_stores R4 X4 Y4 O4 hkM hpX hgX hgY hXY (0) (q - m.q)
              have HR6 : Hid (RefAt ((w4.setCell ⟨w.heap.size, 4, none⟩ (.int .i64 (q - m.q))).setCell ⟨g, k * 5 + 4, none⟩ (.int .i64 (0))).drew pb (.slice (some ⟨g, 0, none⟩) M.length cap) (M.set k { M.getD k od0 with q := 0 })) := R6
              have HX6 : Hid (Box5 ((w4.setCell ⟨w.heap.size, 4, none⟩ (.int .i64 (q - m.q))).setCell ⟨g, k * 5 + 4, none⟩ (.int .i64 (0))).drew w.heap.size o.cl o.id o.sd o.pr (q - m.q)) := X6
              have HY6 : Hid (Box5 ((w4.setCell ⟨w.heap.size, 4, none⟩ (.int .i64 (q - m.q))).setCell ⟨g, k * 5 + 4, none⟩ (.int .i64 (0))).drew w1.heap.size m.cl m.id m.sd m.pr m.q) := Y6
              have HO6 : Hid (((w4.setCell ⟨w.heap.size, 4, none⟩ (.int .i64 (q - m.q))).setCell ⟨g, k * 5 + 4, none⟩ (.int .i64 (0))).drew.ownsRow w.heap.size 87 6 v4 (evs.length + 1 + 1) (evRows evs ++ (evCells ⟨3, o.cl, o.id, m.id, m.pr, m.q⟩ ++ evCells ⟨3, m.cl, m.id, o.id, m.pr, m.q⟩))) := O6
              have S6 : Hid (Only (fun k => k = pb ∨ sv0.ownBlock = some k) w ((w4.setCell ⟨w.heap.size, 4, none⟩ (.int .i64 (q - m.q))).setCell ⟨g, k * 5 + 4, none⟩ (.int .i64 (0))).drew) := S4.out.then N6 (fun i hi h => by
                rcases h with h | h
                · omega
                · subst h
                  rcases HSv.out i (by rw [HSV.out]; rfl) with h | h
                  · exact h
                  · omega)
              clear own4 grow4 x30 x31 x32 x33 x34 fx3 m30 m31 m32 m33 m34 fm3 R3 X3 Y3 R4 X4 Y4 O4 R6 X6 Y6 O6 N6 N4 N3
              go_wp2_with fail
              go_region
              go_wp2_with (at_builtin; refine wpList_append_own _ rfl (.tmp 86) (.tmp 92) 35 rfl w.heap.size 87 i0 _ 6 48 Try.underlying35 hi hz0 hz1 hz2 rfl (by decide) _ _ _ rfl (HO6.out.alloc _) ⟨w4.heap.size, 0, none⟩ 1 1 (evCells ⟨4, m.cl, m.id, 0, 0, 0⟩) rfl rfl ?e1 ?e2 ?e3 ?e4 ?e5 ?_)
              case e1 => exact new6' _ _ (by simp) _ _ _ _ _ _ _
              case e2 => exact one6' _
              case e3 => exact len_ok (Nat.le_trans (Nat.succ_le_succ (Nat.succ_le_succ hev)) (by decide))
              case e4 => exact bytes_ok (Nat.le_trans (Nat.succ_le_succ (Nat.succ_le_succ hev)) (by decide))
              case e5 => have := S4.out.size; simp; omega
              · intro v7 w7 own7 grow7 _
                obtain ⟨R7, X7, Y7, N7⟩ := after_append HR6.out HX6.out HY6.out HO6.out grow7
                have O7 : w7.ownsRow w.heap.size 87 6 v7 (evs ++ bTradeEv M k { o with q := q } (m.q)).length (evRows (evs ++ bTradeEv M k { o with q := q } (m.q))) := by
                  have e : bTradeEv M k { o with q := q } (m.q) = [⟨3, o.cl, o.id, m.id, m.pr, m.q⟩, ⟨3, m.cl, m.id, o.id, m.pr, m.q⟩, ⟨4, m.cl, m.id, 0, 0, 0⟩] := by
                    unfold bTradeEv
                    rw [← HMm.out, if_pos (by rfl)]
                    rfl
                  rw [e, evRows_append, List.length_append]
                  have h7 := own7
                  simp only [evRows, List.flatMap_cons, List.flatMap_nil, List.append_nil] at h7 ⊢
                  exact h7
                have S7 := S6.out.then N7 (fun i hi h => by have := (HO6.out.lt i h).1; omega)
                clear own7 grow7
                have hnx := HM.out.next hqp hbst
                have ht : bTake { o with q := q } (M.getD k od0) = m.q := by unfold bTake; rw [← HMm.out]; exact if_pos hA.out
                rw [ht] at hnx
                have hbt : bTraded M k (m.q) = M.eraseIdx k := by unfold bTraded; rw [← HMm.out, if_pos (by rfl)]
                rw [hbt] at hnx
                have okE := okM.erase k
                have HNX : Hid (MEq (L.length + 2) L o pr (evs ++ bTradeEv M k { o with q := q } (m.q)) n (M.eraseIdx k) (q - m.q)) := hnx
                have HO7 : Hid (w7.ownsRow w.heap.size 87 6 v7 (evs ++ bTradeEv M k { o with q := q } (m.q)).length (evRows (evs ++ bTradeEv M k { o with q := q } (m.q)))) := O7
                have hlen3 : (bTradeEv M k { o with q := q } (m.q)).length ≤ 3 := by unfold bTradeEv; split <;> simp
                have hlA : (evs ++ bTradeEv M k { o with q := q } (m.q)).length ≤ evs.length + 3 := by rw [List.length_append]; omega
                have HLA : Hid ((evs ++ bTradeEv M k { o with q := q } (m.q)).length ≤ evs.length + 3) := hlA
                clear hnx ht hbt O7 hlen3 hlA
                have HR7 : Hid (RefAt w7 pb (.slice (some ⟨g, 0, none⟩) M.length cap) (M.set k { M.getD k od0 with q := 0 })) := R7
                have HX7 : Hid (Box5 w7 w.heap.size o.cl o.id o.sd o.pr (q - m.q)) := X7
                have HS7 : Hid (Only (fun k => k = pb ∨ sv0.ownBlock = some k) w w7) := S7
                clear R7 X7 Y7 N7 S7 x40 x41 x42 x43 x44 fx4 m40 m41 m42 m43 m44 fm4 hcl4 gc4 gf4
                go_wp2_with fail
                refine (rdrop_any k HR7.out (by rw [List.length_set]; have := okM.len; omega) (by rw [List.length_set]; exact hkM)).mono ?_
                rintro e w8 ⟨rfl, sv8, R8, N8, new8⟩
                rw [set_erase] at R8
                have X8 := HX7.out.keep N8 (fun e => hpX e.symm)
                have O8 := row_keep HO7.out N8 (fun j hj e => (HR7.out.row_ne HO7.out).1 (by rw [← e]; exact hj))
                have S8 := HS7.out.then N8 (fun i hi h => .inl h)
                have hfin : MInv w pb (fun k => k = pb ∨ sv0.ownBlock = some k) (L.length + 2) L o pr n v7 w8 :=
                  ⟨M.eraseIdx k, q - m.q, _, sv8, .inl hEl2, hnF2, Nat.le_trans HLA.out hel3, HNX.out, okE, by omega, by omega, R8, fun j hj => .inr (by have := new8 j hj; have := HS7.out.size; have := HX7.out.lt; omega), X8, O8, S8⟩
                have HF : Hid (MInv w pb (fun k => k = pb ∨ sv0.ownBlock = some k) (L.length + 2) L o pr n v7 w8) := hfin
                clear R8 X8 O8 S8 hfin N8
                go_wp2
                go_roundg n
                case measure => omega
                case rel => exact HF.out
        · by_cases heq : m.q = q
          · have hB1 : (m.q == q) = true := by simp [heq]
            have hB2 : ¬ m.q < q := by omega
            have HE : Hid (m.q = q) := heq
            clear heq hmq
            go_wp2_with (at_builtin; refine wpList_append_own _ rfl (.tmp 40) (.tmp 51) 35 rfl w.heap.size 87 i0 _ 6 48 Try.underlying35 hi hz0 hz1 hz2 rfl (by decide) _ _ _ rfl ((HO1.out.alloc _).alloc _) ⟨w1.heap.size + 1, 0, none⟩ 1 1 (evCells ⟨3, o.cl, o.id, m.id, m.pr, q⟩) rfl rfl ?c1 ?c2 ?c3 ?c4 ?c5 ?_)
            case c1 => exact new6' _ _ (by simp) _ _ _ _ _ _ _
            case c2 => exact one6' _
            case c3 => exact len_ok (Nat.le_trans hev (by decide))
            case c4 => exact bytes_ok (Nat.le_trans hev (by decide))
            case c5 => have := HN1.out.size; simp; omega
            · intro v3 w3 own3 grow3 _
              obtain ⟨R3, X3, Y3, N3⟩ := after_append (HR1.out.keepB ((Below.refl _ _).alloc (Nat.le_refl _) _)) (HX1.out.keep (only_alloc _ _) id) (Box5.made w1 m.cl m.id m.sd m.pr m.q) (HO1.out.alloc _) grow3
              obtain ⟨x30, x31, x32, x33, x34, fx3⟩ := X3.cells
              obtain ⟨m30, m31, m32, m33, m34, fm3⟩ := Y3.cells
              have HO3 : Hid (w3.ownsRow w.heap.size 87 6 v3 (evs.length + 1) (evRows evs ++ evCells ⟨3, o.cl, o.id, m.id, m.pr, q⟩)) := own3
              have hX3 := X3.lt
              have hY3 := Y3.lt
              have S3 : Hid (Only (fun k => k = pb ∨ sv0.ownBlock = some k) w w3) := HN1.out.then (((only_alloc w1 _).mono (fun _ _ h => h.elim)).then N3 (fun _ _ h => h)) (fun i hi h => by have := (HO1.out.lt i h).1; omega)
              clear own3 grow3 y0 y1 y2 y3 y4 fy c0 c1 c2 c3 c4 hcl
              go_wp2_with (at_builtin; refine wpList_append_own _ rfl (.tmp 53) (.tmp 64) 35 rfl w.heap.size 87 i0 _ 6 48 Try.underlying35 hi hz0 hz1 hz2 rfl (by decide) _ _ _ rfl (HO3.out.alloc _) ⟨w3.heap.size, 0, none⟩ 1 1 (evCells ⟨3, m.cl, m.id, o.id, m.pr, q⟩) rfl rfl ?d1 ?d2 ?d3 ?d4 ?d5 ?_)
              case d1 => exact new6' _ _ rfl _ _ _ _ _ _ _
              case d2 => exact one6' _
              case d3 => exact len_ok (Nat.le_trans (Nat.succ_le_succ hev) (by decide))
              case d4 => exact bytes_ok (Nat.le_trans (Nat.succ_le_succ hev) (by decide))
              case d5 => have := S3.out.size; simp; omega
              · intro v4 w4 own4 grow4 _
                obtain ⟨R4, X4, Y4, N4⟩ := after_append R3 X3 Y3 HO3.out grow4
                obtain ⟨x40, x41, x42, x43, x44, fx4⟩ := X4.cells
                obtain ⟨m40, m41, m42, m43, m44, fm4⟩ := Y4.cells
                have O4 : w4.ownsRow w.heap.size 87 6 v4 (evs.length + 1 + 1) (evRows evs ++ (evCells ⟨3, o.cl, o.id, m.id, m.pr, q⟩ ++ evCells ⟨3, m.cl, m.id, o.id, m.pr, q⟩)) := own4
                have hX4 := X4.lt
                have hY4 := Y4.lt
                have S4 : Hid (Only (fun k => k = pb ∨ sv0.ownBlock = some k) w w4) := S3.out.then N4 (fun i hi h => by have := (HO3.out.lt i h).1; omega)
                rw [HSV.out] at R4
                have hcl4 := R4.cell
                have gc4 : w4.cell? ⟨g, k * 5 + 4, none⟩ = some (.int .i64 (odF (M.getD k od0) 4)) := (R4.own.cellAt (k * 5 + 4) (by omega)).trans (odRows_at M k 4 hkM (by omega))
                have gf4 : w4.frozen? ⟨g, k * 5 + 4, none⟩ = false := R4.own.frozenAt _
                obtain ⟨gq, hgq⟩ : ∃ gq, gq = odF (M.getD k od0) 4 := ⟨_, rfl⟩
                rw [← hgq] at gc4
                clear hgq
                have hgX : g ≠ w.heap.size := by
                  intro e
                  rcases HSv.out g (by rw [HSV.out]; rfl) with (h | h) | h
                  · omega
                  · have := hsv0.out g h; omega
                  · omega
                have hgY : g ≠ w1.heap.size := by omega
                have hpX : pb ≠ w.heap.size := by omega
                have hXY : w.heap.size ≠ w1.heap.size := by omega
                obtain ⟨R6, X6, Y6, O6, N6⟩ := after_stores R4 X4 Y4 O4 hkM hpX hgX hgY hXY (m.q - q) (0)
                have HR6 : Hid (RefAt ((w4.setCell ⟨w.heap.size, 4, none⟩ (.int .i64 (0))).setCell ⟨g, k * 5 + 4, none⟩ (.int .i64 (m.q - q))).drew pb (.slice (some ⟨g, 0, none⟩) M.length cap) (M.set k { M.getD k od0 with q := m.q - q })) := R6
                have HX6 : Hid (Box5 ((w4.setCell ⟨w.heap.size, 4, none⟩ (.int .i64 (0))).setCell ⟨g, k * 5 + 4, none⟩ (.int .i64 (m.q - q))).drew w.heap.size o.cl o.id o.sd o.pr (0)) := X6
                have HY6 : Hid (Box5 ((w4.setCell ⟨w.heap.size, 4, none⟩ (.int .i64 (0))).setCell ⟨g, k * 5 + 4, none⟩ (.int .i64 (m.q - q))).drew w1.heap.size m.cl m.id m.sd m.pr m.q) := Y6
                have HO6 : Hid (((w4.setCell ⟨w.heap.size, 4, none⟩ (.int .i64 (0))).setCell ⟨g, k * 5 + 4, none⟩ (.int .i64 (m.q - q))).drew.ownsRow w.heap.size 87 6 v4 (evs.length + 1 + 1) (evRows evs ++ (evCells ⟨3, o.cl, o.id, m.id, m.pr, q⟩ ++ evCells ⟨3, m.cl, m.id, o.id, m.pr, q⟩))) := O6
                have S6 : Hid (Only (fun k => k = pb ∨ sv0.ownBlock = some k) w ((w4.setCell ⟨w.heap.size, 4, none⟩ (.int .i64 (0))).setCell ⟨g, k * 5 + 4, none⟩ (.int .i64 (m.q - q))).drew) := S4.out.then N6 (fun i hi h => by
                  rcases h with h | h
                  · omega
                  · subst h
                    rcases HSv.out i (by rw [HSV.out]; rfl) with h | h
                    · exact h
                    · omega)
                clear own4 grow4 x30 x31 x32 x33 x34 fx3 m30 m31 m32 m33 m34 fm3 R3 X3 Y3 R4 X4 Y4 O4 R6 X6 Y6 O6 N6 N4 N3
                go_wp2_with fail
                go_region
                go_wp2_with (at_builtin; refine wpList_append_own _ rfl (.tmp 86) (.tmp 92) 35 rfl w.heap.size 87 i0 _ 6 48 Try.underlying35 hi hz0 hz1 hz2 rfl (by decide) _ _ _ rfl (HO6.out.alloc _) ⟨w4.heap.size, 0, none⟩ 1 1 (evCells ⟨4, m.cl, m.id, 0, 0, 0⟩) rfl rfl ?e1 ?e2 ?e3 ?e4 ?e5 ?_)
                case e1 => exact new6' _ _ (by simp) _ _ _ _ _ _ _
                case e2 => exact one6' _
                case e3 => exact len_ok (Nat.le_trans (Nat.succ_le_succ (Nat.succ_le_succ hev)) (by decide))
                case e4 => exact bytes_ok (Nat.le_trans (Nat.succ_le_succ (Nat.succ_le_succ hev)) (by decide))
                case e5 => have := S4.out.size; simp; omega
                · intro v7 w7 own7 grow7 _
                  obtain ⟨R7, X7, Y7, N7⟩ := after_append HR6.out HX6.out HY6.out HO6.out grow7
                  have O7 : w7.ownsRow w.heap.size 87 6 v7 (evs ++ bTradeEv M k { o with q := q } (q)).length (evRows (evs ++ bTradeEv M k { o with q := q } (q))) := by
                    have e : bTradeEv M k { o with q := q } (q) = [⟨3, o.cl, o.id, m.id, m.pr, q⟩, ⟨3, m.cl, m.id, o.id, m.pr, q⟩, ⟨4, m.cl, m.id, 0, 0, 0⟩] := by
                      unfold bTradeEv
                      rw [← HMm.out, if_pos (by exact HE.out)]
                      rfl
                    rw [e, evRows_append, List.length_append]
                    have h7 := own7
                    simp only [evRows, List.flatMap_cons, List.flatMap_nil, List.append_nil] at h7 ⊢
                    exact h7
                  have S7 := S6.out.then N7 (fun i hi h => by have := (HO6.out.lt i h).1; omega)
                  clear own7 grow7
                  have hnx := HM.out.next hqp hbst
                  have ht : bTake { o with q := q } (M.getD k od0) = q := by unfold bTake; rw [← HMm.out]; exact if_neg (show ¬ m.q < q by omega)
                  rw [ht] at hnx
                  have hbt : bTraded M k (q) = M.eraseIdx k := by unfold bTraded; rw [← HMm.out, if_pos (by exact HE.out)]
                  rw [hbt, Int.sub_self] at hnx
                  have okE := okM.erase k
                  have HNX : Hid (MEq (L.length + 2) L o pr (evs ++ bTradeEv M k { o with q := q } (q)) n (M.eraseIdx k) (0)) := hnx
                  have HO7 : Hid (w7.ownsRow w.heap.size 87 6 v7 (evs ++ bTradeEv M k { o with q := q } (q)).length (evRows (evs ++ bTradeEv M k { o with q := q } (q)))) := O7
                  have hlen3 : (bTradeEv M k { o with q := q } (q)).length ≤ 3 := by unfold bTradeEv; split <;> simp
                  have hlA : (evs ++ bTradeEv M k { o with q := q } (q)).length ≤ evs.length + 3 := by rw [List.length_append]; omega
                  have HLA : Hid ((evs ++ bTradeEv M k { o with q := q } (q)).length ≤ evs.length + 3) := hlA
                  clear hnx ht hbt O7 hlen3 hlA
                  have HR7 : Hid (RefAt w7 pb (.slice (some ⟨g, 0, none⟩) M.length cap) (M.set k { M.getD k od0 with q := m.q - q })) := R7
                  have HX7 : Hid (Box5 w7 w.heap.size o.cl o.id o.sd o.pr (0)) := X7
                  have HS7 : Hid (Only (fun k => k = pb ∨ sv0.ownBlock = some k) w w7) := S7
                  clear R7 X7 Y7 N7 S7 x40 x41 x42 x43 x44 fx4 m40 m41 m42 m43 m44 fm4 hcl4 gc4 gf4
                  go_wp2_with fail
                  refine (rdrop_any k HR7.out (by rw [List.length_set]; have := okM.len; omega) (by rw [List.length_set]; exact hkM)).mono ?_
                  rintro e w8 ⟨rfl, sv8, R8, N8, new8⟩
                  rw [set_erase] at R8
                  have X8 := HX7.out.keep N8 (fun e => hpX e.symm)
                  have O8 := row_keep HO7.out N8 (fun j hj e => (HR7.out.row_ne HO7.out).1 (by rw [← e]; exact hj))
                  have S8 := HS7.out.then N8 (fun i hi h => .inl h)
                  have hfin : MInv w pb (fun k => k = pb ∨ sv0.ownBlock = some k) (L.length + 2) L o pr n v7 w8 :=
                    ⟨M.eraseIdx k, 0, _, sv8, .inl hEl2, hnF2, Nat.le_trans HLA.out hel3, HNX.out, okE, by omega, by omega, R8, fun j hj => .inr (by have := new8 j hj; have := HS7.out.size; have := HX7.out.lt; omega), X8, O8, S8⟩
                  have HF : Hid (MInv w pb (fun k => k = pb ∨ sv0.ownBlock = some k) (L.length + 2) L o pr n v7 w8) := hfin
                  clear R8 X8 O8 S8 hfin N8
                  go_wp2
                  go_roundg n
                  case measure => omega
                  case rel => exact HF.out
          · have hB1 : (m.q == q) = false := by simp [heq]
            have hB2 : ¬ m.q < q := by omega
            have HE : Hid (m.q ≠ q) := heq
            clear heq hmq
            go_wp2_with (at_builtin; refine wpList_append_own _ rfl (.tmp 40) (.tmp 51) 35 rfl w.heap.size 87 i0 _ 6 48 Try.underlying35 hi hz0 hz1 hz2 rfl (by decide) _ _ _ rfl ((HO1.out.alloc _).alloc _) ⟨w1.heap.size + 1, 0, none⟩ 1 1 (evCells ⟨3, o.cl, o.id, m.id, m.pr, q⟩) rfl rfl ?c1 ?c2 ?c3 ?c4 ?c5 ?_)
            case c1 => exact new6' _ _ (by simp) _ _ _ _ _ _ _
            case c2 => exact one6' _
            case c3 => exact len_ok (Nat.le_trans hev (by decide))
            case c4 => exact bytes_ok (Nat.le_trans hev (by decide))
            case c5 => have := HN1.out.size; simp; omega
            · intro v3 w3 own3 grow3 _
              obtain ⟨R3, X3, Y3, N3⟩ := after_append (HR1.out.keepB ((Below.refl _ _).alloc (Nat.le_refl _) _)) (HX1.out.keep (only_alloc _ _) id) (Box5.made w1 m.cl m.id m.sd m.pr m.q) (HO1.out.alloc _) grow3
              obtain ⟨x30, x31, x32, x33, x34, fx3⟩ := X3.cells
              obtain ⟨m30, m31, m32, m33, m34, fm3⟩ := Y3.cells
              have HO3 : Hid (w3.ownsRow w.heap.size 87 6 v3 (evs.length + 1) (evRows evs ++ evCells ⟨3, o.cl, o.id, m.id, m.pr, q⟩)) := own3
              have hX3 := X3.lt
              have hY3 := Y3.lt
              have S3 : Hid (Only (fun k => k = pb ∨ sv0.ownBlock = some k) w w3) := HN1.out.then (((only_alloc w1 _).mono (fun _ _ h => h.elim)).then N3 (fun _ _ h => h)) (fun i hi h => by have := (HO1.out.lt i h).1; omega)
              clear own3 grow3 y0 y1 y2 y3 y4 fy c0 c1 c2 c3 c4 hcl
              go_wp2_with (at_builtin; refine wpList_append_own _ rfl (.tmp 53) (.tmp 64) 35 rfl w.heap.size 87 i0 _ 6 48 Try.underlying35 hi hz0 hz1 hz2 rfl (by decide) _ _ _ rfl (HO3.out.alloc _) ⟨w3.heap.size, 0, none⟩ 1 1 (evCells ⟨3, m.cl, m.id, o.id, m.pr, q⟩) rfl rfl ?d1 ?d2 ?d3 ?d4 ?d5 ?_)
              case d1 => exact new6' _ _ rfl _ _ _ _ _ _ _
              case d2 => exact one6' _
              case d3 => exact len_ok (Nat.le_trans (Nat.succ_le_succ hev) (by decide))
              case d4 => exact bytes_ok (Nat.le_trans (Nat.succ_le_succ hev) (by decide))
              case d5 => have := S3.out.size; simp; omega
              · intro v4 w4 own4 grow4 _
                obtain ⟨R4, X4, Y4, N4⟩ := after_append R3 X3 Y3 HO3.out grow4
                obtain ⟨x40, x41, x42, x43, x44, fx4⟩ := X4.cells
                obtain ⟨m40, m41, m42, m43, m44, fm4⟩ := Y4.cells
                have O4 : w4.ownsRow w.heap.size 87 6 v4 (evs.length + 1 + 1) (evRows evs ++ (evCells ⟨3, o.cl, o.id, m.id, m.pr, q⟩ ++ evCells ⟨3, m.cl, m.id, o.id, m.pr, q⟩)) := own4
                have hX4 := X4.lt
                have hY4 := Y4.lt
                have S4 : Hid (Only (fun k => k = pb ∨ sv0.ownBlock = some k) w w4) := S3.out.then N4 (fun i hi h => by have := (HO3.out.lt i h).1; omega)
                rw [HSV.out] at R4
                have hcl4 := R4.cell
                have gc4 : w4.cell? ⟨g, k * 5 + 4, none⟩ = some (.int .i64 (odF (M.getD k od0) 4)) := (R4.own.cellAt (k * 5 + 4) (by omega)).trans (odRows_at M k 4 hkM (by omega))
                have gf4 : w4.frozen? ⟨g, k * 5 + 4, none⟩ = false := R4.own.frozenAt _
                obtain ⟨gq, hgq⟩ : ∃ gq, gq = odF (M.getD k od0) 4 := ⟨_, rfl⟩
                rw [← hgq] at gc4
                clear hgq
                have hgX : g ≠ w.heap.size := by
                  intro e
                  rcases HSv.out g (by rw [HSV.out]; rfl) with (h | h) | h
                  · omega
                  · have := hsv0.out g h; omega
                  · omega
                have hgY : g ≠ w1.heap.size := by omega
                have hpX : pb ≠ w.heap.size := by omega
                have hXY : w.heap.size ≠ w1.heap.size := by omega
                obtain ⟨R6, X6, Y6, O6, N6⟩ := after_stores R4 X4 Y4 O4 hkM hpX hgX hgY hXY (m.q - q) (0)
                have HR6 : Hid (RefAt ((w4.setCell ⟨w.heap.size, 4, none⟩ (.int .i64 (0))).setCell ⟨g, k * 5 + 4, none⟩ (.int .i64 (m.q - q))).drew pb (.slice (some ⟨g, 0, none⟩) M.length cap) (M.set k { M.getD k od0 with q := m.q - q })) := R6
                have HX6 : Hid (Box5 ((w4.setCell ⟨w.heap.size, 4, none⟩ (.int .i64 (0))).setCell ⟨g, k * 5 + 4, none⟩ (.int .i64 (m.q - q))).drew w.heap.size o.cl o.id o.sd o.pr (0)) := X6
                have HY6 : Hid (Box5 ((w4.setCell ⟨w.heap.size, 4, none⟩ (.int .i64 (0))).setCell ⟨g, k * 5 + 4, none⟩ (.int .i64 (m.q - q))).drew w1.heap.size m.cl m.id m.sd m.pr m.q) := Y6
                have HO6 : Hid (((w4.setCell ⟨w.heap.size, 4, none⟩ (.int .i64 (0))).setCell ⟨g, k * 5 + 4, none⟩ (.int .i64 (m.q - q))).drew.ownsRow w.heap.size 87 6 v4 (evs.length + 1 + 1) (evRows evs ++ (evCells ⟨3, o.cl, o.id, m.id, m.pr, q⟩ ++ evCells ⟨3, m.cl, m.id, o.id, m.pr, q⟩))) := O6
                have S6 : Hid (Only (fun k => k = pb ∨ sv0.ownBlock = some k) w ((w4.setCell ⟨w.heap.size, 4, none⟩ (.int .i64 (0))).setCell ⟨g, k * 5 + 4, none⟩ (.int .i64 (m.q - q))).drew) := S4.out.then N6 (fun i hi h => by
                  rcases h with h | h
                  · omega
                  · subst h
                    rcases HSv.out i (by rw [HSV.out]; rfl) with h | h
                    · exact h
                    · omega)
                clear own4 grow4 x30 x31 x32 x33 x34 fx3 m30 m31 m32 m33 m34 fm3 R3 X3 Y3 R4 X4 Y4 O4 R6 X6 Y6 O6 N6 N4 N3
                go_wp2_with fail
                go_region
                have O6' : ((w4.setCell ⟨w.heap.size, 4, none⟩ (.int .i64 (0))).setCell ⟨g, k * 5 + 4, none⟩ (.int .i64 (m.q - q))).drew.ownsRow w.heap.size 87 6 v4 (evs ++ bTradeEv M k { o with q := q } (q)).length (evRows (evs ++ bTradeEv M k { o with q := q } (q))) := by
                  have e : bTradeEv M k { o with q := q } (q) = [⟨3, o.cl, o.id, m.id, m.pr, q⟩, ⟨3, m.cl, m.id, o.id, m.pr, q⟩] := by
                    unfold bTradeEv
                    rw [← HMm.out, if_neg (by exact HE.out)]
                    rfl
                  rw [e, evRows_append, List.length_append]
                  have h7 := HO6.out
                  simp only [evRows, List.flatMap_cons, List.flatMap_nil, List.append_nil] at h7 ⊢
                  exact h7
                have hnx := HM.out.next hqp hbst
                have ht : bTake { o with q := q } (M.getD k od0) = q := by unfold bTake; rw [← HMm.out]; exact if_neg (show ¬ m.q < q by omega)
                rw [ht] at hnx
                have hbt : bTraded M k (q) = M.set k { M.getD k od0 with q := m.q - q } := by
                  have e : (M.getD k od0).q - q = m.q - q := by rw [← HMm.out]
                  unfold bTraded
                  rw [if_neg (by rw [← HMm.out]; exact HE.out), e]
                rw [hbt, Int.sub_self] at hnx
                have okE := okM.set hkM (m.q - q) (by have := HE.out; omega) (by omega)
                have hlen3 : (bTradeEv M k { o with q := q } (q)).length ≤ 3 := by unfold bTradeEv; split <;> simp
                have hlA : (evs ++ bTradeEv M k { o with q := q } (q)).length ≤ evs.length + 3 := by rw [List.length_append]; omega
                have hfin : MInv w pb (fun k => k = pb ∨ sv0.ownBlock = some k) (L.length + 2) L o pr n v4 ((w4.setCell ⟨w.heap.size, 4, none⟩ (.int .i64 (0))).setCell ⟨g, k * 5 + 4, none⟩ (.int .i64 (m.q - q))).drew :=
                  ⟨_, 0, _, .slice (some ⟨g, 0, none⟩) M.length cap, .inr ⟨rfl, hn1⟩, hnF2, Nat.le_trans hlA hel3, hnx, okE, by omega, by omega, HR6.out, fun j hj => HSv.out j (by rw [HSV.out]; exact hj), HX6.out, O6', S6.out⟩
                have HF : Hid (MInv w pb (fun k => k = pb ∨ sv0.ownBlock = some k) (L.length + 2) L o pr n v4 ((w4.setCell ⟨w.heap.size, 4, none⟩ (.int .i64 (0))).setCell ⟨g, k * 5 + 4, none⟩ (.int .i64 (m.q - q))).drew) := hfin
                clear hfin hnx ht hbt O6' hlen3 hlA
                go_wp2
                go_roundg n
                case measure => omega
                case rel => exact HF.out
    · have hq0 : q = 0 := by omega
      have hfin : Hid (bMatch (L.length + 2) L o pr = (evs ++ [evFilled o], M, 0)) := HM.out.done (by omega)
      have hqn : Hid (q = 0) := hq0
      clear hq0
      go_wp2_with (at_builtin; refine wpList_append_own _ rfl (.tmp 97) (.tmp 103) 35 rfl w.heap.size 87 i0 _ 6 48 Try.underlying35 hi hz0 hz1 hz2 rfl (by decide) _ _ _ rfl (HO.out.alloc _) ⟨wr.heap.size, 0, none⟩ 1 1 (evCells ⟨4, o.cl, o.id, 0, 0, 0⟩) rfl rfl ?c1 ?c2 ?c3 ?c4 ?c5 ?_)
      case c1 => exact fun j u h => h
      case c2 => exact one6' _
      case c3 => exact len_ok (Nat.le_trans hev (by decide))
      case c4 => exact bytes_ok (Nat.le_trans hev (by decide))
      case c5 => have := HON.out.size; simp; omega
      · intro v3 w3 own3 grow3 _
        obtain ⟨R3, X3, Y3, N3⟩ := after_append HR.out HB.out HB.out HO.out grow3
        have S3 := HON.out.then N3 (fun i hi h => by have := (HO.out.lt i h).1; omega)
        have O3 : w3.ownsRow w.heap.size 87 6 v3 (evs ++ [evFilled o]).length (evRows (evs ++ [evFilled o])) := by
          rw [evRows_append, List.length_append]
          have h7 := own3
          simp only [evRows, List.flatMap_cons, List.flatMap_nil, List.append_nil] at h7 ⊢
          exact h7
        have HO3 : Hid (w3.ownsRow w.heap.size 87 6 v3 (evs ++ [evFilled o]).length (evRows (evs ++ [evFilled o]))) := O3
        have HR3 : Hid (RefAt w3 pb sv M) := R3
        have HS3 : Hid (Only (fun k => k = pb ∨ sv0.ownBlock = some k) w w3) := S3
        clear own3 grow3 R3 X3 Y3 N3 S3 O3
        go_wp2
        go_ret2
        go_light
        have hfo := hfin.out
        rw [hfo]
        exact ⟨_, sv, rfl, HO3.out, HR3.out, fun k hk => by rcases HSv.out k hk with (h | h) | h; exact absurd hk (by rw [h]; exact HR3.out.ne); exact .inl h; exact .inr (by omega), HS3.out⟩
end Go.Proofs.Ytbljokilfkodfaa
