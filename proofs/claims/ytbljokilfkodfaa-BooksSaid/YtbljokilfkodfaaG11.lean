/-
  The document's enter: an order of a kind comes.
-/
import Derived.Test.YtbljokilfkodfaaG9
import Derived.Test.YtbljokilfkodfaaG10
import Derived.Deep.RegionWith
import Derived.Deep.RegionLaw
namespace Go.Proofs.Ytbljokilfkodfaa
open Go.RowKit

/-- What enter leaves. -/
def EntPost (w : World) (pb : Nat) (sv0 : Value) (r : List Ev × List Od) (e : Ending) (w' : World) : Prop :=
  ∃ v sv, e = .returned v ∧ w'.ownsRow w.heap.size 87 6 v r.1.length (evRows r.1) ∧ RefAt w' pb sv r.2 ∧ (∀ k, sv.ownBlock = some k → sv0.ownBlock = some k ∨ w.heap.size ≤ k) ∧ Only (fun k => k = pb ∨ sv0.ownBlock = some k) w w'

theorem bEnter_none {L : List Od} {k : Int} {o : Od} (h : k = 4 ∧ bRoom L o.sd o.pr < o.q) : bEnter L k o = ([evCanceled o o.q], L) := by unfold bEnter; rw [if_pos h]
theorem bEnter_full {L : List Od} {k : Int} {o : Od} (h : ¬ (k = 4 ∧ bRoom L o.sd o.pr < o.q)) (h0 : (bMatch (L.length + 2) L o o.pr).2.2 = 0) : bEnter L k o = ((bMatch (L.length + 2) L o o.pr).1, (bMatch (L.length + 2) L o o.pr).2.1) := by
  unfold bEnter; rw [if_neg h]; simp only [h0, if_true]
theorem bEnter_rest {L : List Od} {k : Int} {o : Od} (h : ¬ (k = 4 ∧ bRoom L o.sd o.pr < o.q)) (h0 : (bMatch (L.length + 2) L o o.pr).2.2 ≠ 0) (hk : k = 1) : bEnter L k o = ((bMatch (L.length + 2) L o o.pr).1 ++ [evRests o (bMatch (L.length + 2) L o o.pr).2.2], (bMatch (L.length + 2) L o o.pr).2.1 ++ [{ o with q := (bMatch (L.length + 2) L o o.pr).2.2 }]) := by
  unfold bEnter; rw [if_neg h]; simp only [h0, hk, if_true, if_false]
theorem bEnter_gone {L : List Od} {k : Int} {o : Od} (h : ¬ (k = 4 ∧ bRoom L o.sd o.pr < o.q)) (h0 : (bMatch (L.length + 2) L o o.pr).2.2 ≠ 0) (hk : k ≠ 1) : bEnter L k o = ((bMatch (L.length + 2) L o o.pr).1 ++ [evCanceled o (bMatch (L.length + 2) L o o.pr).2.2], (bMatch (L.length + 2) L o o.pr).2.1) := by
  unfold bEnter; rw [if_neg h]; simp only [h0, hk, if_false]

set_option maxRecDepth 100000 in
set_option maxHeartbeats 2000000 in
theorem renter_none {w : World} {pb : Nat} {sv0 : Value} {L : List Od} (o : Od) (h : RefAt w pb sv0 L) (hL : BookOk L) (hr : bRoom L o.sd o.pr < o.q) :
    Calls Try.prog 40 #[.pointer (some ⟨pb, 0, none⟩), .int .i64 4, .agg #[.int .i64 o.cl, .int .i64 o.id, .int .i64 o.sd, .int .i64 o.pr, .int .i64 o.q]] w (EntPost w pb sv0 (bEnter L 4 o)) := by
  rw [bEnter_none ⟨rfl, hr⟩]
  have HR : Hid (RefAt w pb sv0 L) := h
  clear h
  go_enter Try.func40, Try.ntmps40
  go_wp2_with fail
  go_region_with (go_at_call 58; refine (rroom_any o.sd o.pr (HR.out.keepB (show Below w.heap.size w _ from ((Below.refl _ _).alloc (Nat.le_refl _) _).drew)) hL).mono ?_; rintro e w1 ⟨rfl, b1⟩; obtain ⟨hc1, hf1⟩ := bcell b1)
  all_goals go_wp2
  all_goals go_ret
  all_goals go_light
  all_goals
    have B1 : Below w.heap.size w w1 := ((Below.refl _ _).alloc (Nat.le_refl _) _).drew.trans (b1.mono (by simp))
    refine ⟨_, sv0, rfl, World.ownsRow_lit w1 _ 1 B1.size (by decide) rfl, HR.out.keepB (B1.alloc B1.size _), fun k hk => .inl hk, Only.of_below (B1.alloc B1.size _)⟩

/-- Behind a match: the ways in which enter goes on, in a text of its own. -/
theorem ent_done {w w1 w2 : World} {pb : Nat} {sv0 sv : Value} {L : List Od} {k : Int} {o : Od} {v : Value} (h : ¬ (k = 4 ∧ bRoom L o.sd o.pr < o.q)) (B : Below w.heap.size w w1) (h0 : (bMatch (L.length + 2) L o o.pr).2.2 = 0)
    (own : w2.ownsRow w1.heap.size 87 6 v (bMatch (L.length + 2) L o o.pr).1.length (evRows (bMatch (L.length + 2) L o o.pr).1)) (R : RefAt w2 pb sv (bMatch (L.length + 2) L o o.pr).2.1) (nb : ∀ k, sv.ownBlock = some k → sv0.ownBlock = some k ∨ w1.heap.size ≤ k)
    (on : Only (fun k => k = pb ∨ sv0.ownBlock = some k) w1 w2) : EntPost w pb sv0 (bEnter L k o) (.returned v) w2 := by
  rw [bEnter_full h h0]
  exact ⟨v, sv, rfl, Joins.ownsRow_le own B.size, R, fun k hk => (nb k hk).imp id (fun h => Nat.le_trans B.size h), (Only.of_below (S := fun k => k = pb ∨ sv0.ownBlock = some k) B).then on (fun _ _ h => h)⟩
end Go.Proofs.Ytbljokilfkodfaa
/-
  The document's enter: behind the match.
-/
namespace Go.Proofs.Ytbljokilfkodfaa
open Go.RowKit

theorem rmatch_eq {w : World} {pb : Nat} {sv0 : Value} {L : List Od} {o : Od} {pr : Int} {evs : List Ev} {M : List Od} {lf : Int} (hm : bMatch (L.length + 2) L o pr = (evs, M, lf)) (h : RefAt w pb sv0 L) (hL : BookOk L) (hq : 1 ≤ o.q ∧ o.q ≤ 99) :
    Calls Try.prog 59 #[.pointer (some ⟨pb, 0, none⟩), .agg #[.int .i64 o.cl, .int .i64 o.id, .int .i64 o.sd, .int .i64 o.pr, .int .i64 o.q], .int .i64 pr] w fun e w' => ∃ v sv, e = .returned (.tuple #[v, .int .i64 lf]) ∧
      w'.ownsRow w.heap.size 87 6 v evs.length (evRows evs) ∧ RefAt w' pb sv M ∧ (∀ k, sv.ownBlock = some k → sv0.ownBlock = some k ∨ w.heap.size ≤ k) ∧ Only (fun k => k = pb ∨ sv0.ownBlock = some k) w w' := by
  have := rmatch_any o pr h hL hq
  rw [hm] at this
  exact this

theorem only_drew (W : World) : Only (fun _ => False) W W.drew := ⟨rfl, rfl, rfl, Nat.le_refl _, fun _ _ _ => rfl⟩
/-- One order more in the book. -/
theorem RefAt.snoc {W W4 : World} {pb g cap : Nat} {sv : Value} {M : List Od} {o : Od} (R : RefAt W pb sv M) (own : W4.ownsRow 0 90 5 (.slice (some ⟨g, 0, none⟩) (M.length + 1) cap) (M.length + 1) (odRows M ++ odCells o)) (on : Only (fun k => sv.ownBlock = some k) W W4) (hg : sv.ownBlock = some g ∨ W.heap.size ≤ g) :
    RefAt (W4.setCell ⟨pb, 0, none⟩ (.slice (some ⟨g, 0, none⟩) (M.length + 1) cap)) pb (.slice (some ⟨g, 0, none⟩) (M.length + 1) cap) (M ++ [o]) ∧ Only (fun k => k = pb ∨ sv.ownBlock = some k) W (W4.setCell ⟨pb, 0, none⟩ (.slice (some ⟨g, 0, none⟩) (M.length + 1) cap)) := by
  have hlt := R.lt
  have hgp : g ≠ pb := by
    rcases hg with h | h
    · exact fun e => R.ne (by rw [h, e])
    · omega
  have on2 := only_set W4 pb 0 (.slice (some ⟨g, 0, none⟩) (M.length + 1) cap)
  have hp4 : W4.cell? ⟨pb, 0, none⟩ = some sv := (on.cell hlt R.ne).trans R.cell
  have hf4 : W4.frozen? ⟨pb, 0, none⟩ = false := (on.frozen hlt R.ne).trans R.free
  refine ⟨⟨?_, World.cell?_setCell_same _ _ _ hp4, by simp [hf4], ?_, by simp [Value.ownBlock, hgp], ?_⟩, (on.mono (fun _ _ h => Or.inr h)).then (on2.mono (fun _ _ h => Or.inl h)) (fun _ _ h => h)⟩
  · exact Nat.lt_of_lt_of_le hlt (Nat.le_trans on.size on2.size)
  · rw [List.length_append, odRows_append]
    have e : odRows [o] = odCells o := by unfold odRows; simp
    rw [e]
    exact row_keep own on2 (fun k hk e => hgp (by simp [Value.ownBlock] at hk; omega))
  · obtain ⟨c, fz, hk⟩ := R.kind
    rw [← on.block pb hlt R.ne] at hk
    exact ⟨_, _, by simp [World.setCell, Array.getElem?_modify, hk]; exact ⟨rfl, rfl⟩⟩

set_option maxRecDepth 100000 in
set_option maxHeartbeats 2000000 in
theorem renter_limit {w : World} {pb : Nat} {sv0 : Value} {L : List Od} (o : Od) {evs : List Ev} {M : List Od} {lf : Int} (hm : bMatch (L.length + 2) L o o.pr = (evs, M, lf)) (hlf : lf ≠ 0) (h : RefAt w pb sv0 L) (hL : BookOk L) (hq : 1 ≤ o.q ∧ o.q ≤ 99) :
    Calls Try.prog 40 #[.pointer (some ⟨pb, 0, none⟩), .int .i64 1, .agg #[.int .i64 o.cl, .int .i64 o.id, .int .i64 o.sd, .int .i64 o.pr, .int .i64 o.q]] w (EntPost w pb sv0 (evs ++ [evRests o lf], M ++ [{ o with q := lf }])) := by
  obtain ⟨i0, hi, hz0, hz1, hz2⟩ := info_parts infoEv
  obtain ⟨i1, hj, hy0, hy1, hy2⟩ := info_parts infoOd
  have hpb := h.lt
  have hsv0 : ∀ k, sv0.ownBlock = some k → k < w.heap.size := fun k hk => (h.own.lt k hk).2
  obtain ⟨_, hMl, _, _, _, hel⟩ := bMatch_ok (L.length + 2) o o.pr hL (by omega)
  rw [hm] at hMl hel
  have hMl' : M.length ≤ 12 := Nat.le_trans hMl hL.len
  have hel' : evs.length ≤ 50 := by have := hL.len; simp only at hel; omega
  clear hMl hel
  have HR : Hid (RefAt w pb sv0 L) := h
  have HM : Hid (bMatch (L.length + 2) L o o.pr = (evs, M, lf)) := hm
  have HS0 : Hid (∀ k, sv0.ownBlock = some k → k < w.heap.size) := hsv0
  have hb0 : (lf == 0) = false := by simp [hlf]
  clear h hm hsv0 hlf
  go_enter Try.func40, Try.ntmps40
  go_wp2_with fail
  go_quiet (fail)
  go_wp2_with fail
  have B1 : Below w.heap.size w ((w.alloc (.cells #[.int .i64 o.cl, .int .i64 o.id, .int .i64 o.sd, .int .i64 o.pr, .int .i64 o.q] 90)).drewN nq) := below_drewN ((Below.refl _ _).alloc (Nat.le_refl _) _) nq
  refine (rmatch_eq HM.out (HR.out.keepB B1) hL hq).mono ?_
  rintro e w2 ⟨v, sv, rfl, own2, R2, nb2, on2⟩
  have X2 : Box5 w2 w.heap.size o.cl o.id o.sd o.pr o.q := Box5.keep ((Box5.made w o.cl o.id o.sd o.pr o.q).keep (Only.of_below (S := fun _ => False) (below_drewN (Below.refl _ _) nq)) id) on2 (fun h => by
    rcases h with h | h
    · omega
    · have := HS0.out _ h; omega)
  obtain ⟨x0, x1, x2, x3, x4, fx⟩ := X2.cells
  have hX2 := X2.lt
  have hp2 := R2.lt
  obtain ⟨a, cap, hsv, _⟩ := R2.form
  have hcl : w2.cell? ⟨pb, 0, none⟩ = some (.slice a M.length cap) := by rw [R2.cell, hsv]
  have hfp := R2.free
  have hpX : pb ≠ w.heap.size := by omega
  have svX : sv.ownBlock ≠ some w.heap.size := fun e => by
    rcases nb2 _ e with h | h
    · have := HS0.out _ h; omega
    · simp at h; omega
  have HR2 : Hid (RefAt w2 pb sv M) := R2
  have HO2 : Hid (w2.ownsRow w.heap.size 87 6 v evs.length (evRows evs)) := Joins.ownsRow_le own2 (by simp)
  have HSV : Hid (sv = .slice a M.length cap) := hsv
  have on3 := only_set w2 w.heap.size 4 (.int .i64 lf)
  have R3 := R2.keep on3 hpX (fun k hk e => svX (by rw [← e]; exact hk))
  have HO3 : Hid ((w2.setCell ⟨w.heap.size, 4, none⟩ (.int .i64 lf)).ownsRow 0 90 5 (.slice a M.length cap) M.length (odRows M)) := by
    have := R3.own
    rw [hsv] at this
    exact this
  have R3' := R3
  rw [hsv] at R3'
  have HR3 : Hid (RefAt (w2.setCell ⟨w.heap.size, 4, none⟩ (.int .i64 lf)) pb (.slice a M.length cap) M) := R3'
  have X3 := X2.set4 lf
  have HX3 : Hid (Box5 (w2.setCell ⟨w.heap.size, 4, none⟩ (.int .i64 lf)) w.heap.size o.cl o.id o.sd o.pr lf) := X3
  have vX : v.ownBlock ≠ some w.heap.size := row_ne HO2.out X2 (by decide)
  have HE3 : Hid ((w2.setCell ⟨w.heap.size, 4, none⟩ (.int .i64 lf)).ownsRow w.heap.size 87 6 v evs.length (evRows evs)) := row_keep HO2.out on3 (fun k hk e => vX (by rw [← e]; exact hk))
  have HON3 : Hid (Only (fun k => k = pb ∨ sv0.ownBlock = some k) w (w2.setCell ⟨w.heap.size, 4, none⟩ (.int .i64 lf))) := ((Only.of_below (S := fun k => k = pb ∨ sv0.ownBlock = some k) B1).then on2 (fun _ _ h => h)).then on3 (fun i hi h => by omega)
  have HNB : Hid (∀ k, (Value.slice a M.length cap).ownBlock = some k → sv0.ownBlock = some k ∨ w.heap.size < k) := fun k hk => by
    rcases nb2 k (by rw [hsv]; exact hk) with h | h
    · exact .inl h
    · simp at h; exact .inr (by omega)
  have HP4 : Hid (∀ W4, ((w2.setCell ⟨w.heap.size, 4, none⟩ (.int .i64 lf)).alloc (.cells #[.int .i64 o.cl, .int .i64 o.id, .int .i64 o.sd, .int .i64 o.pr, .int .i64 lf] 90)).drew.grownBy W4 (Value.slice a M.length cap).ownBlock → (W4.cell? ⟨pb, 0, none⟩ = some (.slice a M.length cap) ∧ W4.frozen? ⟨pb, 0, none⟩ = false)) := fun W4 hg => by
    have o4 := (only_alloc (w2.setCell ⟨w.heap.size, 4, none⟩ (.int .i64 lf)) (.cells #[.int .i64 o.cl, .int .i64 o.id, .int .i64 o.sd, .int .i64 o.pr, .int .i64 lf] 90)).mono (T := fun k => (Value.slice a M.length cap).ownBlock = some k) (fun _ _ h => h.elim)
    have o5 := (o4.then (only_drew _) (fun _ _ h => h.elim)).then (only_grown hg) (fun _ _ h => h)
    exact ⟨(o5.cell HR3.out.lt HR3.out.ne).trans HR3.out.cell, (o5.frozen HR3.out.lt HR3.out.ne).trans HR3.out.free⟩
  have hMz : M.length + 1 ≤ maxLen := by unfold maxLen; omega
  have hMb : (M.length + 1) * 40 ≤ 140737488355328 := by omega
  clear own2 R2 hsv R3 R3' on3 on2 nb2 X3 X2 svX vX
  go_wp2_with fail
  go_region_law (refine step_append_lies _ rfl (.tmp 59) (.tmp 61) 26 rfl 0 90 i1 _ 5 40 Try.underlying26 hj hy0 hy1 hy2 rfl (by decide) _ _ _ (by simp [Act.eval]) (HO3.out.alloc _).drew ⟨w2.heap.size, 0, none⟩ 1 1 (odCells { o with q := lf }) (by simp [Act.eval]) rfl (new5 _ _ (by simp) _ _ _ _ _ _) (one5 _) (by decide) hMz hMb (Nat.zero_le _) (w2.heap.size + 1) (by simp) ?_; intro g' cap' w4 own4 grow4 hg4 _; obtain ⟨p4, f4⟩ := HP4.out w4 grow4)
  all_goals
    have on4 : Only (fun k => (Value.slice a M.length cap).ownBlock = some k) (w2.setCell ⟨w.heap.size, 4, none⟩ (.int .i64 lf)) w4 := ((((only_alloc (w2.setCell ⟨w.heap.size, 4, none⟩ (.int .i64 lf)) (.cells #[.int .i64 o.cl, .int .i64 o.id, .int .i64 o.sd, .int .i64 o.pr, .int .i64 lf] 90)).mono (T := fun k => (Value.slice a M.length cap).ownBlock = some k) (fun _ _ h => h.elim)).then (only_drew _) (fun _ _ h => h.elim))).then (only_grown grow4) (fun _ _ h => h)
    obtain ⟨R5, on5⟩ := RefAt.snoc HR3.out own4 on4 (hg4.imp id (fun h => by rw [h]; simp))
    have hX5 : ¬ (w.heap.size = pb ∨ (Value.slice a M.length cap).ownBlock = some w.heap.size) := by
      rintro (h | h)
      · omega
      · rcases HNB.out _ h with h | h
        · have := HS0.out _ h; omega
        · omega
    have X5 := HX3.out.keep on5 hX5
    obtain ⟨ne1, ne2⟩ := HR3.out.row_ne HE3.out
    have E5 := row_keep HE3.out on5 (fun k hk h => by
      rcases h with h | h
      · subst h; exact ne1 hk
      · exact ne2 k h hk)
    have HE5 : Hid ((w4.setCell ⟨pb, 0, none⟩ (.slice (some ⟨g', 0, none⟩) (M.length + 1) cap')).ownsRow w.heap.size 87 6 v evs.length (evRows evs)) := E5
    have HR5 : Hid (RefAt (w4.setCell ⟨pb, 0, none⟩ (.slice (some ⟨g', 0, none⟩) (M.length + 1) cap')) pb (.slice (some ⟨g', 0, none⟩) (M.length + 1) cap') (M ++ [{ o with q := lf }])) := R5
    have HX5 : Hid (Box5 (w4.setCell ⟨pb, 0, none⟩ (.slice (some ⟨g', 0, none⟩) (M.length + 1) cap')) w.heap.size o.cl o.id o.sd o.pr lf) := X5
    have HON5 : Hid (Only (fun k => k = pb ∨ sv0.ownBlock = some k) w (w4.setCell ⟨pb, 0, none⟩ (.slice (some ⟨g', 0, none⟩) (M.length + 1) cap'))) := HON3.out.then on5 (fun i hi h => by
      rcases h with h | h
      · exact .inl h
      · rcases HNB.out _ h with h | h
        · exact .inr h
        · omega)
    have HNB5 : Hid (∀ k, (Value.slice (some ⟨g', 0, none⟩) (M.length + 1) cap').ownBlock = some k → sv0.ownBlock = some k ∨ w.heap.size ≤ k) := fun k hk => by
      simp [Value.ownBlock] at hk
      subst hk
      rcases hg4 with h | h
      · exact (HNB.out _ h).imp id (fun h => by omega)
      · exact .inr (by omega)
    have hb5 : w.heap.size ≤ (w4.setCell ⟨pb, 0, none⟩ (.slice (some ⟨g', 0, none⟩) (M.length + 1) cap')).heap.size := HON5.out.size
    have hz5 : w4.heap.size = (w4.setCell ⟨pb, 0, none⟩ (.slice (some ⟨g', 0, none⟩) (M.length + 1) cap')).heap.size := by simp
    obtain ⟨y0, y1, y2, y3, y4, fy⟩ := X5.cells
    have hE1 : evs.length + 1 ≤ maxLen := by unfold maxLen; omega
    have hE2 : (evs.length + 1) * 48 ≤ 140737488355328 := by omega
    obtain ⟨w5, hw5⟩ : ∃ w5, w5 = w4.setCell ⟨pb, 0, none⟩ (.slice (some ⟨g', 0, none⟩) (M.length + 1) cap') := ⟨_, rfl⟩
    rw [← hw5] at HE5 HR5 HX5 HON5 hb5 hz5 y0 y1 y2 y3 y4 ⊢
    clear own4 grow4 on4 R5 on5 X5 E5 p4 f4 x0 x1 x2 x3 x4 fx hcl fy hw5 ne1 ne2 hX5 hg4 hz5
    go_wp2_with (at_builtin; refine wpList_append_own _ rfl (.tmp 65) (.tmp 74) 35 rfl w.heap.size 87 i0 _ 6 48 Try.underlying35 hi hz0 hz1 hz2 rfl (by decide) _ _ _ rfl (HE5.out.alloc _) ⟨w5.heap.size, 0, none⟩ 1 1 (evCells ⟨6, o.cl, o.id, 0, o.pr, lf⟩) rfl rfl (new6' _ _ rfl _ _ _ _ _ _ _) (one6' _) hE1 hE2 (Nat.le_trans hb5 (by simp)) ?_; intro v6 w6 own6 grow6 _)
    obtain ⟨R6, X6, Y6, N6⟩ := after_append HR5.out HX5.out HX5.out HE5.out grow6
    have O6 : w6.ownsRow w.heap.size 87 6 v6 (evs ++ [evRests o lf]).length (evRows (evs ++ [evRests o lf])) := by
      rw [evRows_append, List.length_append]
      have h7 := own6
      simp only [evRows, List.flatMap_cons, List.flatMap_nil, List.append_nil] at h7 ⊢
      exact h7
    have S6 := HON5.out.then N6 (fun i hi h => by have := (HE5.out.lt i h).1; omega)
    go_ret
    go_light
    exact ⟨v6, _, rfl, O6, R6, HNB5.out, S6⟩
end Go.Proofs.Ytbljokilfkodfaa
/-
  The document's enter: nothing is left, or what is left is cancelled.
-/
namespace Go.Proofs.Ytbljokilfkodfaa
open Go.RowKit

set_option maxRecDepth 100000 in
set_option maxHeartbeats 2000000 in
theorem renter_full {w : World} {pb : Nat} {sv0 : Value} {L : List Od} (k : Int) (o : Od) {evs : List Ev} {M : List Od} {lf : Int} (hm : bMatch (L.length + 2) L o o.pr = (evs, M, lf)) (hlf : lf = 0) (hk : k ≠ 4) (h : RefAt w pb sv0 L) (hL : BookOk L) (hq : 1 ≤ o.q ∧ o.q ≤ 99) :
    Calls Try.prog 40 #[.pointer (some ⟨pb, 0, none⟩), .int .i64 k, .agg #[.int .i64 o.cl, .int .i64 o.id, .int .i64 o.sd, .int .i64 o.pr, .int .i64 o.q]] w (EntPost w pb sv0 ((evs, M))) := by
  obtain ⟨i0, hi, hz0, hz1, hz2⟩ := info_parts infoEv
  have hpb := h.lt
  have hsv0 : ∀ k, sv0.ownBlock = some k → k < w.heap.size := fun k hk => (h.own.lt k hk).2
  obtain ⟨_, _, _, _, _, hel⟩ := bMatch_ok (L.length + 2) o o.pr hL (by omega)
  rw [hm] at hel
  have hel' : evs.length ≤ 50 := by have := hL.len; simp only at hel; omega
  clear hel
  have HR : Hid (RefAt w pb sv0 L) := h
  have HM : Hid (bMatch (L.length + 2) L o o.pr = (evs, M, lf)) := hm
  have HS0 : Hid (∀ k, sv0.ownBlock = some k → k < w.heap.size) := hsv0
  have hb0 : (lf == 0) = true := by simp [hlf]
  have hk4 : (k == 4) = false := by simp [hk]
  clear hk
  clear h hm hsv0 hlf
  go_enter Try.func40, Try.ntmps40
  go_wp2_with fail
  go_quiet (fail)
  all_goals
    go_wp2_with fail
    have B1 : Below w.heap.size w ((w.alloc (.cells #[.int .i64 o.cl, .int .i64 o.id, .int .i64 o.sd, .int .i64 o.pr, .int .i64 o.q] 90)).drewN nq) := below_drewN ((Below.refl _ _).alloc (Nat.le_refl _) _) nq
    refine (rmatch_eq HM.out (HR.out.keepB B1) hL hq).mono ?_
    rintro e w2 ⟨v, sv, rfl, own2, R2, nb2, on2⟩
    have X1 : Box5 ((w.alloc (.cells #[.int .i64 o.cl, .int .i64 o.id, .int .i64 o.sd, .int .i64 o.pr, .int .i64 o.q] 90)).drewN nq) w.heap.size o.cl o.id o.sd o.pr o.q := (Box5.made w o.cl o.id o.sd o.pr o.q).keep (Only.of_below (S := fun _ => False) (below_drewN (Below.refl _ _) nq)) id
    have X2 : Box5 w2 w.heap.size o.cl o.id o.sd o.pr o.q := X1.keep on2 (fun h => by
      rcases h with h | h
      · omega
      · have := HS0.out _ h; omega)
    have O2 : w2.ownsRow w.heap.size 87 6 v evs.length (evRows evs) := Joins.ownsRow_le own2 B1.size
    have S2 : Only (fun k => k = pb ∨ sv0.ownBlock = some k) w w2 := (Only.of_below (S := fun k => k = pb ∨ sv0.ownBlock = some k) B1).then on2 (fun _ _ h => h)
    have NB : ∀ k, sv.ownBlock = some k → sv0.ownBlock = some k ∨ w.heap.size ≤ k := fun k hk => (nb2 k hk).imp id (fun h => Nat.le_trans B1.size h)
    have HF : Hid (EntPost w pb sv0 (evs, M) (.returned v) w2) := ⟨v, sv, rfl, O2, R2, NB, S2⟩
    clear own2 R2 nb2 on2 X1 X2 O2 S2 NB
    go_wp2
    go_ret
    go_light
    exact HF.out

set_option maxRecDepth 100000 in
set_option maxHeartbeats 2000000 in
theorem renter_gone {w : World} {pb : Nat} {sv0 : Value} {L : List Od} (k : Int) (o : Od) {evs : List Ev} {M : List Od} {lf : Int} (hm : bMatch (L.length + 2) L o o.pr = (evs, M, lf)) (hlf : lf ≠ 0) (hk : k ≠ 4 ∧ k ≠ 1) (h : RefAt w pb sv0 L) (hL : BookOk L) (hq : 1 ≤ o.q ∧ o.q ≤ 99) :
    Calls Try.prog 40 #[.pointer (some ⟨pb, 0, none⟩), .int .i64 k, .agg #[.int .i64 o.cl, .int .i64 o.id, .int .i64 o.sd, .int .i64 o.pr, .int .i64 o.q]] w (EntPost w pb sv0 ((evs ++ [evCanceled o lf], M))) := by
  obtain ⟨i0, hi, hz0, hz1, hz2⟩ := info_parts infoEv
  have hpb := h.lt
  have hsv0 : ∀ k, sv0.ownBlock = some k → k < w.heap.size := fun k hk => (h.own.lt k hk).2
  obtain ⟨_, _, _, _, _, hel⟩ := bMatch_ok (L.length + 2) o o.pr hL (by omega)
  rw [hm] at hel
  have hel' : evs.length ≤ 50 := by have := hL.len; simp only at hel; omega
  clear hel
  have HR : Hid (RefAt w pb sv0 L) := h
  have HM : Hid (bMatch (L.length + 2) L o o.pr = (evs, M, lf)) := hm
  have HS0 : Hid (∀ k, sv0.ownBlock = some k → k < w.heap.size) := hsv0
  have hb0 : (lf == 0) = false := by simp [hlf]
  have hk4 : (k == 4) = false := by simp [hk]
  have hk1 : (k != 1) = true := by simp [hk.2]
  clear hk
  clear h hm hsv0 hlf
  go_enter Try.func40, Try.ntmps40
  go_wp2_with fail
  go_quiet (fail)
  all_goals
    go_wp2_with fail
    have B1 : Below w.heap.size w ((w.alloc (.cells #[.int .i64 o.cl, .int .i64 o.id, .int .i64 o.sd, .int .i64 o.pr, .int .i64 o.q] 90)).drewN nq) := below_drewN ((Below.refl _ _).alloc (Nat.le_refl _) _) nq
    refine (rmatch_eq HM.out (HR.out.keepB B1) hL hq).mono ?_
    rintro e w2 ⟨v, sv, rfl, own2, R2, nb2, on2⟩
    have X1 : Box5 ((w.alloc (.cells #[.int .i64 o.cl, .int .i64 o.id, .int .i64 o.sd, .int .i64 o.pr, .int .i64 o.q] 90)).drewN nq) w.heap.size o.cl o.id o.sd o.pr o.q := (Box5.made w o.cl o.id o.sd o.pr o.q).keep (Only.of_below (S := fun _ => False) (below_drewN (Below.refl _ _) nq)) id
    have X2 : Box5 w2 w.heap.size o.cl o.id o.sd o.pr o.q := X1.keep on2 (fun h => by
      rcases h with h | h
      · omega
      · have := HS0.out _ h; omega)
    have O2 : w2.ownsRow w.heap.size 87 6 v evs.length (evRows evs) := Joins.ownsRow_le own2 B1.size
    have S2 : Only (fun k => k = pb ∨ sv0.ownBlock = some k) w w2 := (Only.of_below (S := fun k => k = pb ∨ sv0.ownBlock = some k) B1).then on2 (fun _ _ h => h)
    have NB : ∀ k, sv.ownBlock = some k → sv0.ownBlock = some k ∨ w.heap.size ≤ k := fun k hk => (nb2 k hk).imp id (fun h => Nat.le_trans B1.size h)
    obtain ⟨x0, x1, x2, x3, x4, fx⟩ := X2.cells
    have HX : Hid (Box5 w2 w.heap.size o.cl o.id o.sd o.pr o.q) := X2
    have HR2 : Hid (RefAt w2 pb sv M) := R2
    have HO2 : Hid (w2.ownsRow w.heap.size 87 6 v evs.length (evRows evs)) := O2
    have HS2 : Hid (Only (fun k => k = pb ∨ sv0.ownBlock = some k) w w2) := S2
    have HNB : Hid (∀ k, sv.ownBlock = some k → sv0.ownBlock = some k ∨ w.heap.size ≤ k) := NB
    have hb2 : w.heap.size ≤ w2.heap.size := S2.size
    have hE1 : evs.length + 1 ≤ maxLen := by unfold maxLen; omega
    have hE2 : (evs.length + 1) * 48 ≤ 140737488355328 := by omega
    clear own2 R2 nb2 on2 X1 X2 O2 S2 NB
    go_wp2_with (at_builtin; refine wpList_append_own _ rfl (.tmp 44) (.tmp 51) 35 rfl w.heap.size 87 i0 _ 6 48 Try.underlying35 hi hz0 hz1 hz2 rfl (by decide) _ _ _ rfl (HO2.out.alloc _) ⟨w2.heap.size, 0, none⟩ 1 1 (evCells ⟨5, o.cl, o.id, 0, 0, lf⟩) rfl rfl (new6' _ _ rfl _ _ _ _ _ _ _) (one6' _) hE1 hE2 (Nat.le_trans hb2 (by simp)) ?_; intro v6 w6 own6 grow6 _)
    obtain ⟨R6, X6, Y6, N6⟩ := after_append HR2.out HX.out HX.out HO2.out grow6
    have O6 : w6.ownsRow w.heap.size 87 6 v6 (evs ++ [evCanceled o lf]).length (evRows (evs ++ [evCanceled o lf])) := by
      rw [evRows_append, List.length_append]
      have h7 := own6
      simp only [evRows, List.flatMap_cons, List.flatMap_nil, List.append_nil] at h7 ⊢
      exact h7
    have S6 := HS2.out.then N6 (fun i hi h => by have := (HO2.out.lt i h).1; omega)
    go_ret
    go_light
    exact ⟨v6, _, rfl, O6, R6, HNB.out, S6⟩

set_option maxRecDepth 100000 in
set_option maxHeartbeats 2000000 in
theorem renter_full4 {w : World} {pb : Nat} {sv0 : Value} {L : List Od} (o : Od) {evs : List Ev} {M : List Od} {lf : Int} (hm : bMatch (L.length + 2) L o o.pr = (evs, M, lf)) (hlf : lf = 0) (hr : ¬ bRoom L o.sd o.pr < o.q) (h : RefAt w pb sv0 L) (hL : BookOk L) (hq : 1 ≤ o.q ∧ o.q ≤ 99) :
    Calls Try.prog 40 #[.pointer (some ⟨pb, 0, none⟩), .int .i64 4, .agg #[.int .i64 o.cl, .int .i64 o.id, .int .i64 o.sd, .int .i64 o.pr, .int .i64 o.q]] w (EntPost w pb sv0 ((evs, M))) := by
  obtain ⟨i0, hi, hz0, hz1, hz2⟩ := info_parts infoEv
  have hpb := h.lt
  have hsv0 : ∀ k, sv0.ownBlock = some k → k < w.heap.size := fun k hk => (h.own.lt k hk).2
  obtain ⟨_, _, _, _, _, hel⟩ := bMatch_ok (L.length + 2) o o.pr hL (by omega)
  rw [hm] at hel
  have hel' : evs.length ≤ 50 := by have := hL.len; simp only at hel; omega
  clear hel
  have HR : Hid (RefAt w pb sv0 L) := h
  have HM : Hid (bMatch (L.length + 2) L o o.pr = (evs, M, lf)) := hm
  have HS0 : Hid (∀ k, sv0.ownBlock = some k → k < w.heap.size) := hsv0
  have hb0 : (lf == 0) = true := by simp [hlf]
  have hrd : decide (bRoom L o.sd o.pr < o.q) = false := decide_eq_false hr
  clear h hm hsv0 hlf
  go_enter Try.func40, Try.ntmps40
  go_wp2_with fail
  go_region_with (go_at_call 58; refine (rroom_any o.sd o.pr (HR.out.keepB (show Below w.heap.size w _ from ((Below.refl _ _).alloc (Nat.le_refl _) _).drew)) hL).mono ?_; rintro e w1 ⟨rfl, b1⟩; obtain ⟨hc1, hf1⟩ := bcell b1)
  all_goals
    go_wp2_with fail
    have B1 : Below w.heap.size w w1 := ((Below.refl _ _).alloc (Nat.le_refl _) _).drew.trans (b1.mono (by simp))
    refine (rmatch_eq HM.out (HR.out.keepB B1) hL hq).mono ?_
    rintro e w2 ⟨v, sv, rfl, own2, R2, nb2, on2⟩
    have X1 : Box5 w1 w.heap.size o.cl o.id o.sd o.pr o.q := ((Box5.made w o.cl o.id o.sd o.pr o.q).keep (only_drew _) id).keep (Only.of_below (S := fun _ => False) b1) id
    have X2 : Box5 w2 w.heap.size o.cl o.id o.sd o.pr o.q := X1.keep on2 (fun h => by
      rcases h with h | h
      · omega
      · have := HS0.out _ h; omega)
    have O2 : w2.ownsRow w.heap.size 87 6 v evs.length (evRows evs) := Joins.ownsRow_le own2 B1.size
    have S2 : Only (fun k => k = pb ∨ sv0.ownBlock = some k) w w2 := (Only.of_below (S := fun k => k = pb ∨ sv0.ownBlock = some k) B1).then on2 (fun _ _ h => h)
    have NB : ∀ k, sv.ownBlock = some k → sv0.ownBlock = some k ∨ w.heap.size ≤ k := fun k hk => (nb2 k hk).imp id (fun h => Nat.le_trans B1.size h)
    have HF : Hid (EntPost w pb sv0 (evs, M) (.returned v) w2) := ⟨v, sv, rfl, O2, R2, NB, S2⟩
    clear own2 R2 nb2 on2 X1 X2 O2 S2 NB
    go_wp2
    go_ret
    go_light
    exact HF.out

set_option maxRecDepth 100000 in
set_option maxHeartbeats 2000000 in
theorem renter_gone4 {w : World} {pb : Nat} {sv0 : Value} {L : List Od} (o : Od) {evs : List Ev} {M : List Od} {lf : Int} (hm : bMatch (L.length + 2) L o o.pr = (evs, M, lf)) (hlf : lf ≠ 0) (hr : ¬ bRoom L o.sd o.pr < o.q) (h : RefAt w pb sv0 L) (hL : BookOk L) (hq : 1 ≤ o.q ∧ o.q ≤ 99) :
    Calls Try.prog 40 #[.pointer (some ⟨pb, 0, none⟩), .int .i64 4, .agg #[.int .i64 o.cl, .int .i64 o.id, .int .i64 o.sd, .int .i64 o.pr, .int .i64 o.q]] w (EntPost w pb sv0 ((evs ++ [evCanceled o lf], M))) := by
  obtain ⟨i0, hi, hz0, hz1, hz2⟩ := info_parts infoEv
  have hpb := h.lt
  have hsv0 : ∀ k, sv0.ownBlock = some k → k < w.heap.size := fun k hk => (h.own.lt k hk).2
  obtain ⟨_, _, _, _, _, hel⟩ := bMatch_ok (L.length + 2) o o.pr hL (by omega)
  rw [hm] at hel
  have hel' : evs.length ≤ 50 := by have := hL.len; simp only at hel; omega
  clear hel
  have HR : Hid (RefAt w pb sv0 L) := h
  have HM : Hid (bMatch (L.length + 2) L o o.pr = (evs, M, lf)) := hm
  have HS0 : Hid (∀ k, sv0.ownBlock = some k → k < w.heap.size) := hsv0
  have hb0 : (lf == 0) = false := by simp [hlf]
  have hrd : decide (bRoom L o.sd o.pr < o.q) = false := decide_eq_false hr
  clear h hm hsv0 hlf
  go_enter Try.func40, Try.ntmps40
  go_wp2_with fail
  go_region_with (go_at_call 58; refine (rroom_any o.sd o.pr (HR.out.keepB (show Below w.heap.size w _ from ((Below.refl _ _).alloc (Nat.le_refl _) _).drew)) hL).mono ?_; rintro e w1 ⟨rfl, b1⟩; obtain ⟨hc1, hf1⟩ := bcell b1)
  all_goals
    go_wp2_with fail
    have B1 : Below w.heap.size w w1 := ((Below.refl _ _).alloc (Nat.le_refl _) _).drew.trans (b1.mono (by simp))
    refine (rmatch_eq HM.out (HR.out.keepB B1) hL hq).mono ?_
    rintro e w2 ⟨v, sv, rfl, own2, R2, nb2, on2⟩
    have X1 : Box5 w1 w.heap.size o.cl o.id o.sd o.pr o.q := ((Box5.made w o.cl o.id o.sd o.pr o.q).keep (only_drew _) id).keep (Only.of_below (S := fun _ => False) b1) id
    have X2 : Box5 w2 w.heap.size o.cl o.id o.sd o.pr o.q := X1.keep on2 (fun h => by
      rcases h with h | h
      · omega
      · have := HS0.out _ h; omega)
    have O2 : w2.ownsRow w.heap.size 87 6 v evs.length (evRows evs) := Joins.ownsRow_le own2 B1.size
    have S2 : Only (fun k => k = pb ∨ sv0.ownBlock = some k) w w2 := (Only.of_below (S := fun k => k = pb ∨ sv0.ownBlock = some k) B1).then on2 (fun _ _ h => h)
    have NB : ∀ k, sv.ownBlock = some k → sv0.ownBlock = some k ∨ w.heap.size ≤ k := fun k hk => (nb2 k hk).imp id (fun h => Nat.le_trans B1.size h)
    obtain ⟨x0, x1, x2, x3, x4, fx⟩ := X2.cells
    have HX : Hid (Box5 w2 w.heap.size o.cl o.id o.sd o.pr o.q) := X2
    have HR2 : Hid (RefAt w2 pb sv M) := R2
    have HO2 : Hid (w2.ownsRow w.heap.size 87 6 v evs.length (evRows evs)) := O2
    have HS2 : Hid (Only (fun k => k = pb ∨ sv0.ownBlock = some k) w w2) := S2
    have HNB : Hid (∀ k, sv.ownBlock = some k → sv0.ownBlock = some k ∨ w.heap.size ≤ k) := NB
    have hb2 : w.heap.size ≤ w2.heap.size := S2.size
    have hE1 : evs.length + 1 ≤ maxLen := by unfold maxLen; omega
    have hE2 : (evs.length + 1) * 48 ≤ 140737488355328 := by omega
    clear own2 R2 nb2 on2 X1 X2 O2 S2 NB
    go_wp2_with (at_builtin; refine wpList_append_own _ rfl (.tmp 44) (.tmp 51) 35 rfl w.heap.size 87 i0 _ 6 48 Try.underlying35 hi hz0 hz1 hz2 rfl (by decide) _ _ _ rfl (HO2.out.alloc _) ⟨w2.heap.size, 0, none⟩ 1 1 (evCells ⟨5, o.cl, o.id, 0, 0, lf⟩) rfl rfl (new6' _ _ rfl _ _ _ _ _ _ _) (one6' _) hE1 hE2 (Nat.le_trans hb2 (by simp)) ?_; intro v6 w6 own6 grow6 _)
    obtain ⟨R6, X6, Y6, N6⟩ := after_append HR2.out HX.out HX.out HO2.out grow6
    have O6 : w6.ownsRow w.heap.size 87 6 v6 (evs ++ [evCanceled o lf]).length (evRows (evs ++ [evCanceled o lf])) := by
      rw [evRows_append, List.length_append]
      have h7 := own6
      simp only [evRows, List.flatMap_cons, List.flatMap_nil, List.append_nil] at h7 ⊢
      exact h7
    have S6 := HS2.out.then N6 (fun i hi h => by have := (HO2.out.lt i h).1; omega)
    go_ret
    go_light
    exact ⟨v6, _, rfl, O6, R6, HNB.out, S6⟩
end Go.Proofs.Ytbljokilfkodfaa
/-
  The document's enter, whole; what it refuses.
-/
namespace Go.Proofs.Ytbljokilfkodfaa
open Go.RowKit

theorem renter_any {w : World} {pb : Nat} {sv0 : Value} {L : List Od} (k : Int) (o : Od) (h : RefAt w pb sv0 L) (hL : BookOk L) (hq : 1 ≤ o.q ∧ o.q ≤ 99) :
    Calls Try.prog 40 #[.pointer (some ⟨pb, 0, none⟩), .int .i64 k, .agg #[.int .i64 o.cl, .int .i64 o.id, .int .i64 o.sd, .int .i64 o.pr, .int .i64 o.q]] w (EntPost w pb sv0 (bEnter L k o)) := by
  by_cases hn : k = 4 ∧ bRoom L o.sd o.pr < o.q
  · obtain ⟨rfl, hr⟩ := hn
    exact renter_none o h hL hr
  · obtain ⟨evs, M, lf, hm⟩ : ∃ evs M lf, bMatch (L.length + 2) L o o.pr = (evs, M, lf) := ⟨_, _, _, rfl⟩
    by_cases h0 : lf = 0
    · rw [bEnter_full hn (by rw [hm]; exact h0), hm]
      by_cases h4 : k = 4
      · subst h4
        exact renter_full4 o hm h0 (fun hr => hn ⟨rfl, hr⟩) h hL hq
      · exact renter_full k o hm h0 h4 h hL hq
    · by_cases h1 : k = 1
      · subst h1
        rw [bEnter_rest hn (by rw [hm]; exact h0) rfl, hm]
        exact renter_limit o hm h0 h hL hq
      · rw [bEnter_gone hn (by rw [hm]; exact h0) h1, hm]
        by_cases h4 : k = 4
        · subst h4
          exact renter_gone4 o hm h0 (fun hr => hn ⟨rfl, hr⟩) h hL hq
        · exact renter_gone k o hm h0 ⟨h4, h1⟩ h hL hq

theorem ret_int' {a b : Int} (h : a = b) : Ending.returned (.int .i64 a) = .returned (.int .i64 b) := by rw [h]

set_option maxRecDepth 100000 in
set_option maxHeartbeats 2000000 in
theorem rrefused_any {w : World} {pb : Nat} {sv0 : Value} {L : List Od} (c : Cm) (h : RefAt w pb sv0 L) (hL : BookOk L) :
    Calls Try.prog 36 #[.pointer (some ⟨pb, 0, none⟩), .agg #[.int .i64 c.k, .int .i64 c.cl, .int .i64 c.id, .int .i64 c.sd, .int .i64 c.pr, .int .i64 c.q]] w fun e w' => e = .returned (.int .i64 (bRefused L c)) ∧ Below w.heap.size w w' := by
  have hlen := hL.len
  have HR : Hid (RefAt w pb sv0 L) := h
  obtain ⟨a, cap, hs⟩ := h.seen
  have HS : Hid (Seen w pb a cap L) := hs
  have hpb := h.lt
  clear h hs
  go_enter Try.func36, Try.ntmps36
  go_wp2_with fail
  refine (rfair_any _ _ _ _ _ _ _).mono ?_
  rintro e w1 ⟨rfl, b1⟩
  obtain ⟨hc1, hf1⟩ := bcell b1
  have hz1 : w.heap.size < w1.heap.size := by have := b1.size; simp at this; omega
  have B1 : Below w.heap.size w w1 := ((Below.refl _ _).alloc (Nat.le_refl _) _).trans (b1.mono (by simp))
  have HRF : Hid (cmFair c = fairB c.k c.cl c.id c.sd c.pr c.q) := rfl
  cases hfr : fairB c.k c.cl c.id c.sd c.pr c.q with
  | false =>
    have hfin : Hid (bRefused L c = 2) := by
      show bRefused L c = 2
      unfold bRefused cmFair
      rw [hfr]; simp
    go_wp2
    go_ret
    go_light
    exact ⟨ret_int' hfin.out.symm, B1⟩
  | true =>
    have hcl := HS.out.1 w1 B1
    have hclw := HS.out.1 w (Below.refl _ _)
    go_wp2_with fail
    refine (rfind_any c.id (HR.out.keepB B1) (by omega)).mono ?_
    rintro e w' ⟨rfl, rfl⟩
    cases hfd : bFind L c.id with
    | none =>
      have ho : optI none = -1 := rfl
      have hneg : (-1 : Int) < 0 := by omega
      by_cases h5 : c.k = 5
      · have hb5 : (c.k == 5) = true := by simp [h5]
        have hfin : Hid (bRefused L c = 4) := by
          show bRefused L c = 4
          unfold bRefused cmFair
          rw [hfr, hfd]
          simp [h5]
        clear h5
        go_wp2
        go_quiet (fail)
        go_wp2
        go_ret
        go_light
        exact ⟨ret_int' hfin.out.symm, below_drewN B1 nq⟩
      · have hb5 : (c.k == 5) = false := by simp [h5]
        by_cases h6 : c.k = 6
        · have hb6 : (c.k == 6) = true := by simp [h6]
          have hfin : Hid (bRefused L c = 4) := by
            show bRefused L c = 4
            unfold bRefused cmFair
            rw [hfr, hfd]
            simp [h6]
          clear h5 h6
          go_wp2
          go_quiet (fail)
          go_wp2
          go_ret
          go_light
          exact ⟨ret_int' hfin.out.symm, below_drewN B1 nq⟩
        · have hb6 : (c.k == 6) = false := by simp [h6]
          by_cases h1 : c.k = 1
          · have hb1 : (c.k == 1) = true := by simp [h1]
            by_cases h12 : 12 ≤ L.length
            · have h12i : (12 : Int) ≤ (L.length : Int) := by omega
              have hfin : Hid (bRefused L c = 5) := by
                show bRefused L c = 5
                unfold bRefused cmFair
                rw [hfr, hfd]
                simp [h1, h12]
              clear h5 h6 h1
              go_wp2
              go_ret
              go_light
              exact ⟨ret_int' hfin.out.symm, B1⟩
            · have h12i : ¬ (12 : Int) ≤ (L.length : Int) := by omega
              have hfin : Hid (bRefused L c = 0) := by
                show bRefused L c = 0
                unfold bRefused cmFair
                rw [hfr, hfd]
                simp [h1, h12]
              clear h5 h6 h1
              go_wp2
              go_ret
              go_light
              exact ⟨ret_int' hfin.out.symm, B1⟩
          · have hb1 : (c.k == 1) = false := by simp [h1]
            have hfin : Hid (bRefused L c = 0) := by
              show bRefused L c = 0
              unfold bRefused cmFair
              rw [hfr, hfd]
              simp [h5, h6, h1]
            clear h5 h6 h1
            go_wp2
            go_ret
            go_light
            exact ⟨ret_int' hfin.out.symm, B1⟩
    | some i =>
      have ho : optI (some i) = (i : Int) := rfl
      obtain ⟨hil, _⟩ := bFind_some hfd
      obtain ⟨g, m, ha, HM, HC⟩ := HS.out.at hil
      obtain ⟨c0, c1, c2, c3, c4⟩ := HC.out _ B1
      obtain ⟨e0, e1, e2, e3, e4⟩ := HC.out w (Below.refl _ _)
      have hneg : ¬ (i : Int) < 0 := by omega
      have hnd : decide ((i : Int) < 0) = false := decide_eq_false hneg
      have hpos : (0 : Int) ≤ (i : Int) := by omega
      have hlti : (i : Int) < (L.length : Int) := by omega
      by_cases h56 : c.k = 5 ∨ c.k = 6
      · have hres : Hid (bRefused L c = if m.cl = c.cl then 0 else 4) := by
          show bRefused L c = if m.cl = c.cl then 0 else 4
          unfold bRefused cmFair
          rw [hfr, hfd, if_pos rfl, if_pos h56, HM.out]
        by_cases hcl2 : m.cl = c.cl
        · have hbc : (m.cl != c.cl) = false := by simp [hcl2]
          have hfin : Hid (bRefused L c = 0) := by show bRefused L c = 0; rw [hres.out, if_pos hcl2]
          clear hcl2
          rcases h56 with h5 | h6
          · have hb5 : (c.k == 5) = true := by simp [h5]
            clear h5
            go_wp2
            go_quiet (fail)
            go_wp2
            go_ret
            go_light
            exact ⟨ret_int' hfin.out.symm, below_drewN B1 nq⟩
          · have hb5 : (c.k == 5) = false := by simp [h6]
            have hb6 : (c.k == 6) = true := by simp [h6]
            clear h6
            go_wp2
            go_quiet (fail)
            go_wp2
            go_ret
            go_light
            exact ⟨ret_int' hfin.out.symm, below_drewN B1 nq⟩
        · have hbc : (m.cl != c.cl) = true := by simp [hcl2]
          have hfin : Hid (bRefused L c = 4) := by show bRefused L c = 4; rw [hres.out, if_neg hcl2]
          clear hcl2
          rcases h56 with h5 | h6
          · have hb5 : (c.k == 5) = true := by simp [h5]
            clear h5
            go_wp2
            go_quiet (fail)
            go_wp2
            go_ret
            go_light
            exact ⟨ret_int' hfin.out.symm, below_drewN B1 nq⟩
          · have hb5 : (c.k == 5) = false := by simp [h6]
            have hb6 : (c.k == 6) = true := by simp [h6]
            clear h6
            go_wp2
            go_quiet (fail)
            go_wp2
            go_ret
            go_light
            exact ⟨ret_int' hfin.out.symm, below_drewN B1 nq⟩
      · have hb5 : (c.k == 5) = false := by simp; omega
        have hb6 : (c.k == 6) = false := by simp; omega
        have hfin : Hid (bRefused L c = 3) := by
          show bRefused L c = 3
          unfold bRefused cmFair
          rw [hfr, hfd, if_pos rfl, if_neg h56]
        clear h56
        go_wp2
        go_ret
        go_light
        exact ⟨ret_int' hfin.out.symm, B1⟩
end Go.Proofs.Ytbljokilfkodfaa
/-
  The document's Do: what is rejected; orders that come.
-/
namespace Go.Proofs.Ytbljokilfkodfaa
open Go.RowKit

set_option maxRecDepth 100000 in
set_option maxHeartbeats 2000000 in
theorem rdo_rejected {w : World} {pb : Nat} {sv0 : Value} {L : List Od} (c : Cm) (hr : bRefused L c ≠ 0) (h : RefAt w pb sv0 L) (hL : BookOk L) :
    Calls Try.prog 11 #[.pointer (some ⟨pb, 0, none⟩), .agg #[.int .i64 c.k, .int .i64 c.cl, .int .i64 c.id, .int .i64 c.sd, .int .i64 c.pr, .int .i64 c.q]] w (EntPost w pb sv0 ([evRejected c (bRefused L c)], L)) := by
  have HR : Hid (RefAt w pb sv0 L) := h
  obtain ⟨r, hrr⟩ : ∃ r, r = bRefused L c := ⟨_, rfl⟩
  have hcon := rrefused_any c (h.keepB ((Below.refl _ _).alloc (Nat.le_refl _) (.cells #[.int .i64 c.k, .int .i64 c.cl, .int .i64 c.id, .int .i64 c.sd, .int .i64 c.pr, .int .i64 c.q] 37))) hL
  rw [← hrr] at hcon hr ⊢
  have HC : Hid (Calls Try.prog 36 #[.pointer (some ⟨pb, 0, none⟩), .agg #[.int .i64 c.k, .int .i64 c.cl, .int .i64 c.id, .int .i64 c.sd, .int .i64 c.pr, .int .i64 c.q]] (w.alloc (.cells #[.int .i64 c.k, .int .i64 c.cl, .int .i64 c.id, .int .i64 c.sd, .int .i64 c.pr, .int .i64 c.q] 37)) fun e w' => e = .returned (.int .i64 r) ∧ Below (w.alloc (.cells #[.int .i64 c.k, .int .i64 c.cl, .int .i64 c.id, .int .i64 c.sd, .int .i64 c.pr, .int .i64 c.q] 37)).heap.size (w.alloc (.cells #[.int .i64 c.k, .int .i64 c.cl, .int .i64 c.id, .int .i64 c.sd, .int .i64 c.pr, .int .i64 c.q] 37)) w') := hcon
  have hb : (r != 0) = true := by simp [hr]
  clear h hcon hrr hr
  go_enter Try.func11, Try.ntmps11
  go_wp2_with fail
  refine HC.out.mono ?_
  rintro e w1 ⟨rfl, b1⟩
  obtain ⟨hc1, hf1⟩ := bcell b1
  have hz1 : w.heap.size < w1.heap.size := by have := b1.size; simp at this; omega
  have B1 : Below w.heap.size w w1 := ((Below.refl _ _).alloc (Nat.le_refl _) _).trans (b1.mono (by simp))
  go_wp2
  go_ret
  go_light
  exact ⟨_, sv0, rfl, World.ownsRow_lit w1 _ 1 B1.size (by decide) rfl, HR.out.keepB (B1.alloc B1.size _), fun k hk => .inl hk, Only.of_below (B1.alloc B1.size _)⟩

set_option maxRecDepth 100000 in
set_option maxHeartbeats 2000000 in
theorem rdo_enter {w : World} {pb : Nat} {sv0 : Value} {L : List Od} (c : Cm) (hr : bRefused L c = 0) (h5 : c.k ≠ 5) (h6 : c.k ≠ 6) (hq : 1 ≤ c.q ∧ c.q ≤ 99) (h : RefAt w pb sv0 L) (hL : BookOk L) (hel : (bEnter L c.k (cmOd c)).1.length ≤ 100) :
    Calls Try.prog 11 #[.pointer (some ⟨pb, 0, none⟩), .agg #[.int .i64 c.k, .int .i64 c.cl, .int .i64 c.id, .int .i64 c.sd, .int .i64 c.pr, .int .i64 c.q]] w (EntPost w pb sv0 (evAccepted c :: (bEnter L c.k (cmOd c)).1, (bEnter L c.k (cmOd c)).2)) := by
  have hlen := hL.len
  have HR : Hid (RefAt w pb sv0 L) := h
  have HRR : Hid (bRefused L c = 0) := hr
  obtain ⟨res, hres⟩ : ∃ res, res = bEnter L c.k (cmOd c) := ⟨_, rfl⟩
  rw [← hres] at hel ⊢
  have HRES : Hid (res = bEnter L c.k (cmOd c)) := hres
  have hb5 : (c.k == 5) = false := by simp [h5]
  have hb6 : (c.k == 6) = false := by simp [h6]
  clear h hr hres h5 h6
  go_enter Try.func11, Try.ntmps11
  go_wp2_with fail
  refine (rrefused_any c (HR.out.keepB ((Below.refl _ _).alloc (Nat.le_refl _) _)) hL).mono ?_
  rintro e w1 ⟨rfl, b1⟩
  obtain ⟨hc1, hf1⟩ := bcell b1
  have hz1 : w.heap.size < w1.heap.size := by have := b1.size; simp at this; omega
  have B1 : Below w.heap.size w w1 := ((Below.refl _ _).alloc (Nat.le_refl _) _).trans (b1.mono (by simp))
  have hrw := HRR.out
  go_wp2_with fail
  have B2 := B1.alloc B1.size (.cells #[.int .i64 1, .int .i64 c.cl, .int .i64 c.id, .int .i64 0, .int .i64 0, .int .i64 0] 87)
  refine (rfind_any c.id (HR.out.keepB B2) (by omega)).mono ?_
  rintro e w' ⟨rfl, rfl⟩
  go_wp2_with fail
  refine (renter_any c.k (cmOd c) (HR.out.keepB B2) hL hq).mono ?_
  rintro e w3 ⟨v, sv, rfl, own3, R3, nb3, on3⟩
  rw [← HRES.out] at own3 R3
  have own3' : w3.ownsRow w.heap.size 87 6 v res.1.length (evRows res.1) := Joins.ownsRow_le own3 B2.size
  have lit : (w1.alloc (.cells #[.int .i64 1, .int .i64 c.cl, .int .i64 c.id, .int .i64 0, .int .i64 0, .int .i64 0] 87)).ownsRow w.heap.size 87 6 (.slice (some ⟨w1.heap.size, 0, none⟩) 1 1) [evAccepted c].length (evRows [evAccepted c]) := World.ownsRow_lit w1 _ 1 B1.size (by decide) rfl
  have hl1 : w1.heap.size < (w1.alloc (.cells #[.int .i64 1, .int .i64 c.cl, .int .i64 c.id, .int .i64 0, .int .i64 0, .int .i64 0] 87)).heap.size := by simp
  have lit3 := row_keep lit on3 (fun k hk h => by
    simp [Value.ownBlock] at hk
    subst hk
    rcases h with h | h
    · have := HR.out.lt; omega
    · have := (HR.out.own.lt _ h).2; omega)
  have ne3 : ∀ k, (Value.slice (some ⟨w1.heap.size, 0, none⟩) 1 1).ownBlock = some k → v.ownBlock ≠ some k := fun k hk e => by
    simp [Value.ownBlock] at hk
    subst hk
    have := (own3.lt _ e).1
    omega
  have S3 : Only (fun k => k = pb ∨ sv0.ownBlock = some k) w w3 := (Only.of_below (S := fun k => k = pb ∨ sv0.ownBlock = some k) B2).then on3 (fun _ _ h => h)
  have hadd := radd_any (B := w.heap.size) S3.size lit3 own3' ne3 (by simp) (by omega)
  have HADD : Hid (Calls Try.prog 39 #[.slice (some ⟨w1.heap.size, 0, none⟩) 1 1, v] w3 fun e w' => ∃ v', e = .returned v' ∧ w'.ownsRow w.heap.size 87 6 v' ([evAccepted c] ++ res.1).length (evRows ([evAccepted c] ++ res.1)) ∧ Only (fun k => (Value.slice (some ⟨w1.heap.size, 0, none⟩) 1 1).ownBlock = some k) w3 w' ∧ (∀ k, v'.ownBlock = some k → (Value.slice (some ⟨w1.heap.size, 0, none⟩) 1 1).ownBlock = some k ∨ w3.heap.size ≤ k)) := hadd
  have HR3 : Hid (RefAt w3 pb sv res.2) := R3
  have HS3 : Hid (Only (fun k => k = pb ∨ sv0.ownBlock = some k) w w3) := S3
  have HNB : Hid (∀ k, sv.ownBlock = some k → sv0.ownBlock = some k ∨ w.heap.size ≤ k) := fun k hk => (nb3 k hk).imp id (fun h => Nat.le_trans B2.size h)
  have hvn : Hid (∀ k, sv.ownBlock = some k → k ≠ w1.heap.size) := fun k hk e => by
    rcases nb3 k hk with h | h
    · have := (HR.out.own.lt _ h).2; omega
    · omega
  clear own3 own3' lit lit3 ne3 S3 hadd R3 nb3 on3
  go_wp2_with fail
  refine HADD.out.mono ?_
  rintro e w4 ⟨v4, rfl, own4, on4, nb4⟩
  have R4 := HR3.out.keep on4 (fun h => by simp [Value.ownBlock] at h; have := HR.out.lt; omega) (fun k hk h => by simp [Value.ownBlock] at h; exact hvn.out k hk h.symm)
  have S4 := HS3.out.then on4 (fun i hi h => by simp [Value.ownBlock] at h; omega)
  have HF : Hid (EntPost w pb sv0 (evAccepted c :: res.1, res.2) (.returned v4) w4) := ⟨v4, sv, rfl, own4, R4, HNB.out, S4⟩
  clear own4 on4 nb4 R4 S4
  go_wp2
  go_ret
  go_light
  exact HF.out
end Go.Proofs.Ytbljokilfkodfaa
