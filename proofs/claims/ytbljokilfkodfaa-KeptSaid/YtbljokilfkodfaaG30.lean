/-
  The book: a command that is taken: Cancel, Replace; all kinds.
-/
import Derived.Test.YtbljokilfkodfaaG29
import Derived.StillTailTactics
namespace Go.Proofs.Ytbljokilfkodfaa
open Go.RowKit

set_option maxRecDepth 100000 in
set_option maxHeartbeats 1000000 in
theorem done_cancel {w : World} {pb : Nat} {g : Gh} {L : List Od} (h : BkAt w pb g L) (hL : BookOk L) (c : Cm) (hr : bRefused L c = 0) (hk : c.k = 5) :
    Calls Try.prog 35 #[.pointer (some ⟨pb, 0, none⟩), .agg #[.int .i64 c.k, .int .i64 c.cl, .int .i64 c.id, .int .i64 c.sd, .int .i64 c.pr, .int .i64 c.q]] w (Came w pb g (bDone L c).1 (bDone L c).2) := by
  have hf := fair_of_taken hr
  obtain ⟨_, _, ⟨i1, i2⟩, _, _, _⟩ := fairB_bounds hf
  obtain ⟨i, hfi, hcl⟩ := taken_there hr (.inl hk)
  obtain ⟨hi, hid⟩ := bFind_some hfi
  have hd : bDone L c = ([⟨5, L[i].cl, L[i].id, 0, 0, L[i].q⟩], L.eraseIdx i) := by
    unfold bDone
    rw [if_pos hk, hfi]
    simp only [Option.getD_some]
    rw [getD_at hi] at hcl hid ⊢
    rw [hcl, hid]
  rw [hd]
  rw [getD_at hi] at hid
  have B1 : Below w.heap.size w (w.alloc (.cells #[.int .i64 c.k, .int .i64 c.cl, .int .i64 c.id, .int .i64 c.sd, .int .i64 c.pr, .int .i64 c.q] 32)).drew := ((Below.refl _ _).alloc (Nat.le_refl _) _).drew
  have ba := h.keep (Only.of_below (S := fun _ => False) B1) (fun _ _ => id)
  have p0 := ba.orders
  have hlk := ba.map.look1 (id := c.id) (by omega) (by omega) (by rw [← hid]; exact List.mem_map_of_mem (List.getElem_mem _))
  have hca := cancel_any ba i hi (hL.erase i).ok0
  rw [hid] at hca
  rw [hid]
  have hft : g.tag w.heap.size = none := Classical.byContradiction fun hne => by have := h.tlt _ hne; omega
  have HFT : Hid (¬ (g.tag w.heap.size ≠ none)) := by show ¬ _; rw [hft]; simp
  have HB1 : Hid (Below w.heap.size w (w.alloc (.cells #[.int .i64 c.k, .int .i64 c.cl, .int .i64 c.id, .int .i64 c.sd, .int .i64 c.pr, .int .i64 c.q] 32)).drew) := B1
  have z2 : (w.alloc (.cells #[.int .i64 c.k, .int .i64 c.cl, .int .i64 c.id, .int .i64 c.sd, .int .i64 c.pr, .int .i64 c.q] 32)).drew.cell? ⟨w.heap.size, 2, none⟩ = some (.int .i64 c.id) := by simp
  have hlt : w.heap.size < (w.alloc (.cells #[.int .i64 c.k, .int .i64 c.cl, .int .i64 c.id, .int .i64 c.sd, .int .i64 c.pr, .int .i64 c.q] 32)).drew.heap.size := by simp
  have HS0 : Hid ((w.alloc (.cells #[.int .i64 c.k, .int .i64 c.cl, .int .i64 c.id, .int .i64 c.sd, .int .i64 c.pr, .int .i64 c.q] 32)).drew.cell? ⟨w.heap.size, 2, none⟩ = some (.int .i64 c.id) ∧ w.heap.size < (w.alloc (.cells #[.int .i64 c.k, .int .i64 c.cl, .int .i64 c.id, .int .i64 c.sd, .int .i64 c.pr, .int .i64 c.q] 32)).drew.heap.size) := ⟨z2, hlt⟩
  obtain ⟨nE, hnE⟩ : ∃ x : List Ev, x = [⟨5, L[i].cl, c.id, 0, 0, L[i].q⟩] := ⟨_, rfl⟩
  obtain ⟨nB, hnB⟩ : ∃ x, x = L.eraseIdx i := ⟨_, rfl⟩
  rw [← hnE, ← hnB] at hca
  rw [← hnE, ← hnB]
  have hkb : (c.k == 1) = false := by simp; omega
  have hkb4 : (c.k == 4) = false := by simp; omega
  have hkb5 : (c.k == 5) = true := by simp [hk]
  have HCA : Hid (Calls Try.prog 55 #[.pointer (some ⟨pb, 0, none⟩), .pointer (some ⟨g.A c.id, 0, none⟩)] (w.alloc (.cells #[.int .i64 c.k, .int .i64 c.cl, .int .i64 c.id, .int .i64 c.sd, .int .i64 c.pr, .int .i64 c.q] 32)).drew fun e w' => ∃ v g', e = .returned v ∧ Told (w.alloc (.cells #[.int .i64 c.k, .int .i64 c.cl, .int .i64 c.id, .int .i64 c.sd, .int .i64 c.pr, .int .i64 c.q] 32)).drew w' g' v nE ∧ BkAt w' pb g' nB ∧ Only (fun k => g.tag k ≠ none) (w.alloc (.cells #[.int .i64 c.k, .int .i64 c.cl, .int .i64 c.id, .int .i64 c.sd, .int .i64 c.pr, .int .i64 c.q] 32)).drew w' ∧ (∀ k, g'.tag k ≠ none → g.tag k ≠ none ∨ (w.alloc (.cells #[.int .i64 c.k, .int .i64 c.cl, .int .i64 c.id, .int .i64 c.sd, .int .i64 c.pr, .int .i64 c.q] 32)).drew.heap.size ≤ k)) := hca
  obtain ⟨b, hb⟩ : ∃ b, b = w.heap.size := ⟨_, rfl⟩
  rw [← hb] at HFT HS0 z2 hlt
  clear hca hnE hnB hd hfi hcl hid hi hr hf h ba B1 hft hk z2
  go_enter Try.func35, Try.ntmps35
  go_wp2_with fail
  obtain ⟨w1, hw1⟩ : ∃ w1, w1 = w.alloc (.cells #[.int .i64 c.k, .int .i64 c.cl, .int .i64 c.id, .int .i64 c.sd, .int .i64 c.pr, .int .i64 c.q] 32) := ⟨_, rfl⟩
  rw [← hw1] at HCA HS0 HB1 hlk p0 hlt ⊢
  rw [← hb]
  obtain ⟨z2, zr⟩ := HS0.out
  clear hw1 hb
  go_still_tail 8, (by kernel_rfl)
  go_wp2_with fail
  refine Calls.mono HCA.out ?_
  rintro e w4 ⟨v4, g4, rfl, to4, ba4, on4, tn4⟩
  have HC : Hid (Came w pb g nE nB (.returned v4) w4) := came_of HB1.out (Nat.le_refl _) to4 ba4 (on4.mono (fun _ _ h => .inl h)) (fun k hk => (tn4 k hk).imp id .inr)
  clear to4 ba4 on4 tn4 HCA hlk p0
  go_wp2_with fail
  go_ret
  exact HC.out

set_option maxRecDepth 100000 in
set_option maxHeartbeats 1000000 in
theorem done_replace {w : World} {pb : Nat} {g : Gh} {L : List Od} (h : BkAt w pb g L) (hL : BookOk L) (c : Cm) (hr : bRefused L c = 0) (hk : c.k = 6) :
    Calls Try.prog 35 #[.pointer (some ⟨pb, 0, none⟩), .agg #[.int .i64 c.k, .int .i64 c.cl, .int .i64 c.id, .int .i64 c.sd, .int .i64 c.pr, .int .i64 c.q]] w (Came w pb g (bDone L c).1 (bDone L c).2) := by
  have hf := fair_of_taken hr
  obtain ⟨_, _, ⟨i1, i2⟩, _, _, _⟩ := fairB_bounds hf
  have hpq := (fair_parts hf).1 hk
  obtain ⟨i, hfi, hcl⟩ := taken_there hr (.inr hk)
  obtain ⟨hi, hid⟩ := bFind_some hfi
  have hd : bDone L c = bRepl L i L[i] c.pr c.q := by
    unfold bDone bRepl setQ
    rw [if_neg (by omega), if_pos hk, hfi]
    simp only [Option.getD_some]
    rw [getD_at hi] at hcl hid ⊢
    rw [hcl, hid]
  rw [hd]
  rw [getD_at hi] at hid
  have B1 : Below w.heap.size w (w.alloc (.cells #[.int .i64 c.k, .int .i64 c.cl, .int .i64 c.id, .int .i64 c.sd, .int .i64 c.pr, .int .i64 c.q] 32)).drew := ((Below.refl _ _).alloc (Nat.le_refl _) _).drew
  have ba := h.keep (Only.of_below (S := fun _ => False) B1) (fun _ _ => id)
  have p0 := ba.orders
  have hlk := ba.map.look1 (id := c.id) (by omega) (by omega) (by rw [← hid]; exact List.mem_map_of_mem (List.getElem_mem _))
  have hca := replace_any ba hL i hi c.pr c.q hpq.1 hpq.2
  rw [hid] at hca
  have hft : g.tag w.heap.size = none := Classical.byContradiction fun hne => by have := h.tlt _ hne; omega
  have HFT : Hid (¬ (g.tag w.heap.size ≠ none)) := by show ¬ _; rw [hft]; simp
  have HB1 : Hid (Below w.heap.size w (w.alloc (.cells #[.int .i64 c.k, .int .i64 c.cl, .int .i64 c.id, .int .i64 c.sd, .int .i64 c.pr, .int .i64 c.q] 32)).drew) := B1
  have z2 : (w.alloc (.cells #[.int .i64 c.k, .int .i64 c.cl, .int .i64 c.id, .int .i64 c.sd, .int .i64 c.pr, .int .i64 c.q] 32)).drew.cell? ⟨w.heap.size, 2, none⟩ = some (.int .i64 c.id) := by simp
  have z4 : (w.alloc (.cells #[.int .i64 c.k, .int .i64 c.cl, .int .i64 c.id, .int .i64 c.sd, .int .i64 c.pr, .int .i64 c.q] 32)).drew.cell? ⟨w.heap.size, 4, none⟩ = some (.int .i64 c.pr) := by simp
  have z5 : (w.alloc (.cells #[.int .i64 c.k, .int .i64 c.cl, .int .i64 c.id, .int .i64 c.sd, .int .i64 c.pr, .int .i64 c.q] 32)).drew.cell? ⟨w.heap.size, 5, none⟩ = some (.int .i64 c.q) := by simp
  have hlt : w.heap.size < (w.alloc (.cells #[.int .i64 c.k, .int .i64 c.cl, .int .i64 c.id, .int .i64 c.sd, .int .i64 c.pr, .int .i64 c.q] 32)).drew.heap.size := by simp
  obtain ⟨b, hb⟩ : ∃ b, b = w.heap.size := ⟨_, rfl⟩
  obtain ⟨nE, hnE⟩ : ∃ x, x = (bRepl L i L[i] c.pr c.q).1 := ⟨_, rfl⟩
  obtain ⟨nB, hnB⟩ : ∃ x, x = (bRepl L i L[i] c.pr c.q).2 := ⟨_, rfl⟩
  rw [← hnE, ← hnB] at hca
  rw [← hnE, ← hnB]
  have hkb : (c.k == 1) = false := by simp; omega
  have hkb4 : (c.k == 4) = false := by simp; omega
  have hkb5 : (c.k == 5) = false := by simp; omega
  have hkb6 : (c.k == 6) = true := by simp [hk]
  have HCA : Hid (Calls Try.prog 56 #[.pointer (some ⟨pb, 0, none⟩), .pointer (some ⟨g.A c.id, 0, none⟩), .int .i64 c.pr, .int .i64 c.q] (w.alloc (.cells #[.int .i64 c.k, .int .i64 c.cl, .int .i64 c.id, .int .i64 c.sd, .int .i64 c.pr, .int .i64 c.q] 32)).drew fun e w' => ∃ v g', e = .returned v ∧ Told (w.alloc (.cells #[.int .i64 c.k, .int .i64 c.cl, .int .i64 c.id, .int .i64 c.sd, .int .i64 c.pr, .int .i64 c.q] 32)).drew w' g' v nE ∧ BkAt w' pb g' nB ∧ Only (fun k => g.tag k ≠ none) (w.alloc (.cells #[.int .i64 c.k, .int .i64 c.cl, .int .i64 c.id, .int .i64 c.sd, .int .i64 c.pr, .int .i64 c.q] 32)).drew w' ∧ (∀ k, g'.tag k ≠ none → g.tag k ≠ none ∨ (w.alloc (.cells #[.int .i64 c.k, .int .i64 c.cl, .int .i64 c.id, .int .i64 c.sd, .int .i64 c.pr, .int .i64 c.q] 32)).drew.heap.size ≤ k)) := hca
  have HS0 : Hid ((w.alloc (.cells #[.int .i64 c.k, .int .i64 c.cl, .int .i64 c.id, .int .i64 c.sd, .int .i64 c.pr, .int .i64 c.q] 32)).drew.cell? ⟨w.heap.size, 2, none⟩ = some (.int .i64 c.id) ∧ (w.alloc (.cells #[.int .i64 c.k, .int .i64 c.cl, .int .i64 c.id, .int .i64 c.sd, .int .i64 c.pr, .int .i64 c.q] 32)).drew.cell? ⟨w.heap.size, 4, none⟩ = some (.int .i64 c.pr) ∧ (w.alloc (.cells #[.int .i64 c.k, .int .i64 c.cl, .int .i64 c.id, .int .i64 c.sd, .int .i64 c.pr, .int .i64 c.q] 32)).drew.cell? ⟨w.heap.size, 5, none⟩ = some (.int .i64 c.q) ∧ w.heap.size < (w.alloc (.cells #[.int .i64 c.k, .int .i64 c.cl, .int .i64 c.id, .int .i64 c.sd, .int .i64 c.pr, .int .i64 c.q] 32)).drew.heap.size) := ⟨z2, z4, z5, hlt⟩
  rw [← hb] at HFT HS0 hlt
  clear hca hnE hnB hd hfi hcl hid hi hr hf h ba B1 hft hk z2 z4 z5 hpq
  go_enter Try.func35, Try.ntmps35
  go_wp2_with fail
  obtain ⟨w1, hw1⟩ : ∃ w1, w1 = w.alloc (.cells #[.int .i64 c.k, .int .i64 c.cl, .int .i64 c.id, .int .i64 c.sd, .int .i64 c.pr, .int .i64 c.q] 32) := ⟨_, rfl⟩
  rw [← hw1] at HCA HS0 HB1 hlk p0 hlt ⊢
  rw [← hb]
  obtain ⟨z2, z4, z5, zr⟩ := HS0.out
  clear hw1 hb
  go_still_tail 12, (by kernel_rfl)
  go_wp2_with fail
  refine Calls.mono HCA.out ?_
  rintro e w4 ⟨v4, g4, rfl, to4, ba4, on4, tn4⟩
  have HC : Hid (Came w pb g nE nB (.returned v4) w4) := came_of HB1.out (Nat.le_refl _) to4 ba4 (on4.mono (fun _ _ h => .inl h)) (fun k hk => (tn4 k hk).imp id .inr)
  clear to4 ba4 on4 tn4 HCA hlk p0
  go_wp2_with fail
  go_ret
  exact HC.out

theorem done_any {w : World} {pb : Nat} {g : Gh} {L : List Od} (h : BkAt w pb g L) (hL : BookOk L) (c : Cm) (hr : bRefused L c = 0) :
    Calls Try.prog 35 #[.pointer (some ⟨pb, 0, none⟩), .agg #[.int .i64 c.k, .int .i64 c.cl, .int .i64 c.id, .int .i64 c.sd, .int .i64 c.pr, .int .i64 c.q]] w (Came w pb g (bDone L c).1 (bDone L c).2) := by
  obtain ⟨⟨k1, k2⟩, _⟩ := fairB_bounds (fair_of_taken hr)
  rcases (by omega : c.k = 1 ∨ (c.k = 2 ∨ c.k = 3) ∨ c.k = 4 ∨ c.k = 5 ∨ c.k = 6) with hk | hk | hk | hk | hk
  · exact done_limit h hL c hr hk
  · exact done_go h hL c hr hk
  · exact done_whole h hL c hr hk
  · exact done_cancel h hL c hr hk
  · exact done_replace h hL c hr hk
end Go.Proofs.Ytbljokilfkodfaa
/-
  The book: Do.
-/
namespace Go.Proofs.Ytbljokilfkodfaa
open Go.RowKit

theorem rejected_lit {w : World} (k cl id sd pr q er : Int) :
    Calls Try.prog 33 #[.agg #[.int .i64 k, .int .i64 cl, .int .i64 id, .int .i64 sd, .int .i64 pr, .int .i64 q], .int .i64 er] w fun e w' => e = .returned (.agg #[.int .i64 2, .int .i64 cl, .int .i64 id, .int .i64 er, .int .i64 0, .int .i64 0]) ∧ Below w.heap.size w w' := rejected_any k cl id sd pr q er
theorem accepted_lit {w : World} (k cl id sd pr q : Int) :
    Calls Try.prog 34 #[.agg #[.int .i64 k, .int .i64 cl, .int .i64 id, .int .i64 sd, .int .i64 pr, .int .i64 q]] w fun e w' => e = .returned (.agg #[.int .i64 1, .int .i64 cl, .int .i64 id, .int .i64 0, .int .i64 0, .int .i64 0]) ∧ Below w.heap.size w w' := accepted_any k cl id sd pr q

theorem bDone_some {L : List Od} (hL : BookOk L) {c : Cm} (hr : bRefused L c = 0) : 0 < (bDone L c).1.length ∧ (bDone L c).1.length ≤ 100 := by
  have hlen := bDo_len c hL
  rw [do_done hr] at hlen
  simp only [List.length_cons] at hlen
  refine ⟨?_, by omega⟩
  have hent : ∀ (L : List Od) (k : Int) (o : Od), 1 ≤ o.q → BookOk L → 0 < (bEnter L k o).1.length := fun L k o ho hL => by
    unfold bEnter
    split
    · simp
    · simp only
      split
      · rename_i h0
        by_cases he : (bMatch (L.length + 2) L o o.pr).1 = []
        · exfalso
          rw [bMatch] at h0 he
          rw [if_neg (by omega)] at h0 he
          cases hb : bBest L o.sd o.pr with
          | none => rw [hb] at h0; simp at h0; omega
          | some k => rw [hb] at he; simp [bTradeEv] at he
        · exact List.length_pos_iff.2 he
      · split <;> simp
  have hf := fair_of_taken hr
  unfold bDone
  split
  · simp
  · split
    · rename_i h6
      split
      · simp
      · exact hent _ _ _ (by show 1 ≤ c.q; exact ((fair_parts hf).1 h6).2.1) (hL.erase _)
    · rename_i h5 h6
      exact hent _ _ _ (by show 1 ≤ c.q; exact ((fair_parts hf).2 h5 h6).2.1.1) hL

/-- What is told at the end: Accepted ahead of the rest. -/
theorem do_end {w Wd w4 w5 : World} {pb rb gb cap H : Nat} {g g4 : Gh} {a : Ev} {nE : List Ev} {nB : List Od} (Bd : Below w.heap.size w Wd) (ba4 : BkAt w4 pb g4 nB) (on4 : Only (fun k => g.tag k ≠ none) Wd w4) (tn4 : ∀ k, g4.tag k ≠ none → g.tag k ≠ none ∨ Wd.heap.size ≤ k)
    (hrb : g4.tag rb = none) (hrw : w.heap.size ≤ rb) (Ox : Only (fun k => k = rb) w4 w5) (own5 : w5.ownsRow w.heap.size 48 6 (.slice (some ⟨gb, 0, none⟩) (1 + nE.length) cap) (1 + nE.length) (evRows [a] ++ evRows nE)) (lies : some rb = some gb ∨ gb = H) (hH : w4.heap.size ≤ H) :
    Came w pb g (a :: nE) nB (.returned (.slice (some ⟨gb, 0, none⟩) (1 + nE.length) cap)) w5 := by
  refine ⟨_, g4, rfl, ?_, ?_, ?_, fun k hk => ?_⟩
  · have := Told.app (E := [a]) (F := nE) (v := .slice (some ⟨rb, 0, none⟩) 1 1) (fun k hk => by
      have : rb = k := by simpa [Value.ownBlock] using hk
      rw [← this]; exact hrb) own5 (lies.imp (fun e => by rw [← e]; rfl) id) (fun k hk => Nat.lt_of_lt_of_le (ba4.tlt k hk) hH)
    exact this
  · exact ba4.keep Ox (fun k hk e => hk (by rw [e]; exact hrb))
  · exact (Only.then (Only.of_below Bd) on4 (fun _ _ h => h)).then Ox (fun k hk e => by omega)
  · rcases tn4 k hk with h | h
    · exact .inl h
    · exact .inr (Nat.le_trans Bd.size h)

theorem do_rowA {w w2 w4 : World} {g : Gh} {a : Ev} (hs : w.heap.size ≤ w2.heap.size) (on4 : Only (fun k => g.tag k ≠ none) (w2.alloc (.cells #[.int .i64 a.k, .int .i64 a.cl, .int .i64 a.id, .int .i64 a.ot, .int .i64 a.pr, .int .i64 a.q] 48)) w4) (hut : ∀ k, w.heap.size ≤ k → ¬ (g.tag k ≠ none)) : w4.ownsRow w.heap.size 48 6 (.slice (some ⟨w2.heap.size, 0, none⟩) 1 1) 1 (evRows [a]) :=
  row_keep (told_one w w2 a hs) on4 (fun k hk => hut k (by
    have e : w2.heap.size = k := by simpa [Value.ownBlock] using hk
    omega))
theorem news_past {w : World} {gx : Nat} {xs : List Value} (o : Obj) (h : gx < w.heap.size) (h3 : ∀ (j : Nat) (u : Value), xs[j]? = some u → w.cell? ((⟨gx, 0, none⟩ : Addr).add j) = some u) : ∀ (j : Nat) (u : Value), xs[j]? = some u → (w.alloc o).cell? ((⟨gx, 0, none⟩ : Addr).add j) = some u := fun j u hu => by
  have h4 := h3 j u hu
  unfold Addr.add at h4 ⊢
  split
  · rename_i e; rw [if_pos e] at h4; exact (World.cell?_alloc_past _ _ _ h).trans h4
  · rename_i e; rw [if_neg e] at h4; exact (World.cell?_alloc_past _ _ _ h).trans h4
theorem row_ne_b {x b n c : Nat} (h : b < x) : ¬ ((Value.slice (some ⟨x, 0, none⟩) n c).ownBlock = some b) := fun e => by
  have e : x = b := by simpa [Value.ownBlock] using e
  omega
theorem one_len {n : Nat} (h : n ≤ 100) : 1 + n ≤ maxLen := by unfold maxLen; omega
theorem one_bytes {n : Nat} (h : n ≤ 100) : (1 + n) * 48 ≤ 140737488355328 := by omega

set_option maxRecDepth 100000 in
set_option maxHeartbeats 1000000 in
theorem do_any {w : World} {pb : Nat} {g : Gh} {L : List Od} (h : BkAt w pb g L) (hL : BookOk L) (c : Cm) :
    Calls Try.prog 9 #[.pointer (some ⟨pb, 0, none⟩), .agg #[.int .i64 c.k, .int .i64 c.cl, .int .i64 c.id, .int .i64 c.sd, .int .i64 c.pr, .int .i64 c.q]] w (Came w pb g (bDo L c).1 (bDo L c).2) := by
  obtain ⟨i0, hi, hz0, hz1, hz2⟩ := info_parts infoCE
  have B1 : Below w.heap.size w (w.alloc (.cells #[.int .i64 c.k, .int .i64 c.cl, .int .i64 c.id, .int .i64 c.sd, .int .i64 c.pr, .int .i64 c.q] 32)) := (Below.refl _ _).alloc (Nat.le_refl _) _
  have hrf := refusal_any (h.keep (Only.of_below (S := fun _ => False) B1) (fun _ _ => id)) c
  have H : Hid (BkAt w pb g L) := h
  have HB1 : Hid (Below w.heap.size w (w.alloc (.cells #[.int .i64 c.k, .int .i64 c.cl, .int .i64 c.id, .int .i64 c.sd, .int .i64 c.pr, .int .i64 c.q] 32))) := B1
  have hbt : g.tag w.heap.size = none := Classical.byContradiction fun hne => by have := h.tlt _ hne; omega
  by_cases hr : bRefused L c = 0
  · rw [do_done hr]
    have hsome := bDone_some hL hr
    have hdn := fun W (hW : BkAt W pb g L) => done_any hW hL c hr
    obtain ⟨nE, hnE⟩ : ∃ x, x = (bDone L c).1 := ⟨_, rfl⟩
    obtain ⟨nB, hnB⟩ : ∃ x, x = (bDone L c).2 := ⟨_, rfl⟩
    rw [← hnE, ← hnB] at hdn
    rw [← hnE] at hsome
    rw [← hnE, ← hnB]
    rw [hr] at hrf
    have HRF : Hid (Calls Try.prog 32 #[.pointer (some ⟨pb, 0, none⟩), .agg #[.int .i64 c.k, .int .i64 c.cl, .int .i64 c.id, .int .i64 c.sd, .int .i64 c.pr, .int .i64 c.q]] (w.alloc (.cells #[.int .i64 c.k, .int .i64 c.cl, .int .i64 c.id, .int .i64 c.sd, .int .i64 c.pr, .int .i64 c.q] 32)) fun e w' => e = .returned (.int .i64 0) ∧ Below (w.alloc (.cells #[.int .i64 c.k, .int .i64 c.cl, .int .i64 c.id, .int .i64 c.sd, .int .i64 c.pr, .int .i64 c.q] 32)).heap.size (w.alloc (.cells #[.int .i64 c.k, .int .i64 c.cl, .int .i64 c.id, .int .i64 c.sd, .int .i64 c.pr, .int .i64 c.q] 32)) w') := hrf
    have HDN : Hid (∀ W, BkAt W pb g L → Calls Try.prog 35 #[.pointer (some ⟨pb, 0, none⟩), .agg #[.int .i64 c.k, .int .i64 c.cl, .int .i64 c.id, .int .i64 c.sd, .int .i64 c.pr, .int .i64 c.q]] W (Came W pb g nE nB)) := hdn
    clear hrf hdn h B1 hnE hnB hr
    obtain ⟨hn0, hn9⟩ := hsome
    go_enter Try.func9, Try.ntmps9
    go_wp2_with fail
    refine Calls.mono HRF.out ?_
    rintro e u ⟨rfl, bu⟩
    obtain ⟨hc1, _⟩ := bcell bu
    have z0 : u.cell? ⟨w.heap.size, 0, none⟩ = some (.int .i64 c.k) := (hc1 _ _ (by simp)).trans (by simp)
    have z1 : u.cell? ⟨w.heap.size, 1, none⟩ = some (.int .i64 c.cl) := (hc1 _ _ (by simp)).trans (by simp)
    have z2 : u.cell? ⟨w.heap.size, 2, none⟩ = some (.int .i64 c.id) := (hc1 _ _ (by simp)).trans (by simp)
    have z3 : u.cell? ⟨w.heap.size, 3, none⟩ = some (.int .i64 c.sd) := (hc1 _ _ (by simp)).trans (by simp)
    have z4 : u.cell? ⟨w.heap.size, 4, none⟩ = some (.int .i64 c.pr) := (hc1 _ _ (by simp)).trans (by simp)
    have z5 : u.cell? ⟨w.heap.size, 5, none⟩ = some (.int .i64 c.q) := (hc1 _ _ (by simp)).trans (by simp)
    have hlt : w.heap.size < u.heap.size := by have := bu.size; simp at this; omega
    have Bu : Below w.heap.size w u := HB1.out.trans (bu.mono HB1.out.size)
    have HBU : Hid (Below w.heap.size w u.drew) := Bu.drew
    obtain ⟨b, hb⟩ : ∃ b, b = w.heap.size := ⟨_, rfl⟩
    rw [← hb] at z0 z1 z2 z3 z4 z5 hlt hbt ⊢
    have HS0 : Hid (u.drew.cell? ⟨b, 0, none⟩ = some (.int .i64 c.k) ∧ u.drew.cell? ⟨b, 1, none⟩ = some (.int .i64 c.cl) ∧ u.drew.cell? ⟨b, 2, none⟩ = some (.int .i64 c.id) ∧ u.drew.cell? ⟨b, 3, none⟩ = some (.int .i64 c.sd) ∧ u.drew.cell? ⟨b, 4, none⟩ = some (.int .i64 c.pr) ∧ u.drew.cell? ⟨b, 5, none⟩ = some (.int .i64 c.q) ∧ b < u.drew.heap.size) := ⟨z0, z1, z2, z3, z4, z5, hlt⟩
    have HBT : Hid (g.tag b = none) := hbt
    have HDW : Hid (∀ W, Below u.drew.heap.size u.drew W → Below w.heap.size w W) := fun W hW => HBU.out.trans (hW.mono HBU.out.size)
    have HDK : Hid (∀ W, Below u.drew.heap.size u.drew W → Calls Try.prog 35 #[.pointer (some ⟨pb, 0, none⟩), .agg #[.int .i64 c.k, .int .i64 c.cl, .int .i64 c.id, .int .i64 c.sd, .int .i64 c.pr, .int .i64 c.q]] W (Came W pb g nE nB)) := fun W hW => HDN.out W (H.out.keep (Only.of_below (S := fun _ => False) (HDW.out W hW)) (fun _ _ => id))
    have HBE : Hid (b = w.heap.size) := hb
    have HUT : Hid (∀ k, w.heap.size ≤ k → ¬ (g.tag k ≠ none)) := fun k hk hne => by have := H.out.tlt k hne; omega
    clear bu hc1 Bu hb z0 z1 z2 z3 z4 z5 hlt hbt HRF HB1
    go_wp2_with fail
    go_region_held3 (fun W => W.cell? ⟨b, 0, none⟩ = some (.int .i64 c.k) ∧ W.cell? ⟨b, 1, none⟩ = some (.int .i64 c.cl) ∧ W.cell? ⟨b, 2, none⟩ = some (.int .i64 c.id) ∧ W.cell? ⟨b, 3, none⟩ = some (.int .i64 c.sd) ∧ W.cell? ⟨b, 4, none⟩ = some (.int .i64 c.pr) ∧ W.cell? ⟨b, 5, none⟩ = some (.int .i64 c.q) ∧ b < W.heap.size)
      (first | with_reducible exact ⟨k1, k2, k3, k4, k5, k6, k7⟩ | with_reducible exact HS0.out | (obtain ⟨s1, s2, s3, s4, s5, s6, s7⟩ := (by assumption : _ ∧ _ ∧ _ ∧ _ ∧ _ ∧ _ ∧ _); with_reducible refine ⟨(World.cell?_alloc_past _ _ _ s7).trans s1, (World.cell?_alloc_past _ _ _ s7).trans s2, (World.cell?_alloc_past _ _ _ s7).trans s3, (World.cell?_alloc_past _ _ _ s7).trans s4, (World.cell?_alloc_past _ _ _ s7).trans s5, (World.cell?_alloc_past _ _ _ s7).trans s6, ?_⟩; (rw [World.size_alloc]; omega)))
      (first
        | (go_at_call 34; obtain ⟨s1, s2, s3, s4, s5, s6, s7⟩ := (by assumption : _ ∧ _ ∧ _ ∧ _ ∧ _ ∧ _ ∧ _); refine Calls.mono (accepted_lit _ _ _ _ _ _) ?_; rintro e w2 ⟨rfl, b2⟩; have k1 := (b2.cell (p := ⟨b, 0, none⟩) s7).trans s1; have k2 := (b2.cell (p := ⟨b, 1, none⟩) s7).trans s2; have k3 := (b2.cell (p := ⟨b, 2, none⟩) s7).trans s3; have k4 := (b2.cell (p := ⟨b, 3, none⟩) s7).trans s4; have k5 := (b2.cell (p := ⟨b, 4, none⟩) s7).trans s5; have k6 := (b2.cell (p := ⟨b, 5, none⟩) s7).trans s6; have k7 := Nat.lt_of_lt_of_le s7 b2.size)
        | (go_at_call 35; obtain ⟨s1, s2, s3, s4, s5, s6, s7⟩ := (by assumption : _ ∧ _ ∧ _ ∧ _ ∧ _ ∧ _ ∧ _); refine Calls.mono (HDK.out _ ?_) ?_; (first | with_reducible exact b2 | exact b2.alloc b2.size _); rintro e w4 ⟨v4, g4, rfl, to4, ba4, on4, tn4⟩; obtain ⟨gx, cx, rfl, gx0, gx1, gx2, gx3⟩ := to4.src hn0; have hT : ¬ (g.tag b ≠ none) := (by rw [HBT.out]; simp); have k1 := (on4.cell (b := b) (o := 0) s7 hT).trans s1; have k2 := (on4.cell (b := b) (o := 1) s7 hT).trans s2; have k3 := (on4.cell (b := b) (o := 2) s7 hT).trans s3; have k4 := (on4.cell (b := b) (o := 3) s7 hT).trans s4; have k5 := (on4.cell (b := b) (o := 4) s7 hT).trans s5; have k6 := (on4.cell (b := b) (o := 5) s7 hT).trans s6; have k7 := Nat.lt_of_lt_of_le s7 on4.size)
        | (obtain ⟨s1, s2, s3, s4, s5, s6, s7⟩ := (by assumption : _ ∧ _ ∧ _ ∧ _ ∧ _ ∧ _ ∧ _); have hle := (HDW.out w2 b2).size; have hrn := row_ne_b (n := 1) (c := 1) (Nat.lt_of_lt_of_le HS0.out.2.2.2.2.2.2 b2.size); refine step_append_lies _ rfl (.tmp 17) (.tmp 20) 29 rfl w.heap.size 48 i0 _ 6 48 Try.underlying29 hi hz0 hz1 hz2 rfl (by decide) _ _ _ (by simp [Act.eval]) (do_rowA (a := evAccepted c) hle on4 HUT.out) ⟨gx, 0, none⟩ nE.length cx (evRows nE) (by simp [Act.eval]) (evRows_length nE) gx3 (oneRows nE) hn0 (one_len hn9) (one_bytes hn9) (Nat.le_trans hle (Nat.le_trans (Nat.le_of_lt (by rw [World.size_alloc]; omega)) on4.size)) _ rfl ?_; intro gb cap w5 own5 grow5 lies5 glt5; have k1 := ((only_grown grow5).cell (b := b) (o := 0) s7 hrn).trans s1; have k2 := ((only_grown grow5).cell (b := b) (o := 1) s7 hrn).trans s2; have k3 := ((only_grown grow5).cell (b := b) (o := 2) s7 hrn).trans s3; have k4 := ((only_grown grow5).cell (b := b) (o := 3) s7 hrn).trans s4; have k5 := ((only_grown grow5).cell (b := b) (o := 4) s7 hrn).trans s5; have k6 := ((only_grown grow5).cell (b := b) (o := 5) s7 hrn).trans s6; have k7 := Nat.lt_of_lt_of_le s7 grow5.size)
        | (obtain ⟨s1, s2, s3, s4, s5, s6, s7⟩ := (by assumption : _ ∧ _ ∧ _ ∧ _ ∧ _ ∧ _ ∧ _); have hle := Nat.le_trans (HDW.out w2 b2).size on4.size; have hrn := row_ne_b (n := 1) (c := 1) (Nat.lt_of_lt_of_le HS0.out.2.2.2.2.2.2 (Nat.le_trans b2.size on4.size)); refine step_append_lies _ rfl (.tmp 17) (.tmp 20) 29 rfl w.heap.size 48 i0 _ 6 48 Try.underlying29 hi hz0 hz1 hz2 rfl (by decide) _ _ _ (by simp [Act.eval]) (told_one w w4 (evAccepted c) hle) ⟨gx, 0, none⟩ nE.length cx (evRows nE) (by simp [Act.eval]) (evRows_length nE) (news_past _ gx2 gx3) (oneRows nE) hn0 (one_len hn9) (one_bytes hn9) (by rw [World.size_alloc]; omega) _ rfl ?_; intro gb cap w5 own5 grow5 lies5 glt5; have k1 := ((only_grown grow5).cell (b := b) (o := 0) s7 hrn).trans s1; have k2 := ((only_grown grow5).cell (b := b) (o := 1) s7 hrn).trans s2; have k3 := ((only_grown grow5).cell (b := b) (o := 2) s7 hrn).trans s3; have k4 := ((only_grown grow5).cell (b := b) (o := 3) s7 hrn).trans s4; have k5 := ((only_grown grow5).cell (b := b) (o := 4) s7 hrn).trans s5; have k6 := ((only_grown grow5).cell (b := b) (o := 5) s7 hrn).trans s6; have k7 := Nat.lt_of_lt_of_le s7 grow5.size))
    · have HC : Hid (Came w pb g (evAccepted c :: nE) nB (.returned (.slice (some ⟨gb, 0, none⟩) (1 + nE.length) cap)) w5) := by
        have hs2 := (HDW.out w2 b2).size
        refine do_end (rb := w2.heap.size) (H := w4.heap.size) (HDW.out _ (b2.alloc b2.size _)) ba4 on4 tn4 ?_ hs2 ((only_grown grow5).mono (fun k _ e => ?_)) own5 lies5 (Nat.le_refl _)
        · refine Classical.byContradiction fun hne => ?_
          rcases tn4 _ hne with h | h
          · exact HUT.out _ hs2 h
          · rw [World.size_alloc] at h; omega
        · have e' : w2.heap.size = k := by simpa [Value.ownBlock] using e
          exact e'.symm
      clear to4 ba4 on4 tn4 own5 grow5 lies5 glt5 HDN HDK
      go_wp2_with fail
      go_ret
      exact HC.out
    · have HC : Hid (Came w pb g (evAccepted c :: nE) nB (.returned (.slice (some ⟨gb, 0, none⟩) (1 + nE.length) cap)) w5) := by
        have hs2 := Nat.le_trans (HDW.out w2 b2).size on4.size
        refine do_end (rb := w4.heap.size) (HDW.out _ b2) ba4 on4 tn4 ?_ hs2 (((only_alloc w4 _).mono (fun _ _ h => h.elim)).trans ((only_grown grow5).mono (fun k _ e => ?_))) own5 lies5 (by rw [World.size_alloc]; omega)
        · refine Classical.byContradiction fun hne => ?_
          have := ba4.tlt _ hne
          omega
        · have e' : w4.heap.size = k := by simpa [Value.ownBlock] using e
          exact e'.symm
      clear to4 ba4 on4 tn4 own5 grow5 lies5 glt5 HDN HDK
      go_wp2_with fail
      go_ret
      exact HC.out
  · rw [do_refused hr]
    have hne : (bRefused L c == 0) = false := by simp; exact hr
    obtain ⟨er, her⟩ : ∃ er, er = bRefused L c := ⟨_, rfl⟩
    rw [← her] at hrf hne ⊢
    have HRF : Hid (Calls Try.prog 32 #[.pointer (some ⟨pb, 0, none⟩), .agg #[.int .i64 c.k, .int .i64 c.cl, .int .i64 c.id, .int .i64 c.sd, .int .i64 c.pr, .int .i64 c.q]] (w.alloc (.cells #[.int .i64 c.k, .int .i64 c.cl, .int .i64 c.id, .int .i64 c.sd, .int .i64 c.pr, .int .i64 c.q] 32)) fun e w' => e = .returned (.int .i64 er) ∧ Below (w.alloc (.cells #[.int .i64 c.k, .int .i64 c.cl, .int .i64 c.id, .int .i64 c.sd, .int .i64 c.pr, .int .i64 c.q] 32)).heap.size (w.alloc (.cells #[.int .i64 c.k, .int .i64 c.cl, .int .i64 c.id, .int .i64 c.sd, .int .i64 c.pr, .int .i64 c.q] 32)) w') := hrf
    clear hrf her hr h B1
    go_enter Try.func9, Try.ntmps9
    go_wp2_with fail
    refine Calls.mono HRF.out ?_
    rintro e u ⟨rfl, bu⟩
    obtain ⟨hc1, _⟩ := bcell bu
    have z0 : u.cell? ⟨w.heap.size, 0, none⟩ = some (.int .i64 c.k) := (hc1 _ _ (by simp)).trans (by simp)
    have z1 : u.cell? ⟨w.heap.size, 1, none⟩ = some (.int .i64 c.cl) := (hc1 _ _ (by simp)).trans (by simp)
    have z2 : u.cell? ⟨w.heap.size, 2, none⟩ = some (.int .i64 c.id) := (hc1 _ _ (by simp)).trans (by simp)
    have z3 : u.cell? ⟨w.heap.size, 3, none⟩ = some (.int .i64 c.sd) := (hc1 _ _ (by simp)).trans (by simp)
    have z4 : u.cell? ⟨w.heap.size, 4, none⟩ = some (.int .i64 c.pr) := (hc1 _ _ (by simp)).trans (by simp)
    have z5 : u.cell? ⟨w.heap.size, 5, none⟩ = some (.int .i64 c.q) := (hc1 _ _ (by simp)).trans (by simp)
    have HBU : Hid (Below w.heap.size w u) := HB1.out.trans (bu.mono HB1.out.size)
    clear bu hc1 HRF HB1
    go_wp2_with fail
    refine (rejected_lit _ _ _ _ _ _ _).mono ?_
    rintro e u2 ⟨rfl, b2⟩
    go_wp2_with fail
    go_ret
    go_light
    have B3 : Below w.heap.size w (u2.alloc (.cells #[.int .i64 2, .int .i64 c.cl, .int .i64 c.id, .int .i64 er, .int .i64 0, .int .i64 0] 48)) := (HBU.out.trans (b2.mono HBU.out.size)).alloc (Nat.le_trans HBU.out.size b2.size) _
    have s1 := HBU.out.size
    have s2 := b2.size
    refine ⟨_, g, rfl, ⟨told_one w u2 (evRejected c er) (by omega), fun b hb => ?_⟩, H.out.keep (Only.of_below (S := fun _ => False) B3) (fun _ _ => id), Only.of_below B3, fun _ h => .inl h⟩
    simp [Value.ownBlock] at hb
    subst hb
    exact Classical.byContradiction fun hne => by have := H.out.tlt _ hne; omega
end Go.Proofs.Ytbljokilfkodfaa
