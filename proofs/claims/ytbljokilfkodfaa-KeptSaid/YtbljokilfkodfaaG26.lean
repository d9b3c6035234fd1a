/-
  The book: a trade with one that rests (tradeWith).
-/
import Derived.Test.YtbljokilfkodfaaG24
import Derived.Test.YtbljokilfkodfaaG10
import Derived.Test.YtbljokilfkodfaaG25
import Derived.Laws.Small
import Derived.Deep.RegionHeld3
import Derived.Deep.AppendLies
import Derived.Deep.LoopGhost
namespace Go.Proofs.Ytbljokilfkodfaa
open Go.RowKit

/-- An order that comes: its block is none of the book's. -/
structure Coming (w : World) (g : Gh) (ob : Nat) (o : Od) : Prop where
  cells : OdCells w ob o
  lt : ob < w.heap.size
  free : g.tag ob = none
  x5 : ∃ x, w.cell? ⟨ob, 5, none⟩ = some x
  x6 : w.cell? ⟨ob, 6, none⟩ = some (.pointer none)
theorem Coming.keep {w w' : World} {g g' : Gh} {ob : Nat} {o : Od} {T : Nat → Prop} (h : Coming w g ob o) (on : Only T w w') (hT : ¬ T ob) (hn : ∀ k, g'.tag k ≠ none → g.tag k ≠ none ∨ w.heap.size ≤ k) : Coming w' g' ob o :=
  ⟨h.cells.keep on h.lt hT, Nat.lt_of_lt_of_le h.lt on.size, Classical.byContradiction fun hne => by
    rcases hn ob hne with h1 | h1
    · exact h1 h.free
    · have := h.lt; omega, by obtain ⟨x, hx⟩ := h.x5; exact ⟨x, (on.cell h.lt hT).trans hx⟩, (on.cell h.lt hT).trans h.x6⟩

theorem infoCE : (Try.prog.info? 48).map (fun i => (i.zero, i.size, i.bytes)) = some (some (.agg #[.int .i64 0, .int .i64 0, .int .i64 0, .int .i64 0, .int .i64 0, .int .i64 0]), 6, 48) := by kernel_rfl

theorem BkAt.drew {w : World} {pb : Nat} {g : Gh} {L : List Od} (h : BkAt w pb g L) : BkAt w.drew pb g L := h.keep (Only.refl (fun _ => False) w).drew1 (fun _ _ => id)
/-- Both orders of a trade have less. -/
theorem traded_world {w : World} {pb ob : Nat} {g : Gh} {L : List Od} {o : Od} (h : BkAt w pb g L) (hc : Coming w g ob o) (k : Nat) (hk : k < L.length) (t : Int) (t1 : 1 ≤ t) (t2 : t ≤ L[k].q) (t3 : L[k].q ≤ 99) :
    BkAt ((w.setCell ⟨ob, 4, none⟩ (.int .i64 (o.q - t))).setCell ⟨g.A L[k].id, 4, none⟩ (.int .i64 (L[k].q - t))).drew pb g (setQ L k (L[k].q - t)) ∧
    Coming ((w.setCell ⟨ob, 4, none⟩ (.int .i64 (o.q - t))).setCell ⟨g.A L[k].id, 4, none⟩ (.int .i64 (L[k].q - t))).drew g ob { o with q := o.q - t } ∧
    Only (fun b => g.tag b ≠ none ∨ b = ob) w ((w.setCell ⟨ob, 4, none⟩ (.int .i64 (o.q - t))).setCell ⟨g.A L[k].id, 4, none⟩ (.int .i64 (L[k].q - t))).drew := by
  have hm : L[k] ∈ L := List.getElem_mem _
  have rt := h.odt _ hm
  have on1 := only_set w ob 4 (.int .i64 (o.q - t))
  have on2 := only_set (w.setCell ⟨ob, 4, none⟩ (.int .i64 (o.q - t))) (g.A L[k].id) 4 (.int .i64 (L[k].q - t))
  have hne : ob ≠ g.A L[k].id := fun e => by have := hc.free; rw [e, rt] at this; cases this
  have h1 : BkAt (w.setCell ⟨ob, 4, none⟩ (.int .i64 (o.q - t))) pb g L := h.keep on1 (fun b hb e => hb (by rw [e]; exact hc.free))
  have s1 : ob < (w.setCell ⟨ob, 4, none⟩ (.int .i64 (o.q - t))).heap.size := Nat.lt_of_lt_of_le hc.lt on1.size
  refine ⟨(h1.setq k hk _ (by omega) (by omega)).drew, ⟨⟨so (so hc.cells.c0 (by omega)) (fun e => absurd e hne), so (so hc.cells.c1 (by omega)) (fun e => absurd e hne), so (so hc.cells.c2 (by omega)) (fun e => absurd e hne), so (so hc.cells.c3 (by omega)) (fun e => absurd e hne), so (ss hc.cells.c4) (fun e => absurd e hne), fun i => by simp [hc.cells.soft i]⟩, Nat.lt_of_lt_of_le s1 on2.size, hc.free, by obtain ⟨x, hx⟩ := hc.x5; exact ⟨x, so (so hx (by omega)) (fun e => absurd e hne)⟩, so (so hc.x6 (by omega)) (fun e => absurd e hne)⟩, ((on1.mono (fun b _ e => .inr e)).trans (on2.mono (fun b _ e => .inl (by rw [e, rt]; simp)))).drew1⟩

theorem told_two (w0 w : World) (e f : Ev) (h : w0.heap.size ≤ w.heap.size) : (w.alloc (.cells #[.int .i64 e.k, .int .i64 e.cl, .int .i64 e.id, .int .i64 e.ot, .int .i64 e.pr, .int .i64 e.q, .int .i64 f.k, .int .i64 f.cl, .int .i64 f.id, .int .i64 f.ot, .int .i64 f.pr, .int .i64 f.q] 48)).ownsRow w0.heap.size 48 6 (.slice (some ⟨w.heap.size, 0, none⟩) 2 2) 2 (evRows [e, f]) := by
  refine ⟨by simp [evRows, evCells], .inr ⟨w.heap.size, 2, _, rfl, h, heap_alloc_new w _, Nat.le_refl _, by unfold maxLen; omega, by simp, ?_⟩⟩
  simp [evRows, evCells]
theorem traded_lit {w : World} (b : Nat) (cl id wi pr q : Int) (hb : b < w.heap.size) (c0 : w.cell? ⟨b, 0, none⟩ = some (.int .i64 cl)) (c1 : w.cell? ⟨b, 1, none⟩ = some (.int .i64 id)) :
    Calls Try.prog 110 #[.pointer (some ⟨b, 0, none⟩), .int .i64 wi, .int .i64 pr, .int .i64 q] w fun e w' => e = .returned (.agg #[.int .i64 3, .int .i64 cl, .int .i64 id, .int .i64 wi, .int .i64 pr, .int .i64 q]) ∧ Below w.heap.size w w' := traded_any b cl id wi pr q hb c0 c1
set_option maxRecDepth 100000 in
set_option maxHeartbeats 600000 in
theorem tradeWith_any {w : World} {pb ob : Nat} {g : Gh} {L : List Od} {o : Od} (h : BkAt w pb g L) (hL : BookOk L) (hc : Coming w g ob o) (hq : 1 ≤ o.q ∧ o.q ≤ 99) (k : Nat) (hk : k < L.length) :
    Calls Try.prog 89 #[.pointer (some ⟨pb, 0, none⟩), .pointer (some ⟨ob, 0, none⟩), .pointer (some ⟨g.A L[k].id, 0, none⟩)] w fun e w' => ∃ v g', e = .returned v ∧ Told w w' g' v (bTradeEv L k o (bTake o L[k])) ∧ BkAt w' pb g' (bTraded L k (bTake o L[k])) ∧ Coming w' g' ob { o with q := o.q - bTake o L[k] } ∧ Only (fun b => g.tag b ≠ none ∨ b = ob) w w' ∧ (∀ b, g'.tag b ≠ none → g.tag b ≠ none ∨ w.heap.size ≤ b) := by
  obtain ⟨i0, hi, hz0, hz1, hz2⟩ := info_parts infoCE
  have H : Hid (BkAt w pb g L) := h
  have hm : L[k] ∈ L := List.getElem_mem _
  have rc := h.odc _ hm
  obtain ⟨_, _, _, _, r1, r2⟩ := hL.each _ hm
  obtain ⟨r, hr⟩ : ∃ r, r = L[k] := ⟨_, rfl⟩
  rw [← hr] at rc r1 r2 hm ⊢
  have rt := h.odt _ hm
  have rlt := h.tlt _ (by rw [rt]; simp)
  have hne : ¬ ob = g.A r.id := fun e => by have := hc.free; rw [e, rt] at this; cases this
  have hne' : ¬ g.A r.id = ob := fun e => hne e.symm
  obtain ⟨x0, x1, x2, x3, x4, xs⟩ := hc.cells
  obtain ⟨y0, y1, y2, y3, y4, ys⟩ := rc
  have olt := hc.lt
  have HC : Hid (Coming w g ob o) := hc
  obtain ⟨q1, q2⟩ := hq
  have HRK : Hid (r = L[k]) := hr
  clear hr
  obtain ⟨t, ht⟩ : ∃ t, t = bTake o r := ⟨_, rfl⟩
  rw [← ht]
  have ht' : t = if r.q < o.q then r.q else o.q := ht
  have hmin : ∀ (ts : Array TypeId) (ty : TypeId) (w : World), (Builtin.min_ ts ty #[.int .i64 o.q, .int .i64 r.q]).run Try.prog w = .ok (.int .i64 t) w := fun ts ty w => by rw [ht']; first | exact run_min_int2 _ _ ts ty .i64 .i64 o.q r.q | simp [run_min_int2]
  have t1 : 1 ≤ t ∧ t ≤ o.q ∧ t ≤ r.q := by rw [ht']; split <;> omega
  obtain ⟨t1, t2, t3⟩ := t1
  have HT : Hid (t = bTake o r) := ht
  clear h hc ht ht'
  go_enter Try.func89, Try.ntmps89
  go_wp2_with fail
  go_region
  go_wp2_with fail
  obtain ⟨B0, C0, O0⟩ := traded_world H.out HC.out k hk t t1 (by rw [← HRK.out]; exact t3) (by rw [← HRK.out]; exact r2)
  rw [← HRK.out] at B0 C0 O0
  obtain ⟨w0, hw0⟩ : ∃ w0, w0 = ((w.setCell ⟨ob, 4, none⟩ (.int .i64 (o.q - t))).setCell ⟨g.A r.id, 4, none⟩ (.int .i64 (r.q - t))).drew := ⟨_, rfl⟩
  rw [← hw0] at B0 C0 O0 ⊢
  have z0 := C0.cells.c0
  have z1 := C0.cells.c1
  have R0 : OdCells w0 (g.A r.id) { r with q := r.q - t } := by
    have hx : ({ r with q := r.q - t } : Od) ∈ setQ L k (r.q - t) := by
      unfold setQ
      rw [getD_at hk, ← HRK.out]
      exact List.mem_set hk _
    exact B0.odc _ hx
  have u0 := R0.c0
  have u1 := R0.c1
  have u3 := R0.c3
  have olt0 := C0.lt
  have rlt0 := B0.tlt _ (by rw [rt]; simp)
  have HB0 : Hid (BkAt w0 pb g (setQ L k (r.q - t))) := B0
  have HC0 : Hid (Coming w0 g ob { o with q := o.q - t }) := C0
  have HO0 : Hid (Only (fun b => g.tag b ≠ none ∨ b = ob) w w0) := O0
  clear B0 C0 O0 R0 hw0 x0 x1 x2 x3 x4 xs y0 y1 y2 y3 y4 ys hmin
  simp only at z0 z1 u0 u1 u3
  have HS0 : Hid (w0.drew.cell? ⟨ob, 0, none⟩ = some (.int .i64 o.cl) ∧ w0.drew.cell? ⟨ob, 1, none⟩ = some (.int .i64 o.id) ∧ w0.drew.cell? ⟨g.A r.id, 0, none⟩ = some (.int .i64 r.cl) ∧ w0.drew.cell? ⟨g.A r.id, 1, none⟩ = some (.int .i64 r.id) ∧ w0.drew.cell? ⟨g.A r.id, 3, none⟩ = some (.int .i64 r.pr) ∧ ob < w0.drew.heap.size ∧ g.A r.id < w0.drew.heap.size) := ⟨z0, z1, u0, u1, u3, olt0, rlt0⟩
  go_region_held3 (fun W => W.cell? ⟨ob, 0, none⟩ = some (.int .i64 o.cl) ∧ W.cell? ⟨ob, 1, none⟩ = some (.int .i64 o.id) ∧ W.cell? ⟨g.A r.id, 0, none⟩ = some (.int .i64 r.cl) ∧ W.cell? ⟨g.A r.id, 1, none⟩ = some (.int .i64 r.id) ∧ W.cell? ⟨g.A r.id, 3, none⟩ = some (.int .i64 r.pr) ∧ ob < W.heap.size ∧ g.A r.id < W.heap.size) (first | with_reducible exact ⟨k1, k2, k3, k4, k5, k6, k7⟩ | with_reducible exact HS0.out | (obtain ⟨s1, s2, s3, s4, s5, s6, s7⟩ := (by assumption : _ ∧ _ ∧ _ ∧ _ ∧ _ ∧ _ ∧ _); with_reducible refine ⟨(World.cell?_alloc_past _ _ _ s6).trans s1, (World.cell?_alloc_past _ _ _ s6).trans s2, (World.cell?_alloc_past _ _ _ s7).trans s3, (World.cell?_alloc_past _ _ _ s7).trans s4, (World.cell?_alloc_past _ _ _ s7).trans s5, ?_, ?_⟩ <;> (rw [World.size_alloc]; omega)))
    (first | (go_at_call 110; obtain ⟨s1, s2, s3, s4, s5, s6, s7⟩ := (by assumption : _ ∧ _ ∧ _ ∧ _ ∧ _ ∧ _ ∧ _); refine Calls.mono (traded_lit _ ?_ ?_ _ _ _ ?_ ?_ ?_) ?_; rotate_left 3; (first | with_reducible exact s1 | with_reducible exact s3); (first | with_reducible exact s2 | with_reducible exact s4); rotate_left 1; (first | with_reducible exact s6 | with_reducible exact s7); rintro e w1 ⟨rfl, b1⟩; have k1 := (b1.cell (p := ⟨ob, 0, none⟩) s6).trans s1; have k2 := (b1.cell (p := ⟨ob, 1, none⟩) s6).trans s2; have k3 := (b1.cell (p := ⟨g.A r.id, 0, none⟩) s7).trans s3; have k4 := (b1.cell (p := ⟨g.A r.id, 1, none⟩) s7).trans s4; have k5 := (b1.cell (p := ⟨g.A r.id, 3, none⟩) s7).trans s5; have k6 := Nat.lt_of_lt_of_le s6 b1.size; have k7 := Nat.lt_of_lt_of_le s7 b1.size))
  have b0 := (by assumption : Below w0.drew.heap.size w0.drew _)
  have B12 : Below w0.heap.size w0 w1 := (Below.refl _ _).drew.trans (b0.trans (b1.mono b0.size))
  clear b0 b1 HS0 z0 z1 u0 u1 u3
  have s10 := B12.size
  have own2 := told_two w w1 (evTrade o r t) (evBack o r t) (Nat.le_trans HO0.out.size s10)
  obtain ⟨w2, hw2⟩ : ∃ w2, w2 = w1.alloc (.cells #[.int .i64 3, .int .i64 o.cl, .int .i64 o.id, .int .i64 r.id, .int .i64 r.pr, .int .i64 t, .int .i64 3, .int .i64 r.cl, .int .i64 r.id, .int .i64 o.id, .int .i64 r.pr, .int .i64 t] 48) := ⟨_, rfl⟩
  have B2 : Below w0.heap.size w0 w2 := by rw [hw2]; exact B12.alloc s10 _
  simp only [evTrade, evBack] at own2
  rw [← hw2] at own2 ⊢
  have hlw1 : w1.heap.size < w2.heap.size := by rw [hw2]; simp
  have OB2 : Only (fun _ => False) w0 w2 := Only.of_below B2
  have HB2 : Hid (BkAt w2 pb g (setQ L k (r.q - t))) := HB0.out.keep OB2 (fun _ _ => id)
  have HC2 : Hid (Coming w2 g ob { o with q := o.q - t }) := HC0.out.keep OB2 id (fun _ h => .inl h)
  have HO2 : Hid (Only (fun b => g.tag b ≠ none ∨ b = ob) w w2) := HO0.out.trans (OB2.mono (fun _ _ h => h.elim))
  have HW2 : Hid (w2.ownsRow w.heap.size 48 6 (.slice (some ⟨w1.heap.size, 0, none⟩) 2 2) 2 (evRows [evTrade o r t, evBack o r t])) := own2
  have hfree : g.tag w1.heap.size = none := Classical.byContradiction fun hne => by have := HB0.out.tlt _ hne; omega
  have hk' : k < (setQ L k (r.q - t)).length := by simp [setQ]; exact hk
  have heq : (setQ L k (r.q - t))[k] = { r with q := r.q - t } := by
    simp only [setQ, List.getElem_set_self, getD_at hk]; rw [← HRK.out]
  have u4 := (HB2.out.odc _ (List.getElem_mem hk')).c4
  rw [heq] at u4
  simp only at u4
  have rlt2 : g.A r.id < w2.heap.size := HB2.out.tlt _ (by rw [rt]; simp)
  have hgd : L.getD k od0 = r := by rw [getD_at hk, ← HRK.out]
  clear own2 OB2 B2 hw2 B12
  by_cases hz : r.q = t
  · have hz0 : r.q - t = 0 := by omega
    have hrem := brem_any HB2.out k hk' (by
      have e : (setQ L k (r.q - t)).eraseIdx k = L.eraseIdx k := by unfold setQ; exact set_erase _ _ _
      rw [e]; exact (hL.erase k).ok0)
    rw [heq] at hrem
    have e : (setQ L k (r.q - t)).eraseIdx k = L.eraseIdx k := by unfold setQ; exact set_erase _ _ _
    rw [e] at hrem
    rw [hz0] at u4
    have HREM : Hid (Calls Try.prog 80 #[.pointer (some ⟨pb, 0, none⟩), .pointer (some ⟨g.A r.id, 0, none⟩)] w2 fun e w' => e = .returned (.tuple #[]) ∧ Behind pb g (L.eraseIdx k) w2 w' ∧ OdCells w' (g.A r.id) { r with q := r.q - t }) := hrem
    clear hrem e
    have HZ : Hid (r.q = t) := hz
    clear hz hz0
    go_wp2_with fail
    refine Calls.mono HREM.out ?_
    rintro e w3 ⟨rfl, ⟨g', b3, o3, t3', _, _⟩, oc⟩
    have c0 := oc.c0
    have c1 := oc.c1
    simp only at c0 c1
    have rlt3 : g.A r.id < w3.heap.size := Nat.lt_of_lt_of_le rlt2 o3.size
    have HB3 : Hid (BkAt w3 pb g' (L.eraseIdx k)) := b3
    have HO3 : Hid (Only (fun k => g.tag k ≠ none) w2 w3) := o3
    have HN3 : Hid (∀ k, g'.tag k ≠ none → g.tag k ≠ none ∨ w2.heap.size ≤ k) := t3'
    clear b3 o3 t3' oc u4
    go_wp2_with fail
    refine (filled_any _ r.cl r.id rlt3 c0 c1).mono ?_
    rintro e w4 ⟨rfl, b4⟩
    unfold evV
    have OW4 : Hid (w4.ownsRow w.heap.size 48 6 (.slice (some ⟨w1.heap.size, 0, none⟩) 2 2) 2 (evRows [evTrade o r t, evBack o r t])) := row_keep (row_keep HW2.out HO3.out (fun b hb => by simp [Value.ownBlock] at hb; rw [← hb]; simp [hfree])) (Only.of_below (S := fun _ => False) b4) (fun _ _ => id)
    have HB4 : Hid (Below w3.heap.size w3 w4) := b4
    have hsz4 : w.heap.size ≤ w4.heap.size := Nat.le_trans HO2.out.size (Nat.le_trans HO3.out.size b4.size)
    clear b4
    go_wp2_with (at_builtin; refine wpList_append_lies _ rfl (.tmp 65) (.tmp 68) 29 rfl w.heap.size 48 i0 _ 6 48 Try.underlying29 hi hz0 hz1 hz2 rfl (by decide) _ _ _ rfl (OW4.out.alloc _) ⟨w4.heap.size, 0, none⟩ 1 1 (evCells ⟨4, r.cl, r.id, 0, 0, 0⟩) rfl rfl ?c1 ?c2 (by decide) ?c3 ?c4 ?c5 (w4.heap.size + 1) (by simp) ?_)
    case c1 => exact new6' _ _ rfl _ _ _ _ _ _ _
    case c2 => exact one6' _
    case c3 => unfold maxLen; omega
    case c4 => omega
    case c5 => simp; omega
    · intro gb cap w5 own5 grow5 lies5 glt5
      go_wp2_with fail
      go_ret
      go_light
      have OG : Only (fun b => b = w1.heap.size) w4 w5 := ((only_alloc w4 _).mono (fun _ _ h => h.elim)).trans ((only_grown grow5).mono (fun b _ e => by simp [Value.ownBlock] at e; exact e.symm))
      have O45 : Only (fun b => b = w1.heap.size) w3 w5 := (Only.of_below HB4.out).trans OG
      have hfr : ∀ b, g'.tag b ≠ none → b ≠ w1.heap.size := fun b hb e => by
        rcases HN3.out b hb with h1 | h1
        · rw [e] at h1; exact h1 hfree
        · omega
      have hs45 := HO3.out.size
      refine ⟨_, g', rfl, ⟨?_, ?_⟩, ?_, ?_, ?_, ?_⟩
      · have e : bTradeEv L k o t = [evTrade o r t, evBack o r t] ++ [evFilled r] := by unfold bTradeEv; rw [hgd, if_pos HZ.out]
        rw [e, evRows_append]; exact own5
      · intro b hb
        have hb' : gb = b := by simpa [Value.ownBlock] using hb
        rw [← hb']
        refine Classical.byContradiction fun hne => ?_
        rcases lies5 with h1 | h1
        · have h1' : w1.heap.size = gb := by simpa [Value.ownBlock] using h1
          exact hfr gb hne h1'.symm
        · have := HB3.out.tlt _ hne
          have := HB4.out.size
          omega
      · have e : bTraded L k t = L.eraseIdx k := by unfold bTraded; rw [hgd, if_pos HZ.out]
        rw [e]; exact HB3.out.keep O45 hfr
      · refine (HC2.out.keep (g' := g') HO3.out (by rw [HC2.out.free]; simp) HN3.out).keep O45 (fun e => ?_) (fun _ h => .inl h)
        have := HC2.out.lt
        have := HB0.out
        omega
      · exact (HO2.out.trans (HO3.out.mono (fun _ _ h => .inl h))).then O45 (fun b hb e => by have := HO0.out.size; omega)
      · intro b hb
        rcases HN3.out b hb with h1 | h1
        · exact .inl h1
        · exact .inr (Nat.le_trans HO2.out.size h1)
  · have hzb : (r.q - t == 0) = false := by simp; omega
    have HZ : Hid (¬ r.q = t) := hz
    clear hz
    go_wp2_with fail
    go_ret
    go_light
    refine ⟨_, g, rfl, ⟨?_, ?_⟩, ?_, HC2.out, HO2.out, fun _ h => .inl h⟩
    · have e : bTradeEv L k o t = [evTrade o r t, evBack o r t] := by unfold bTradeEv; rw [hgd, if_neg HZ.out]; rfl
      rw [e]; exact HW2.out
    · intro b hb
      simp [Value.ownBlock] at hb
      rw [← hb]; exact hfree
    · have e : bTraded L k t = setQ L k (r.q - t) := by unfold bTraded setQ; rw [hgd, if_neg HZ.out]
      rw [e]; exact HB2.out
end Go.Proofs.Ytbljokilfkodfaa
/-
  The book: an order that comes trades with those that it meets (trade).
-/
namespace Go.Proofs.Ytbljokilfkodfaa
open Go.RowKit

def codeOd (o : Od) (q : Int) : Od := { o with pr := codePr o.sd o.pr, q := q }

theorem Told.keep {w0 w w' : World} {g g' : Gh} {v : Value} {E : List Ev} {T : Nat → Prop} (h : Told w0 w g v E) (on : Only T w w') (hT : ∀ k, v.ownBlock = some k → ¬ T k) (hn : ∀ k, g'.tag k ≠ none → g.tag k ≠ none ∨ w.heap.size ≤ k) : Told w0 w' g' v E :=
  ⟨row_keep h.1 on hT, fun k hk => Classical.byContradiction fun hne => (hn k hne).elim (fun h1 => h1 (h.2 k hk)) (fun h1 => by have := (h.1.lt k hk).2; omega)⟩

theorem cother_any (sd : Int) (w : World) : Calls Try.prog 77 #[.int .i64 sd] w fun e w' => e = .returned (.int .i64 (otherS sd)) ∧ w' = w := by
  unfold otherS
  by_cases hs : sd = 1
  · have hb : (sd == 1) = true := by simp [hs]
    rw [if_pos hs]
    go_enter Try.func77, Try.ntmps77
    go_wp2_with fail
    go_ret
    exact ⟨rfl, rfl⟩
  · have hb : (sd == 1) = false := by simp [hs]
    rw [if_neg hs]
    go_enter Try.func77, Try.ntmps77
    go_wp2_with fail
    go_ret
    exact ⟨rfl, rfl⟩

theorem Told.src {w0 w : World} {g : Gh} {v : Value} {E : List Ev} (h : Told w0 w g v E) (hne : 0 < E.length) : ∃ gx cap, v = .slice (some ⟨gx, 0, none⟩) E.length cap ∧ g.tag gx = none ∧ w0.heap.size ≤ gx ∧ gx < w.heap.size ∧ ∀ (j : Nat) (u : Value), (evRows E)[j]? = some u → w.cell? ((⟨gx, 0, none⟩ : Addr).add j) = some u := by
  obtain ⟨h1, h2⟩ := h
  have hlt := h1.lt
  have ho := h1
  obtain ⟨_, ho2⟩ := ho
  rcases ho2 with ⟨_, hn⟩ | ⟨gx, cap, cur, hv, _⟩
  · omega
  · have hb : v.ownBlock = some gx := by rw [hv]; rfl
    refine ⟨gx, cap, hv, h2 gx hb, (hlt gx hb).1, (hlt gx hb).2, fun j u hu => ?_⟩
    rw [hv] at h1
    have hj : j < E.length * 6 := by rw [← evRows_length]; exact (List.getElem?_eq_some_iff.1 hu).1
    have := (h1.cellAt j hj).trans hu
    cases j with
    | zero => simpa [Addr.add] using this
    | succ j => simpa [Addr.add] using this
theorem Told.app {w0 w' : World} {g : Gh} {v : Value} {E F : List Ev} {gb cap H : Nat} (h2 : ∀ k, v.ownBlock = some k → g.tag k = none) (own : w'.ownsRow w0.heap.size 48 6 (.slice (some ⟨gb, 0, none⟩) (E.length + F.length) cap) (E.length + F.length) (evRows E ++ evRows F)) (lies : v.ownBlock = some gb ∨ gb = H) (htl : ∀ k, g.tag k ≠ none → k < H) : Told w0 w' g (.slice (some ⟨gb, 0, none⟩) (E.length + F.length) cap) (E ++ F) := by
  refine ⟨by rw [List.length_append, evRows_append]; exact own, fun k hk => ?_⟩
  have hk' : gb = k := by simpa [Value.ownBlock] using hk
  rw [← hk']
  rcases lies with h | h
  · exact h2 gb h
  · exact Classical.byContradiction fun hne => by have := htl gb hne; omega
theorem oneRows (E : List Ev) : ∀ u ∈ evRows E, u.oneCell' = true := by
  intro u hu
  obtain ⟨e, _, he⟩ := List.mem_flatMap.1 hu
  exact one6' e u he

/-- What holds ahead of each round. -/
def TInv (w : World) (pb ob : Nat) (g : Gh) (F : Nat) (L : List Od) (o : Od) (n : Nat) (v : Value) (wr : World) : Prop :=
  ∃ (M : List Od) (q : Int) (evs : List Ev) (g' : Gh), (M.length + 2 ≤ n ∨ (q = 0 ∧ 1 ≤ n)) ∧ n ≤ F ∧ evs.length ≤ 3 * (F - n) ∧ MEq F L o o.pr evs n M q ∧ BookOk M ∧ 0 ≤ q ∧ q ≤ 99 ∧
    BkAt wr pb g' M ∧ Coming wr g' ob (codeOd o q) ∧ Told w wr g' v evs ∧ Only (fun b => g.tag b ≠ none ∨ b = ob) w wr ∧ (∀ k, g'.tag k ≠ none → g.tag k ≠ none ∨ w.heap.size ≤ k)

set_option maxRecDepth 100000 in
set_option maxHeartbeats 1000000 in
theorem trade_any {w : World} {pb ob : Nat} {g : Gh} {L : List Od} (o : Od) (h : BkAt w pb g L) (hL : BookOk L) (hsd : o.sd = 1 ∨ o.sd = 2) (hp : 0 ≤ o.pr ∧ o.pr ≤ 99) (hq : 1 ≤ o.q ∧ o.q ≤ 99) (hc : Coming w g ob (codeOd o o.q)) :
    Calls Try.prog 73 #[.pointer (some ⟨pb, 0, none⟩), .pointer (some ⟨ob, 0, none⟩)] w fun e w' => ∃ v g', e = .returned v ∧ Told w w' g' v (bMatch (L.length + 2) L o o.pr).1 ∧ BkAt w' pb g' (bMatch (L.length + 2) L o o.pr).2.1 ∧
      Coming w' g' ob (codeOd o (bMatch (L.length + 2) L o o.pr).2.2) ∧ Only (fun b => g.tag b ≠ none ∨ b = ob) w w' ∧ (∀ k, g'.tag k ≠ none → g.tag k ≠ none ∨ w.heap.size ≤ k) := by
  obtain ⟨i0, hi, hz0, hz1, hz2⟩ := info_parts infoCE
  have hl := hL.len
  have olt := hc.lt
  have c2 := hc.cells.c2
  have I0 : Hid (TInv w pb ob g (L.length + 2) L o (L.length + 2) (.slice none 0 0) w) :=
    ⟨L, o.q, [], g, .inl (Nat.le_refl _), Nat.le_refl _, by simp, MEq.start _ _ _ _, hL, by omega, by omega, h, hc, ⟨World.ownsRow_nil _ _ _ _, fun k hk => by simp [Value.ownBlock] at hk⟩, Only.refl _ w, fun k hk => .inl hk⟩
  change w.cell? ⟨ob, 2, none⟩ = some (.int .i64 o.sd) at c2
  clear h hc
  go_enter Try.func73, Try.ntmps73
  go_wp2_with fail
  refine (cother_any _ _).mono ?_
  rintro e w1 ⟨rfl, rfl⟩
  go_wp2_with fail
  refine (half_off pb _ _).mono ?_
  rintro e w2 ⟨rfl, rfl⟩
  clear c2
  go_wp2_with fail
  go_loopg [6] (L.length + 2) (fun n v wr => TInv w2 pb ob g (L.length + 2) L o n v wr)
  case atStart => exact I0.out
  case round =>
    obtain ⟨M, q, evs, g1, hfu, hnF, hel, meq, okM, q0, q99, ba, cm, to, on, tn⟩ := hrel
    obtain ⟨n, rfl⟩ : ∃ n, gk = n + 1 := ⟨gk - 1, by omega⟩
    have x3 := cm.cells.c3
    have x4 := cm.cells.c4
    change wr.cell? ⟨ob, 3, none⟩ = some (.int .i64 (codePr o.sd o.pr)) at x3
    change wr.cell? ⟨ob, 4, none⟩ = some (.int .i64 q) at x4
    have HM : Hid (MEq (L.length + 2) L o o.pr evs (n + 1) M q) := meq
    have HB : Hid (BkAt wr pb g1 M) := ba
    have HC : Hid (Coming wr g1 ob (codeOd o q)) := cm
    have HT : Hid (Told w2 wr g1 u6 evs) := to
    have HO : Hid (Only (fun b => g.tag b ≠ none ∨ b = ob) w2 wr) := on
    have HN : Hid (∀ k, g1.tag k ≠ none → g.tag k ≠ none ∨ w2.heap.size ≤ k) := tn
    have hev : evs.length ≤ 50 := by omega
    have hXlt := cm.lt
    clear meq ba cm to on tn I0
    have hX4 : Hid (Coming wr g1 ob { codeOd o q with q := (codeOd o q).q }) := HC.out
    by_cases hqp : 0 < q
    · go_wp2_with fail
      refine (hmeets_any (HB.out.side (sides hsd).1).half _).mono ?_
      rintro e w3 ⟨rfl, md, rfl⟩
      have OD : Hid (Only (fun _ => False) wr (wr.drewN md)) := (Only.refl _ wr).drewN md
      have HB3 : Hid (BkAt (wr.drewN md) pb g1 M) := HB.out.keep OD.out (fun _ _ => id)
      have HC3 : Hid (Coming (wr.drewN md) g1 ob (codeOd o q)) := HC.out.keep OD.out id (fun _ h => .inl h)
      have HT3 : Hid (Told w2 (wr.drewN md) g1 u6 evs) := HT.out.keep OD.out (fun _ _ => id) (fun _ h => .inl h)
      have HO3 : Hid (Only (fun b => g.tag b ≠ none ∨ b = ob) w2 (wr.drewN md)) := HO.out.drewN md
      have y4 : (wr.drewN md).cell? ⟨ob, 4, none⟩ = some (.int .i64 q) := HC3.out.cells.c4
      obtain ⟨w3, hw3⟩ : ∃ w3, w3 = wr.drewN md := ⟨_, rfl⟩
      rw [← hw3] at HB3 HC3 HT3 HO3 y4 ⊢
      clear OD hw3 x3 x4 HB HC HT HO hX4
      cases hbst : bBest M o.sd o.pr with
      | none =>
        have hno := best_none HB3.out okM hsd hp hbst
        rw [hno]
        have hfin : Hid (bMatch (L.length + 2) L o o.pr = (evs, M, q)) := HM.out.stop hqp hbst
        have hqz : (q == 0) = false := by simp; omega
        clear hno hbst HM
        go_wp2_with fail
        go_ret
        go_light
        have hfo := hfin.out
        rw [hfo]
        exact ⟨_, g1, rfl, HT3.out, HB3.out, HC3.out, HO3.out, HN.out⟩
      | some k =>
        have hk := bBest_some hbst
        obtain ⟨s1, s2, s3, s4, s5⟩ := best_some HB3.out okM hsd hp hbst hk
        have hyes : (decide (0 < (g1.V (otherS o.sd)).length) && decide (keyOf' (otherS o.sd) ((g1.V (otherS o.sd)).getD 0 0) ≤ keyOf' (otherS o.sd) (codePr o.sd o.pr))) = true := by rw [decide_eq_true s1, decide_eq_true s2]; rfl
        rw [hyes]
        clear hyes
        have hside := HB3.out.side (sides hsd).1
        have hbest := hbest_any hside.half s1
        rw [s4] at hbest
        have hpV : M[k].pr ∈ g1.V (otherS o.sd) := by rw [← s4, List.getD_eq_getElem?_getD, List.getElem?_eq_getElem s1]; exact List.getElem_mem _
        have hf := (hside.links _ hpV).first
        rw [s5] at hf
        simp only [ptrO, Option.map_some] at hf
        have htw := tradeWith_any HB3.out okM HC3.out ⟨by show 1 ≤ q; omega, by show q ≤ 99; omega⟩ k hk
        have HBE : Hid (Calls Try.prog 90 #[.pointer (some ⟨pb, offS (otherS o.sd), none⟩)] w3 fun e w' => e = .returned (.pointer (some ⟨g1.B (otherS o.sd) M[k].pr, 0, none⟩)) ∧ w' = w3) := hbest
        have hgd : M.getD k od0 = M[k] := getD_at hk
        have hnx := HM.out.next hqp hbst
        rw [hgd] at hnx
        have htp := bTake_pos okM hk (o := { o with q := q }) hqp
        rw [hgd] at htp
        have okE := bTraded_ok okM hk { o with q := q } hqp
        rw [hgd] at okE
        obtain ⟨tk, htk⟩ : ∃ tk, tk = bTake { o with q := q } M[k] := ⟨_, rfl⟩
        have htk2 : bTake (codeOd o q) M[k] = tk := by rw [htk]; rfl
        rw [htk2] at htw
        rw [← htk] at hnx htp okE
        have hev2 : bTradeEv M k (codeOd o q) tk = bTradeEv M k { o with q := q } tk := rfl
        rw [hev2] at htw
        have hco : ({ codeOd o q with q := (codeOd o q).q - tk } : Od) = codeOd o (q - tk) := rfl
        rw [hco] at htw
        have hlen : (bTraded M k tk).length + 2 ≤ n ∨ (q - tk = 0 ∧ 1 ≤ n) := by
          have hl1 : M.length + 2 ≤ n + 1 := by rcases hfu with h | h; exact h; omega
          have hkl : 1 ≤ M.length := by omega
          by_cases e : M[k].q = tk
          · left
            unfold bTraded
            rw [hgd, if_pos e, List.length_eraseIdx_of_lt hk]
            omega
          · right
            have : tk = q := by
              rw [htk] at e ⊢
              unfold bTake at e ⊢
              split
              · rename_i h; rw [if_pos h] at e; exact absurd rfl e
              · rfl
            omega
        have hlen3 : (bTradeEv M k { o with q := q } tk).length ≤ 3 := by unfold bTradeEv; split <;> simp
        have hlen0 : 0 < (bTradeEv M k { o with q := q } tk).length := by unfold bTradeEv; simp
        obtain ⟨EV, hEV⟩ : ∃ EV, EV = bTradeEv M k { o with q := q } tk := ⟨_, rfl⟩
        rw [← hEV] at htw hnx hlen3 hlen0
        obtain ⟨M', hM'⟩ : ∃ M', M' = bTraded M k tk := ⟨_, rfl⟩
        rw [← hM'] at htw hnx okE hlen
        obtain ⟨ma, hma⟩ : ∃ ma, ma = g1.A M[k].id := ⟨_, rfl⟩
        rw [← hma] at htw hf
        obtain ⟨lb, hlb⟩ : ∃ lb, lb = g1.B (otherS o.sd) M[k].pr := ⟨_, rfl⟩
        rw [← hlb] at hf HBE
        have HTW : Hid (Calls Try.prog 89 #[.pointer (some ⟨pb, 0, none⟩), .pointer (some ⟨ob, 0, none⟩), .pointer (some ⟨ma, 0, none⟩)] w3 fun e w' => ∃ v g', e = .returned v ∧ Told w3 w' g' v EV ∧ BkAt w' pb g' M' ∧ Coming w' g' ob (codeOd o (q - tk)) ∧ Only (fun b => g1.tag b ≠ none ∨ b = ob) w3 w' ∧ (∀ b, g'.tag b ≠ none → g1.tag b ≠ none ∨ w3.heap.size ≤ b)) := htw
        have HNX : Hid (MEq (L.length + 2) L o o.pr (evs ++ EV) n M' (q - tk)) := hnx
        have HOK : Hid (BookOk M') := okE
        clear htw hnx okE hbest hside hpV s1 s2 s3 s4 s5 hEV hM' hma hlb hgd htk htk2 hev2 hco hbst HM
        go_wp2_with fail
        refine Calls.mono HBE.out ?_
        rintro e w4 ⟨rfl, rfl⟩
        go_wp2_with fail
        refine Calls.mono HTW.out ?_
        rintro e w5 ⟨v5, g5, rfl, to5, ba5, cm5, on5, tn5⟩
        obtain ⟨gx, cx, rfl, gx0, gx1, gx2, gx3⟩ := to5.src hlen0
        have hrowT : ∀ b, u6.ownBlock = some b → ¬ (g1.tag b ≠ none ∨ b = ob) := fun b hb hor => by
          rcases hor with h | h
          · exact h (HT3.out.2 b hb)
          · have := (HT3.out.1.lt b hb).1; omega
        have T5 := HT3.out.keep on5 hrowT tn5
        have HT5 : Hid (Told w2 w5 g5 u6 evs) := T5
        have HB5 : Hid (BkAt w5 pb g5 M') := ba5
        have HC5 : Hid (Coming w5 g5 ob (codeOd o (q - tk))) := cm5
        have HO5 : Hid (Only (fun b => g.tag b ≠ none ∨ b = ob) w2 w5) := HO3.out.then on5 (fun b hb hor => by
          rcases hor with h | h
          · rcases HN.out b h with h1 | h1
            · exact .inl h1
            · omega
          · exact .inr h)
        have HN5 : Hid (∀ b, g5.tag b ≠ none → g.tag b ≠ none ∨ w2.heap.size ≤ b) := fun b hb => by
          rcases tn5 b hb with h | h
          · exact HN.out b h
          · exact .inr (Nat.le_trans HO3.out.size h)
        have hs5 := HO5.out.size
        clear to5 ba5 cm5 on5 tn5 T5 hrowT hf y4 HTW HBE
        go_wp2_with (at_builtin; refine wpList_append_lies _ rfl (.tmp 27) (.tmp 35) 29 rfl w2.heap.size 48 i0 _ 6 48 Try.underlying29 hi hz0 hz1 hz2 rfl (by decide) _ _ _ rfl HT5.out.1 ⟨gx, 0, none⟩ EV.length cx (evRows EV) rfl (evRows_length EV) gx3 (oneRows EV) hlen0 ?c3 ?c4 hs5 _ rfl ?_)
        case c3 => unfold maxLen; omega
        case c4 => omega
        · intro gb cap w6 own6 grow6 lies6 glt6
          have OG : Only (fun b => u6.ownBlock = some b) w5 w6 := (only_grown grow6)
          have hTg : ∀ b, g5.tag b ≠ none → ¬ u6.ownBlock = some b := fun b hb e => hb (HT5.out.2 b e)
          have T6 : Told w2 w6 g5 (.slice (some ⟨gb, 0, none⟩) (evs.length + EV.length) cap) (evs ++ EV) := Told.app HT5.out.2 own6 lies6 HB5.out.tlt
          have HF : Hid (TInv w2 pb ob g (L.length + 2) L o n (.slice (some ⟨gb, 0, none⟩) (evs.length + EV.length) cap) w6) :=
            ⟨M', q - tk, evs ++ EV, g5, hlen, by omega, by rw [List.length_append]; omega, HNX.out, HOK.out, by omega, by omega, HB5.out.keep OG hTg, HC5.out.keep OG (fun e => by have := (HT5.out.1.lt _ e).1; omega) (fun _ h => .inl h), T6, HO5.out.then OG (fun b hb e => by have := (HT5.out.1.lt b e).1; omega), HN5.out⟩
          clear T6 OG own6 grow6
          go_wp2
          go_roundg n
          case measure => omega
          case rel => exact HF.out
    · have hq0 : q = 0 := by omega
      have hfin : Hid (bMatch (L.length + 2) L o o.pr = (evs ++ [evFilled o], M, 0)) := HM.out.done (by omega)
      have x0 := HC.out.cells.c0
      have x1 := HC.out.cells.c1
      change wr.cell? ⟨ob, 0, none⟩ = some (.int .i64 o.cl) at x0
      change wr.cell? ⟨ob, 1, none⟩ = some (.int .i64 o.id) at x1
      subst hq0
      clear hX4 HM hfu
      go_wp2_with fail
      refine (filled_any _ o.cl o.id hXlt x0 x1).mono ?_
      rintro e w4 ⟨rfl, b4⟩
      unfold evV
      have O4 : Hid (Only (fun _ => False) wr w4) := Only.of_below b4
      have HT4 : Hid (Told w2 w4 g1 u6 evs) := HT.out.keep O4.out (fun _ _ => id) (fun _ h => .inl h)
      have hs4 : w2.heap.size ≤ w4.heap.size := Nat.le_trans HO.out.size b4.size
      clear b4 x0 x1 x3 x4
      go_wp2_with (at_builtin; refine wpList_append_lies _ rfl (.tmp 42) (.tmp 45) 29 rfl w2.heap.size 48 i0 _ 6 48 Try.underlying29 hi hz0 hz1 hz2 rfl (by decide) _ _ _ rfl (HT4.out.1.alloc _) ⟨w4.heap.size, 0, none⟩ 1 1 (evRows [evFilled o]) rfl rfl ?d1 (oneRows _) (by decide) ?d3 ?d4 ?d5 (w4.heap.size + 1) (by simp) ?_)
      case d1 => exact new6' _ _ rfl _ _ _ _ _ _ _
      case d3 => unfold maxLen; omega
      case d4 => omega
      case d5 => simp; omega
      · intro gb cap w5 own5 grow5 lies5 glt5
        go_wp2_with fail
        go_ret
        go_light
        have OG : Only (fun b => u6.ownBlock = some b) wr w5 := (O4.out.mono (fun _ _ h => h.elim)).trans (((only_alloc w4 _).mono (fun _ _ h => h.elim)).trans (only_grown grow5))
        have hTg : ∀ b, g1.tag b ≠ none → ¬ u6.ownBlock = some b := fun b hb e => hb (HT.out.2 b e)
        have hfo := hfin.out
        rw [hfo]
        have hsw := O4.out.size
        refine ⟨_, g1, rfl, Told.app (F := [evFilled o]) HT.out.2 own5 lies5 (fun b hb => by have := HB.out.tlt b hb; omega), HB.out.keep OG hTg, HC.out.keep OG (fun e => by have := (HT.out.1.lt _ e).1; omega) (fun _ h => .inl h), HO.out.then OG (fun b hb e => by have := (HT.out.1.lt b e).1; omega), HN.out⟩
end Go.Proofs.Ytbljokilfkodfaa
/-
  The book: an order comes to rest; an order comes and goes.
-/
namespace Go.Proofs.Ytbljokilfkodfaa
open Go.RowKit

theorem codeOd_pr {o : Od} (h : 1 ≤ o.pr) (q : Int) : codeOd o q = { o with q := q } := by unfold codeOd codePr; rw [if_neg (by omega)]
theorem enter_rest (L : List Od) (o : Od) : bEnter L 1 o = if (bMatch (L.length + 2) L o o.pr).2.2 = 0 then ((bMatch (L.length + 2) L o o.pr).1, (bMatch (L.length + 2) L o o.pr).2.1) else ((bMatch (L.length + 2) L o o.pr).1 ++ [evRests o (bMatch (L.length + 2) L o o.pr).2.2], (bMatch (L.length + 2) L o o.pr).2.1 ++ [{ o with q := (bMatch (L.length + 2) L o o.pr).2.2 }]) := by
  unfold bEnter
  rw [if_neg (by omega)]
  simp
def bGo (L : List Od) (o : Od) : List Ev × List Od := if (bMatch (L.length + 2) L o o.pr).2.2 = 0 then ((bMatch (L.length + 2) L o o.pr).1, (bMatch (L.length + 2) L o o.pr).2.1) else ((bMatch (L.length + 2) L o o.pr).1 ++ [evCanceled o (bMatch (L.length + 2) L o o.pr).2.2], (bMatch (L.length + 2) L o o.pr).2.1)
theorem enter_go (L : List Od) (k : Int) (o : Od) (h1 : k ≠ 1) (h4 : ¬ (k = 4 ∧ bRoom L o.sd o.pr < o.q)) : bEnter L k o = bGo L o := by
  unfold bEnter bGo
  rw [if_neg h4]
  simp only [if_neg h1]

set_option maxRecDepth 100000 in
set_option maxHeartbeats 1000000 in
theorem rest_any {w : World} {pb ob : Nat} {g : Gh} {L : List Od} (o : Od) (h : BkAt w pb g L) (hL : BookOk L) (ho : OdOk o) (hlen : L.length < 12) (hid : o.id ∉ L.map Od.id) (hc : Coming w g ob o) :
    Calls Try.prog 52 #[.pointer (some ⟨pb, 0, none⟩), .pointer (some ⟨ob, 0, none⟩)] w fun e w' => ∃ v g', e = .returned v ∧ Told w w' g' v (bEnter L 1 o).1 ∧ BkAt w' pb g' (bEnter L 1 o).2 ∧
      Only (fun b => g.tag b ≠ none ∨ b = ob) w w' ∧ (∀ k, g'.tag k ≠ none → g.tag k ≠ none ∨ k = ob ∨ w.heap.size ≤ k) := by
  obtain ⟨i0, hi, hz0, hz1, hz2⟩ := info_parts infoCE
  have HOK : Hid (OdOk o) := ho
  obtain ⟨⟨a1, a2⟩, ⟨b1, b2⟩, ⟨s1, s2⟩, ⟨p1, p2⟩, ⟨q1, q2⟩⟩ := ho
  have htr := trade_any o h hL (by omega) ⟨by omega, p2⟩ ⟨q1, q2⟩ (by rw [codeOd_pr p1]; exact hc)
  obtain ⟨m1, m2, m3, m4, m5, m6⟩ := bMatch_ok (L.length + 2) o o.pr hL (by omega)
  have obl := hc.lt
  rw [enter_rest]
  obtain ⟨E, hE⟩ : ∃ E, E = (bMatch (L.length + 2) L o o.pr).1 := ⟨_, rfl⟩
  obtain ⟨M, hM⟩ : ∃ M, M = (bMatch (L.length + 2) L o o.pr).2.1 := ⟨_, rfl⟩
  obtain ⟨q, hq⟩ : ∃ q, q = (bMatch (L.length + 2) L o o.pr).2.2 := ⟨_, rfl⟩
  rw [← hE, ← hM, ← hq] at htr
  rw [← hM] at m1 m2 m3
  rw [← hq] at m4 m5
  rw [← hE] at m6
  rw [← hE, ← hM, ← hq]
  rw [codeOd_pr p1] at htr
  have HTR : Hid (Calls Try.prog 73 #[.pointer (some ⟨pb, 0, none⟩), .pointer (some ⟨ob, 0, none⟩)] w fun e w' => ∃ v g', e = .returned v ∧ Told w w' g' v E ∧ BkAt w' pb g' M ∧ Coming w' g' ob { o with q := q } ∧ Only (fun b => g.tag b ≠ none ∨ b = ob) w w' ∧ (∀ k, g'.tag k ≠ none → g.tag k ≠ none ∨ w.heap.size ≤ k)) := htr
  clear htr hE hM hq h hc
  by_cases hq0 : q = 0
  · rw [if_pos hq0]
    subst hq0
    go_enter Try.func52, Try.ntmps52
    go_wp2_with fail
    refine Calls.mono HTR.out ?_
    rintro e w1 ⟨v1, g1, rfl, to1, ba1, cm1, on1, tn1⟩
    have x4 : w1.cell? ⟨ob, 4, none⟩ = some (.int .i64 0) := cm1.cells.c4
    have HT : Hid (Told w w1 g1 v1 E) := to1
    have HB : Hid (BkAt w1 pb g1 M) := ba1
    have HO : Hid (Only (fun b => g.tag b ≠ none ∨ b = ob) w w1) := on1
    have HN : Hid (∀ k, g1.tag k ≠ none → g.tag k ≠ none ∨ w.heap.size ≤ k) := tn1
    clear to1 ba1 cm1 on1 tn1 HTR
    go_wp2_with fail
    go_ret
    exact ⟨_, g1, rfl, HT.out, HB.out, HO.out, fun k hk => (HN.out k hk).imp id .inr⟩
  · rw [if_neg hq0]
    have hqz : (q == 0) = false := by simp; exact hq0
    go_enter Try.func52, Try.ntmps52
    go_wp2_with fail
    refine Calls.mono HTR.out ?_
    rintro e w1 ⟨v1, g1, rfl, to1, ba1, cm1, on1, tn1⟩
    have x4 : w1.cell? ⟨ob, 4, none⟩ = some (.int .i64 q) := cm1.cells.c4
    have hidM : o.id ∉ M.map Od.id := fun hm => hid (m3 _ hm)
    have BT := ba1.take o.id ob hidM cm1.lt cm1.free
    have eA : (g1.take o.id ob).A o.id = ob := if_pos rfl
    have eT : (g1.take o.id ob).tag ob = some (.ord o.id) := if_pos rfl
    have NW : NewOd w1 (g1.take o.id ob) M { o with q := q } := ⟨by show OdCells w1 ((g1.take o.id ob).A o.id) _; rw [eA]; exact cm1.cells, by show ∃ x, w1.cell? ⟨(g1.take o.id ob).A o.id, 5, none⟩ = some x; rw [eA]; exact cm1.x5, by show w1.cell? ⟨(g1.take o.id ob).A o.id, 6, none⟩ = _; rw [eA]; exact cm1.x6, by show (g1.take o.id ob).tag ((g1.take o.id ob).A o.id) = _; rw [eA]; exact eT, hidM⟩
    have okN : BookOk (M ++ [{ o with q := q }]) := m1.snoc _ ⟨⟨a1, a2⟩, ⟨b1, b2⟩, ⟨s1, s2⟩, ⟨p1, p2⟩, by show 1 ≤ q; omega, by show q ≤ 99; omega⟩ (by omega) hidM
    have hadd := badd_any BT NW okN.ok0
    rw [show (g1.take o.id ob).A ({ o with q := q } : Od).id = ob from eA] at hadd
    have HADD : Hid (Calls Try.prog 74 #[.pointer (some ⟨pb, 0, none⟩), .pointer (some ⟨ob, 0, none⟩)] w1 fun e w' => e = .returned (.tuple #[]) ∧ Behind pb (g1.take o.id ob) (M ++ [{ o with q := q }]) w1 w') := hadd
    have tg : ∀ k, (g1.take o.id ob).tag k ≠ none → g1.tag k ≠ none ∨ k = ob := fun k hk => by
      by_cases e : k = ob
      · exact .inr e
      · left; simpa [Gh.take, e] using hk
    have HTG : Hid (∀ k, (g1.take o.id ob).tag k ≠ none → g1.tag k ≠ none ∨ k = ob) := tg
    have HTT : Hid (Told w w1 (g1.take o.id ob) v1 E) := ⟨to1.1, fun k hk => by
      have h1 := (to1.1.lt k hk).1
      have : k ≠ ob := by omega
      simp only [Gh.take, if_neg this]
      exact to1.2 k hk⟩
    have HO : Hid (Only (fun b => g.tag b ≠ none ∨ b = ob) w w1) := on1
    have HN : Hid (∀ k, g1.tag k ≠ none → g.tag k ≠ none ∨ w.heap.size ≤ k) := tn1
    clear to1 ba1 cm1 on1 tn1 HTR BT NW hadd tg
    go_wp2_with fail
    refine Calls.mono HADD.out ?_
    rintro e w2 ⟨rfl, g2, ba2, on2, tn2, _, eA2⟩
    have hm2 : ({ o with q := q } : Od) ∈ M ++ [{ o with q := q }] := by simp
    have oc := ba2.odc _ hm2
    have ot := ba2.odt _ hm2
    rw [eA2] at oc ot
    change OdCells w2 ((g1.take o.id ob).A o.id) _ at oc
    change g2.tag ((g1.take o.id ob).A o.id) = _ at ot
    rw [eA] at oc ot
    have olt := ba2.tlt ob (by rw [ot]; simp)
    have y0 : w2.cell? ⟨ob, 0, none⟩ = some (.int .i64 o.cl) := oc.c0
    have y1 : w2.cell? ⟨ob, 1, none⟩ = some (.int .i64 o.id) := oc.c1
    have y3 : w2.cell? ⟨ob, 3, none⟩ = some (.int .i64 o.pr) := oc.c3
    have y4 : w2.cell? ⟨ob, 4, none⟩ = some (.int .i64 q) := oc.c4
    have HT2 : Hid (Told w w2 g2 v1 E) := HTT.out.keep on2 (fun k hk => by rw [HTT.out.2 k hk]; simp) tn2
    have HB2 : Hid (BkAt w2 pb g2 (M ++ [{ o with q := q }])) := ba2
    have HO2 : Hid (Only (fun b => g.tag b ≠ none ∨ b = ob) w w2) := HO.out.then on2 (fun b hb hne => by
      rcases HTG.out b hne with h1 | h1
      · rcases HN.out b h1 with h2 | h2
        · exact .inl h2
        · omega
      · exact .inr h1)
    have HN2 : Hid (∀ k, g2.tag k ≠ none → g.tag k ≠ none ∨ k = ob ∨ w.heap.size ≤ k) := fun k hk => by
      rcases tn2 k hk with h1 | h1
      · rcases HTG.out k h1 with h2 | h2
        · exact (HN.out k h2).imp id .inr
        · exact .inr (.inl h2)
      · exact .inr (.inr (Nat.le_trans HO.out.size h1))
    clear ba2 on2 tn2 oc ot x4 HADD
    go_wp2_with fail
    refine (rests_any _ o.cl o.id o.pr q olt y0 y1 y3 y4).mono ?_
    rintro e w4 ⟨rfl, b4⟩
    unfold evV
    have O4 : Hid (Only (fun _ => False) w2 w4) := Only.of_below b4
    have HT4 : Hid (Told w w4 g2 v1 E) := HT2.out.keep O4.out (fun _ _ => id) (fun _ h => .inl h)
    have hs4 : w.heap.size ≤ w4.heap.size := Nat.le_trans HO2.out.size b4.size
    clear b4 y0 y1 y3 y4
    go_wp2_with (at_builtin; refine wpList_append_lies _ rfl (.tmp 18) (.tmp 21) 29 rfl w.heap.size 48 i0 _ 6 48 Try.underlying29 hi hz0 hz1 hz2 rfl (by decide) _ _ _ rfl (HT4.out.1.alloc _) ⟨w4.heap.size, 0, none⟩ 1 1 (evRows [evRests o q]) rfl rfl ?d1 (oneRows _) (by decide) ?d3 ?d4 ?d5 (w4.heap.size + 1) (by simp) ?_)
    case d1 => exact new6' _ _ rfl _ _ _ _ _ _ _
    case d3 => unfold maxLen; omega
    case d4 => omega
    case d5 => simp; omega
    · intro gb cap w5 own5 grow5 lies5 glt5
      go_wp2_with fail
      go_ret
      go_light
      have OG : Only (fun b => v1.ownBlock = some b) w2 w5 := (O4.out.mono (fun _ _ h => h.elim)).trans (((only_alloc w4 _).mono (fun _ _ h => h.elim)).trans (only_grown grow5))
      have hTg : ∀ b, g2.tag b ≠ none → ¬ v1.ownBlock = some b := fun b hb e => hb (HT2.out.2 b e)
      have hsw := O4.out.size
      exact ⟨_, g2, rfl, Told.app (F := [evRests o q]) HT2.out.2 own5 lies5 (fun b hb => by have := HB2.out.tlt b hb; omega), HB2.out.keep OG hTg, HO2.out.then OG (fun b hb e => by have := (HT2.out.1.lt b e).1; omega), HN2.out⟩

set_option maxRecDepth 100000 in
set_option maxHeartbeats 1000000 in
theorem go_any {w : World} {pb ob : Nat} {g : Gh} {L : List Od} (o : Od) (h : BkAt w pb g L) (hL : BookOk L) (hsd : o.sd = 1 ∨ o.sd = 2) (hp : 0 ≤ o.pr ∧ o.pr ≤ 99) (hq : 1 ≤ o.q ∧ o.q ≤ 99) (hc : Coming w g ob (codeOd o o.q)) :
    Calls Try.prog 57 #[.pointer (some ⟨pb, 0, none⟩), .pointer (some ⟨ob, 0, none⟩)] w fun e w' => ∃ v g', e = .returned v ∧ Told w w' g' v (bGo L o).1 ∧ BkAt w' pb g' (bGo L o).2 ∧
      Only (fun b => g.tag b ≠ none ∨ b = ob) w w' ∧ (∀ k, g'.tag k ≠ none → g.tag k ≠ none ∨ k = ob ∨ w.heap.size ≤ k) := by
  obtain ⟨i0, hi, hz0, hz1, hz2⟩ := info_parts infoCE
  have hl := hL.len
  have htr := trade_any o h hL hsd hp hq hc
  obtain ⟨m1, m2, m3, m4, m5, m6⟩ := bMatch_ok (L.length + 2) o o.pr hL (by omega)
  have obl := hc.lt
  unfold bGo
  obtain ⟨E, hE⟩ : ∃ E, E = (bMatch (L.length + 2) L o o.pr).1 := ⟨_, rfl⟩
  obtain ⟨M, hM⟩ : ∃ M, M = (bMatch (L.length + 2) L o o.pr).2.1 := ⟨_, rfl⟩
  obtain ⟨q, hq'⟩ : ∃ q, q = (bMatch (L.length + 2) L o o.pr).2.2 := ⟨_, rfl⟩
  rw [← hE, ← hM, ← hq'] at htr
  rw [← hE] at m6
  rw [← hE, ← hM, ← hq']
  have HTR : Hid (Calls Try.prog 73 #[.pointer (some ⟨pb, 0, none⟩), .pointer (some ⟨ob, 0, none⟩)] w fun e w' => ∃ v g', e = .returned v ∧ Told w w' g' v E ∧ BkAt w' pb g' M ∧ Coming w' g' ob (codeOd o q) ∧ Only (fun b => g.tag b ≠ none ∨ b = ob) w w' ∧ (∀ k, g'.tag k ≠ none → g.tag k ≠ none ∨ w.heap.size ≤ k)) := htr
  clear htr hE hM hq' h hc m1 m2 m3 m4 m5
  by_cases hq0 : q = 0
  · rw [if_pos hq0]
    subst hq0
    go_enter Try.func57, Try.ntmps57
    go_wp2_with fail
    refine Calls.mono HTR.out ?_
    rintro e w1 ⟨v1, g1, rfl, to1, ba1, cm1, on1, tn1⟩
    have x4 : w1.cell? ⟨ob, 4, none⟩ = some (.int .i64 0) := cm1.cells.c4
    have HT : Hid (Told w w1 g1 v1 E) := to1
    have HB : Hid (BkAt w1 pb g1 M) := ba1
    have HO : Hid (Only (fun b => g.tag b ≠ none ∨ b = ob) w w1) := on1
    have HN : Hid (∀ k, g1.tag k ≠ none → g.tag k ≠ none ∨ w.heap.size ≤ k) := tn1
    clear to1 ba1 cm1 on1 tn1 HTR
    go_wp2_with fail
    go_ret
    exact ⟨_, g1, rfl, HT.out, HB.out, HO.out, fun k hk => (HN.out k hk).imp id .inr⟩
  · rw [if_neg hq0]
    have hqz : (q == 0) = false := by simp; exact hq0
    go_enter Try.func57, Try.ntmps57
    go_wp2_with fail
    refine Calls.mono HTR.out ?_
    rintro e w2 ⟨v1, g2, rfl, to1, ba1, cm1, on1, tn1⟩
    have olt := cm1.lt
    have y0 : w2.cell? ⟨ob, 0, none⟩ = some (.int .i64 o.cl) := cm1.cells.c0
    have y1 : w2.cell? ⟨ob, 1, none⟩ = some (.int .i64 o.id) := cm1.cells.c1
    have y4 : w2.cell? ⟨ob, 4, none⟩ = some (.int .i64 q) := cm1.cells.c4
    have HT2 : Hid (Told w w2 g2 v1 E) := to1
    have HB2 : Hid (BkAt w2 pb g2 M) := ba1
    have HO2 : Hid (Only (fun b => g.tag b ≠ none ∨ b = ob) w w2) := on1
    have HN2 : Hid (∀ k, g2.tag k ≠ none → g.tag k ≠ none ∨ k = ob ∨ w.heap.size ≤ k) := fun k hk => (tn1 k hk).imp id .inr
    clear to1 ba1 cm1 on1 tn1 HTR
    go_wp2_with fail
    refine (canceled_any _ o.cl o.id q olt y0 y1 y4).mono ?_
    rintro e w4 ⟨rfl, b4⟩
    unfold evV
    have O4 : Hid (Only (fun _ => False) w2 w4) := Only.of_below b4
    have HT4 : Hid (Told w w4 g2 v1 E) := HT2.out.keep O4.out (fun _ _ => id) (fun _ h => .inl h)
    have hs4 : w.heap.size ≤ w4.heap.size := Nat.le_trans HO2.out.size b4.size
    clear b4 y0 y1 y4
    go_wp2_with (at_builtin; refine wpList_append_lies _ rfl (.tmp 15) (.tmp 18) 29 rfl w.heap.size 48 i0 _ 6 48 Try.underlying29 hi hz0 hz1 hz2 rfl (by decide) _ _ _ rfl (HT4.out.1.alloc _) ⟨w4.heap.size, 0, none⟩ 1 1 (evRows [evCanceled o q]) rfl rfl ?d1 (oneRows _) (by decide) ?d3 ?d4 ?d5 (w4.heap.size + 1) (by simp) ?_)
    case d1 => exact new6' _ _ rfl _ _ _ _ _ _ _
    case d3 => unfold maxLen; omega
    case d4 => omega
    case d5 => simp; omega
    · intro gb cap w5 own5 grow5 lies5 glt5
      go_wp2_with fail
      go_ret
      go_light
      have OG : Only (fun b => v1.ownBlock = some b) w2 w5 := (O4.out.mono (fun _ _ h => h.elim)).trans (((only_alloc w4 _).mono (fun _ _ h => h.elim)).trans (only_grown grow5))
      have hTg : ∀ b, g2.tag b ≠ none → ¬ v1.ownBlock = some b := fun b hb e => hb (HT2.out.2 b e)
      have hsw := O4.out.size
      exact ⟨_, g2, rfl, Told.app (F := [evCanceled o q]) HT2.out.2 own5 lies5 (fun b hb => by have := HB2.out.tlt b hb; omega), HB2.out.keep OG hTg, HO2.out.then OG (fun b hb e => by have := (HT2.out.1.lt b e).1; omega), HN2.out⟩
end Go.Proofs.Ytbljokilfkodfaa
