/-
  The document's Do: Cancel; Replace in place.
-/
import Derived.Test.YtbljokilfkodfaaG11
import Derived.Test.YtbljokilfkodfaaG6
namespace Go.Proofs.Ytbljokilfkodfaa
open Go.RowKit

set_option maxRecDepth 100000 in
set_option maxHeartbeats 2000000 in
theorem rdo_cancel {w : World} {pb : Nat} {sv0 : Value} {L : List Od} (c : Cm) (hr : bRefused L c = 0) (h5 : c.k = 5) {i : Nat} (hfd : bFind L c.id = some i) (h : RefAt w pb sv0 L) (hL : BookOk L) :
    Calls Try.prog 11 #[.pointer (some ⟨pb, 0, none⟩), .agg #[.int .i64 c.k, .int .i64 c.cl, .int .i64 c.id, .int .i64 c.sd, .int .i64 c.pr, .int .i64 c.q]] w (EntPost w pb sv0 ([evAccepted c, ⟨5, c.cl, c.id, 0, 0, (L.getD i od0).q⟩], L.eraseIdx i)) := by
  obtain ⟨i0, hi, hz0, hz1, hz2⟩ := info_parts infoEv
  have hlen := hL.len
  obtain ⟨hil, _⟩ := bFind_some hfd
  have HR : Hid (RefAt w pb sv0 L) := h
  have HRR : Hid (bRefused L c = 0) := hr
  have HFD : Hid (bFind L c.id = some i) := hfd
  obtain ⟨a, cap, hs⟩ := h.seen
  obtain ⟨g, m, ha, HM, HC⟩ := hs.at hil
  have HS : Hid (Seen w pb a cap L) := hs
  rw [← HM.out]
  have hb5 : (c.k == 5) = true := by simp [h5]
  have hlti : (i : Int) < (L.length : Int) := by omega
  clear h hr hfd h5 hs
  go_enter Try.func11, Try.ntmps11
  go_wp2_with fail
  refine (rrefused_any c (HR.out.keepB ((Below.refl _ _).alloc (Nat.le_refl _) _)) hL).mono ?_
  rintro e w1 ⟨rfl, b1⟩
  obtain ⟨hc1, hf1⟩ := bcell b1
  have hz1' : w.heap.size < w1.heap.size := by have := b1.size; simp at this; omega
  have B1 : Below w.heap.size w w1 := ((Below.refl _ _).alloc (Nat.le_refl _) _).trans (b1.mono (by simp))
  have hrw := HRR.out
  go_wp2_with fail
  have B2 := B1.alloc B1.size (.cells #[.int .i64 1, .int .i64 c.cl, .int .i64 c.id, .int .i64 0, .int .i64 0, .int .i64 0] 87)
  refine (rfind_any c.id (HR.out.keepB B2) (by omega)).mono ?_
  rintro e w' ⟨rfl, rfl⟩
  rw [HFD.out]
  have ho : optI (some i) = (i : Int) := rfl
  have hpw := HS.out.1 w (Below.refl _ _)
  have hp1 := HS.out.1 w1 B1
  obtain ⟨c0, c1, c2, c3, c4⟩ := HC.out w (Below.refl _ _)
  obtain ⟨d0, d1, d2, d3, d4⟩ := HC.out w1 B1
  have hpb := HR.out.lt
  have hpb1 : pb < w1.heap.size := by omega
  have hgl : g < w.heap.size := by
    obtain ⟨_, _, hsv, hg⟩ := HR.out.form
    obtain ⟨g2, ha2, hl2, _⟩ := hg (by omega)
    have e1 := HR.out.cell
    rw [hpw] at e1
    rw [hsv] at e1
    simp at e1
    rw [ha] at e1
    rw [← e1.1] at ha2
    simp at ha2
    omega
  have hgl1 : g < w1.heap.size := by omega
  have lit : (w1.alloc (.cells #[.int .i64 1, .int .i64 c.cl, .int .i64 c.id, .int .i64 0, .int .i64 0, .int .i64 0] 87)).ownsRow w.heap.size 87 6 (.slice (some ⟨w1.heap.size, 0, none⟩) 1 1) 1 (evRows [evAccepted c]) := World.ownsRow_lit w1 _ 1 B1.size (by decide) rfl
  have HLIT : Hid ((w1.alloc (.cells #[.int .i64 1, .int .i64 c.cl, .int .i64 c.id, .int .i64 0, .int .i64 0, .int .i64 0] 87)).ownsRow w.heap.size 87 6 (.slice (some ⟨w1.heap.size, 0, none⟩) 1 1) 1 (evRows [evAccepted c])) := lit
  clear lit
  go_wp2_with fail
  go_region_law (refine step_append_lies _ rfl (.tmp 35) (.tmp 49) 35 rfl w.heap.size 87 i0 _ 6 48 Try.underlying35 hi hz0 hz1 hz2 rfl (by decide) _ _ _ (by simp [Act.eval]) (HLIT.out.alloc _).drew ⟨w1.heap.size + 1, 0, none⟩ 1 1 (evCells ⟨5, c.cl, c.id, 0, 0, m.q⟩) (by simp [Act.eval]) rfl (new6' _ _ (by simp) _ _ _ _ _ _ _) (one6' _) (by decide) (by decide) (by decide) (by simp; omega) (w1.heap.size + 2) (by simp) ?_; intro g' cap' w4 own4 grow4 hg4 _)
  all_goals
    have on4 : Only (fun k => (Value.slice (some ⟨w1.heap.size, 0, none⟩) 1 1).ownBlock = some k) (w1.alloc (.cells #[.int .i64 1, .int .i64 c.cl, .int .i64 c.id, .int .i64 0, .int .i64 0, .int .i64 0] 87)) w4 := ((((only_alloc (w1.alloc (.cells #[.int .i64 1, .int .i64 c.cl, .int .i64 c.id, .int .i64 0, .int .i64 0, .int .i64 0] 87)) _).mono (T := fun k => (Value.slice (some ⟨w1.heap.size, 0, none⟩) 1 1).ownBlock = some k) (fun _ _ h => h.elim)).then (only_drew _) (fun _ _ h => h.elim))).then (only_grown grow4) (fun _ _ h => h)
    have R4 := (HR.out.keepB B2).keep on4 (fun h => by simp [Value.ownBlock] at h; omega) (fun k hk h => by simp [Value.ownBlock] at h; have := (HR.out.own.lt _ hk).2; omega)
    have HO4 : Hid (w4.ownsRow w.heap.size 87 6 (.slice (some ⟨g', 0, none⟩) (1 + 1) cap') (1 + 1) (evRows [evAccepted c, ⟨5, c.cl, c.id, 0, 0, m.q⟩])) := own4
    have HS4 : Hid (Only (fun k => k = pb ∨ sv0.ownBlock = some k) w w4) := ((Only.of_below (S := fun k => k = pb ∨ sv0.ownBlock = some k) B2)).then on4 (fun i hi h => by simp [Value.ownBlock] at h; omega)
    have HR4 : Hid (RefAt w4 pb sv0 L) := R4
    clear own4 grow4 on4 R4 c0 c1 c2 c3 c4 d0 d1 d2 d3 d4 hpw hp1 hg4
    go_wp2_with fail
    refine (rdrop_any i HR4.out (by omega) hil).mono ?_
    rintro e w5 ⟨rfl, v5, R5, on5, nb5⟩
    have O5 := row_keep HO4.out on5 (fun k hk h => by subst h; exact (HR4.out.row_ne HO4.out).1 hk)
    have S5 := HS4.out.then on5 (fun i hi h => .inl h)
    have HF : Hid (EntPost w pb sv0 ([evAccepted c, ⟨5, c.cl, c.id, 0, 0, m.q⟩], L.eraseIdx i) (.returned (.slice (some ⟨g', 0, none⟩) (1 + 1) cap')) w5) := ⟨_, v5, rfl, O5, R5, fun k hk => .inr (Nat.le_trans HS4.out.size (nb5 k hk)), S5⟩
    clear O5 S5 R5 on5 nb5
    go_wp2
    go_ret
    go_light
    exact HF.out
end Go.Proofs.Ytbljokilfkodfaa
/-
  The document's Do: Replace.
-/
namespace Go.Proofs.Ytbljokilfkodfaa
open Go.RowKit

set_option maxRecDepth 100000 in
set_option maxHeartbeats 2000000 in
theorem rdo_inplace {w : World} {pb : Nat} {sv0 : Value} {L : List Od} (c : Cm) (hr : bRefused L c = 0) (h6 : c.k = 6) {i : Nat} (hfd : bFind L c.id = some i) (hp : ∀ m, m = L.getD i od0 → m.pr = c.pr ∧ c.q ≤ m.q) (h : RefAt w pb sv0 L) (hL : BookOk L) :
    Calls Try.prog 11 #[.pointer (some ⟨pb, 0, none⟩), .agg #[.int .i64 c.k, .int .i64 c.cl, .int .i64 c.id, .int .i64 c.sd, .int .i64 c.pr, .int .i64 c.q]] w (EntPost w pb sv0 ([evAccepted c, ⟨6, c.cl, c.id, 0, c.pr, c.q⟩], L.set i { L.getD i od0 with q := c.q })) := by
  obtain ⟨i0, hi, hz0, hz1, hz2⟩ := info_parts infoEv
  have hlen := hL.len
  obtain ⟨hil, _⟩ := bFind_some hfd
  have HR : Hid (RefAt w pb sv0 L) := h
  have HRR : Hid (bRefused L c = 0) := hr
  have HFD : Hid (bFind L c.id = some i) := hfd
  obtain ⟨a, cap, hs⟩ := h.seen
  obtain ⟨g, m, ha, HM, HC⟩ := hs.at hil
  have HS : Hid (Seen w pb a cap L) := hs
  have hb5 : (c.k == 5) = false := by simp [h6]
  have hb6 : (c.k == 6) = true := by simp [h6]
  have hb7 : (m.pr == c.pr) = true := by simp [(hp m HM.out).1]
  have hb8 : c.q ≤ m.q := (hp m HM.out).2
  have hlti : (i : Int) < (L.length : Int) := by omega
  clear h hr hfd h6 hs hp
  go_enter Try.func11, Try.ntmps11
  go_wp2_with fail
  refine (rrefused_any c (HR.out.keepB ((Below.refl _ _).alloc (Nat.le_refl _) _)) hL).mono ?_
  rintro e w1 ⟨rfl, b1⟩
  obtain ⟨hc1, hf1⟩ := bcell b1
  have hz1' : w.heap.size < w1.heap.size := by have := b1.size; simp at this; omega
  have B1 : Below w.heap.size w w1 := ((Below.refl _ _).alloc (Nat.le_refl _) _).trans (b1.mono (by simp))
  have hrw := HRR.out
  go_wp2_with fail
  have B2 := B1.alloc B1.size (.cells #[.int .i64 1, .int .i64 c.cl, .int .i64 c.id, .int .i64 0, .int .i64 0, .int .i64 0] 87)
  refine (rfind_any c.id (HR.out.keepB B2) (by omega)).mono ?_
  rintro e w' ⟨rfl, rfl⟩
  rw [HFD.out]
  have ho : optI (some i) = (i : Int) := rfl
  have hpw := HS.out.1 w (Below.refl _ _)
  have hp1 := HS.out.1 w1 B1
  obtain ⟨c0, c1, c2, c3, c4⟩ := HC.out w (Below.refl _ _)
  obtain ⟨d0, d1, d2, d3, d4⟩ := HC.out w1 B1
  have hpb := HR.out.lt
  have hpb1 : pb < w1.heap.size := by omega
  have hgl : g < w.heap.size := by
    obtain ⟨_, _, hsv, hg⟩ := HR.out.form
    obtain ⟨g2, ha2, hl2, _⟩ := hg (by omega)
    have e1 := HR.out.cell
    rw [hpw] at e1
    rw [hsv] at e1
    simp at e1
    rw [ha] at e1
    rw [← e1.1] at ha2
    simp at ha2
    omega
  have hgl1 : g < w1.heap.size := by omega
  have lit : (w1.alloc (.cells #[.int .i64 1, .int .i64 c.cl, .int .i64 c.id, .int .i64 0, .int .i64 0, .int .i64 0] 87)).ownsRow w.heap.size 87 6 (.slice (some ⟨w1.heap.size, 0, none⟩) 1 1) 1 (evRows [evAccepted c]) := World.ownsRow_lit w1 _ 1 B1.size (by decide) rfl
  have HLIT : Hid ((w1.alloc (.cells #[.int .i64 1, .int .i64 c.cl, .int .i64 c.id, .int .i64 0, .int .i64 0, .int .i64 0] 87)).ownsRow w.heap.size 87 6 (.slice (some ⟨w1.heap.size, 0, none⟩) 1 1) 1 (evRows [evAccepted c])) := lit
  clear lit
  have lt2 : w1.heap.size < (w1.alloc (.cells #[.int .i64 1, .int .i64 c.cl, .int .i64 c.id, .int .i64 0, .int .i64 0, .int .i64 0] 87)).heap.size := by simp
  have hsv0 : sv0 = .slice (some ⟨g, 0, none⟩) L.length cap := by
    have e1 := HR.out.cell
    rw [hpw, ha] at e1
    simpa using e1.symm
  have hgf : w.frozen? ⟨g, i * 5 + 4, none⟩ = false := by
    have := HR.out.own
    rw [hsv0] at this
    exact this.frozenAt _
  have hgf1 : w1.frozen? ⟨g, i * 5 + 4, none⟩ = false := ((bcell B1).2 g _ hgl).trans hgf
  have R1 := HR.out.keepB B1
  rw [hsv0] at R1
  have esz : (w1.setCell ⟨g, i * 5 + 4, none⟩ (.int .i64 c.q)).heap.size = w1.heap.size := by simp
  have R4 := (((R1.setq hil c.q).keepB ((Below.refl _ _).alloc (Nat.le_refl _) (.cells #[.int .i64 1, .int .i64 c.cl, .int .i64 c.id, .int .i64 0, .int .i64 0, .int .i64 0] 87))).keepB ((Below.refl _ _).alloc (Nat.le_refl _) (.cells #[.int .i64 m.cl, .int .i64 m.id, .int .i64 m.sd, .int .i64 m.pr, .int .i64 m.q] 90))).keepB ((Below.refl _ _).drew)
  have L1 : ((w1.setCell ⟨g, i * 5 + 4, none⟩ (.int .i64 c.q)).alloc (.cells #[.int .i64 1, .int .i64 c.cl, .int .i64 c.id, .int .i64 0, .int .i64 0, .int .i64 0] 87)).ownsRow w.heap.size 87 6 (.slice (some ⟨(w1.setCell ⟨g, i * 5 + 4, none⟩ (.int .i64 c.q)).heap.size, 0, none⟩) 1 1) 1 (evRows [evAccepted c]) := World.ownsRow_lit _ _ 1 (by rw [esz]; exact B1.size) (by decide) rfl
  rw [esz] at L1
  have HL4 : Hid ((((w1.setCell ⟨g, i * 5 + 4, none⟩ (.int .i64 c.q)).alloc (.cells #[.int .i64 1, .int .i64 c.cl, .int .i64 c.id, .int .i64 0, .int .i64 0, .int .i64 0] 87)).alloc (.cells #[.int .i64 m.cl, .int .i64 m.id, .int .i64 m.sd, .int .i64 m.pr, .int .i64 m.q] 90)).drew.ownsRow w.heap.size 87 6 (.slice (some ⟨w1.heap.size, 0, none⟩) 1 1) 1 (evRows [evAccepted c])) := (L1.alloc (.cells #[.int .i64 m.cl, .int .i64 m.id, .int .i64 m.sd, .int .i64 m.pr, .int .i64 m.q] 90)).drew
  have HR4 : Hid (RefAt ((((w1.setCell ⟨g, i * 5 + 4, none⟩ (.int .i64 c.q)).alloc (.cells #[.int .i64 1, .int .i64 c.cl, .int .i64 c.id, .int .i64 0, .int .i64 0, .int .i64 0] 87)).alloc (.cells #[.int .i64 m.cl, .int .i64 m.id, .int .i64 m.sd, .int .i64 m.pr, .int .i64 m.q] 90)).drew) pb (.slice (some ⟨g, 0, none⟩) L.length cap) (L.set i { L.getD i od0 with q := c.q })) := R4
  have HY4 : Hid (Box5 ((((w1.setCell ⟨g, i * 5 + 4, none⟩ (.int .i64 c.q)).alloc (.cells #[.int .i64 1, .int .i64 c.cl, .int .i64 c.id, .int .i64 0, .int .i64 0, .int .i64 0] 87)).alloc (.cells #[.int .i64 m.cl, .int .i64 m.id, .int .i64 m.sd, .int .i64 m.pr, .int .i64 m.q] 90)).drew) ((w1.setCell ⟨g, i * 5 + 4, none⟩ (.int .i64 c.q)).alloc (.cells #[.int .i64 1, .int .i64 c.cl, .int .i64 c.id, .int .i64 0, .int .i64 0, .int .i64 0] 87)).heap.size m.cl m.id m.sd m.pr m.q) := (Box5.made ((w1.setCell ⟨g, i * 5 + 4, none⟩ (.int .i64 c.q)).alloc (.cells #[.int .i64 1, .int .i64 c.cl, .int .i64 c.id, .int .i64 0, .int .i64 0, .int .i64 0] 87)) m.cl m.id m.sd m.pr m.q).keep (only_drew _) id
  have HS4 : Hid (Only (fun k => k = pb ∨ sv0.ownBlock = some k) w ((((w1.setCell ⟨g, i * 5 + 4, none⟩ (.int .i64 c.q)).alloc (.cells #[.int .i64 1, .int .i64 c.cl, .int .i64 c.id, .int .i64 0, .int .i64 0, .int .i64 0] 87)).alloc (.cells #[.int .i64 m.cl, .int .i64 m.id, .int .i64 m.sd, .int .i64 m.pr, .int .i64 m.q] 90)).drew)) := (((((Only.of_below (S := fun k => k = pb ∨ sv0.ownBlock = some k) B1)).then (only_set w1 g (i * 5 + 4) (.int .i64 c.q)) (fun j hj h => .inr (by rw [hsv0, h]; rfl))).then (only_alloc _ (.cells #[.int .i64 1, .int .i64 c.cl, .int .i64 c.id, .int .i64 0, .int .i64 0, .int .i64 0] 87)) (fun _ _ h => h.elim)).then (only_alloc _ (.cells #[.int .i64 m.cl, .int .i64 m.id, .int .i64 m.sd, .int .i64 m.pr, .int .i64 m.q] 90)) (fun _ _ h => h.elim)).then (only_drew _) (fun _ _ h => h.elim)
  have HSV : Hid (sv0 = .slice (some ⟨g, 0, none⟩) L.length cap) := hsv0
  have hb4 : w.heap.size ≤ w1.heap.size + 1 + 1 + 1 := by omega
  clear R1 R4 L1 hsv0 esz
  go_wp2_with fail
  go_region
  all_goals
    go_wp2_with (at_builtin; refine wpList_append_own _ rfl (.tmp 85) (.tmp 95) 35 rfl w.heap.size 87 i0 _ 6 48 Try.underlying35 hi hz0 hz1 hz2 rfl (by decide) _ _ _ rfl (HL4.out.alloc _) ⟨w1.heap.size + 1 + 1, 0, none⟩ 1 1 (evCells ⟨6, c.cl, c.id, 0, c.pr, c.q⟩) rfl rfl (new6' _ _ (by simp) _ _ _ _ _ _ _) (one6' _) (by decide) (by decide) (by simp; omega) ?_; intro v6 w6 own6 grow6 _)
    obtain ⟨R6, X6, Y6, N6⟩ := after_append HR4.out HY4.out HY4.out HL4.out grow6
    have S6 := HS4.out.then N6 (fun i hi h => by have := (HL4.out.lt i h).1; omega)
    have O6 : w6.ownsRow w.heap.size 87 6 v6 [evAccepted c, ⟨6, c.cl, c.id, 0, c.pr, c.q⟩].length (evRows [evAccepted c, ⟨6, c.cl, c.id, 0, c.pr, c.q⟩]) := own6
    go_ret
    go_light
    exact ⟨v6, _, rfl, O6, R6, fun k hk => .inl (by rw [HSV.out]; exact hk), S6⟩
end Go.Proofs.Ytbljokilfkodfaa
/-
  The document's Do: Replace, anew.
-/
namespace Go.Proofs.Ytbljokilfkodfaa
open Go.RowKit

set_option maxRecDepth 100000 in
set_option maxHeartbeats 2000000 in
theorem rdo_anewA {w : World} {pb : Nat} {sv0 : Value} {L : List Od} (c : Cm) (hr : bRefused L c = 0) (h6 : c.k = 6) {i : Nat} (hfd : bFind L c.id = some i) (hp : ∀ m, m = L.getD i od0 → m.pr ≠ c.pr) (hq : 1 ≤ c.q ∧ c.q ≤ 99) (hel : (bEnter (L.eraseIdx i) 1 { L.getD i od0 with pr := c.pr, q := c.q }).1.length ≤ 100) (h : RefAt w pb sv0 L) (hL : BookOk L) :
    Calls Try.prog 11 #[.pointer (some ⟨pb, 0, none⟩), .agg #[.int .i64 c.k, .int .i64 c.cl, .int .i64 c.id, .int .i64 c.sd, .int .i64 c.pr, .int .i64 c.q]] w (EntPost w pb sv0 (evAccepted c :: (bEnter (L.eraseIdx i) 1 { L.getD i od0 with pr := c.pr, q := c.q }).1, (bEnter (L.eraseIdx i) 1 { L.getD i od0 with pr := c.pr, q := c.q }).2)) := by
  obtain ⟨i0, hi, hz0, hz1, hz2⟩ := info_parts infoEv
  have hlen := hL.len
  obtain ⟨hil, _⟩ := bFind_some hfd
  have HR : Hid (RefAt w pb sv0 L) := h
  have HRR : Hid (bRefused L c = 0) := hr
  have HFD : Hid (bFind L c.id = some i) := hfd
  obtain ⟨a, cap, hs⟩ := h.seen
  obtain ⟨g, m, ha, HM, HC⟩ := hs.at hil
  have HS : Hid (Seen w pb a cap L) := hs
  have hb5 : (c.k == 5) = false := by simp [h6]
  have hb6 : (c.k == 6) = true := by simp [h6]
  have hb7 : (m.pr == c.pr) = false := by simp [hp m HM.out]
  obtain ⟨res, hres⟩ : ∃ res, res = bEnter (L.eraseIdx i) 1 { L.getD i od0 with pr := c.pr, q := c.q } := ⟨_, rfl⟩
  rw [← hres] at hel ⊢
  have HRES : Hid (bEnter (L.eraseIdx i) 1 ⟨m.cl, m.id, m.sd, c.pr, c.q⟩ = res) := by rw [hres, HM.out]; rfl
  clear hres
  have hlti : (i : Int) < (L.length : Int) := by omega
  clear h hr hfd h6 hs hp
  go_enter Try.func11, Try.ntmps11
  go_wp2_with fail
  refine (rrefused_any c (HR.out.keepB ((Below.refl _ _).alloc (Nat.le_refl _) _)) hL).mono ?_
  rintro e w1 ⟨rfl, b1⟩
  obtain ⟨hc1, hf1⟩ := bcell b1
  have hz1' : w.heap.size < w1.heap.size := by have := b1.size; simp at this; omega
  have B1 : Below w.heap.size w w1 := ((Below.refl _ _).alloc (Nat.le_refl _) _).trans (b1.mono (by simp))
  have hrw := HRR.out
  go_wp2_with fail
  have B2 := B1.alloc B1.size (.cells #[.int .i64 1, .int .i64 c.cl, .int .i64 c.id, .int .i64 0, .int .i64 0, .int .i64 0] 87)
  refine (rfind_any c.id (HR.out.keepB B2) (by omega)).mono ?_
  rintro e w' ⟨rfl, rfl⟩
  rw [HFD.out]
  have ho : optI (some i) = (i : Int) := rfl
  have hpw := HS.out.1 w (Below.refl _ _)
  have hp1 := HS.out.1 w1 B1
  obtain ⟨c0, c1, c2, c3, c4⟩ := HC.out w (Below.refl _ _)
  obtain ⟨d0, d1, d2, d3, d4⟩ := HC.out w1 B1
  have hpb := HR.out.lt
  have hpb1 : pb < w1.heap.size := by omega
  have hgl : g < w.heap.size := by
    obtain ⟨_, _, hsv, hg⟩ := HR.out.form
    obtain ⟨g2, ha2, hl2, _⟩ := hg (by omega)
    have e1 := HR.out.cell
    rw [hpw] at e1
    rw [hsv] at e1
    simp at e1
    rw [ha] at e1
    rw [← e1.1] at ha2
    simp at ha2
    omega
  have hgl1 : g < w1.heap.size := by omega
  have lit : (w1.alloc (.cells #[.int .i64 1, .int .i64 c.cl, .int .i64 c.id, .int .i64 0, .int .i64 0, .int .i64 0] 87)).ownsRow w.heap.size 87 6 (.slice (some ⟨w1.heap.size, 0, none⟩) 1 1) 1 (evRows [evAccepted c]) := World.ownsRow_lit w1 _ 1 B1.size (by decide) rfl
  have HLIT : Hid ((w1.alloc (.cells #[.int .i64 1, .int .i64 c.cl, .int .i64 c.id, .int .i64 0, .int .i64 0, .int .i64 0] 87)).ownsRow w.heap.size 87 6 (.slice (some ⟨w1.heap.size, 0, none⟩) 1 1) 1 (evRows [evAccepted c])) := lit
  clear lit
  have hsv0 : sv0 = .slice (some ⟨g, 0, none⟩) L.length cap := by
    have e1 := HR.out.cell
    rw [hpw, ha] at e1
    simpa using e1.symm
  have okE := hL.erase i
  have B3 := B2.alloc B2.size (.cells #[.int .i64 m.cl, .int .i64 m.id, .int .i64 m.sd, .int .i64 m.pr, .int .i64 m.q] 90)
  have x0 : ((w1.alloc (.cells #[.int .i64 1, .int .i64 c.cl, .int .i64 c.id, .int .i64 0, .int .i64 0, .int .i64 0] 87)).alloc (.cells #[.int .i64 m.cl, .int .i64 m.id, .int .i64 m.sd, .int .i64 m.pr, .int .i64 m.q] 90)).cell? ⟨w.heap.size, 0, none⟩ = some (.int .i64 c.k) ∧ ((w1.alloc (.cells #[.int .i64 1, .int .i64 c.cl, .int .i64 c.id, .int .i64 0, .int .i64 0, .int .i64 0] 87)).alloc (.cells #[.int .i64 m.cl, .int .i64 m.id, .int .i64 m.sd, .int .i64 m.pr, .int .i64 m.q] 90)).cell? ⟨w.heap.size, 4, none⟩ = some (.int .i64 c.pr) ∧ ((w1.alloc (.cells #[.int .i64 1, .int .i64 c.cl, .int .i64 c.id, .int .i64 0, .int .i64 0, .int .i64 0] 87)).alloc (.cells #[.int .i64 m.cl, .int .i64 m.id, .int .i64 m.sd, .int .i64 m.pr, .int .i64 m.q] 90)).cell? ⟨w.heap.size, 5, none⟩ = some (.int .i64 c.q) := by
    have hh : w.heap.size < (w1.alloc (.cells #[.int .i64 1, .int .i64 c.cl, .int .i64 c.id, .int .i64 0, .int .i64 0, .int .i64 0] 87)).heap.size := by simp; omega
    have t : ∀ o, ((w1.alloc (.cells #[.int .i64 1, .int .i64 c.cl, .int .i64 c.id, .int .i64 0, .int .i64 0, .int .i64 0] 87)).alloc (.cells #[.int .i64 m.cl, .int .i64 m.id, .int .i64 m.sd, .int .i64 m.pr, .int .i64 m.q] 90)).cell? ⟨w.heap.size, o, none⟩ = (w.alloc (.cells #[.int .i64 c.k, .int .i64 c.cl, .int .i64 c.id, .int .i64 c.sd, .int .i64 c.pr, .int .i64 c.q] 37)).cell? ⟨w.heap.size, o, none⟩ := fun o => by
      rw [World.cell?_alloc_past _ _ _ hh, World.cell?_alloc_past _ _ _ hz1']
      exact hc1 _ _ (by simp)
    refine ⟨(t 0).trans (by simp), (t 4).trans (by simp), (t 5).trans (by simp)⟩
  have HX0 : Hid (((w1.alloc (.cells #[.int .i64 1, .int .i64 c.cl, .int .i64 c.id, .int .i64 0, .int .i64 0, .int .i64 0] 87)).alloc (.cells #[.int .i64 m.cl, .int .i64 m.id, .int .i64 m.sd, .int .i64 m.pr, .int .i64 m.q] 90)).cell? ⟨w.heap.size, 0, none⟩ = some (.int .i64 c.k) ∧ ((w1.alloc (.cells #[.int .i64 1, .int .i64 c.cl, .int .i64 c.id, .int .i64 0, .int .i64 0, .int .i64 0] 87)).alloc (.cells #[.int .i64 m.cl, .int .i64 m.id, .int .i64 m.sd, .int .i64 m.pr, .int .i64 m.q] 90)).cell? ⟨w.heap.size, 4, none⟩ = some (.int .i64 c.pr) ∧ ((w1.alloc (.cells #[.int .i64 1, .int .i64 c.cl, .int .i64 c.id, .int .i64 0, .int .i64 0, .int .i64 0] 87)).alloc (.cells #[.int .i64 m.cl, .int .i64 m.id, .int .i64 m.sd, .int .i64 m.pr, .int .i64 m.q] 90)).cell? ⟨w.heap.size, 5, none⟩ = some (.int .i64 c.q)) := x0
  have b3 : Box5 ((w1.alloc (.cells #[.int .i64 1, .int .i64 c.cl, .int .i64 c.id, .int .i64 0, .int .i64 0, .int .i64 0] 87)).alloc (.cells #[.int .i64 m.cl, .int .i64 m.id, .int .i64 m.sd, .int .i64 m.pr, .int .i64 m.q] 90)) (w1.heap.size + 1) m.cl m.id m.sd m.pr m.q := by
    have := Box5.made (w1.alloc (.cells #[.int .i64 1, .int .i64 c.cl, .int .i64 c.id, .int .i64 0, .int .i64 0, .int .i64 0] 87)) m.cl m.id m.sd m.pr m.q
    simpa using this
  have HY3 : Hid (Box5 ((w1.alloc (.cells #[.int .i64 1, .int .i64 c.cl, .int .i64 c.id, .int .i64 0, .int .i64 0, .int .i64 0] 87)).alloc (.cells #[.int .i64 m.cl, .int .i64 m.id, .int .i64 m.sd, .int .i64 m.pr, .int .i64 m.q] 90)) (w1.heap.size + 1) m.cl m.id m.sd m.pr m.q) := b3
  clear b3
  clear x0
  go_wp2_with fail
  refine (rdrop_any i (HR.out.keepB B3) (by omega) hil).mono ?_
  rintro e w4 ⟨rfl, v4, R4, on4, nb4⟩
  have hz4 : w1.heap.size + 1 + 1 ≤ w4.heap.size := by have := on4.size; simp at this; omega
  have Y4 := HY3.out.keep on4 (by omega)
  have L4 := row_keep (HLIT.out.alloc (.cells #[.int .i64 m.cl, .int .i64 m.id, .int .i64 m.sd, .int .i64 m.pr, .int .i64 m.q] 90)) on4 (fun k hk h => by simp [Value.ownBlock] at hk; omega)
  have q0 := (on4.cell (b := w.heap.size) (o := 0) (by simp; omega) (by omega)).trans HX0.out.1
  have q4 := (on4.cell (b := w.heap.size) (o := 4) (by simp; omega) (by omega)).trans HX0.out.2.1
  have q5 := (on4.cell (b := w.heap.size) (o := 5) (by simp; omega) (by omega)).trans HX0.out.2.2
  have S4 : Only (fun k => k = pb ∨ sv0.ownBlock = some k) w w4 := ((Only.of_below (S := fun k => k = pb ∨ sv0.ownBlock = some k) B3)).then on4 (fun _ _ h => .inl h)
  have nb4' : ∀ k, v4.ownBlock = some k → w1.heap.size + 1 + 1 ≤ k := fun k hk => by have := nb4 k hk; simp at this; omega
  -- the box of the order, turned twice
  have on5 := only_set w4 (w1.heap.size + 1) 3 (.int .i64 c.pr)
  have on6 := only_set (w4.setCell ⟨w1.heap.size + 1, 3, none⟩ (.int .i64 c.pr)) (w1.heap.size + 1) 4 (.int .i64 c.q)
  have on56 := on5.trans on6
  have R6 := R4.keep on56 (by omega) (fun k hk h => by have := nb4' k hk; omega)
  have Y6 : Box5 ((w4.setCell ⟨w1.heap.size + 1, 3, none⟩ (.int .i64 c.pr)).setCell ⟨w1.heap.size + 1, 4, none⟩ (.int .i64 c.q)) (w1.heap.size + 1) m.cl m.id m.sd c.pr c.q := by
    unfold Box5 at Y4 ⊢
    simp [World.setCell, Array.getElem?_modify, Y4]
  have L6 := row_keep L4 on56 (fun k hk h => by simp [Value.ownBlock] at hk; omega)
  have S6 := S4.then on56 (fun j hj h => by omega)
  obtain ⟨y0, y1, y2, y3, y4, fy⟩ := Y4.cells
  have HR6 : Hid (RefAt ((w4.setCell ⟨w1.heap.size + 1, 3, none⟩ (.int .i64 c.pr)).setCell ⟨w1.heap.size + 1, 4, none⟩ (.int .i64 c.q)) pb v4 (L.eraseIdx i)) := R6
  have HL6 : Hid (((w4.setCell ⟨w1.heap.size + 1, 3, none⟩ (.int .i64 c.pr)).setCell ⟨w1.heap.size + 1, 4, none⟩ (.int .i64 c.q)).ownsRow w.heap.size 87 6 (.slice (some ⟨w1.heap.size, 0, none⟩) 1 1) 1 (evRows [evAccepted c])) := L6
  have HS6 : Hid (Only (fun k => k = pb ∨ sv0.ownBlock = some k) w ((w4.setCell ⟨w1.heap.size + 1, 3, none⟩ (.int .i64 c.pr)).setCell ⟨w1.heap.size + 1, 4, none⟩ (.int .i64 c.q))) := S6
  have HN4 : Hid (∀ k, v4.ownBlock = some k → w1.heap.size + 1 + 1 ≤ k) := nb4'
  have h6z : ((w4.setCell ⟨w1.heap.size + 1, 3, none⟩ (.int .i64 c.pr)).setCell ⟨w1.heap.size + 1, 4, none⟩ (.int .i64 c.q)).heap.size = w4.heap.size := by simp
  have hsz6 : Hid (((w4.setCell ⟨w1.heap.size + 1, 3, none⟩ (.int .i64 c.pr)).setCell ⟨w1.heap.size + 1, 4, none⟩ (.int .i64 c.q)).heap.size = w4.heap.size) := h6z
  clear h6z
  have hXY : w.heap.size ≠ w1.heap.size + 1 := by omega
  clear R4 Y4 L4 S4 nb4 nb4' on4 on5 on6 on56 R6 Y6 L6 S6
  go_wp2_with fail
  refine (renter_any 1 ⟨m.cl, m.id, m.sd, c.pr, c.q⟩ HR6.out okE hq).mono ?_
  rintro e w7 ⟨v, sv, rfl, own7, R7, nb7, on7⟩
  rw [HRES.out] at own7 R7
  rw [hsz6.out] at own7 nb7
  have own7' : w7.ownsRow w.heap.size 87 6 v res.1.length (evRows res.1) := Joins.ownsRow_le own7 (by omega)
  have lit7 : w7.ownsRow w.heap.size 87 6 (.slice (some ⟨w1.heap.size, 0, none⟩) 1 1) [evAccepted c].length (evRows [evAccepted c]) := row_keep HL6.out on7 (fun k hk h => by
    simp [Value.ownBlock] at hk
    subst hk
    rcases h with h | h
    · omega
    · have := HN4.out _ h; omega)
  have ne7 : ∀ k, (Value.slice (some ⟨w1.heap.size, 0, none⟩) 1 1).ownBlock = some k → v.ownBlock ≠ some k := fun k hk e => by
    simp [Value.ownBlock] at hk
    subst hk
    have := (own7.lt _ e).1
    omega
  have S7 : Only (fun k => k = pb ∨ sv0.ownBlock = some k) w w7 := HS6.out.then on7 (fun j hj h => by
    rcases h with h | h
    · exact .inl h
    · have := HN4.out _ h; omega)
  have hadd := radd_any (B := w.heap.size) S7.size lit7 own7' ne7 (by simp) (by omega)
  have HADD : Hid (Calls Try.prog 39 #[.slice (some ⟨w1.heap.size, 0, none⟩) 1 1, v] w7 fun e w' => ∃ v', e = .returned v' ∧ w'.ownsRow w.heap.size 87 6 v' ([evAccepted c] ++ res.1).length (evRows ([evAccepted c] ++ res.1)) ∧ Only (fun k => (Value.slice (some ⟨w1.heap.size, 0, none⟩) 1 1).ownBlock = some k) w7 w' ∧ (∀ k, v'.ownBlock = some k → (Value.slice (some ⟨w1.heap.size, 0, none⟩) 1 1).ownBlock = some k ∨ w7.heap.size ≤ k)) := hadd
  have HR7 : Hid (RefAt w7 pb sv res.2) := R7
  have HS7 : Hid (Only (fun k => k = pb ∨ sv0.ownBlock = some k) w w7) := S7
  have HNB : Hid (∀ k, sv.ownBlock = some k → w1.heap.size + 1 ≤ k) := fun k hk => by
    rcases nb7 k hk with h | h
    · have := HN4.out _ h; omega
    · omega
  clear own7 own7' lit7 ne7 S7 hadd R7 nb7 on7 y0 y1 y2 y3 y4 fy q0 q4 q5
  go_wp2_with fail
  refine HADD.out.mono ?_
  rintro e w8 ⟨v8, rfl, own8, on8, nb8⟩
  have R8 := HR7.out.keep on8 (fun h => by simp [Value.ownBlock] at h; omega) (fun k hk h => by simp [Value.ownBlock] at h; have := HNB.out k hk; omega)
  have S8 := HS7.out.then on8 (fun i hi h => by simp [Value.ownBlock] at h; omega)
  have HF : Hid (EntPost w pb sv0 (evAccepted c :: res.1, res.2) (.returned v8) w8) := ⟨v8, sv, rfl, own8, R8, fun k hk => .inr (by have := HNB.out k hk; omega), S8⟩
  clear own8 on8 nb8 R8 S8
  go_wp2
  go_ret
  go_light
  exact HF.out

set_option maxRecDepth 100000 in
set_option maxHeartbeats 2000000 in
theorem rdo_anewB {w : World} {pb : Nat} {sv0 : Value} {L : List Od} (c : Cm) (hr : bRefused L c = 0) (h6 : c.k = 6) {i : Nat} (hfd : bFind L c.id = some i) (hp : ∀ m, m = L.getD i od0 → m.pr = c.pr ∧ ¬ c.q ≤ m.q) (hq : 1 ≤ c.q ∧ c.q ≤ 99) (hel : (bEnter (L.eraseIdx i) 1 { L.getD i od0 with pr := c.pr, q := c.q }).1.length ≤ 100) (h : RefAt w pb sv0 L) (hL : BookOk L) :
    Calls Try.prog 11 #[.pointer (some ⟨pb, 0, none⟩), .agg #[.int .i64 c.k, .int .i64 c.cl, .int .i64 c.id, .int .i64 c.sd, .int .i64 c.pr, .int .i64 c.q]] w (EntPost w pb sv0 (evAccepted c :: (bEnter (L.eraseIdx i) 1 { L.getD i od0 with pr := c.pr, q := c.q }).1, (bEnter (L.eraseIdx i) 1 { L.getD i od0 with pr := c.pr, q := c.q }).2)) := by
  obtain ⟨i0, hi, hz0, hz1, hz2⟩ := info_parts infoEv
  have hlen := hL.len
  obtain ⟨hil, _⟩ := bFind_some hfd
  have HR : Hid (RefAt w pb sv0 L) := h
  have HRR : Hid (bRefused L c = 0) := hr
  have HFD : Hid (bFind L c.id = some i) := hfd
  obtain ⟨a, cap, hs⟩ := h.seen
  obtain ⟨g, m, ha, HM, HC⟩ := hs.at hil
  have HS : Hid (Seen w pb a cap L) := hs
  have hb5 : (c.k == 5) = false := by simp [h6]
  have hb6 : (c.k == 6) = true := by simp [h6]
  have hb7 : (m.pr == c.pr) = true := by simp [(hp m HM.out).1]
  have hb8 : ¬ c.q ≤ m.q := (hp m HM.out).2
  obtain ⟨res, hres⟩ : ∃ res, res = bEnter (L.eraseIdx i) 1 { L.getD i od0 with pr := c.pr, q := c.q } := ⟨_, rfl⟩
  rw [← hres] at hel ⊢
  have HRES : Hid (bEnter (L.eraseIdx i) 1 ⟨m.cl, m.id, m.sd, c.pr, c.q⟩ = res) := by rw [hres, HM.out]; rfl
  clear hres
  have hlti : (i : Int) < (L.length : Int) := by omega
  clear h hr hfd h6 hs hp
  go_enter Try.func11, Try.ntmps11
  go_wp2_with fail
  refine (rrefused_any c (HR.out.keepB ((Below.refl _ _).alloc (Nat.le_refl _) _)) hL).mono ?_
  rintro e w1 ⟨rfl, b1⟩
  obtain ⟨hc1, hf1⟩ := bcell b1
  have hz1' : w.heap.size < w1.heap.size := by have := b1.size; simp at this; omega
  have B1 : Below w.heap.size w w1 := ((Below.refl _ _).alloc (Nat.le_refl _) _).trans (b1.mono (by simp))
  have hrw := HRR.out
  go_wp2_with fail
  have B2 := B1.alloc B1.size (.cells #[.int .i64 1, .int .i64 c.cl, .int .i64 c.id, .int .i64 0, .int .i64 0, .int .i64 0] 87)
  refine (rfind_any c.id (HR.out.keepB B2) (by omega)).mono ?_
  rintro e w' ⟨rfl, rfl⟩
  rw [HFD.out]
  have ho : optI (some i) = (i : Int) := rfl
  have hpw := HS.out.1 w (Below.refl _ _)
  have hp1 := HS.out.1 w1 B1
  obtain ⟨c0, c1, c2, c3, c4⟩ := HC.out w (Below.refl _ _)
  obtain ⟨d0, d1, d2, d3, d4⟩ := HC.out w1 B1
  have hpb := HR.out.lt
  have hpb1 : pb < w1.heap.size := by omega
  have hgl : g < w.heap.size := by
    obtain ⟨_, _, hsv, hg⟩ := HR.out.form
    obtain ⟨g2, ha2, hl2, _⟩ := hg (by omega)
    have e1 := HR.out.cell
    rw [hpw] at e1
    rw [hsv] at e1
    simp at e1
    rw [ha] at e1
    rw [← e1.1] at ha2
    simp at ha2
    omega
  have hgl1 : g < w1.heap.size := by omega
  have lit : (w1.alloc (.cells #[.int .i64 1, .int .i64 c.cl, .int .i64 c.id, .int .i64 0, .int .i64 0, .int .i64 0] 87)).ownsRow w.heap.size 87 6 (.slice (some ⟨w1.heap.size, 0, none⟩) 1 1) 1 (evRows [evAccepted c]) := World.ownsRow_lit w1 _ 1 B1.size (by decide) rfl
  have HLIT : Hid ((w1.alloc (.cells #[.int .i64 1, .int .i64 c.cl, .int .i64 c.id, .int .i64 0, .int .i64 0, .int .i64 0] 87)).ownsRow w.heap.size 87 6 (.slice (some ⟨w1.heap.size, 0, none⟩) 1 1) 1 (evRows [evAccepted c])) := lit
  clear lit
  have hsv0 : sv0 = .slice (some ⟨g, 0, none⟩) L.length cap := by
    have e1 := HR.out.cell
    rw [hpw, ha] at e1
    simpa using e1.symm
  have okE := hL.erase i
  have B3 := B2.alloc B2.size (.cells #[.int .i64 m.cl, .int .i64 m.id, .int .i64 m.sd, .int .i64 m.pr, .int .i64 m.q] 90)
  have x0 : ((w1.alloc (.cells #[.int .i64 1, .int .i64 c.cl, .int .i64 c.id, .int .i64 0, .int .i64 0, .int .i64 0] 87)).alloc (.cells #[.int .i64 m.cl, .int .i64 m.id, .int .i64 m.sd, .int .i64 m.pr, .int .i64 m.q] 90)).cell? ⟨w.heap.size, 0, none⟩ = some (.int .i64 c.k) ∧ ((w1.alloc (.cells #[.int .i64 1, .int .i64 c.cl, .int .i64 c.id, .int .i64 0, .int .i64 0, .int .i64 0] 87)).alloc (.cells #[.int .i64 m.cl, .int .i64 m.id, .int .i64 m.sd, .int .i64 m.pr, .int .i64 m.q] 90)).cell? ⟨w.heap.size, 4, none⟩ = some (.int .i64 c.pr) ∧ ((w1.alloc (.cells #[.int .i64 1, .int .i64 c.cl, .int .i64 c.id, .int .i64 0, .int .i64 0, .int .i64 0] 87)).alloc (.cells #[.int .i64 m.cl, .int .i64 m.id, .int .i64 m.sd, .int .i64 m.pr, .int .i64 m.q] 90)).cell? ⟨w.heap.size, 5, none⟩ = some (.int .i64 c.q) := by
    have hh : w.heap.size < (w1.alloc (.cells #[.int .i64 1, .int .i64 c.cl, .int .i64 c.id, .int .i64 0, .int .i64 0, .int .i64 0] 87)).heap.size := by simp; omega
    have t : ∀ o, ((w1.alloc (.cells #[.int .i64 1, .int .i64 c.cl, .int .i64 c.id, .int .i64 0, .int .i64 0, .int .i64 0] 87)).alloc (.cells #[.int .i64 m.cl, .int .i64 m.id, .int .i64 m.sd, .int .i64 m.pr, .int .i64 m.q] 90)).cell? ⟨w.heap.size, o, none⟩ = (w.alloc (.cells #[.int .i64 c.k, .int .i64 c.cl, .int .i64 c.id, .int .i64 c.sd, .int .i64 c.pr, .int .i64 c.q] 37)).cell? ⟨w.heap.size, o, none⟩ := fun o => by
      rw [World.cell?_alloc_past _ _ _ hh, World.cell?_alloc_past _ _ _ hz1']
      exact hc1 _ _ (by simp)
    refine ⟨(t 0).trans (by simp), (t 4).trans (by simp), (t 5).trans (by simp)⟩
  have HX0 : Hid (((w1.alloc (.cells #[.int .i64 1, .int .i64 c.cl, .int .i64 c.id, .int .i64 0, .int .i64 0, .int .i64 0] 87)).alloc (.cells #[.int .i64 m.cl, .int .i64 m.id, .int .i64 m.sd, .int .i64 m.pr, .int .i64 m.q] 90)).cell? ⟨w.heap.size, 0, none⟩ = some (.int .i64 c.k) ∧ ((w1.alloc (.cells #[.int .i64 1, .int .i64 c.cl, .int .i64 c.id, .int .i64 0, .int .i64 0, .int .i64 0] 87)).alloc (.cells #[.int .i64 m.cl, .int .i64 m.id, .int .i64 m.sd, .int .i64 m.pr, .int .i64 m.q] 90)).cell? ⟨w.heap.size, 4, none⟩ = some (.int .i64 c.pr) ∧ ((w1.alloc (.cells #[.int .i64 1, .int .i64 c.cl, .int .i64 c.id, .int .i64 0, .int .i64 0, .int .i64 0] 87)).alloc (.cells #[.int .i64 m.cl, .int .i64 m.id, .int .i64 m.sd, .int .i64 m.pr, .int .i64 m.q] 90)).cell? ⟨w.heap.size, 5, none⟩ = some (.int .i64 c.q)) := x0
  have b3 : Box5 ((w1.alloc (.cells #[.int .i64 1, .int .i64 c.cl, .int .i64 c.id, .int .i64 0, .int .i64 0, .int .i64 0] 87)).alloc (.cells #[.int .i64 m.cl, .int .i64 m.id, .int .i64 m.sd, .int .i64 m.pr, .int .i64 m.q] 90)) (w1.heap.size + 1) m.cl m.id m.sd m.pr m.q := by
    have := Box5.made (w1.alloc (.cells #[.int .i64 1, .int .i64 c.cl, .int .i64 c.id, .int .i64 0, .int .i64 0, .int .i64 0] 87)) m.cl m.id m.sd m.pr m.q
    simpa using this
  have HY3 : Hid (Box5 ((w1.alloc (.cells #[.int .i64 1, .int .i64 c.cl, .int .i64 c.id, .int .i64 0, .int .i64 0, .int .i64 0] 87)).alloc (.cells #[.int .i64 m.cl, .int .i64 m.id, .int .i64 m.sd, .int .i64 m.pr, .int .i64 m.q] 90)) (w1.heap.size + 1) m.cl m.id m.sd m.pr m.q) := b3
  clear b3
  clear x0
  go_wp2_with fail
  refine (rdrop_any i (HR.out.keepB B3) (by omega) hil).mono ?_
  rintro e w4 ⟨rfl, v4, R4, on4, nb4⟩
  have hz4 : w1.heap.size + 1 + 1 ≤ w4.heap.size := by have := on4.size; simp at this; omega
  have Y4 := HY3.out.keep on4 (by omega)
  have L4 := row_keep (HLIT.out.alloc (.cells #[.int .i64 m.cl, .int .i64 m.id, .int .i64 m.sd, .int .i64 m.pr, .int .i64 m.q] 90)) on4 (fun k hk h => by simp [Value.ownBlock] at hk; omega)
  have q0 := (on4.cell (b := w.heap.size) (o := 0) (by simp; omega) (by omega)).trans HX0.out.1
  have q4 := (on4.cell (b := w.heap.size) (o := 4) (by simp; omega) (by omega)).trans HX0.out.2.1
  have q5 := (on4.cell (b := w.heap.size) (o := 5) (by simp; omega) (by omega)).trans HX0.out.2.2
  have S4 : Only (fun k => k = pb ∨ sv0.ownBlock = some k) w w4 := ((Only.of_below (S := fun k => k = pb ∨ sv0.ownBlock = some k) B3)).then on4 (fun _ _ h => .inl h)
  have nb4' : ∀ k, v4.ownBlock = some k → w1.heap.size + 1 + 1 ≤ k := fun k hk => by have := nb4 k hk; simp at this; omega
  -- the box of the order, turned twice
  have on5 := only_set w4 (w1.heap.size + 1) 3 (.int .i64 c.pr)
  have on6 := only_set (w4.setCell ⟨w1.heap.size + 1, 3, none⟩ (.int .i64 c.pr)) (w1.heap.size + 1) 4 (.int .i64 c.q)
  have on56 := on5.trans on6
  have R6 := R4.keep on56 (by omega) (fun k hk h => by have := nb4' k hk; omega)
  have Y6 : Box5 ((w4.setCell ⟨w1.heap.size + 1, 3, none⟩ (.int .i64 c.pr)).setCell ⟨w1.heap.size + 1, 4, none⟩ (.int .i64 c.q)) (w1.heap.size + 1) m.cl m.id m.sd c.pr c.q := by
    unfold Box5 at Y4 ⊢
    simp [World.setCell, Array.getElem?_modify, Y4]
  have L6 := row_keep L4 on56 (fun k hk h => by simp [Value.ownBlock] at hk; omega)
  have S6 := S4.then on56 (fun j hj h => by omega)
  obtain ⟨y0, y1, y2, y3, y4, fy⟩ := Y4.cells
  have HR6 : Hid (RefAt ((w4.setCell ⟨w1.heap.size + 1, 3, none⟩ (.int .i64 c.pr)).setCell ⟨w1.heap.size + 1, 4, none⟩ (.int .i64 c.q)) pb v4 (L.eraseIdx i)) := R6
  have HL6 : Hid (((w4.setCell ⟨w1.heap.size + 1, 3, none⟩ (.int .i64 c.pr)).setCell ⟨w1.heap.size + 1, 4, none⟩ (.int .i64 c.q)).ownsRow w.heap.size 87 6 (.slice (some ⟨w1.heap.size, 0, none⟩) 1 1) 1 (evRows [evAccepted c])) := L6
  have HS6 : Hid (Only (fun k => k = pb ∨ sv0.ownBlock = some k) w ((w4.setCell ⟨w1.heap.size + 1, 3, none⟩ (.int .i64 c.pr)).setCell ⟨w1.heap.size + 1, 4, none⟩ (.int .i64 c.q))) := S6
  have HN4 : Hid (∀ k, v4.ownBlock = some k → w1.heap.size + 1 + 1 ≤ k) := nb4'
  have h6z : ((w4.setCell ⟨w1.heap.size + 1, 3, none⟩ (.int .i64 c.pr)).setCell ⟨w1.heap.size + 1, 4, none⟩ (.int .i64 c.q)).heap.size = w4.heap.size := by simp
  have hsz6 : Hid (((w4.setCell ⟨w1.heap.size + 1, 3, none⟩ (.int .i64 c.pr)).setCell ⟨w1.heap.size + 1, 4, none⟩ (.int .i64 c.q)).heap.size = w4.heap.size) := h6z
  clear h6z
  have hXY : w.heap.size ≠ w1.heap.size + 1 := by omega
  clear R4 Y4 L4 S4 nb4 nb4' on4 on5 on6 on56 R6 Y6 L6 S6
  go_wp2_with fail
  refine (renter_any 1 ⟨m.cl, m.id, m.sd, c.pr, c.q⟩ HR6.out okE hq).mono ?_
  rintro e w7 ⟨v, sv, rfl, own7, R7, nb7, on7⟩
  rw [HRES.out] at own7 R7
  rw [hsz6.out] at own7 nb7
  have own7' : w7.ownsRow w.heap.size 87 6 v res.1.length (evRows res.1) := Joins.ownsRow_le own7 (by omega)
  have lit7 : w7.ownsRow w.heap.size 87 6 (.slice (some ⟨w1.heap.size, 0, none⟩) 1 1) [evAccepted c].length (evRows [evAccepted c]) := row_keep HL6.out on7 (fun k hk h => by
    simp [Value.ownBlock] at hk
    subst hk
    rcases h with h | h
    · omega
    · have := HN4.out _ h; omega)
  have ne7 : ∀ k, (Value.slice (some ⟨w1.heap.size, 0, none⟩) 1 1).ownBlock = some k → v.ownBlock ≠ some k := fun k hk e => by
    simp [Value.ownBlock] at hk
    subst hk
    have := (own7.lt _ e).1
    omega
  have S7 : Only (fun k => k = pb ∨ sv0.ownBlock = some k) w w7 := HS6.out.then on7 (fun j hj h => by
    rcases h with h | h
    · exact .inl h
    · have := HN4.out _ h; omega)
  have hadd := radd_any (B := w.heap.size) S7.size lit7 own7' ne7 (by simp) (by omega)
  have HADD : Hid (Calls Try.prog 39 #[.slice (some ⟨w1.heap.size, 0, none⟩) 1 1, v] w7 fun e w' => ∃ v', e = .returned v' ∧ w'.ownsRow w.heap.size 87 6 v' ([evAccepted c] ++ res.1).length (evRows ([evAccepted c] ++ res.1)) ∧ Only (fun k => (Value.slice (some ⟨w1.heap.size, 0, none⟩) 1 1).ownBlock = some k) w7 w' ∧ (∀ k, v'.ownBlock = some k → (Value.slice (some ⟨w1.heap.size, 0, none⟩) 1 1).ownBlock = some k ∨ w7.heap.size ≤ k)) := hadd
  have HR7 : Hid (RefAt w7 pb sv res.2) := R7
  have HS7 : Hid (Only (fun k => k = pb ∨ sv0.ownBlock = some k) w w7) := S7
  have HNB : Hid (∀ k, sv.ownBlock = some k → w1.heap.size + 1 ≤ k) := fun k hk => by
    rcases nb7 k hk with h | h
    · have := HN4.out _ h; omega
    · omega
  clear own7 own7' lit7 ne7 S7 hadd R7 nb7 on7 y0 y1 y2 y3 y4 fy q0 q4 q5
  go_wp2_with fail
  refine HADD.out.mono ?_
  rintro e w8 ⟨v8, rfl, own8, on8, nb8⟩
  have R8 := HR7.out.keep on8 (fun h => by simp [Value.ownBlock] at h; omega) (fun k hk h => by simp [Value.ownBlock] at h; have := HNB.out k hk; omega)
  have S8 := HS7.out.then on8 (fun i hi h => by simp [Value.ownBlock] at h; omega)
  have HF : Hid (EntPost w pb sv0 (evAccepted c :: res.1, res.2) (.returned v8) w8) := ⟨v8, sv, rfl, own8, R8, fun k hk => .inr (by have := HNB.out k hk; omega), S8⟩
  clear own8 on8 nb8 R8 S8
  go_wp2
  go_ret
  go_light
  exact HF.out
end Go.Proofs.Ytbljokilfkodfaa
/-
  The document's book keeps what is said of a book.
-/
namespace Go.Proofs.Ytbljokilfkodfaa
open Go.RowKit

theorem rdo_any {w : World} {pb : Nat} {sv0 : Value} {L : List Od} (c : Cm) (h : RefAt w pb sv0 L) (hL : BookOk L) :
    Calls Try.prog 11 #[.pointer (some ⟨pb, 0, none⟩), .agg #[.int .i64 c.k, .int .i64 c.cl, .int .i64 c.id, .int .i64 c.sd, .int .i64 c.pr, .int .i64 c.q]] w (EntPost w pb sv0 (bDo L c)) := by
  have hlen := bDo_len c hL
  by_cases hr : bRefused L c = 0
  · have hf : cmFair c = true := by
      unfold bRefused at hr
      by_cases hf : cmFair c = true
      · exact hf
      · simp [hf] at hr
    have hb := fairB_bounds hf
    unfold bDo at hlen ⊢
    rw [if_pos hr] at hlen ⊢
    simp only at hlen ⊢
    by_cases h5 : c.k = 5
    · rw [if_pos h5]
      cases hfd : bFind L c.id with
      | none =>
        unfold bRefused at hr
        rw [hf, hfd] at hr
        simp [h5] at hr
      | some i => exact rdo_cancel c hr h5 hfd h hL
    · rw [if_neg h5] at hlen ⊢
      by_cases h6 : c.k = 6
      · rw [if_pos h6] at hlen ⊢
        have hq : 1 ≤ c.q ∧ c.q ≤ 99 := by
          have hfb := hf
          unfold cmFair fairB at hfb
          simp [h6, inB] at hfb
          omega
        cases hfd : bFind L c.id with
        | none =>
          unfold bRefused at hr
          rw [hf, hfd] at hr
          simp [h6] at hr
        | some i =>
          rw [hfd] at hlen
          simp only [Option.getD_some] at hlen ⊢
          by_cases hp : (L.getD i od0).pr = c.pr ∧ c.q ≤ (L.getD i od0).q
          · rw [if_pos hp]
            exact rdo_inplace c hr h6 hfd (fun m hm => by rw [hm]; exact hp) h hL
          · rw [if_neg hp] at hlen ⊢
            have hel : (bEnter (L.eraseIdx i) 1 { L.getD i od0 with pr := c.pr, q := c.q }).1.length ≤ 100 := by
              have : (bEnter (L.eraseIdx i) 1 { L.getD i od0 with pr := c.pr, q := c.q }).1.length + 1 ≤ 100 := hlen
              omega
            by_cases hpr : (L.getD i od0).pr = c.pr
            · exact rdo_anewB c hr h6 hfd (fun m hm => by rw [hm]; exact ⟨hpr, fun h' => hp ⟨hpr, h'⟩⟩) hq hel h hL
            · exact rdo_anewA c hr h6 hfd (fun m hm => by rw [hm]; exact hpr) hq hel h hL
      · rw [if_neg h6] at hlen ⊢
        have hq : 1 ≤ c.q ∧ c.q ≤ 99 := by
          have hfb := hf
          unfold cmFair fairB at hfb
          by_cases h2 : c.k = 2
          · simp [h2, inB] at hfb; omega
          · simp [h2, h5, h6, inB] at hfb; omega
        have hel : (bEnter L c.k (cmOd c)).1.length ≤ 100 := by
          have : (bEnter L c.k (cmOd c)).1.length + 1 ≤ 100 := hlen
          omega
        exact rdo_enter c hr h5 h6 hq h hL hel
  · unfold bDo
    rw [if_neg hr]
    exact rdo_rejected c hr h hL

def RefRep (w : World) (v : Value) (S : Nat → Prop) (L : List Od) : Prop := ∃ pb sv, v = .pointer (some ⟨pb, 0, none⟩) ∧ RefAt w pb sv L ∧ ∀ k, S k ↔ (k = pb ∨ sv.ownBlock = some k)

theorem isRow_ev {w : World} {base : Nat} {N : Nat → Prop} {v : Value} {l : List Ev} (h : w.ownsRow base 87 6 v l.length (evRows l)) (hN : ∀ k, v.ownBlock = some k → ¬ N k) : IsRow w base N 6 v l.length (evZ l) := by
  have hlt := h.lt
  have ho := h
  obtain ⟨_, ho2⟩ := ho
  rcases ho2 with ⟨hv, hn⟩ | ⟨g, cap, cur, hv, _⟩
  · exact ⟨none, 0, by rw [hv, hn], fun hp => by omega⟩
  · have hown := h
    rw [hv] at hown
    refine ⟨_, cap, hv, fun _ => ⟨g, 0, rfl, (hlt g (by rw [hv]; rfl)).1, (hlt g (by rw [hv]; rfl)).2, hN g (by rw [hv]; rfl), fun j i hj hi => ?_⟩⟩
    have e : 0 + j * 6 + i = j * 6 + i := by omega
    rw [e]
    exact ⟨(hown.cellAt (j * 6 + i) (by omega)).trans (evRows_at l j i hj hi), hown.frozenAt _⟩
theorem isRow_lv {w : World} {base : Nat} {N : Nat → Prop} {v : Value} {l : List Lv} (h : w.ownsRow base 143 3 v l.length (lvRows l)) (hN : ∀ k, v.ownBlock = some k → ¬ N k) : IsRow w base N 3 v l.length (lvZ l) := by
  have hlt := h.lt
  have ho := h
  obtain ⟨_, ho2⟩ := ho
  rcases ho2 with ⟨hv, hn⟩ | ⟨g, cap, cur, hv, _⟩
  · exact ⟨none, 0, by rw [hv, hn], fun hp => by omega⟩
  · have hown := h
    rw [hv] at hown
    refine ⟨_, cap, hv, fun _ => ⟨g, 0, rfl, (hlt g (by rw [hv]; rfl)).1, (hlt g (by rw [hv]; rfl)).2, hN g (by rw [hv]; rfl), fun j i hj hi => ?_⟩⟩
    have e : 0 + j * 3 + i = j * 3 + i := by omega
    rw [e]
    exact ⟨(hown.cellAt (j * 3 + i) (by omega)).trans (lvRows_at l j i hj hi), hown.frozenAt _⟩

theorem ref_is : BookIs RefRep 11 43 45 where
  ptr := fun h => by obtain ⟨pb, sv, rfl, _, _⟩ := h; exact ⟨_, rfl⟩
  lt := fun h k hk => by
    obtain ⟨pb, sv, rfl, R, hS⟩ := h
    rcases (hS k).1 hk with h | h
    · rw [h]; exact R.lt
    · exact (R.own.lt k h).2
  keep := fun h o hT => by
    obtain ⟨pb, sv, rfl, R, hS⟩ := h
    exact ⟨pb, sv, rfl, R.keep o (hT pb ((hS pb).2 (.inl rfl))) (fun k hk => hT k ((hS k).2 (.inr hk))), hS⟩
  does := fun c h hL => by
    obtain ⟨pb, sv, rfl, R, hS⟩ := h
    refine (rdo_any c R hL).mono ?_
    rintro e w' ⟨v, sv', rfl, own, R', nb, on⟩
    refine ⟨v, fun k => k = pb ∨ sv'.ownBlock = some k, rfl, isRow_ev own ?_, ⟨pb, sv', rfl, R', fun k => Iff.rfl⟩, on.mono (fun k _ h => (hS k).2 h), fun k hk => ?_⟩
    · intro k hk h
      obtain ⟨n1, n2⟩ := R'.row_ne own
      rcases h with h | h
      · rw [h] at hk; exact n1 hk
      · exact n2 k h hk
    · rcases hk with h | h
      · exact .inl ((hS k).2 (.inl h))
      · rcases nb k h with h | h
        · exact .inl ((hS k).2 (.inr h))
        · exact .inr h
  depth := fun {w v S L} sd h hL _ _ => by
    obtain ⟨pb, sv, rfl, R, hS⟩ := h
    have hd : Calls Try.prog 43 #[.pointer (some ⟨pb, 0, none⟩), .int .i64 sd] w fun e w' => ∃ v, e = .returned v ∧ w'.ownsRow w.heap.size 143 3 v (bDepth L sd).length (lvRows (bDepth L sd)) ∧ Below w.heap.size w w' := by
      by_cases hsd : sd = 1
      · exact rdepth_buy sd hsd R hL
      · exact rdepth_other sd hsd R hL
    refine hd.mono ?_
    rintro e w' ⟨v, rfl, own, b⟩
    refine ⟨v, S, rfl, isRow_lv own ?_, ⟨pb, sv, rfl, R.keepB b, hS⟩, Only.of_below b, fun k hk => .inl hk⟩
    intro k hk h
    have h1 := (own.lt k hk).1
    rcases (hS k).1 h with h | h
    · have := R.lt; omega
    · have := (R.own.lt k h).2; omega
  left := fun id h hL _ _ => by
    obtain ⟨pb, sv, rfl, R, hS⟩ := h
    refine (rleft_any id R hL).mono ?_
    rintro e w' ⟨rfl, rfl⟩
    exact ⟨_, rfl, ⟨pb, sv, rfl, R, hS⟩, Only.refl _ _, fun k hk => .inl hk⟩

theorem ref_made : MadeSaid RefRep := fun w => by
  refine ⟨w.heap.size, .slice none 0 0, rfl, ⟨by simp, by simp, by simp, World.ownsRow_nil _ _ _ _, by simp [Value.ownBlock], ⟨_, _, heap_alloc_new w _⟩⟩, fun k => by simp [Value.ownBlock]⟩
end Go.Proofs.Ytbljokilfkodfaa
