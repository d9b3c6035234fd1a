/-
  The book: how much an order meets; an order that wants all or nothing.
-/
import Derived.Test.YtbljokilfkodfaaG26
import Derived.Test.YtbljokilfkodfaaG28
import Derived.Deep.RegionWith
import Derived.BigRegion
import Derived.Test.YtbljokilfkodfaaG24
namespace Go.Proofs.Ytbljokilfkodfaa
open Go.RowKit

theorem sumTo_le {f : Int → Int} {l : List Int} {C : Int} (h : ∀ x ∈ l, 0 ≤ f x ∧ f x ≤ C) : ∀ k : Nat, k ≤ l.length → 0 ≤ sumTo f l k ∧ sumTo f l k ≤ C * k
  | 0, _ => by simp [sumTo]
  | k + 1, hk => by
    have ih := sumTo_le h k (by omega)
    have hm : l.getD k 0 ∈ l := by rw [List.getD_eq_getElem?_getD, List.getElem?_eq_getElem (by omega)]; exact List.getElem_mem _
    have h1 := h _ hm
    have e : C * ((k + 1 : Nat) : Int) = C * (k : Int) + C := by rw [Int.natCast_add, Int.mul_add]; simp
    simp only [sumTo]
    rw [e]
    omega
theorem wsum_bound (φ : Od → Bool) : ∀ (L : List Od), (∀ o ∈ L, 0 ≤ o.q ∧ o.q ≤ 99) → 0 ≤ wsum φ L ∧ wsum φ L ≤ 99 * (L.length : Int)
  | [], _ => by simp [wsum]
  | o :: L, h => by
    have ih := wsum_bound φ L (fun x hx => h x (List.mem_cons_of_mem _ hx))
    have h1 := h o (by simp)
    simp only [wsum, List.length_cons]
    split <;> omega

set_option maxRecDepth 100000 in
set_option maxHeartbeats 1000000 in
theorem supply_any {w : World} {pb : Nat} {g : Gh} {L : List Od} (h : BkAt w pb g L) {sd : Int} (hsd : sd = 1 ∨ sd = 2) (p : Int) :
    Calls Try.prog 78 #[.pointer (some ⟨pb, offS sd, none⟩), .int .i64 p] w fun e w' => e = .returned (.int .i64 (sumTo (fun x => if decide (keyOf' sd x ≤ keyOf' sd p) then wsum (atLv sd x) L else 0) (g.V sd) (g.V sd).length)) ∧ w' = w := by
  have H : Hid (BkAt w pb g L) := h
  have hs := h.side hsd
  have HS : Hid (SideAt w pb g sd L) := hs
  have hr := hs.half.row
  have hside := hs.half.side
  have few := few_levels h hsd
  have hwb : ∀ φ, 0 ≤ wsum φ L ∧ wsum φ L ≤ 1188 := fun φ => by
    have := wsum_bound φ L (fun o ho => (h.ok.each o ho).2.2.2.2)
    have := h.ok.len
    omega
  have hnd := h.ok.ids
  have hb9 : Hid (∀ x ∈ L, 0 ≤ qId L x.id ∧ qId L x.id ≤ 99) := fun x hx => by rw [qId_at hnd hx]; exact (h.ok.each x hx).2.2.2.2
  obtain ⟨x, c, hsv⟩ := owned_form' hs.half.own
  rw [hsv] at hr
  obtain ⟨F, hF⟩ : ∃ F : Int → Int, F = fun x => if decide (keyOf' sd x ≤ keyOf' sd p) then wsum (atLv sd x) L else 0 := ⟨_, rfl⟩
  have hfb : ∀ k, k ≤ (g.V sd).length → 0 ≤ sumTo F (g.V sd) k ∧ sumTo F (g.V sd) k ≤ 1188 * k := fun k hk => sumTo_le (fun x _ => by
    rw [hF]
    simp only
    have := hwb (atLv sd x)
    split <;> omega) k hk
  rw [← hF]
  have HF : Hid (∀ x, F x = if decide (keyOf' sd x ≤ keyOf' sd p) then wsum (atLv sd x) L else 0) := fun x => by rw [hF]
  have HFB : Hid (∀ k, k ≤ (g.V sd).length → 0 ≤ sumTo F (g.V sd) k ∧ sumTo F (g.V sd) k ≤ 1188 * k) := hfb
  have HSV : Hid (g.sv sd = .slice x (g.V sd).length c) := hsv
  have HWB : Hid (∀ φ, 0 ≤ wsum φ L ∧ wsum φ L ≤ 1188) := hwb
  have HND : Hid ((L.map Od.id).Nodup) := hnd
  clear h hs hF hfb hsv hwb hnd
  obtain ⟨V, hV⟩ : ∃ V, V = g.V sd := ⟨_, rfl⟩
  have HV : Hid (V = g.V sd) := hV
  rw [← hV] at few hr ⊢
  clear hV
  go_enter Try.func78, Try.ntmps78
  go_wp2_with fail
  go_loopw [5, 13] (fun s i wr => ∃ k : Nat, k ≤ V.length ∧ s = .int .i64 (sumTo F V k) ∧ i = .int .i64 (k : Int) ∧ wr = w) (fun _ i _ => V.length - (intOf i).toNat)
  case atStart => exact ⟨0, Nat.zero_le _, rfl, rfl, rfl⟩
  case round =>
    obtain ⟨k, hk, rfl, rfl, rfl⟩ := hrel
    have hs0 := HFB.out k (by rw [← HV.out]; exact hk)
    rw [← HV.out] at hs0
    by_cases hlt : k < V.length
    · have hVe := HV.out
      obtain ⟨gb, c', hsv', hg, _, hcell, _⟩ := own_some HS.out.half.own (by rw [← hVe]; omega)
      rw [HSV.out] at hsv'
      injection hsv' with hx _ hc
      subst hx
      subst hc
      have hm : V[k] ∈ g.V sd := by rw [← hVe]; exact List.getElem_mem _
      have ck : wr.cell? ⟨gb, k, none⟩ = some (.pointer (some ⟨g.B sd V[k], 0, none⟩)) := by
        have := hcell k (by rw [← hVe]; exact hlt)
        rw [this, ← hVe]; simp [lvPtrs, hlt]
      have hp := (HS.out.half.lv _ hm).1
      have hlk := HS.out.links _ hm
      have hki : (k : Int) < (V.length : Int) := by omega
      have hsn : Hid (sumTo F V (k + 1) = sumTo F V k + F V[k]) := by
        show _ = _
        simp only [sumTo, List.getD_eq_getElem?_getD, List.getElem?_eq_getElem hlt]
        rfl
      have hwbk := HWB.out (atLv sd V[k])
      have hqty := lqty_any (f := qId L) hlk (fun id hid => by
        obtain ⟨o, ho, rfl, _, _⟩ := mem_lvIds.1 hid
        rw [qId_at HND.out ho]; exact (H.out.odc o ho).c4) (fun id hid => by
        obtain ⟨o, ho, rfl, _, _⟩ := mem_lvIds.1 hid
        exact hb9.out o ho) (by
        have : (lvIds L sd V[k]).length ≤ L.length := by unfold lvIds; rw [List.length_map]; exact List.length_filter_le _ _
        have := H.out.ok.len
        omega)
      rw [lv_sum sd V[k] L (fun o ho => qId_at HND.out ho)] at hqty
      have hFk := HF.out V[k]
      obtain ⟨vk, hvk⟩ : ∃ vk, vk = V[k] := ⟨_, rfl⟩
      rw [← hvk] at ck hp hqty hFk hwbk hsn
      obtain ⟨lb, hlb⟩ : ∃ lb, lb = g.B sd vk := ⟨_, rfl⟩
      rw [← hlb] at ck hp hqty
      obtain ⟨wq, hwq⟩ : ∃ wq, wq = wsum (atLv sd vk) L := ⟨_, rfl⟩
      rw [← hwq] at hqty hFk hwbk
      have HQT : Hid (Calls Try.prog 62 #[.pointer (some ⟨lb, 0, none⟩)] wr fun e w' => e = .returned (.int .i64 wq) ∧ w' = wr) := hqty
      have HFK : Hid (F vk = if decide (keyOf' sd vk ≤ keyOf' sd p) then wq else 0) := hFk
      clear hcell hqty hFk hlk hm hvk hlb hwq hVe
      go_wp2_with fail
      refine (allows_any pb (offS sd) sd p vk _ hside).mono ?_
      rintro e w1 ⟨rfl, rfl⟩
      by_cases ha : keyOf' sd vk ≤ keyOf' sd p
      · have hd : decide (keyOf' sd vk ≤ keyOf' sd p) = true := decide_eq_true ha
        rw [hd]
        have hFe : Hid (F vk = wq) := by show _ = _; rw [HFK.out, hd]; rfl
        clear ha hd HFK
        go_wp2_with fail
        refine Calls.mono HQT.out ?_
        rintro e w2 ⟨rfl, rfl⟩
        go_wp2
        exact ⟨⟨k + 1, by omega, by rw [hsn.out, hFe.out], by go_num, trivial⟩, by simp [intOf]; omega⟩
      · have hd : decide (keyOf' sd vk ≤ keyOf' sd p) = false := decide_eq_false ha
        rw [hd]
        have hFe : Hid (F vk = 0) := by show _ = _; rw [HFK.out, hd]; rfl
        clear ha hd HFK
        go_wp2
        exact ⟨⟨k + 1, by omega, by rw [hsn.out, hFe.out, Int.add_zero], by go_num, trivial⟩, by simp [intOf]; omega⟩
    · have ek : k = V.length := by omega
      go_wp2
      go_ret
      subst ek
      exact ⟨rfl, rfl⟩

set_option maxRecDepth 100000 in
set_option maxHeartbeats 1000000 in
theorem whole_any {w : World} {pb ob : Nat} {g : Gh} {L : List Od} (o : Od) (h : BkAt w pb g L) (hL : BookOk L) (hsd : o.sd = 1 ∨ o.sd = 2) (hp : 1 ≤ o.pr ∧ o.pr ≤ 99) (hq : 1 ≤ o.q ∧ o.q ≤ 99) (hc : Coming w g ob o) :
    Calls Try.prog 54 #[.pointer (some ⟨pb, 0, none⟩), .pointer (some ⟨ob, 0, none⟩)] w fun e w' => ∃ v g', e = .returned v ∧ Told w w' g' v (bEnter L 4 o).1 ∧ BkAt w' pb g' (bEnter L 4 o).2 ∧
      Only (fun b => g.tag b ≠ none ∨ b = ob) w w' ∧ (∀ k, g'.tag k ≠ none → g.tag k ≠ none ∨ k = ob ∨ w.heap.size ≤ k) := by
  have hco : codeOd o o.q = o := by rw [codeOd_pr hp.1]
  have x0 := hc.cells.c0
  have x1 := hc.cells.c1
  have x2 := hc.cells.c2
  have x3 := hc.cells.c3
  have x4 := hc.cells.c4
  have olt := hc.lt
  have hsup := fun m => supply_any (h.keep ((Only.refl (fun _ => False) w).drewN m) (fun _ _ => id)) (sides hsd).1 o.pr
  have hcp : codePr o.sd o.pr = o.pr := by unfold codePr; rw [if_neg (by omega)]
  have hroom := room_levels h hL hsd ⟨by omega, hp.2⟩
  rw [hcp] at hroom
  rw [hroom] at hsup
  have HSUP : Hid (∀ m, Calls Try.prog 78 #[.pointer (some ⟨pb, offS (otherS o.sd), none⟩), .int .i64 o.pr] (w.drewN m) fun e w' => e = .returned (.int .i64 (bRoom L o.sd o.pr)) ∧ w' = w.drewN m) := hsup
  have HB : Hid (∀ m, BkAt (w.drewN m) pb g L) := fun m => h.keep ((Only.refl (fun _ => False) w).drewN m) (fun _ _ => id)
  have HC : Hid (∀ m, Coming (w.drewN m) g ob o) := fun m => hc.keep ((Only.refl (fun _ => False) w).drewN m) id (fun _ h => .inl h)
  clear hsup hcp hroom h hc
  obtain ⟨rm, hrm⟩ : ∃ rm, rm = bRoom L o.sd o.pr := ⟨_, rfl⟩
  rw [← hrm] at HSUP
  have HRM : Hid (rm = bRoom L o.sd o.pr) := hrm
  clear hrm
  by_cases hlt : rm < o.q
  · have hbe : bEnter L 4 o = ([evCanceled o o.q], L) := by unfold bEnter; rw [if_pos ⟨rfl, by rw [← HRM.out]; exact hlt⟩]
    rw [hbe]
    clear hbe
    go_enter Try.func54, Try.ntmps54
    go_wp2_with fail
    go_quiet ((first | (go_at_call 77; exact Calls.quiet_of_same (cother_any _ _)) | (go_at_call 61; exact Calls.quiet_of_same (half_off _ _ _)) | (go_at_call 78; exact Calls.quiet_of_same (HSUP.out _))))
    have olt' : ob < (w.drewN nq).heap.size := olt
    have y0 : (w.drewN nq).cell? ⟨ob, 0, none⟩ = some (.int .i64 o.cl) := x0
    have y1 : (w.drewN nq).cell? ⟨ob, 1, none⟩ = some (.int .i64 o.id) := x1
    have y4 : (w.drewN nq).cell? ⟨ob, 4, none⟩ = some (.int .i64 o.q) := x4
    have H1 := HB.out nq
    have O1 : Only (fun b => g.tag b ≠ none ∨ b = ob) w (w.drewN nq) := (Only.refl _ w).drewN nq
    have hz : w.heap.size = (w.drewN nq).heap.size := rfl
    obtain ⟨w1, hw1⟩ : ∃ w1, w1 = w.drewN nq := ⟨_, rfl⟩
    rw [← hw1] at olt' y0 y1 y4 H1 O1 hz ⊢
    clear x0 x1 x2 x3 x4 hw1
    have HB1 : Hid (BkAt w1 pb g L) := H1
    have HO1 : Hid (Only (fun b => g.tag b ≠ none ∨ b = ob) w w1) := O1
    clear H1 O1
    go_wp2_with fail
    refine (canceled_any _ o.cl o.id o.q olt' y0 y1 y4).mono ?_
    rintro e w2 ⟨rfl, b2⟩
    unfold evV
    go_wp2_with fail
    go_ret
    go_light
    have B3 : Below w1.heap.size w1 (w2.alloc (.cells #[.int .i64 5, .int .i64 o.cl, .int .i64 o.id, .int .i64 0, .int .i64 0, .int .i64 o.q] 48)) := b2.alloc b2.size _
    have s2 := b2.size
    refine ⟨_, g, rfl, ⟨told_one w w2 (evCanceled o o.q) (by omega), fun b hb => ?_⟩, HB1.out.keep (Only.of_below (S := fun _ => False) B3) (fun _ _ => id), HO1.out.trans (Only.of_below B3), fun _ h => .inl h⟩
    simp [Value.ownBlock] at hb
    subst hb
    exact Classical.byContradiction fun hne => by have := HB1.out.tlt _ hne; omega
  · rw [enter_go L 4 o (by omega) (fun h => hlt (by rw [HRM.out]; exact h.2))]
    go_enter Try.func54, Try.ntmps54
    go_wp2_with fail
    go_quiet ((first | (go_at_call 77; exact Calls.quiet_of_same (cother_any _ _)) | (go_at_call 61; exact Calls.quiet_of_same (half_off _ _ _)) | (go_at_call 78; exact Calls.quiet_of_same (HSUP.out _))))
    have hgo := go_any o (HB.out nq) hL hsd ⟨by omega, hp.2⟩ hq (by rw [hco]; exact HC.out nq)
    have HGO : Hid (Calls Try.prog 57 #[.pointer (some ⟨pb, 0, none⟩), .pointer (some ⟨ob, 0, none⟩)] (w.drewN nq) fun e w' => ∃ v g', e = .returned v ∧ Told (w.drewN nq) w' g' v (bGo L o).1 ∧ BkAt w' pb g' (bGo L o).2 ∧
      Only (fun b => g.tag b ≠ none ∨ b = ob) (w.drewN nq) w' ∧ (∀ k, g'.tag k ≠ none → g.tag k ≠ none ∨ k = ob ∨ (w.drewN nq).heap.size ≤ k)) := hgo
    clear hgo x0 x1 x2 x3 x4
    go_wp2_with fail
    refine Calls.mono HGO.out ?_
    rintro e w2 ⟨v2, g2, rfl, to2, ba2, on2, tn2⟩
    go_wp2_with fail
    go_ret
    go_light
    exact ⟨_, g2, rfl, to2, ba2, ((Only.refl _ w).drewN nq).trans on2, tn2⟩
end Go.Proofs.Ytbljokilfkodfaa
/-
  The book: the order that comes with a command; Replace.
-/
namespace Go.Proofs.Ytbljokilfkodfaa
open Go.RowKit

def farV (k sd pr : Int) : Int := if k = 2 ∧ sd = 1 then 99 else pr

set_option maxRecDepth 100000 in
set_option maxHeartbeats 1000000 in
theorem farthest_any (k cl id sd pr q : Int) (w : World) :
    Calls Try.prog 76 #[.agg #[.int .i64 k, .int .i64 cl, .int .i64 id, .int .i64 sd, .int .i64 pr, .int .i64 q]] w fun e w' => e = .returned (.int .i64 (farV k sd pr)) ∧ Below w.heap.size w w' := by
  unfold farV
  by_cases hk : k = 2
  · have hkb : (k == 2) = true := by simp [hk]
    by_cases hs : sd = 1
    · have hsb : (sd == 1) = true := by simp [hs]
      rw [if_pos ⟨hk, hs⟩]
      clear hk hs
      go_enter Try.func76, Try.ntmps76
      go_wp2
      go_ret
      exact ⟨rfl, (Below.refl _ _).alloc (Nat.le_refl _) _⟩
    · have hsb : (sd == 1) = false := by simp [hs]
      rw [if_neg (fun h => hs h.2)]
      clear hk hs
      go_enter Try.func76, Try.ntmps76
      go_wp2
      go_ret
      exact ⟨rfl, (Below.refl _ _).alloc (Nat.le_refl _) _⟩
  · have hkb : (k == 2) = false := by simp [hk]
    rw [if_neg (fun h => hk h.1)]
    clear hk
    go_enter Try.func76, Try.ntmps76
    go_wp2
    go_ret
    exact ⟨rfl, (Below.refl _ _).alloc (Nat.le_refl _) _⟩

/-- A new order. -/
structure Fresh (w w' : World) (ob : Nat) (o : Od) : Prop where
  below : Below w.heap.size w w'
  ge : w.heap.size ≤ ob
  lt : ob < w'.heap.size
  cells : OdCells w' ob o
  x5 : w'.cell? ⟨ob, 5, none⟩ = some (.pointer none)
  x6 : w'.cell? ⟨ob, 6, none⟩ = some (.pointer none)
theorem fresh_made (w w1 : World) (b : Below w.heap.size w w1) (o : Od) : Fresh w (w1.alloc (.cells #[.int .i64 o.cl, .int .i64 o.id, .int .i64 o.sd, .int .i64 o.pr, .int .i64 o.q, .pointer none, .pointer none] 107)) w1.heap.size o :=
  ⟨b.alloc b.size _, b.size, by simp, ⟨by simp, by simp, by simp, by simp, by simp, fun i => by simp⟩, by simp, by simp⟩
theorem Fresh.coming {w w' : World} {ob pb : Nat} {g : Gh} {L : List Od} {o : Od} (h : Fresh w w' ob o) (hb : BkAt w pb g L) : Coming w' g ob o :=
  ⟨h.cells, h.lt, Classical.byContradiction fun hne => by have := hb.tlt _ hne; have := h.ge; omega, ⟨_, h.x5⟩, h.x6⟩

set_option maxRecDepth 100000 in
set_option maxHeartbeats 600000 in
theorem orderOf_any (k cl id sd pr q : Int) (w : World) :
    Calls Try.prog 53 #[.agg #[.int .i64 k, .int .i64 cl, .int .i64 id, .int .i64 sd, .int .i64 pr, .int .i64 q]] w fun e w' => ∃ ob, e = .returned (.pointer (some ⟨ob, 0, none⟩)) ∧ Fresh w w' ob ⟨cl, id, sd, farV k sd pr, q⟩ := by
  have hfar := fun W => farthest_any k cl id sd pr q W
  obtain ⟨fa, hfa⟩ : ∃ fa, fa = farV k sd pr := ⟨_, rfl⟩
  rw [← hfa] at hfar ⊢
  have HF : Hid (∀ W, Calls Try.prog 76 #[.agg #[.int .i64 k, .int .i64 cl, .int .i64 id, .int .i64 sd, .int .i64 pr, .int .i64 q]] W fun e w' => e = .returned (.int .i64 fa) ∧ Below W.heap.size W w') := hfar
  clear hfar hfa
  go_enter Try.func53, Try.ntmps53
  go_wp2_with fail
  have B1 : Below w.heap.size w (w.alloc (.cells #[.int .i64 k, .int .i64 cl, .int .i64 id, .int .i64 sd, .int .i64 pr, .int .i64 q] 32)) := (Below.refl _ _).alloc (Nat.le_refl _) _
  have z0 : (w.alloc (.cells #[.int .i64 k, .int .i64 cl, .int .i64 id, .int .i64 sd, .int .i64 pr, .int .i64 q] 32)).cell? ⟨w.heap.size, 0, none⟩ = some (.int .i64 k) := by simp
  have z1 : (w.alloc (.cells #[.int .i64 k, .int .i64 cl, .int .i64 id, .int .i64 sd, .int .i64 pr, .int .i64 q] 32)).cell? ⟨w.heap.size, 1, none⟩ = some (.int .i64 cl) := by simp
  have z2 : (w.alloc (.cells #[.int .i64 k, .int .i64 cl, .int .i64 id, .int .i64 sd, .int .i64 pr, .int .i64 q] 32)).cell? ⟨w.heap.size, 2, none⟩ = some (.int .i64 id) := by simp
  have z3 : (w.alloc (.cells #[.int .i64 k, .int .i64 cl, .int .i64 id, .int .i64 sd, .int .i64 pr, .int .i64 q] 32)).cell? ⟨w.heap.size, 3, none⟩ = some (.int .i64 sd) := by simp
  have z4 : (w.alloc (.cells #[.int .i64 k, .int .i64 cl, .int .i64 id, .int .i64 sd, .int .i64 pr, .int .i64 q] 32)).cell? ⟨w.heap.size, 4, none⟩ = some (.int .i64 pr) := by simp
  have z5 : (w.alloc (.cells #[.int .i64 k, .int .i64 cl, .int .i64 id, .int .i64 sd, .int .i64 pr, .int .i64 q] 32)).cell? ⟨w.heap.size, 5, none⟩ = some (.int .i64 q) := by simp
  have hlt : w.heap.size < (w.alloc (.cells #[.int .i64 k, .int .i64 cl, .int .i64 id, .int .i64 sd, .int .i64 pr, .int .i64 q] 32)).heap.size := by simp
  obtain ⟨w1, hw1⟩ : ∃ w1, w1 = w.alloc (.cells #[.int .i64 k, .int .i64 cl, .int .i64 id, .int .i64 sd, .int .i64 pr, .int .i64 q] 32) := ⟨_, rfl⟩
  obtain ⟨b, hb⟩ : ∃ b, b = w.heap.size := ⟨_, rfl⟩
  rw [← hw1] at B1 z0 z1 z2 z3 z4 z5 hlt ⊢
  rw [← hb] at z0 z1 z2 z3 z4 z5 hlt ⊢
  have HB1 : Hid (Below w.heap.size w w1) := B1
  have HS0 : Hid (w1.drew.cell? ⟨b, 0, none⟩ = some (.int .i64 k) ∧ w1.drew.cell? ⟨b, 1, none⟩ = some (.int .i64 cl) ∧ w1.drew.cell? ⟨b, 2, none⟩ = some (.int .i64 id) ∧ w1.drew.cell? ⟨b, 3, none⟩ = some (.int .i64 sd) ∧ w1.drew.cell? ⟨b, 4, none⟩ = some (.int .i64 pr) ∧ w1.drew.cell? ⟨b, 5, none⟩ = some (.int .i64 q) ∧ b < w1.drew.heap.size) := ⟨z0, z1, z2, z3, z4, z5, hlt⟩
  clear B1 hw1 hb z0 z1 z2 z3 z4 z5 hlt
  go_region_held3 (fun W => W.cell? ⟨b, 0, none⟩ = some (.int .i64 k) ∧ W.cell? ⟨b, 1, none⟩ = some (.int .i64 cl) ∧ W.cell? ⟨b, 2, none⟩ = some (.int .i64 id) ∧ W.cell? ⟨b, 3, none⟩ = some (.int .i64 sd) ∧ W.cell? ⟨b, 4, none⟩ = some (.int .i64 pr) ∧ W.cell? ⟨b, 5, none⟩ = some (.int .i64 q) ∧ b < W.heap.size)
    (first | with_reducible exact ⟨k1, k2, k3, k4, k5, k6, k7⟩ | with_reducible exact HS0.out | (obtain ⟨s1, s2, s3, s4, s5, s6, s7⟩ := (by assumption : _ ∧ _ ∧ _ ∧ _ ∧ _ ∧ _ ∧ _); with_reducible refine ⟨(World.cell?_alloc_past _ _ _ s7).trans s1, (World.cell?_alloc_past _ _ _ s7).trans s2, (World.cell?_alloc_past _ _ _ s7).trans s3, (World.cell?_alloc_past _ _ _ s7).trans s4, (World.cell?_alloc_past _ _ _ s7).trans s5, (World.cell?_alloc_past _ _ _ s7).trans s6, ?_⟩; (rw [World.size_alloc]; omega)))
    (first | (go_at_call 76; obtain ⟨s1, s2, s3, s4, s5, s6, s7⟩ := (by assumption : _ ∧ _ ∧ _ ∧ _ ∧ _ ∧ _ ∧ _); refine Calls.mono (HF.out _) ?_; rintro e w2 ⟨rfl, b2⟩; have k1 := (b2.cell (p := ⟨b, 0, none⟩) s7).trans s1; have k2 := (b2.cell (p := ⟨b, 1, none⟩) s7).trans s2; have k3 := (b2.cell (p := ⟨b, 2, none⟩) s7).trans s3; have k4 := (b2.cell (p := ⟨b, 3, none⟩) s7).trans s4; have k5 := (b2.cell (p := ⟨b, 4, none⟩) s7).trans s5; have k6 := (b2.cell (p := ⟨b, 5, none⟩) s7).trans s6; have k7 := Nat.lt_of_lt_of_le s7 b2.size))
  have B2 : Below w.heap.size w w2 := HB1.out.drew.trans (b2.mono HB1.out.size)
  have HB2 : Hid (Below w.heap.size w w2) := B2
  clear b2 B2 HS0
  go_wp2_with fail
  go_ret
  go_light
  exact ⟨_, rfl, fresh_made w w2 HB2.out ⟨cl, id, sd, fa, q⟩⟩
end Go.Proofs.Ytbljokilfkodfaa
/-
  The book: Replace.
-/
namespace Go.Proofs.Ytbljokilfkodfaa
open Go.RowKit

def bRepl (L : List Od) (i : Nat) (r : Od) (pr q : Int) : List Ev × List Od := if r.pr = pr ∧ q ≤ r.q then ([⟨6, r.cl, r.id, 0, pr, q⟩], setQ L i q) else bEnter (L.eraseIdx i) 1 { r with pr := pr, q := q }

theorem Told.base {w0 w1 w : World} {g : Gh} {v : Value} {E : List Ev} (h : Told w1 w g v E) (hs : w0.heap.size ≤ w1.heap.size) : Told w0 w g v E := by
  obtain ⟨⟨h1, h2⟩, h3⟩ := h
  refine ⟨⟨h1, ?_⟩, h3⟩
  rcases h2 with h2 | ⟨b, cap, cur, hv, hb, r⟩
  · exact .inl h2
  · exact .inr ⟨b, cap, cur, hv, Nat.le_trans hs hb, r⟩
/-- An order is taken out, and comes anew. -/
theorem again {w w1 w4 : World} {pb : Nat} {g g1 g4 : Gh} {v4 : Value} {nE : List Ev} {nB : List Od} {ob : Obj} (HO1 : Only (fun b => g.tag b ≠ none) w w1) (HN1 : ∀ k, g1.tag k ≠ none → g.tag k ≠ none ∨ w.heap.size ≤ k)
    (to4 : Told (w1.drew.alloc ob) w4 g4 v4 nE) (ba4 : BkAt w4 pb g4 nB) (on4 : Only (fun b => g1.tag b ≠ none ∨ b = w1.drew.heap.size) (w1.drew.alloc ob) w4) (tn4 : ∀ k, g4.tag k ≠ none → g1.tag k ≠ none ∨ k = w1.drew.heap.size ∨ (w1.drew.alloc ob).heap.size ≤ k) :
    Told w w4 g4 v4 nE ∧ BkAt w4 pb g4 nB ∧ Only (fun b => g.tag b ≠ none) w w4 ∧ (∀ k, g4.tag k ≠ none → g.tag k ≠ none ∨ w.heap.size ≤ k) := by
  have s1 := HO1.size
  have hd : w1.drew.heap.size = w1.heap.size := rfl
  have hal : (w1.drew.alloc ob).heap.size = w1.heap.size + 1 := by rw [World.size_alloc, hd]
  refine ⟨to4.base (by omega), ba4, ?_, fun k hk => ?_⟩
  · have O2 : Only (fun _ => False) w1 (w1.drew.alloc ob) := ((Only.refl (fun _ => False) w1).drew1).trans (only_alloc _ _)
    refine (HO1.trans (O2.mono (fun _ _ h => h.elim))).then on4 (fun b hb hor => ?_)
    rcases hor with h | h
    · rcases HN1 b h with h1 | h1
      · exact h1
      · omega
    · omega
  · rcases tn4 k hk with h | h | h
    · exact HN1 k h
    · exact .inr (by omega)
    · exact .inr (by omega)

set_option maxRecDepth 100000 in
set_option maxHeartbeats 2000000 in
theorem replace_any {w : World} {pb : Nat} {g : Gh} {L : List Od} (h : BkAt w pb g L) (hL : BookOk L) (i : Nat) (hi : i < L.length) (pr q : Int) (hp : 1 ≤ pr ∧ pr ≤ 99) (hq : 1 ≤ q ∧ q ≤ 99) :
    Calls Try.prog 56 #[.pointer (some ⟨pb, 0, none⟩), .pointer (some ⟨g.A L[i].id, 0, none⟩), .int .i64 pr, .int .i64 q] w fun e w' => ∃ v g', e = .returned v ∧ Told w w' g' v (bRepl L i L[i] pr q).1 ∧ BkAt w' pb g' (bRepl L i L[i] pr q).2 ∧
      Only (fun b => g.tag b ≠ none) w w' ∧ (∀ k, g'.tag k ≠ none → g.tag k ≠ none ∨ w.heap.size ≤ k) := by
  have H : Hid (BkAt w pb g L) := h
  have hm : L[i] ∈ L := List.getElem_mem _
  have rt := h.odt _ hm
  have rlt := h.tlt _ (by rw [rt]; simp)
  have oc := h.odc _ hm
  have hro := hL.each _ hm
  have hset := h.setq i hi q (by omega) (by omega)
  have hrem := brem_any h i hi (hL.erase i).ok0
  have hidE := nodup_erase hL hi
  rw [getD_at hi] at hidE
  have hlenE : (L.eraseIdx i).length < 12 := by rw [List.length_eraseIdx_of_lt hi]; have := hL.len; omega
  obtain ⟨r, hr⟩ : ∃ r, r = L[i] := ⟨_, rfl⟩
  rw [← hr] at rt rlt oc hro hset hrem hidE ⊢
  have x0 := oc.c0
  have x1 := oc.c1
  have x3 := oc.c3
  have x4 := oc.c4
  have xs := oc.soft
  clear h hr oc
  by_cases hin : r.pr = pr ∧ q ≤ r.q
  · have hbr : bRepl L i r pr q = ([⟨6, r.cl, r.id, 0, pr, q⟩], setQ L i q) := if_pos hin
    rw [hbr]
    have hb1 : (pr == r.pr) = true := by simp [hin.1]
    have hb2 : decide (q ≤ r.q) = true := decide_eq_true hin.2
    have e3 : r.pr = pr := hin.1
    have HST : Hid (BkAt (w.setCell ⟨g.A r.id, 4, none⟩ (.int .i64 q)) pb g (setQ L i q)) := hset
    have y0 : (w.setCell ⟨g.A r.id, 4, none⟩ (.int .i64 q)).cell? ⟨g.A r.id, 0, none⟩ = some (.int .i64 r.cl) := so x0 (by omega)
    have y1 : (w.setCell ⟨g.A r.id, 4, none⟩ (.int .i64 q)).cell? ⟨g.A r.id, 1, none⟩ = some (.int .i64 r.id) := so x1 (by omega)
    have y3 : (w.setCell ⟨g.A r.id, 4, none⟩ (.int .i64 q)).cell? ⟨g.A r.id, 3, none⟩ = some (.int .i64 pr) := by rw [← e3]; exact so x3 (by omega)
    have y4 : (w.setCell ⟨g.A r.id, 4, none⟩ (.int .i64 q)).cell? ⟨g.A r.id, 4, none⟩ = some (.int .i64 q) := ss x4
    have hlt2 : g.A r.id < (w.setCell ⟨g.A r.id, 4, none⟩ (.int .i64 q)).heap.size := Nat.lt_of_lt_of_le rlt (only_set w _ _ _).size
    have HY : Hid ((w.setCell ⟨g.A r.id, 4, none⟩ (.int .i64 q)).cell? ⟨g.A r.id, 0, none⟩ = some (.int .i64 r.cl) ∧ (w.setCell ⟨g.A r.id, 4, none⟩ (.int .i64 q)).cell? ⟨g.A r.id, 1, none⟩ = some (.int .i64 r.id) ∧ (w.setCell ⟨g.A r.id, 4, none⟩ (.int .i64 q)).cell? ⟨g.A r.id, 3, none⟩ = some (.int .i64 pr) ∧ (w.setCell ⟨g.A r.id, 4, none⟩ (.int .i64 q)).cell? ⟨g.A r.id, 4, none⟩ = some (.int .i64 q)) := ⟨y0, y1, y3, y4⟩
    have HRT : Hid (g.tag (g.A r.id) = some (.ord r.id)) := rt
    clear hbr hin hset hrem e3 y0 y1 y3 y4 rt
    go_enter Try.func56, Try.ntmps56
    go_wp2_with fail
    refine (rests_any _ r.cl r.id pr q hlt2 HY.out.1 HY.out.2.1 HY.out.2.2.1 HY.out.2.2.2).mono ?_
    rintro e w2 ⟨rfl, b2⟩
    unfold evV
    obtain ⟨w1, hw1⟩ : ∃ w1, w1 = w.setCell ⟨g.A r.id, 4, none⟩ (.int .i64 q) := ⟨_, rfl⟩
    have O1 : Only (fun b => g.tag b ≠ none) w w1 := by rw [hw1]; exact (only_set w _ _ _).mono (fun b _ e => by rw [e, HRT.out]; simp)
    rw [← hw1] at b2 HST
    clear HY hw1
    go_wp2_with fail
    go_ret
    go_light
    have B3 : Below w1.heap.size w1 (w2.alloc (.cells #[.int .i64 6, .int .i64 r.cl, .int .i64 r.id, .int .i64 0, .int .i64 pr, .int .i64 q] 48)) := b2.alloc b2.size _
    have s1 := O1.size
    have s2 := b2.size
    refine ⟨_, g, rfl, ⟨told_one w w2 ⟨6, r.cl, r.id, 0, pr, q⟩ (by omega), fun b hb => ?_⟩, HST.out.keep (Only.of_below (S := fun _ => False) B3) (fun _ _ => id), O1.trans (Only.of_below B3), fun _ h => .inl h⟩
    simp [Value.ownBlock] at hb
    subst hb
    exact Classical.byContradiction fun hne => by have := HST.out.tlt _ hne; omega
  · have hbr : bRepl L i r pr q = bEnter (L.eraseIdx i) 1 { r with pr := pr, q := q } := if_neg hin
    rw [hbr]
    obtain ⟨L', hL'⟩ : ∃ L', L' = L.eraseIdx i := ⟨_, rfl⟩
    have okE : BookOk L' := by rw [hL']; exact hL.erase i
    rw [← hL'] at hrem hidE hlenE ⊢
    obtain ⟨nE, hnE⟩ : ∃ x, x = (bEnter L' 1 { r with pr := pr, q := q }).1 := ⟨_, rfl⟩
    obtain ⟨nB, hnB⟩ : ∃ x, x = (bEnter L' 1 { r with pr := pr, q := q }).2 := ⟨_, rfl⟩
    rw [← hnE, ← hnB]
    have HNE : Hid (nE = (bEnter L' 1 { r with pr := pr, q := q }).1 ∧ nB = (bEnter L' 1 { r with pr := pr, q := q }).2) := ⟨hnE, hnB⟩
    have HREM : Hid (Calls Try.prog 80 #[.pointer (some ⟨pb, 0, none⟩), .pointer (some ⟨g.A r.id, 0, none⟩)] w fun e w' => e = .returned (.tuple #[]) ∧ Behind pb g L' w w' ∧ OdCells w' (g.A r.id) r) := hrem
    clear hnE hnB hbr hset hrem hL'
    obtain ⟨ra, hra⟩ : ∃ ra, ra = g.A r.id := ⟨_, rfl⟩
    rw [← hra] at x0 x1 x3 x4 HREM rlt ⊢
    clear hra rt xs
    by_cases hpe : r.pr = pr
    · have hb1 : (pr == r.pr) = true := by simp [hpe]
      have hb2 : decide (q ≤ r.q) = false := decide_eq_false (fun h => hin ⟨hpe, h⟩)
      clear hpe hin
      go_enter Try.func56, Try.ntmps56
      go_wp2_with fail
      refine Calls.mono HREM.out ?_
      rintro e w1 ⟨rfl, ⟨g1, ba1, on1, tn1, _, _⟩, oc⟩
      have y0 := oc.c0
      have y1 := oc.c1
      have y2 := oc.c2
      have rlt1 := Nat.lt_of_lt_of_le rlt on1.size
      have hfr := fresh_made w1 w1.drew (Below.refl _ _).drew { r with pr := pr, q := q }
      have hrst := rest_any { r with pr := pr, q := q } (ba1.keep (Only.of_below (S := fun _ => False) hfr.below) (fun _ _ => id)) okE ⟨hro.1, hro.2.1, hro.2.2.1, hp, hq⟩ hlenE hidE (hfr.coming ba1)
      rw [← HNE.out.1, ← HNE.out.2] at hrst
      have HB1 : Hid (BkAt w1 pb g1 L') := ba1
      have HO1 : Hid (Only (fun b => g.tag b ≠ none) w w1) := on1
      have HN1 : Hid (∀ k, g1.tag k ≠ none → g.tag k ≠ none ∨ w.heap.size ≤ k) := tn1
      have HRS : Hid (Calls Try.prog 52 #[.pointer (some ⟨pb, 0, none⟩), .pointer (some ⟨w1.drew.heap.size, 0, none⟩)] (w1.drew.alloc (.cells #[.int .i64 r.cl, .int .i64 r.id, .int .i64 r.sd, .int .i64 pr, .int .i64 q, .pointer none, .pointer none] 107)) fun e w' => ∃ v g', e = .returned v ∧ Told (w1.drew.alloc (.cells #[.int .i64 r.cl, .int .i64 r.id, .int .i64 r.sd, .int .i64 pr, .int .i64 q, .pointer none, .pointer none] 107)) w' g' v nE ∧ BkAt w' pb g' nB ∧
        Only (fun b => g1.tag b ≠ none ∨ b = w1.drew.heap.size) (w1.drew.alloc (.cells #[.int .i64 r.cl, .int .i64 r.id, .int .i64 r.sd, .int .i64 pr, .int .i64 q, .pointer none, .pointer none] 107)) w' ∧ (∀ k, g'.tag k ≠ none → g1.tag k ≠ none ∨ k = w1.drew.heap.size ∨ (w1.drew.alloc (.cells #[.int .i64 r.cl, .int .i64 r.id, .int .i64 r.sd, .int .i64 pr, .int .i64 q, .pointer none, .pointer none] 107)).heap.size ≤ k)) := hrst
      clear ba1 on1 tn1 oc hfr hrst x0 x1 x3 x4 HREM
      go_wp2_with fail
      go_region_with ((go_at_call 52; refine Calls.mono HRS.out ?_; rintro e w4 ⟨v4, g4, rfl, to4, ba4, on4, tn4⟩))
      all_goals (
        go_simp
        obtain ⟨r1, r2, r3, r4⟩ := again HO1.out HN1.out to4 ba4 on4 tn4
        clear to4 ba4 on4 tn4
        go_wp2_with fail
        go_ret
        exact ⟨_, g4, rfl, r1, r2, r3, r4⟩)
    · have hb1 : (pr == r.pr) = false := by simp; exact fun h => hpe h.symm
      clear hpe hin
      go_enter Try.func56, Try.ntmps56
      go_wp2_with fail
      refine Calls.mono HREM.out ?_
      rintro e w1 ⟨rfl, ⟨g1, ba1, on1, tn1, _, _⟩, oc⟩
      have y0 := oc.c0
      have y1 := oc.c1
      have y2 := oc.c2
      have rlt1 := Nat.lt_of_lt_of_le rlt on1.size
      have hfr := fresh_made w1 w1.drew (Below.refl _ _).drew { r with pr := pr, q := q }
      have hrst := rest_any { r with pr := pr, q := q } (ba1.keep (Only.of_below (S := fun _ => False) hfr.below) (fun _ _ => id)) okE ⟨hro.1, hro.2.1, hro.2.2.1, hp, hq⟩ hlenE hidE (hfr.coming ba1)
      rw [← HNE.out.1, ← HNE.out.2] at hrst
      have HB1 : Hid (BkAt w1 pb g1 L') := ba1
      have HO1 : Hid (Only (fun b => g.tag b ≠ none) w w1) := on1
      have HN1 : Hid (∀ k, g1.tag k ≠ none → g.tag k ≠ none ∨ w.heap.size ≤ k) := tn1
      have HRS : Hid (Calls Try.prog 52 #[.pointer (some ⟨pb, 0, none⟩), .pointer (some ⟨w1.drew.heap.size, 0, none⟩)] (w1.drew.alloc (.cells #[.int .i64 r.cl, .int .i64 r.id, .int .i64 r.sd, .int .i64 pr, .int .i64 q, .pointer none, .pointer none] 107)) fun e w' => ∃ v g', e = .returned v ∧ Told (w1.drew.alloc (.cells #[.int .i64 r.cl, .int .i64 r.id, .int .i64 r.sd, .int .i64 pr, .int .i64 q, .pointer none, .pointer none] 107)) w' g' v nE ∧ BkAt w' pb g' nB ∧
        Only (fun b => g1.tag b ≠ none ∨ b = w1.drew.heap.size) (w1.drew.alloc (.cells #[.int .i64 r.cl, .int .i64 r.id, .int .i64 r.sd, .int .i64 pr, .int .i64 q, .pointer none, .pointer none] 107)) w' ∧ (∀ k, g'.tag k ≠ none → g1.tag k ≠ none ∨ k = w1.drew.heap.size ∨ (w1.drew.alloc (.cells #[.int .i64 r.cl, .int .i64 r.id, .int .i64 r.sd, .int .i64 pr, .int .i64 q, .pointer none, .pointer none] 107)).heap.size ≤ k)) := hrst
      clear ba1 on1 tn1 oc hfr hrst x0 x1 x3 x4 HREM
      go_wp2_with fail
      go_region_with ((go_at_call 52; refine Calls.mono HRS.out ?_; rintro e w4 ⟨v4, g4, rfl, to4, ba4, on4, tn4⟩))
      all_goals (
        go_simp
        obtain ⟨r1, r2, r3, r4⟩ := again HO1.out HN1.out to4 ba4 on4 tn4
        clear to4 ba4 on4 tn4
        go_wp2_with fail
        go_ret
        exact ⟨_, g4, rfl, r1, r2, r3, r4⟩)
end Go.Proofs.Ytbljokilfkodfaa
/-
  The book: a command that is taken (done).
-/
namespace Go.Proofs.Ytbljokilfkodfaa
open Go.RowKit

/-- What a command that is taken brings, behind Accepted. -/
def bDone (L : List Od) (c : Cm) : List Ev × List Od :=
  if c.k = 5 then ([⟨5, c.cl, c.id, 0, 0, (L.getD ((bFind L c.id).getD 0) od0).q⟩], L.eraseIdx ((bFind L c.id).getD 0))
  else if c.k = 6 then
    if (L.getD ((bFind L c.id).getD 0) od0).pr = c.pr ∧ c.q ≤ (L.getD ((bFind L c.id).getD 0) od0).q then ([⟨6, c.cl, c.id, 0, c.pr, c.q⟩], L.set ((bFind L c.id).getD 0) { L.getD ((bFind L c.id).getD 0) od0 with q := c.q })
    else bEnter (L.eraseIdx ((bFind L c.id).getD 0)) 1 { L.getD ((bFind L c.id).getD 0) od0 with pr := c.pr, q := c.q }
  else bEnter L c.k (cmOd c)
theorem do_done {L : List Od} {c : Cm} (h : bRefused L c = 0) : bDo L c = (evAccepted c :: (bDone L c).1, (bDone L c).2) := by
  unfold bDo bDone
  rw [if_pos h]
  simp only
  split
  · rfl
  · split
    · split <;> rfl
    · rfl
theorem taken_there {L : List Od} {c : Cm} (h : bRefused L c = 0) (hk : c.k = 5 ∨ c.k = 6) : ∃ i, bFind L c.id = some i ∧ (L.getD i od0).cl = c.cl := by
  have hf := fair_of_taken h
  unfold bRefused at h
  rw [if_pos hf, if_pos hk] at h
  cases hb : bFind L c.id with
  | none => rw [hb] at h; simp at h
  | some i =>
    rw [hb] at h
    simp only at h
    refine ⟨i, rfl, ?_⟩
    by_cases e : (L.getD i od0).cl = c.cl
    · exact e
    · rw [if_neg e] at h; omega
theorem taken_new {L : List Od} {c : Cm} (h : bRefused L c = 0) (hk : ¬ (c.k = 5 ∨ c.k = 6)) : c.id ∉ L.map Od.id ∧ (c.k = 1 → L.length < 12) := by
  have hf := fair_of_taken h
  unfold bRefused at h
  rw [if_pos hf, if_neg hk] at h
  cases hb : bFind L c.id with
  | some i => rw [hb] at h; simp at h
  | none =>
    rw [hb] at h
    simp only at h
    refine ⟨bFind_none hb, fun h1 => ?_⟩
    by_cases e : c.k = 1 ∧ 12 ≤ L.length
    · rw [if_pos e] at h; omega
    · omega
theorem far_code {c : Cm} (hf : cmFair c = true) (h5 : c.k ≠ 5) (h6 : c.k ≠ 6) : farV c.k c.sd c.pr = codePr c.sd c.pr := by
  have hp := (fair_parts hf).2 h5 h6
  unfold farV codePr
  by_cases h2 : c.k = 2
  · have h0 : c.pr = 0 := by
      unfold cmFair fairB at hf
      simp only [Bool.and_eq_true, inB_iff] at hf
      have := hf.2
      rw [if_pos h2] at this
      simp only [Bool.and_eq_true, inB_iff, decide_eq_true_eq] at this
      omega
    by_cases hs : c.sd = 1
    · rw [if_pos ⟨h2, hs⟩, if_pos ⟨h0, hs⟩]
    · rw [if_neg (fun h => hs h.2), if_neg (fun h => hs h.2)]
  · rw [if_neg (fun h => h2 h.1), if_neg (by have := hp.2.2 h2; omega)]

/-- Behind what a call brings: the book, what is told, what is new. -/
def Came (w : World) (pb : Nat) (g : Gh) (E : List Ev) (B : List Od) (e : Ending) (w' : World) : Prop :=
  ∃ v g', e = .returned v ∧ Told w w' g' v E ∧ BkAt w' pb g' B ∧ Only (fun b => g.tag b ≠ none) w w' ∧ (∀ k, g'.tag k ≠ none → g.tag k ≠ none ∨ w.heap.size ≤ k)
theorem came_of {w w2 w4 : World} {pb ob : Nat} {g g4 : Gh} {v4 : Value} {E : List Ev} {B : List Od} (hb : Below w.heap.size w w2) (hge : w.heap.size ≤ ob) (to4 : Told w2 w4 g4 v4 E) (ba4 : BkAt w4 pb g4 B)
    (on4 : Only (fun b => g.tag b ≠ none ∨ b = ob) w2 w4) (tn4 : ∀ k, g4.tag k ≠ none → g.tag k ≠ none ∨ k = ob ∨ w2.heap.size ≤ k) : Came w pb g E B (.returned v4) w4 := by
  have s1 := hb.size
  refine ⟨v4, g4, rfl, to4.base s1, ba4, ?_, fun k hk => ?_⟩
  · refine Only.then (Only.of_below hb) on4 (fun b hb hor => ?_)
    rcases hor with h | h
    · exact h
    · omega
  · rcases tn4 k hk with h | h | h
    · exact .inl h
    · exact .inr (by omega)
    · exact .inr (by omega)

set_option maxRecDepth 100000 in
set_option maxHeartbeats 1000000 in
theorem done_limit {w : World} {pb : Nat} {g : Gh} {L : List Od} (h : BkAt w pb g L) (hL : BookOk L) (c : Cm) (hr : bRefused L c = 0) (hk : c.k = 1) :
    Calls Try.prog 35 #[.pointer (some ⟨pb, 0, none⟩), .agg #[.int .i64 c.k, .int .i64 c.cl, .int .i64 c.id, .int .i64 c.sd, .int .i64 c.pr, .int .i64 c.q]] w (Came w pb g (bDone L c).1 (bDone L c).2) := by
  have hf := fair_of_taken hr
  obtain ⟨_, ⟨c1, c2⟩, ⟨i1, i2⟩, _, _, _⟩ := fairB_bounds hf
  have hp := (fair_parts hf).2 (by omega) (by omega)
  have hp2 := hp.2.2 (by omega)
  have hnw := taken_new hr (by omega)
  have hd : bDone L c = bEnter L 1 (cmOd c) := by unfold bDone; rw [if_neg (by omega), if_neg (by omega), hk]
  rw [hd]
  have hfa : farV c.k c.sd c.pr = c.pr := by unfold farV; rw [if_neg (by omega)]
  have hor := fun W => orderOf_any c.k c.cl c.id c.sd c.pr c.q W
  rw [hfa] at hor
  have HOR : Hid (∀ W, Calls Try.prog 53 #[.agg #[.int .i64 c.k, .int .i64 c.cl, .int .i64 c.id, .int .i64 c.sd, .int .i64 c.pr, .int .i64 c.q]] W fun e w' => ∃ ob, e = .returned (.pointer (some ⟨ob, 0, none⟩)) ∧ Fresh W w' ob (cmOd c)) := hor
  have H : Hid (BkAt w pb g L) := h
  have hkb : (c.k == 1) = true := by simp [hk]
  obtain ⟨nE, hnE⟩ : ∃ x, x = (bEnter L 1 (cmOd c)).1 := ⟨_, rfl⟩
  obtain ⟨nB, hnB⟩ : ∃ x, x = (bEnter L 1 (cmOd c)).2 := ⟨_, rfl⟩
  rw [← hnE, ← hnB]
  have HNE : Hid (nE = (bEnter L 1 (cmOd c)).1 ∧ nB = (bEnter L 1 (cmOd c)).2) := ⟨hnE, hnB⟩
  have HOK : Hid (OdOk (cmOd c) ∧ L.length < 12 ∧ (cmOd c).id ∉ L.map Od.id) := ⟨⟨⟨c1, c2⟩, ⟨i1, i2⟩, hp.1, hp2, hp.2.1⟩, hnw.2 hk, hnw.1⟩
  clear hk hd hfa hor h hr hf hp hp2 hnw hnE hnB
  go_enter Try.func35, Try.ntmps35
  go_wp2_with fail
  refine Calls.mono (HOR.out _) ?_
  rintro e w2 ⟨ob, rfl, fr⟩
  have B1 : Below w.heap.size w (w.alloc (.cells #[.int .i64 c.k, .int .i64 c.cl, .int .i64 c.id, .int .i64 c.sd, .int .i64 c.pr, .int .i64 c.q] 32)) := (Below.refl _ _).alloc (Nat.le_refl _) _
  have B2 : Below w.heap.size w w2 := B1.trans (fr.below.mono B1.size)
  have hge : w.heap.size ≤ ob := Nat.le_trans B1.size fr.ge
  have ba2 := H.out.keep (Only.of_below (S := fun _ => False) B2) (fun _ _ => id)
  have hrs := rest_any (cmOd c) ba2 hL HOK.out.1 HOK.out.2.1 HOK.out.2.2 ⟨fr.cells, fr.lt, Classical.byContradiction fun hne => by have := H.out.tlt _ hne; omega, ⟨_, fr.x5⟩, fr.x6⟩
  rw [← HNE.out.1, ← HNE.out.2] at hrs
  have HRS : Hid (Calls Try.prog 52 #[.pointer (some ⟨pb, 0, none⟩), .pointer (some ⟨ob, 0, none⟩)] w2 fun e w' => ∃ v g', e = .returned v ∧ Told w2 w' g' v nE ∧ BkAt w' pb g' nB ∧ Only (fun b => g.tag b ≠ none ∨ b = ob) w2 w' ∧ (∀ k, g'.tag k ≠ none → g.tag k ≠ none ∨ k = ob ∨ w2.heap.size ≤ k)) := hrs
  have HB2 : Hid (Below w.heap.size w w2) := B2
  clear hrs ba2 fr B1 B2 HOR
  go_wp2_with fail
  refine Calls.mono HRS.out ?_
  rintro e w4 ⟨v4, g4, rfl, to4, ba4, on4, tn4⟩
  have HC : Hid (Came w pb g nE nB (.returned v4) w4) := came_of HB2.out hge to4 ba4 on4 tn4
  clear to4 ba4 on4 tn4 HRS
  go_wp2_with fail
  go_ret
  exact HC.out

set_option maxRecDepth 100000 in
set_option maxHeartbeats 1000000 in
theorem done_whole {w : World} {pb : Nat} {g : Gh} {L : List Od} (h : BkAt w pb g L) (hL : BookOk L) (c : Cm) (hr : bRefused L c = 0) (hk : c.k = 4) :
    Calls Try.prog 35 #[.pointer (some ⟨pb, 0, none⟩), .agg #[.int .i64 c.k, .int .i64 c.cl, .int .i64 c.id, .int .i64 c.sd, .int .i64 c.pr, .int .i64 c.q]] w (Came w pb g (bDone L c).1 (bDone L c).2) := by
  have hf := fair_of_taken hr
  have hp := (fair_parts hf).2 (by omega) (by omega)
  have hp2 := hp.2.2 (by omega)
  have hd : bDone L c = bEnter L 4 (cmOd c) := by unfold bDone; rw [if_neg (by omega), if_neg (by omega), hk]
  rw [hd]
  have hfa : farV c.k c.sd c.pr = c.pr := by unfold farV; rw [if_neg (by omega)]
  have hor := fun W => orderOf_any c.k c.cl c.id c.sd c.pr c.q W
  rw [hfa] at hor
  have HOR : Hid (∀ W, Calls Try.prog 53 #[.agg #[.int .i64 c.k, .int .i64 c.cl, .int .i64 c.id, .int .i64 c.sd, .int .i64 c.pr, .int .i64 c.q]] W fun e w' => ∃ ob, e = .returned (.pointer (some ⟨ob, 0, none⟩)) ∧ Fresh W w' ob (cmOd c)) := hor
  have H : Hid (BkAt w pb g L) := h
  have hkb : (c.k == 1) = false := by simp; omega
  have hkb4 : (c.k == 4) = true := by simp [hk]
  obtain ⟨nE, hnE⟩ : ∃ x, x = (bEnter L 4 (cmOd c)).1 := ⟨_, rfl⟩
  obtain ⟨nB, hnB⟩ : ∃ x, x = (bEnter L 4 (cmOd c)).2 := ⟨_, rfl⟩
  rw [← hnE, ← hnB]
  have HNE : Hid (nE = (bEnter L 4 (cmOd c)).1 ∧ nB = (bEnter L 4 (cmOd c)).2) := ⟨hnE, hnB⟩
  have HOK : Hid (((cmOd c).sd = 1 ∨ (cmOd c).sd = 2) ∧ (1 ≤ (cmOd c).pr ∧ (cmOd c).pr ≤ 99) ∧ (1 ≤ (cmOd c).q ∧ (cmOd c).q ≤ 99)) := ⟨by show c.sd = 1 ∨ c.sd = 2; omega, hp2, hp.2.1⟩
  clear hk hd hfa hor h hr hf hp hp2 hnE hnB
  go_enter Try.func35, Try.ntmps35
  go_wp2_with fail
  refine Calls.mono (HOR.out _) ?_
  rintro e w2 ⟨ob, rfl, fr⟩
  have B1 : Below w.heap.size w (w.alloc (.cells #[.int .i64 c.k, .int .i64 c.cl, .int .i64 c.id, .int .i64 c.sd, .int .i64 c.pr, .int .i64 c.q] 32)) := (Below.refl _ _).alloc (Nat.le_refl _) _
  have B2 : Below w.heap.size w w2 := B1.trans (fr.below.mono B1.size)
  have hge : w.heap.size ≤ ob := Nat.le_trans B1.size fr.ge
  have ba2 := H.out.keep (Only.of_below (S := fun _ => False) B2) (fun _ _ => id)
  have hrs := whole_any (cmOd c) ba2 hL HOK.out.1 HOK.out.2.1 HOK.out.2.2 ⟨fr.cells, fr.lt, Classical.byContradiction fun hne => by have := H.out.tlt _ hne; omega, ⟨_, fr.x5⟩, fr.x6⟩
  rw [← HNE.out.1, ← HNE.out.2] at hrs
  have HRS : Hid (Calls Try.prog 54 #[.pointer (some ⟨pb, 0, none⟩), .pointer (some ⟨ob, 0, none⟩)] w2 fun e w' => ∃ v g', e = .returned v ∧ Told w2 w' g' v nE ∧ BkAt w' pb g' nB ∧ Only (fun b => g.tag b ≠ none ∨ b = ob) w2 w' ∧ (∀ k, g'.tag k ≠ none → g.tag k ≠ none ∨ k = ob ∨ w2.heap.size ≤ k)) := hrs
  have HB2 : Hid (Below w.heap.size w w2) := B2
  clear hrs ba2 fr B1 B2 HOR
  go_wp2_with fail
  refine Calls.mono HRS.out ?_
  rintro e w4 ⟨v4, g4, rfl, to4, ba4, on4, tn4⟩
  have HC : Hid (Came w pb g nE nB (.returned v4) w4) := came_of HB2.out hge to4 ba4 on4 tn4
  clear to4 ba4 on4 tn4 HRS
  go_wp2_with fail
  go_ret
  exact HC.out

set_option maxRecDepth 100000 in
set_option maxHeartbeats 1000000 in
theorem done_go {w : World} {pb : Nat} {g : Gh} {L : List Od} (h : BkAt w pb g L) (hL : BookOk L) (c : Cm) (hr : bRefused L c = 0) (hk : c.k = 2 ∨ c.k = 3) :
    Calls Try.prog 35 #[.pointer (some ⟨pb, 0, none⟩), .agg #[.int .i64 c.k, .int .i64 c.cl, .int .i64 c.id, .int .i64 c.sd, .int .i64 c.pr, .int .i64 c.q]] w (Came w pb g (bDone L c).1 (bDone L c).2) := by
  have hf := fair_of_taken hr
  obtain ⟨_, _, _, _, hpr, _⟩ := fairB_bounds hf
  have hp := (fair_parts hf).2 (by omega) (by omega)
  have hd : bDone L c = bGo L (cmOd c) := by unfold bDone; rw [if_neg (by omega), if_neg (by omega)]; exact enter_go _ _ _ (by omega) (by omega)
  rw [hd]
  have hfa := far_code hf (by omega) (by omega)
  have hor := fun W => orderOf_any c.k c.cl c.id c.sd c.pr c.q W
  rw [hfa] at hor
  have HOR : Hid (∀ W, Calls Try.prog 53 #[.agg #[.int .i64 c.k, .int .i64 c.cl, .int .i64 c.id, .int .i64 c.sd, .int .i64 c.pr, .int .i64 c.q]] W fun e w' => ∃ ob, e = .returned (.pointer (some ⟨ob, 0, none⟩)) ∧ Fresh W w' ob (codeOd (cmOd c) (cmOd c).q)) := hor
  have H : Hid (BkAt w pb g L) := h
  have hkb : (c.k == 1) = false := by simp; omega
  have hkb4 : (c.k == 4) = false := by simp; omega
  have hkb5 : (c.k == 5) = false := by simp; omega
  have hkb6 : (c.k == 6) = false := by simp; omega
  obtain ⟨nE, hnE⟩ : ∃ x, x = (bGo L (cmOd c)).1 := ⟨_, rfl⟩
  obtain ⟨nB, hnB⟩ : ∃ x, x = (bGo L (cmOd c)).2 := ⟨_, rfl⟩
  rw [← hnE, ← hnB]
  have HNE : Hid (nE = (bGo L (cmOd c)).1 ∧ nB = (bGo L (cmOd c)).2) := ⟨hnE, hnB⟩
  have HOK : Hid (((cmOd c).sd = 1 ∨ (cmOd c).sd = 2) ∧ (0 ≤ (cmOd c).pr ∧ (cmOd c).pr ≤ 99) ∧ (1 ≤ (cmOd c).q ∧ (cmOd c).q ≤ 99)) := ⟨by show c.sd = 1 ∨ c.sd = 2; omega, hpr, hp.2.1⟩
  clear hk hd hfa hor h hr hf hp hnE hnB
  go_enter Try.func35, Try.ntmps35
  go_wp2_with fail
  refine Calls.mono (HOR.out _) ?_
  rintro e w2 ⟨ob, rfl, fr⟩
  have B1 : Below w.heap.size w (w.alloc (.cells #[.int .i64 c.k, .int .i64 c.cl, .int .i64 c.id, .int .i64 c.sd, .int .i64 c.pr, .int .i64 c.q] 32)) := (Below.refl _ _).alloc (Nat.le_refl _) _
  have B2 : Below w.heap.size w w2 := B1.trans (fr.below.mono B1.size)
  have hge : w.heap.size ≤ ob := Nat.le_trans B1.size fr.ge
  have ba2 := H.out.keep (Only.of_below (S := fun _ => False) B2) (fun _ _ => id)
  have hrs := go_any (cmOd c) ba2 hL HOK.out.1 HOK.out.2.1 HOK.out.2.2 ⟨fr.cells, fr.lt, Classical.byContradiction fun hne => by have := H.out.tlt _ hne; omega, ⟨_, fr.x5⟩, fr.x6⟩
  rw [← HNE.out.1, ← HNE.out.2] at hrs
  have HRS : Hid (Calls Try.prog 57 #[.pointer (some ⟨pb, 0, none⟩), .pointer (some ⟨ob, 0, none⟩)] w2 fun e w' => ∃ v g', e = .returned v ∧ Told w2 w' g' v nE ∧ BkAt w' pb g' nB ∧ Only (fun b => g.tag b ≠ none ∨ b = ob) w2 w' ∧ (∀ k, g'.tag k ≠ none → g.tag k ≠ none ∨ k = ob ∨ w2.heap.size ≤ k)) := hrs
  have HB2 : Hid (Below w.heap.size w w2) := B2
  clear hrs ba2 fr B1 B2 HOR
  go_wp2_with fail
  refine Calls.mono HRS.out ?_
  rintro e w4 ⟨v4, g4, rfl, to4, ba4, on4, tn4⟩
  have HC : Hid (Came w pb g nE nB (.returned v4) w4) := came_of HB2.out hge to4 ba4 on4 tn4
  clear to4 ba4 on4 tn4 HRS
  go_wp2_with fail
  go_ret
  exact HC.out
end Go.Proofs.Ytbljokilfkodfaa
