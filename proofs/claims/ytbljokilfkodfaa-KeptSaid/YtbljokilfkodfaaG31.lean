/-
  The book: the levels, sorted.
-/
import Derived.Test.YtbljokilfkodfaaG14
import Derived.Test.YtbljokilfkodfaaG30
import Derived.Test.YtbljokilfkodfaaG7
import Derived.Shelf.SlSortCmp.NoneTotal
namespace Go.Proofs.Ytbljokilfkodfaa
open Go.RowKit Go.Shelf Go.Sort

def mkLv (L : List Od) (sd p : Int) : Lv := ⟨p, wsum (atLv sd p) L, ((lvIds L sd p).length : Int)⟩
def lvEnc (L : List Od) (sd p : Int) : List Value := [.int .i64 p, .int .i64 (wsum (atLv sd p) L), .int .i64 ((lvIds L sd p).length : Int)]

theorem only_sortK {α : Type} [Inhabited α] (enc : α → List Value) (k : Nat) (w : World) (blk off n : Nat) (d : Array α) (os : Array Obj) : Only (fun b => b = blk) w (sortWorldK enc k w blk off n d os) := by
  refine ⟨rfl, rfl, rfl, size_sortWorldK_c enc k w blk off n d os, fun b hb hne => ?_⟩
  show (w.heap.modify blk (onCells (putCells id off (flatK enc k d))) ++ os)[b]? = w.heap[b]?
  rw [Array.getElem?_append_left (by simpa using hb), Array.getElem?_modify]
  rw [if_neg (fun e : blk = b => hne e.symm)]

set_option maxRecDepth 100000 in
set_option maxHeartbeats 1000000 in
theorem cmp_clo {W : World} (hb pb : Nat) (sd x0 x1 x2 y0 y1 y2 : Int) (hW : W.cell? ⟨hb, 0, none⟩ = some (.pointer (some ⟨pb, offS sd, none⟩))) (hs : W.cell? ⟨pb, offS sd, none⟩ = some (.int .i64 sd)) (hbl : hb < W.heap.size) (pbl : pb < W.heap.size) :
    Calls Try.prog 65 #[.agg #[.int .i64 x0, .int .i64 x1, .int .i64 x2], .agg #[.int .i64 y0, .int .i64 y1, .int .i64 y2], .pointer (some ⟨hb, 0, none⟩)] W fun e w' => e = .returned (.int .i64 (cmpS sd x0 y0)) ∧ ∃ q os', w' = grow (W.drewN q) os' := by
  have h1 : ∀ o1 o2, ((W.alloc o1).alloc o2).cell? ⟨hb, 0, none⟩ = some (.pointer (some ⟨pb, offS sd, none⟩)) := fun o1 o2 => (World.cell?_alloc_past _ _ _ (by rw [World.size_alloc]; omega)).trans ((World.cell?_alloc_past _ _ _ hbl).trans hW)
  have h2 : ∀ o1 o2, ((W.alloc o1).alloc o2).cell? ⟨pb, offS sd, none⟩ = some (.int .i64 sd) := fun o1 o2 => (World.cell?_alloc_past _ _ _ (by rw [World.size_alloc]; omega)).trans ((World.cell?_alloc_past _ _ _ pbl).trans hs)
  have H2 : Hid (∀ o1 o2, ((W.alloc o1).alloc o2).cell? ⟨pb, offS sd, none⟩ = some (.int .i64 sd)) := h2
  clear h2 hW hs
  go_enter Try.func65, Try.ntmps65
  go_wp2_with fail
  refine (hcompare_any pb (offS sd) sd _ _ _ (H2.out _ _)).mono ?_
  rintro e w' ⟨rfl, rfl⟩
  go_wp2_with fail
  go_ret
  exact ⟨rfl, 0, _, by rw [alloc_eq_grow, alloc_eq_grow, grow_grow]; rfl⟩

theorem ltS (sd x y : Int) : ltOf (cmpS sd) x y = decide (keyOf' sd x < keyOf' sd y) := by
  unfold ltOf
  rw [decide_eq_decide]
  exact cmpS_lt sd x y
theorem swoS (sd : Int) : SWO (ltOf (cmpS sd)) where
  irrefl x := by rw [ltS]; simp
  trans x y z h1 h2 := by rw [ltS] at *; simp at *; omega
  ntrans x y z h1 h2 := by rw [ltS] at *; simp at *; omega

theorem lvRows_map (L : List Od) (sd : Int) (V : List Int) (j i : Nat) (hj : j < V.length) (hi : i < 3) : (lvRows (V.map (mkLv L sd)))[j * 3 + i]? = some ((lvEnc L sd V[j])[i]!) := by
  rw [lvRows_at _ j i (by simpa using hj) hi]
  have e : (V.map (mkLv L sd)).getD j lv0 = mkLv L sd V[j] := by
    rw [List.getD_eq_getElem?_getD, List.getElem?_map, List.getElem?_eq_getElem hj]; rfl
  rcases (by omega : i = 0 ∨ i = 1 ∨ i = 2) with rfl | rfl | rfl
  · show some (Value.int .i64 ((V.map (mkLv L sd)).getD j lv0).pr) = _
    rw [e]; rfl
  · show some (Value.int .i64 ((V.map (mkLv L sd)).getD j lv0).q) = _
    rw [e]; rfl
  · show some (Value.int .i64 ((V.map (mkLv L sd)).getD j lv0).n) = _
    rw [e]; rfl

theorem holds_lv {w : World} {base blk cap : Nat} {L : List Od} {sd : Int} {V : List Int} (own : w.ownsRow base 103 3 (.slice (some ⟨blk, 0, none⟩) V.length cap) V.length (lvRows (V.map (mkLv L sd)))) : HoldsK (lvEnc L sd) 3 w blk 0 V.toArray := by
  intro t ht
  have ht' : t < V.length * 3 := by simpa using ht
  have hq : t / 3 < V.length := by omega
  have hc := own.cellAt t ht'
  have hd : t = t / 3 * 3 + t % 3 := by omega
  have hr := lvRows_map L sd V (t / 3) (t % 3) hq (by omega)
  rw [← hd] at hr
  rw [hr] at hc
  rw [Nat.zero_add]
  refine ⟨?_, own.frozenAt t⟩
  rw [hc]
  show _ = some (flatK (lvEnc L sd) 3 V.toArray)[t]!
  rw [get_flatK _ _ _ _ (by simpa using ht')]
  have : V.toArray[t / 3]! = V[t / 3] := by rw [getElem!_pos V.toArray (t / 3) (by simpa using hq)]; simp
  rw [this]

/-- The levels behind the sort. -/
theorem sort_any {w : World} {base blk cap hb pb : Nat} {L : List Od} {sd : Int} {V : List Int} (own : w.ownsRow base 103 3 (.slice (some ⟨blk, 0, none⟩) V.length cap) V.length (lvRows (V.map (mkLv L sd)))) (hl : V.length ≤ 13)
    (h1 : hb ≠ blk) (h2 : pb ≠ blk) (hW : w.cell? ⟨hb, 0, none⟩ = some (.pointer (some ⟨pb, offS sd, none⟩))) (hs : w.cell? ⟨pb, offS sd, none⟩ = some (.int .i64 sd)) (hbl : hb < w.heap.size) (pbl : pb < w.heap.size) :
    Calls Try.prog 64 #[.slice (some ⟨blk, 0, none⟩) V.length cap, .func (.func 65) #[] #[.pointer (some ⟨hb, 0, none⟩)]] w fun e w' => e = .returned (.tuple #[]) ∧ Only (fun b => b = blk) w w' ∧
      ∀ j i, j < V.length → i < 3 → w'.cell? ⟨blk, 0 + j * 3 + i, none⟩ = some (.int .i64 (lvZ ((sortP sd V).map (mkLv L sd)) j i)) ∧ w'.frozen? ⟨blk, 0 + j * 3 + i, none⟩ = false := by
  have hH := holds_lv own
  have hblk : blk < w.heap.size := (own.lt blk rfl).2
  have eg : ∀ args w, (callFunc 65 args).run Try.prog w = .ok (.enter 65 args) w := enters_of Try.func65 (by kernel_rfl) rfl
  have hcmp : CmpLays Try.prog 65 #[.pointer (some ⟨hb, 0, none⟩)] (lvEnc L sd) 3 (cmpS sd) blk 0 V.toArray.size w := fun m os dk _ x y => by
    have on := only_sortK (lvEnc L sd) 3 w blk 0 m dk os
    exact cmp_clo hb pb sd _ _ _ _ _ _ ((on.cell hbl h1).trans hW) ((on.cell pbl h2).trans hs) (Nat.lt_of_lt_of_le hbl on.size) (Nat.lt_of_lt_of_le pbl on.size)
  have hcon := AnyQ.slices_SortFunc_total sortLv 3 Try.isAgg103 Try.sizeOf103 (lvEnc L sd) (fun _ => rfl) (fun x v hv => by simp [lvEnc] at hv; rcases hv with rfl | rfl | rfl <;> rfl) (cmpS sd) (swoS sd) 65 #[.pointer (some ⟨hb, 0, none⟩)] blk 0 cap V.toArray w eg hcmp hH hblk (by simp; omega) (fun x y a b => by
    rw [ltS] at a
    rw [ltS] at b
    have a := of_decide_eq_false a
    have b := of_decide_eq_false b
    exact key_inj (sd := sd) (by omega))
  have hsz : V.toArray.size = V.length := by simp
  rw [hsz] at hcon
  refine Calls.mono hcon ?_
  rintro e w' ⟨rfl, n, os, rfl⟩
  have hsp : (V.toArray.toList.mergeSort fun x y => !ltOf (cmpS sd) y x) = sortP sd V := by
    unfold sortP
    congr 1
    funext x y
    rw [ltS]
  rw [hsp]
  have hlen : (sortP sd V).length = V.length := (sortP_perm sd V).length_eq
  refine ⟨rfl, only_sortK _ _ _ _ _ _ _ _, fun j i hj hi => ?_⟩
  have hh := holdsK_sortWorldK_c (lvEnc L sd) 3 w blk 0 V.toArray (sortP sd V).toArray n os hH hblk (by simp [hlen])
  have hc := hh.cell (i := j) (c := i) (by simp [hlen, hj]) hi
  have hj' : j < (sortP sd V).length := by omega
  have e1 : (sortP sd V).toArray[j]! = (sortP sd V)[j] := by rw [getElem!_pos (sortP sd V).toArray j (by simpa using hj')]; simp
  rw [e1] at hc
  refine ⟨hc.1.trans ?_, hc.2⟩
  have h3 := lvRows_map L sd (sortP sd V) j i hj' hi
  rw [lvRows_at _ j i (by simpa using hj') hi] at h3
  exact h3.symm
end Go.Proofs.Ytbljokilfkodfaa
/-
  The book: Depth.
-/
namespace Go.Proofs.Ytbljokilfkodfaa
open Go.RowKit

theorem infoCL : (Try.prog.info? 103).map (fun i => (i.zero, i.size, i.bytes)) = some (some (.agg #[.int .i64 0, .int .i64 0, .int .i64 0]), 3, 24) := by kernel_rfl
theorem sortP_nil (sd : Int) : sortP sd [] = [] := (sortP_perm sd []).eq_nil
theorem below_only {w w' : World} (o : Only (fun _ => False) w w') : Below w.heap.size w w' := ⟨o.os, o.tape, o.output, o.size, fun k hk => o.block k hk id⟩
theorem inB_side {sd : Int} : inB sd 1 2 = true ↔ (sd = 1 ∨ sd = 2) := by rw [inB_iff]; omega

set_option maxRecDepth 100000 in
set_option maxHeartbeats 1000000 in
theorem depth_any {w : World} {pb : Nat} {g : Gh} {L : List Od} (h : BkAt w pb g L) (sd : Int) :
    Calls Try.prog 42 #[.pointer (some ⟨pb, 0, none⟩), .int .i64 sd] w fun e w' => ∃ lv, e = .returned lv ∧ IsRow w' w.heap.size (fun k => g.tag k ≠ none) 3 lv (bDepth L sd).length (lvZ (bDepth L sd)) ∧ BkAt w' pb g L ∧ Below w.heap.size w w' := by
  by_cases hsd : sd = 1 ∨ sd = 2
  · obtain ⟨i0, hi, hz0, hz1, hz2⟩ := info_parts infoCL
    have hin : inB sd 1 2 = true := inB_side.2 hsd
    have HDL : Hid ((sortP sd (g.V sd)).map (mkLv L sd) = bDepth L sd) := depth_levels h hsd
    have few := few_levels h hsd
    have H : Hid (BkAt w pb g L) := h
    have plt := h.tlt pb (by rw [h.tb]; simp)
    have HK : Hid (∀ W, Below (w.heap.size + 1) (w.alloc (.cells #[.pointer (some ⟨pb, offS sd, none⟩)] 135)) W → BkAt W pb g L ∧ W.cell? ⟨w.heap.size, 0, none⟩ = some (.pointer (some ⟨pb, offS sd, none⟩)) ∧ w.heap.size < W.heap.size ∧ Below w.heap.size w W) := fun W hW => by
      have B1 : Below w.heap.size w (w.alloc (.cells #[.pointer (some ⟨pb, offS sd, none⟩)] 135)) := (Below.refl _ _).alloc (Nat.le_refl _) _
      have B2 : Below w.heap.size w W := B1.trans (hW.mono (by omega))
      refine ⟨H.out.keep (Only.of_below (S := fun _ => False) B2) (fun _ _ => id), ?_, ?_, B2⟩
      · exact (hW.cell (p := ⟨w.heap.size, 0, none⟩) (by show w.heap.size < w.heap.size + 1; omega)).trans (by simp)
      · have := hW.size; simp at this; omega
    have hr := (h.side hsd).half.row
    obtain ⟨x, c, hsv⟩ := owned_form' (h.side hsd).half.own
    rw [hsv] at hr
    have HSV : Hid (g.sv sd = .slice x (g.V sd).length c) := hsv
    have hr1 : (w.alloc (.cells #[.pointer (some ⟨pb, offS sd, none⟩)] 135)).cell? ⟨pb, offS sd + 1, none⟩ = some (.slice x (g.V sd).length c) := (World.cell?_alloc_past _ _ _ plt).trans hr
    obtain ⟨V, hV⟩ : ∃ V, V = g.V sd := ⟨_, rfl⟩
    have HV : Hid (V = g.V sd) := hV
    rw [← hV] at few hr1 HSV HDL
    clear h hr hsv hV
    go_enter Try.func42, Try.ntmps42
    go_wp2_with fail
    refine (isSide_any _ _).mono ?_
    rintro e w0 ⟨rfl, rfl⟩
    rw [hin]
    go_wp2_with fail
    refine (half_off pb _ _).mono ?_
    rintro e w1 ⟨rfl, rfl⟩
    go_wp2_with fail
    have hb0 : w1.heap.size + 1 = (w1.alloc (.cells #[.pointer (some ⟨pb, offS sd, none⟩)] 135)).heap.size := by simp
    have HB00 : Hid (Below (w1.heap.size + 1) (w1.alloc (.cells #[.pointer (some ⟨pb, offS sd, none⟩)] 135)) (w1.alloc (.cells #[.pointer (some ⟨pb, offS sd, none⟩)] 135))) := Below.refl _ _
    obtain ⟨w2, hw2⟩ : ∃ w2, w2 = w1.alloc (.cells #[.pointer (some ⟨pb, offS sd, none⟩)] 135) := ⟨_, rfl⟩
    rw [← hw2] at HK HB00 hb0 ⊢
    obtain ⟨nb, hnb⟩ : ∃ nb, nb = w1.heap.size + 1 := ⟨_, rfl⟩
    rw [← hnb] at HK HB00 hb0
    have HNB : Hid (nb = w1.heap.size + 1 ∧ nb = w2.heap.size) := ⟨hnb, hb0⟩
    obtain ⟨RW, hRW⟩ : ∃ RW : Nat → List Value, RW = fun k => lvRows ((V.take k).map (mkLv L sd)) := ⟨_, rfl⟩
    have HRW : Hid (∀ k, RW k = lvRows ((V.take k).map (mkLv L sd))) := fun k => by rw [hRW]
    have hR0 : Hid (RW 0 = []) := by show _ = _; rw [HRW.out]; rfl
    clear hw2 hr1 hnb hb0 hRW
    go_loopw [6, 20] (fun v i wr => ∃ k : Nat, k ≤ V.length ∧ i = .int .i64 (k : Int) ∧ wr.ownsRow nb 103 3 v k (RW k) ∧ Below nb w2 wr) (fun _ i _ => V.length - (intOf i).toNat)
    case atStart => exact ⟨0, Nat.zero_le _, rfl, by rw [hR0.out]; exact World.ownsRow_nil _ _ _ _, HB00.out⟩
    case round =>
      obtain ⟨k, hk, rfl, hown, hB⟩ := hrel
      have HO : Hid (wr.ownsRow nb 103 3 u6 k (RW k)) := hown
      have HB : Hid (Below nb w2 wr) := hB
      have hws : nb ≤ wr.heap.size := by rw [HNB.out.2]; exact hB.size
      clear hown hB HB00
      by_cases hlt : k < V.length
      · have hVe := HV.out
        have hki : (k : Int) < (V.length : Int) := by omega
        have BK := (HK.out wr HB.out).1
        have SK := BK.side hsd
        obtain ⟨gb, c', hsv', hg, _, hcell, _⟩ := own_some SK.half.own (by rw [← hVe]; omega)
        rw [HSV.out] at hsv'
        injection hsv' with hx hlx hc
        clear hlx
        subst hx
        subst hc
        have hm : V[k] ∈ g.V sd := by rw [← hVe]; exact List.getElem_mem _
        have ck : wr.cell? ⟨gb, k, none⟩ = some (.pointer (some ⟨g.B sd V[k], 0, none⟩)) := by
          have := hcell k (by rw [← hVe]; exact hlt)
          rw [this, ← hVe]; simp [lvPtrs, hlt]
        have hp := (SK.half.lv _ hm).1
        have hnd := BK.ok.ids
        have hll : (lvIds L sd V[k]).length ≤ 13 := by
          have : (lvIds L sd V[k]).length ≤ L.length := by unfold lvIds; rw [List.length_map]; exact List.length_filter_le _ _
          have := BK.ok.len
          omega
        have hqty := fun W (hW : Below nb w2 W) => lqty_any (f := qId L) (((HK.out W hW).1.side hsd).links _ hm) (fun id hid => by
          obtain ⟨o, ho, rfl, _, _⟩ := mem_lvIds.1 hid
          rw [qId_at hnd ho]; exact ((HK.out W hW).1.odc o ho).c4) (fun id hid => by
          obtain ⟨o, ho, rfl, _, _⟩ := mem_lvIds.1 hid
          rw [qId_at hnd ho]; exact (BK.ok.each o ho).2.2.2.2) hll
        rw [lv_sum sd V[k] L (fun o ho => qId_at hnd ho)] at hqty
        have hcnt := fun W (hW : Below nb w2 W) => lcount_any (((HK.out W hW).1.side hsd).links _ hm) hll
        have hmv := hm
        have hnx : Hid (RW (k + 1) = RW k ++ [.int .i64 V[k], .int .i64 (wsum (atLv sd V[k]) L), .int .i64 ((lvIds L sd V[k]).length : Int)]) := by
          show _ = _
          rw [HRW.out, HRW.out, List.take_succ_eq_append_getElem hlt, List.map_append, lvRows_append]
          rfl
        obtain ⟨vk, hvk⟩ : ∃ vk, vk = V[k] := ⟨_, rfl⟩
        rw [← hvk] at ck hp hqty hcnt hnx hmv
        obtain ⟨lb, hlb⟩ : ∃ lb, lb = g.B sd vk := ⟨_, rfl⟩
        rw [← hlb] at ck hp hqty hcnt
        obtain ⟨wq, hwq⟩ : ∃ wq, wq = wsum (atLv sd vk) L := ⟨_, rfl⟩
        rw [← hwq] at hqty hnx
        obtain ⟨wn, hwn⟩ : ∃ wn : Int, wn = ((lvIds L sd vk).length : Int) := ⟨_, rfl⟩
        rw [← hwn] at hcnt hnx
        have hlbn : lb < nb := by rw [hlb]; have := H.out.tlt _ (by rw [(H.out.side hsd).lvt _ hmv]; simp : g.tag (g.B sd vk) ≠ none); have := HNB.out.1; omega
        have HQT : Hid (∀ W, Below nb w2 W → Calls Try.prog 62 #[.pointer (some ⟨lb, 0, none⟩)] W fun e w' => e = .returned (.int .i64 wq) ∧ w' = W) := fun W hW => hqty W hW
        have HCT : Hid (∀ W, Below nb w2 W → Calls Try.prog 63 #[.pointer (some ⟨lb, 0, none⟩)] W fun e w' => e = .returned (.int .i64 wn) ∧ w' = W) := fun W hW => hcnt W hW
        have hlne : ¬ (u6.ownBlock = some lb) := fun e => by have := (HO.out.lt lb e).1; omega
        have OX : Hid (wr.drew.ownsRow nb 103 3 u6 k (RW k)) := HO.out
        have HS0 : Hid (wr.drew.cell? ⟨lb, 0, none⟩ = some (.int .i64 vk) ∧ lb < wr.drew.heap.size ∧ Below nb w2 wr.drew) := ⟨hp, by show lb < wr.heap.size; omega, HB.out.drew⟩
        have hM1 : k + 1 ≤ maxLen := by unfold maxLen; omega
        have hM2 : (k + 1) * 24 ≤ 140737488355328 := by omega
        clear hcell hqty hcnt hm hvk hlb hwq hwn hVe BK SK hnd hll hmv
        go_wp2_with fail
        go_region_held3 (fun W => W.cell? ⟨lb, 0, none⟩ = some (.int .i64 vk) ∧ lb < W.heap.size ∧ Below nb w2 W)
          (first | with_reducible exact ⟨k1, k2, k3⟩ | with_reducible exact HS0.out | (obtain ⟨s1, s2, s3⟩ := (by assumption : _ ∧ _ ∧ _); exact ⟨(World.cell?_alloc_past _ _ _ s2).trans s1, (by simp; omega), s3.alloc (by show nb ≤ wr.heap.size; exact hws) _⟩))
          (first
            | (go_at_call 62; obtain ⟨s1, s2, s3⟩ := (by assumption : _ ∧ _ ∧ _); refine Calls.mono (HQT.out _ s3) ?_; rintro e w' ⟨rfl, rfl⟩; have k1 := s1; have k2 := s2; have k3 := s3)
            | (go_at_call 63; obtain ⟨s1, s2, s3⟩ := (by assumption : _ ∧ _ ∧ _); refine Calls.mono (HCT.out _ s3) ?_; rintro e w' ⟨rfl, rfl⟩; have k1 := s1; have k2 := s2; have k3 := s3)
            | (obtain ⟨s1, s2, s3⟩ := (by assumption : _ ∧ _ ∧ _); refine step_append_lies _ rfl (.tmp 24) (.tmp 34) 95 rfl nb 103 i0 _ 3 24 Try.underlying95 hi hz0 hz1 hz2 rfl (by decide) _ _ _ (by simp [Act.eval]) (HO.out.alloc _).drew ⟨wr.heap.size, 0, none⟩ 1 1 [.int .i64 vk, .int .i64 wq, .int .i64 wn] (by simp [Act.eval]) rfl (new3 _ _ (by simp) _ _ _ _) (one3 _ _ _) (by decide) hM1 hM2 (by simp; omega) _ rfl ?_; intro gb' cap' w4 hown' hgrow hl4 hgl4; have k1 := ((only_grown hgrow).cell (b := lb) (o := 0) s2 hlne).trans s1; have k2 := Nat.lt_of_lt_of_le s2 hgrow.size; have k3 := s3.grown hgrow (by simp; omega) (fun g hg => (HO.out.lt g hg).1)))
        have HR : Hid (w4.ownsRow nb 103 3 (.slice (some ⟨gb', 0, none⟩) (k + 1) cap') (k + 1) (RW (k + 1))) := by show World.ownsRow _ _ _ _ _ _ _; rw [hnx.out]; exact hown'
        have HB4 : Hid (Below nb w2 w4) := k3
        clear hown' hgrow OX HQT HCT HS0 ck hp
        go_wp2
        exact ⟨⟨k + 1, by omega, by go_num, HR.out, HB4.out⟩, by simp [intOf]; omega⟩
      · have ek : k = V.length := by omega
        subst ek
        have hown := HO.out
        rw [HRW.out, List.take_length] at hown
        have hnb1 := HNB.out.1
        obtain ⟨BK, hbox, hbl, B0⟩ := HK.out wr HB.out
        by_cases h0 : V.length = 0
        · have hV0 : V = [] := List.length_eq_zero_iff.1 h0
          obtain ⟨x', c'', hv⟩ := owned_form' hown
          rw [h0] at hv
          subst hv
          have hdl := HDL.out
          rw [hV0] at hdl
          have hdn : bDepth L sd = [] := by rw [← hdl, sortP_nil]; rfl
          have HDN : Hid (bDepth L sd = []) := hdn
          have HBK : Hid (BkAt wr pb g L ∧ Below w1.heap.size w1 wr) := ⟨BK, B0⟩
          have hsn : ∀ fv, Calls Try.prog 64 #[.slice x' 0 c'', fv] wr fun e w' => e = .returned (.tuple #[]) ∧ w' = wr := fun fv => by exact AnyF.slices_SortFunc_none sortLv x' c'' fv wr
          have HSN : Hid (∀ fv, Calls Try.prog 64 #[.slice x' 0 c'', fv] wr fun e w' => e = .returned (.tuple #[]) ∧ w' = wr) := hsn
          clear hown BK hbox B0 hdl hdn hV0 hsn h0 hnb1
          go_wp2_with fail
          refine Calls.mono (HSN.out _) ?_
          rintro e w4 ⟨rfl, rfl⟩
          go_wp2_with fail
          go_ret
          go_light
          refine ⟨_, rfl, ?_, HBK.out.1, HBK.out.2⟩
          rw [HDN.out]
          exact ⟨_, _, rfl, fun h => absurd h (by simp)⟩
        · obtain ⟨_, hor⟩ := id hown
          rcases hor with ⟨_, hz⟩ | ⟨gb, cap, cur, hv, hge, _⟩
          · exact absurd hz h0
          · subst hv
            have hgl := (hown.lt gb rfl).2
            have plt2 := BK.tlt pb (by rw [BK.tb]; simp)
            have hpg : pb ≠ gb := by
              have := H.out.tlt pb (by rw [H.out.tb]; simp)
              omega
            have hso := sort_any hown (by omega) (by omega : w1.heap.size ≠ gb) hpg hbox (BK.side hsd).half.side hbl plt2
            have HSO : Hid (Calls Try.prog 64 #[.slice (some ⟨gb, 0, none⟩) V.length cap, .func (.func 65) #[] #[.pointer (some ⟨w1.heap.size, 0, none⟩)]] wr fun e w' => e = .returned (.tuple #[]) ∧ Only (fun b => b = gb) wr w' ∧
              ∀ j i, j < V.length → i < 3 → w'.cell? ⟨gb, 0 + j * 3 + i, none⟩ = some (.int .i64 (lvZ ((sortP sd V).map (mkLv L sd)) j i)) ∧ w'.frozen? ⟨gb, 0 + j * 3 + i, none⟩ = false) := hso
            have HBK : Hid (BkAt wr pb g L ∧ Below w1.heap.size w1 wr) := ⟨BK, B0⟩
            have hlen : (bDepth L sd).length = V.length := by rw [← HDL.out, List.length_map]; exact (sortP_perm sd V).length_eq
            have HLN : Hid ((bDepth L sd).length = V.length) := hlen
            have HN1 : Hid (nb = w1.heap.size + 1) := hnb1
            clear hso hown BK hbox B0 hlen hnb1
            go_wp2_with fail
            refine Calls.mono HSO.out ?_
            rintro e w4 ⟨rfl, on4, cells4⟩
            have HO4 : Hid (Only (fun b => b = gb) wr w4) := on4
            have HC4 : Hid (∀ j i, j < V.length → i < 3 → w4.cell? ⟨gb, 0 + j * 3 + i, none⟩ = some (.int .i64 (lvZ ((sortP sd V).map (mkLv L sd)) j i)) ∧ w4.frozen? ⟨gb, 0 + j * 3 + i, none⟩ = false) := cells4
            clear on4 cells4 HSO
            go_wp2_with fail
            go_ret
            go_light
            have hng : ∀ k, g.tag k ≠ none → k ≠ gb := fun k hk e => by
              have := H.out.tlt k hk
              have := HN1.out
              omega
            have hn1 := HN1.out
            refine ⟨_, rfl, ?_, HBK.out.1.keep HO4.out hng, ?_⟩
            · rw [HLN.out, ← HDL.out]
              exact ⟨_, cap, rfl, fun _ => ⟨gb, 0, rfl, by omega, Nat.lt_of_lt_of_le hgl HO4.out.size, fun hne => hng gb hne rfl, HC4.out⟩⟩
            · have B := HBK.out.2
              exact below_only (Only.then (Only.of_below (S := fun _ => False) B) HO4.out (fun b hb e => by omega))
  · have hd : bDepth L sd = [] := depth_wrong L (fun o ho => by obtain ⟨_, _, ⟨s1, s2⟩, _⟩ := h.ok.each o ho; omega) hsd
    rw [hd]
    have hin : inB sd 1 2 = false := by rw [Bool.eq_false_iff]; exact fun e => hsd (inB_side.1 e)
    have H : Hid (BkAt w pb g L) := h
    clear h hd
    go_enter Try.func42, Try.ntmps42
    go_wp2_with fail
    refine (isSide_any _ _).mono ?_
    rintro e w0 ⟨rfl, rfl⟩
    rw [hin]
    go_wp2_with fail
    go_ret
    exact ⟨_, rfl, ⟨none, 0, rfl, fun h => absurd h (by simp)⟩, H.out, Below.refl _ _⟩
end Go.Proofs.Ytbljokilfkodfaa
/-
  The program's book is a book.
-/
namespace Go.Proofs.Ytbljokilfkodfaa
open Go.RowKit

theorem told_row {w0 w : World} {g : Gh} {v : Value} {E : List Ev} (h : Told w0 w g v E) : IsRow w w0.heap.size (fun k => g.tag k ≠ none) 6 v E.length (evZ E) := by
  obtain ⟨h1, h2⟩ := h
  have hlt := h1.lt
  obtain ⟨_, ho2⟩ := id h1
  rcases ho2 with ⟨hv, hn⟩ | ⟨gx, cap, cur, hv, _⟩
  · exact ⟨none, 0, by rw [hv, hn], fun hp => absurd hp (by omega)⟩
  · refine ⟨_, cap, hv, fun _ => ⟨gx, 0, rfl, (hlt gx (by rw [hv]; rfl)).1, (hlt gx (by rw [hv]; rfl)).2, fun hne => hne (h2 gx (by rw [hv]; rfl)), fun j i hj hi => ?_⟩⟩
    rw [hv] at h1
    rw [Nat.zero_add]
    exact ⟨(h1.cellAt (j * 6 + i) (by omega)).trans (evRows_at E j i hj hi), h1.frozenAt _⟩

theorem bookIs : BookIs CodeRep 9 42 16 where
  ptr := by
    rintro w v S L ⟨pb, g, rfl, _, _⟩
    exact ⟨_, rfl⟩
  lt := by
    rintro w v S L ⟨pb, g, rfl, h, hS⟩ k hk
    exact h.tlt k ((hS k).1 hk)
  keep := by
    rintro w w' v S L T ⟨pb, g, rfl, h, hS⟩ on hT
    exact ⟨pb, g, rfl, h.keep on (fun k hk => hT k ((hS k).2 hk)), hS⟩
  does := by
    rintro w v S L c ⟨pb, g, rfl, h, hS⟩ hL
    refine (do_any h hL c).mono ?_
    rintro e w' ⟨ev, g', rfl, to, ba, on, tn⟩
    exact ⟨ev, fun k => g'.tag k ≠ none, rfl, told_row to, ⟨pb, g', rfl, ba, fun _ => Iff.rfl⟩, on.mono (fun k _ hk => (hS k).2 hk), fun k hk => (tn k hk).imp (fun h => (hS k).2 h) id⟩
  depth := by
    rintro w v S L sd ⟨pb, g, rfl, h, hS⟩ hL _ _
    refine (depth_any h sd).mono ?_
    rintro e w' ⟨lv, rfl, row, ba, bl⟩
    exact ⟨lv, fun k => g.tag k ≠ none, rfl, row, ⟨pb, g, rfl, ba, fun _ => Iff.rfl⟩, Only.of_below bl, fun k hk => .inl ((hS k).2 hk)⟩
  left := by
    rintro w v S L id ⟨pb, g, rfl, h, hS⟩ hL h1 h2
    refine (left_any h id h1 h2).mono ?_
    rintro e w' ⟨rfl, rfl⟩
    exact ⟨S, rfl, ⟨pb, g, rfl, h, hS⟩, Only.refl _ _, fun k hk => .inl hk⟩
end Go.Proofs.Ytbljokilfkodfaa
