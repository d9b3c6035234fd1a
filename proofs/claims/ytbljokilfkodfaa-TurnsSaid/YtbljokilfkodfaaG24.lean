/-
  The events.
-/
import Derived.Test.YtbljokilfkodfaaG23
import Derived.Test.YtbljokilfkodfaaG16
namespace Go.Proofs.Ytbljokilfkodfaa
open Go.RowKit

set_option maxRecDepth 100000 in
set_option maxHeartbeats 1000000 in
theorem traded_any {w : World} (b : Nat) (cl id wi pr q : Int) (hb : b < w.heap.size) (c0 : w.cell? ⟨b, 0, none⟩ = some (.int .i64 cl)) (c1 : w.cell? ⟨b, 1, none⟩ = some (.int .i64 id)) :
    Calls Try.prog 110 #[.pointer (some ⟨b, 0, none⟩), .int .i64 wi, .int .i64 pr, .int .i64 q] w fun e w' => e = .returned (evV ⟨3, cl, id, wi, pr, q⟩) ∧ Below w.heap.size w w' := by
  go_enter Try.func110, Try.ntmps110
  go_wp2_with fail
  go_region
  go_wp2_with fail
  refine bodyPost_ret (v := evV ⟨3, cl, id, wi, pr, q⟩) (by simp [results, Try.results110, go_sem, evV]) rfl ⟨rfl, ?_⟩
  exact ((Below.refl _ _).alloc (Nat.le_refl _) _).drew

set_option maxRecDepth 100000 in
set_option maxHeartbeats 1000000 in
theorem filled_any {w : World} (b : Nat) (cl id : Int) (hb : b < w.heap.size) (c0 : w.cell? ⟨b, 0, none⟩ = some (.int .i64 cl)) (c1 : w.cell? ⟨b, 1, none⟩ = some (.int .i64 id)) :
    Calls Try.prog 91 #[.pointer (some ⟨b, 0, none⟩)] w fun e w' => e = .returned (evV ⟨4, cl, id, 0, 0, 0⟩) ∧ Below w.heap.size w w' := by
  go_enter Try.func91, Try.ntmps91
  go_wp2_with fail
  go_region
  go_wp2_with fail
  refine bodyPost_ret (v := evV ⟨4, cl, id, 0, 0, 0⟩) (by simp [results, Try.results91, go_sem, evV]) rfl ⟨rfl, ?_⟩
  exact ((Below.refl _ _).alloc (Nat.le_refl _) _).drew

set_option maxRecDepth 100000 in
set_option maxHeartbeats 1000000 in
theorem canceled_any {w : World} (b : Nat) (cl id q : Int) (hb : b < w.heap.size) (c0 : w.cell? ⟨b, 0, none⟩ = some (.int .i64 cl)) (c1 : w.cell? ⟨b, 1, none⟩ = some (.int .i64 id)) (c4 : w.cell? ⟨b, 4, none⟩ = some (.int .i64 q)) :
    Calls Try.prog 79 #[.pointer (some ⟨b, 0, none⟩)] w fun e w' => e = .returned (evV ⟨5, cl, id, 0, 0, q⟩) ∧ Below w.heap.size w w' := by
  go_enter Try.func79, Try.ntmps79
  go_wp2_with fail
  go_region
  go_wp2_with fail
  refine bodyPost_ret (v := evV ⟨5, cl, id, 0, 0, q⟩) (by simp [results, Try.results79, go_sem, evV]) rfl ⟨rfl, ?_⟩
  exact ((Below.refl _ _).alloc (Nat.le_refl _) _).drew

set_option maxRecDepth 100000 in
set_option maxHeartbeats 1000000 in
theorem rests_any {w : World} (b : Nat) (cl id pr q : Int) (hb : b < w.heap.size) (c0 : w.cell? ⟨b, 0, none⟩ = some (.int .i64 cl)) (c1 : w.cell? ⟨b, 1, none⟩ = some (.int .i64 id)) (c3 : w.cell? ⟨b, 3, none⟩ = some (.int .i64 pr)) (c4 : w.cell? ⟨b, 4, none⟩ = some (.int .i64 q)) :
    Calls Try.prog 75 #[.pointer (some ⟨b, 0, none⟩)] w fun e w' => e = .returned (evV ⟨6, cl, id, 0, pr, q⟩) ∧ Below w.heap.size w w' := by
  go_enter Try.func75, Try.ntmps75
  go_wp2_with fail
  go_region
  go_wp2_with fail
  refine bodyPost_ret (v := evV ⟨6, cl, id, 0, pr, q⟩) (by simp [results, Try.results75, go_sem, evV]) rfl ⟨rfl, ?_⟩
  exact ((Below.refl _ _).alloc (Nat.le_refl _) _).drew

set_option maxRecDepth 100000 in
set_option maxHeartbeats 1000000 in
theorem accepted_any {w : World} (k cl id sd pr q : Int) :
    Calls Try.prog 34 #[.agg #[.int .i64 k, .int .i64 cl, .int .i64 id, .int .i64 sd, .int .i64 pr, .int .i64 q]] w fun e w' => e = .returned (evV ⟨1, cl, id, 0, 0, 0⟩) ∧ Below w.heap.size w w' := by
  go_enter Try.func34, Try.ntmps34
  go_wp2_with fail
  refine bodyPost_ret (v := evV ⟨1, cl, id, 0, 0, 0⟩) (by simp [results, Try.results34, go_sem, evV]) rfl ⟨rfl, ?_⟩
  first | exact ((Below.refl _ _).alloc (Nat.le_refl _) _).alloc (by simp) _ | exact (Below.refl _ _).alloc (Nat.le_refl _) _

set_option maxRecDepth 100000 in
set_option maxHeartbeats 1000000 in
theorem rejected_any {w : World} (k cl id sd pr q er : Int) :
    Calls Try.prog 33 #[.agg #[.int .i64 k, .int .i64 cl, .int .i64 id, .int .i64 sd, .int .i64 pr, .int .i64 q], .int .i64 er] w fun e w' => e = .returned (evV ⟨2, cl, id, er, 0, 0⟩) ∧ Below w.heap.size w w' := by
  go_enter Try.func33, Try.ntmps33
  go_wp2_with fail
  refine bodyPost_ret (v := evV ⟨2, cl, id, er, 0, 0⟩) (by simp [results, Try.results33, go_sem, evV]) rfl ⟨rfl, ?_⟩
  first | exact ((Below.refl _ _).alloc (Nat.le_refl _) _).alloc (by simp) _ | exact (Below.refl _ _).alloc (Nat.le_refl _) _
end Go.Proofs.Ytbljokilfkodfaa
/-
  Whom an order meets first: the head of the list at the heap's top.
-/
namespace Go.Proofs.Ytbljokilfkodfaa
open Go.RowKit

theorem bBestTo_ahead {L : List Od} {sd pr : Int} (hsd : 1 ≤ sd ∧ sd ≤ 2) (hL : ∀ o ∈ L, 1 ≤ o.sd ∧ o.sd ≤ 2) : ∀ {n k : Nat}, n ≤ L.length → bBestTo L sd pr n = some k →
    ∀ j, j < k → bMeets sd pr (L.getD j od0) = true → (L.getD j od0).pr ≠ (L.getD k od0).pr
  | 0, k, _, h => by simp [bBestTo] at h
  | n + 1, k, hn, h => by
    unfold bBestTo at h
    cases hb : bBestTo L sd pr n with
    | none =>
      rw [hb] at h
      simp only at h
      split at h
      · simp at h
        subst h
        intro j hj hm
        rw [bBestTo_none' hb j hj] at hm
        cases hm
      · cases h
    | some i =>
      rw [hb] at h
      obtain ⟨h1, h2⟩ := bBestTo_best hsd hL (by omega) hb
      simp only at h
      split at h
      · rename_i hc
        simp at h
        subst h
        simp only [Bool.and_eq_true] at hc
        intro j hj hm e
        have hs := meets_side hsd (hL _ (getD_mem (show n < L.length by omega))) hc.1
        have h3 := h2 j hj hm
        have hc2 := hc.2
        unfold bBetter at hc2
        split at hc2
        · have := of_decide_eq_true hc2
          have h4 := h3.2 (by omega)
          omega
        · have := of_decide_eq_true hc2
          have h4 := h3.1 (by omega)
          omega
      · simp at h
        subst h
        exact bBestTo_ahead hsd hL (by omega) hb

/-- The top of a heap is the least. -/
theorem HeapTo.top {k : Nat → Int} {n : Nat} (h : HeapTo k n) : ∀ j, j < n → k 0 ≤ k j := by
  intro j
  induction j using Nat.strongRecOn with
  | _ j ih =>
    intro hj
    by_cases h0 : j = 0
    · rw [h0]; exact Int.le_refl _
    · exact Int.le_trans (ih ((j - 1) / 2) (by omega) (by omega)) (h j (by omega) hj)
theorem key_inj {sd a b : Int} (h : keyOf' sd a = keyOf' sd b) : a = b := by
  unfold keyOf' at h
  split at h <;> omega

/-- What the code's price of an order that comes says, against the document's. -/
def codePr (sd pr : Int) : Int := if pr = 0 ∧ sd = 1 then 99 else pr
theorem meets_key {L : List Od} (hL : BookOk L) {sd pr : Int} (hsd : sd = 1 ∨ sd = 2) (hp : 0 ≤ pr ∧ pr ≤ 99) {m : Od} (hm : m ∈ L) : bMeets sd pr m = true ↔ m.sd = otherS sd ∧ keyOf' (otherS sd) m.pr ≤ keyOf' (otherS sd) (codePr sd pr) := by
  obtain ⟨_, _, ⟨s1, s2⟩, ⟨p1, p2⟩, _⟩ := hL.each m hm
  unfold bMeets codePr
  rcases hsd with rfl | rfl
  · have e1 : otherS 1 = 2 := rfl
    rw [e1]
    simp only [Bool.and_eq_true, Bool.not_eq_true', decide_eq_false_iff_not, Bool.or_eq_true, decide_eq_true_eq, if_true, keyOf', and_true]
    by_cases h0 : pr = 0
    · simp [h0]; omega
    · simp [h0]; omega
  · have e1 : otherS 2 = 1 := rfl
    rw [e1]
    have e2 : ¬ ((2 : Int) = 1) := by omega
    simp only [Bool.and_eq_true, Bool.not_eq_true', decide_eq_false_iff_not, Bool.or_eq_true, decide_eq_true_eq, if_true, keyOf', if_neg e2]
    omega

theorem lvIds_head {L : List Od} {k : Nat} (hk : k < L.length) (hfirst : ∀ j, j < k → ¬ ((L.getD j od0).sd = L[k].sd ∧ (L.getD j od0).pr = L[k].pr)) : (lvIds L L[k].sd L[k].pr).head? = some L[k].id := by
  unfold lvIds
  rw [List.head?_map, List.head?_filter]
  have : L.find? (atLv L[k].sd L[k].pr) = some L[k] := by
    rw [List.find?_eq_some_iff_getElem]
    refine ⟨by simp [atLv], k, hk, rfl, fun j hj => ?_⟩
    have := hfirst j hj
    rw [getD_at (by omega)] at this
    unfold atLv
    simp only [Bool.not_eq_true', Bool.and_eq_false_iff, decide_eq_false_iff_not]
    exact Classical.not_and_iff_not_or_not.1 this
  rw [this]
  rfl

/-- Somebody is met: it stands ahead of all at the top's price. -/
theorem best_some {w : World} {pb : Nat} {g : Gh} {L : List Od} (h : BkAt w pb g L) (hL : BookOk L) {sd pr : Int} (hsd : sd = 1 ∨ sd = 2) (hp : 0 ≤ pr ∧ pr ≤ 99) {k : Nat} (hb : bBest L sd pr = some k) (hk : k < L.length) :
    0 < (g.V (otherS sd)).length ∧ keyOf' (otherS sd) ((g.V (otherS sd)).getD 0 0) ≤ keyOf' (otherS sd) (codePr sd pr) ∧ L[k].sd = otherS sd ∧ (g.V (otherS sd)).getD 0 0 = L[k].pr ∧ (lvIds L (otherS sd) L[k].pr).head? = some L[k].id := by
  have hsd' : 1 ≤ sd ∧ sd ≤ 2 := by omega
  have hm : L[k] ∈ L := List.getElem_mem _
  obtain ⟨h1, h2⟩ := bBest_best hsd' hL hb
  rw [getD_at hk] at h1 h2
  have hs := h.side (sides hsd).1
  obtain ⟨e1, e2⟩ := (meets_key hL hsd hp hm).1 h1
  have hpV : L[k].pr ∈ g.V (otherS sd) := (hs.vmem _).2 (fun e => by
    have : L[k].id ∈ lvIds L (otherS sd) L[k].pr := mem_lvIds.2 ⟨_, hm, rfl, e1, rfl⟩
    rw [e] at this; cases this)
  obtain ⟨i, hi, ei⟩ := List.getElem_of_mem hpV
  have hpos : 0 < (g.V (otherS sd)).length := by omega
  have htop : keyOf' (otherS sd) ((g.V (otherS sd)).getD 0 0) ≤ keyOf' (otherS sd) ((g.V (otherS sd)).getD i 0) := hs.heap.top i hi
  have hgi : (g.V (otherS sd)).getD i 0 = L[k].pr := by rw [List.getD_eq_getElem?_getD, List.getElem?_eq_getElem hi]; exact ei
  rw [hgi] at htop
  have h0V : (g.V (otherS sd)).getD 0 0 ∈ g.V (otherS sd) := by rw [List.getD_eq_getElem?_getD, List.getElem?_eq_getElem hpos]; exact List.getElem_mem _
  obtain ⟨id, hid⟩ := List.exists_mem_of_ne_nil _ ((hs.vmem _).1 h0V)
  obtain ⟨m, hmL, _, ms, mp⟩ := mem_lvIds.1 hid
  have hmm : bMeets sd pr m = true := (meets_key hL hsd hp hmL).2 ⟨ms, by rw [mp]; exact Int.le_trans htop e2⟩
  have h3 := h2 m hmL hmm
  have htp : (g.V (otherS sd)).getD 0 0 = L[k].pr := by
    rw [← mp]
    rw [← mp] at htop
    rcases hsd with rfl | rfl
    · have := h3.1 rfl
      simp [otherS, keyOf'] at htop
      omega
    · have := h3.2 rfl
      simp [otherS, keyOf'] at htop
      omega
  refine ⟨hpos, by rw [htp]; exact e2, e1, htp, ?_⟩
  have := lvIds_head hk (fun j hj hh => by
    have hmj : bMeets sd pr (L.getD j od0) = true := by rw [meets_congr (o := L[k]) hh.1 hh.2]; exact h1
    have := bBestTo_ahead hsd' (fun o ho => (hL.each o ho).2.2.1) (Nat.le_refl _) hb j hj hmj
    rw [getD_at hk] at this
    exact this hh.2)
  rw [e1] at this
  exact this
/-- Nobody is met. -/
theorem best_none {w : World} {pb : Nat} {g : Gh} {L : List Od} (h : BkAt w pb g L) (hL : BookOk L) {sd pr : Int} (hsd : sd = 1 ∨ sd = 2) (hp : 0 ≤ pr ∧ pr ≤ 99) (hb : bBest L sd pr = none) :
    (decide (0 < (g.V (otherS sd)).length) && decide (keyOf' (otherS sd) ((g.V (otherS sd)).getD 0 0) ≤ keyOf' (otherS sd) (codePr sd pr))) = false := by
  have hs := h.side (sides hsd).1
  by_cases hpos : 0 < (g.V (otherS sd)).length
  · have h0V : (g.V (otherS sd)).getD 0 0 ∈ g.V (otherS sd) := by rw [List.getD_eq_getElem?_getD, List.getElem?_eq_getElem hpos]; exact List.getElem_mem _
    obtain ⟨id, hid⟩ := List.exists_mem_of_ne_nil _ ((hs.vmem _).1 h0V)
    obtain ⟨m, hmL, _, ms, mp⟩ := mem_lvIds.1 hid
    have hno := bBest_none' hb m hmL
    rw [Bool.and_eq_false_iff]
    right
    rw [decide_eq_false_iff_not]
    intro hle
    rw [(meets_key hL hsd hp hmL).2 ⟨ms, by rw [mp]; exact hle⟩] at hno
    cases hno
  · simp [hpos]
end Go.Proofs.Ytbljokilfkodfaa
/-
  The book: why a command is rejected.
-/
namespace Go.Proofs.Ytbljokilfkodfaa
open Go.RowKit

set_option maxRecDepth 100000 in
set_option maxHeartbeats 1000000 in
theorem refusal_any {w : World} {pb : Nat} {g : Gh} {L : List Od} (h : BkAt w pb g L) (c : Cm) :
    Calls Try.prog 32 #[.pointer (some ⟨pb, 0, none⟩), .agg #[.int .i64 c.k, .int .i64 c.cl, .int .i64 c.id, .int .i64 c.sd, .int .i64 c.pr, .int .i64 c.q]] w fun e w' => e = .returned (.int .i64 (bRefused L c)) ∧ Below w.heap.size w w' := by
  have H : Hid (BkAt w pb g L) := h
  have plt := h.tlt pb (by rw [h.tb]; simp)
  have p0 := h.orders
  clear h
  by_cases hf : cmFair c = true
  · have hfb : fairB c.k c.cl c.id c.sd c.pr c.q = true := hf
    obtain ⟨⟨k1, k2⟩, ⟨c1, c2⟩, ⟨i1, i2⟩, _, _, _⟩ := fairB_bounds hfb
    go_enter Try.func32, Try.ntmps32
    go_wp2_with fail
    refine (fair_any _ _ _ _ _ _ _).mono ?_
    rintro e w1 ⟨rfl, b1⟩
    have B1 : Hid (Below w.heap.size w w1) := ((Below.refl _ _).alloc (Nat.le_refl _) _).trans (b1.mono (by simp))
    have H1 : Hid (BkAt w1 pb g L) := H.out.keep (Only.of_below (S := fun _ => False) B1.out) (fun _ _ => id)
    obtain ⟨hc1, _⟩ := bcell b1
    have hz : w.heap.size < w1.heap.size := by have := b1.size; simp at this; omega
    have e0 : w1.cell? ⟨w.heap.size, 0, none⟩ = some (.int .i64 c.k) := (hc1 _ _ (by simp)).trans (by simp)
    have e1 : w1.cell? ⟨w.heap.size, 1, none⟩ = some (.int .i64 c.cl) := (hc1 _ _ (by simp)).trans (by simp)
    have e2 : w1.cell? ⟨w.heap.size, 2, none⟩ = some (.int .i64 c.id) := (hc1 _ _ (by simp)).trans (by simp)
    have p1 := H1.out.orders
    have hlk := (H1.out.map.keep (Only.refl (fun _ => False) w1).drew1 id).look (id := c.id) (by omega) (by omega)
    have hlen := (H1.out.map.keep (Only.refl (fun _ => False) w1).drew1 id).len
    have hll : (L.map Od.id).length = L.length := by simp
    rw [hll] at hlen
    clear hll
    have hl12 := H1.out.ok.len
    clear hc1 b1 p0
    rw [hfb]
    cases hfd : bFind L c.id with
    | none =>
      have hn := bFind_none hfd
      rw [if_neg hn, decide_eq_false hn] at hlk
      simp only [ptrO, Option.map_none] at hlk
      have HV : Hid (bRefused L c = if c.k = 5 ∨ c.k = 6 then 4 else if c.k = 1 ∧ 12 ≤ L.length then 5 else 0) := by show _ = _; unfold bRefused; rw [hf, hfd]; simp
      clear hfd hn
      by_cases h5 : c.k = 5
      · have g5 : (c.k == 5) = true := by simp [h5]
        have HV' : Hid (bRefused L c = 4) := by show _ = _; rw [HV.out, if_pos (.inl h5)]
        clear HV h5
        go_wp2
        go_region
        go_wp2
        go_quiet (fail)
        go_wp2
        go_ret
        rw [HV'.out]
        exact ⟨rfl, below_drewN B1.out.drew _⟩
      · have g5 : (c.k == 5) = false := by simp [h5]
        by_cases h6 : c.k = 6
        · have g6 : (c.k == 6) = true := by simp [h6]
          have HV' : Hid (bRefused L c = 4) := by show _ = _; rw [HV.out, if_pos (.inr h6)]
          clear HV h5 h6
          go_wp2
          go_region
          go_wp2
          go_quiet (fail)
          go_wp2
          go_ret
          rw [HV'.out]
          exact ⟨rfl, below_drewN B1.out.drew _⟩
        · have g6 : (c.k == 6) = false := by simp [h6]
          by_cases h1 : c.k = 1 ∧ 12 ≤ L.length
          · have g1 : (c.k == 1) = true := by simp [h1.1]
            have gl : decide ((12 : Int) ≤ (L.length : Int)) = true := decide_eq_true (by omega)
            have HV' : Hid (bRefused L c = 5) := by show _ = _; rw [HV.out, if_neg (by omega), if_pos h1]
            clear HV h5 h6 h1
            go_wp2
            go_region
            go_wp2
            go_ret
            rw [HV'.out]
            exact ⟨rfl, B1.out.drew⟩
          · have HV' : Hid (bRefused L c = 0) := by show _ = _; rw [HV.out, if_neg (by omega), if_neg h1]
            by_cases h1k : c.k = 1
            · have g1 : (c.k == 1) = true := by simp [h1k]
              have gl : decide ((12 : Int) ≤ (L.length : Int)) = false := decide_eq_false (by omega)
              clear HV h5 h6 h1 h1k
              go_wp2
              go_region
              go_wp2
              go_ret
              rw [HV'.out]
              exact ⟨rfl, B1.out.drew⟩
            · have g1 : (c.k == 1) = false := by simp [h1k]
              clear HV h5 h6 h1 h1k
              go_wp2
              go_region
              go_wp2
              go_ret
              rw [HV'.out]
              exact ⟨rfl, B1.out.drew⟩
    | some i =>
      obtain ⟨hi, he0⟩ := bFind_some hfd
      have he : L[i].id = c.id := by rw [← getD_at hi]; exact he0
      have hm : c.id ∈ L.map Od.id := by rw [← he]; exact List.mem_map_of_mem (List.getElem_mem _)
      rw [if_pos hm, decide_eq_true hm] at hlk
      simp only [ptrO, Option.map_some] at hlk
      have o0 := (H1.out.odc _ (List.getElem_mem hi)).c0
      rw [he] at o0
      have HV : Hid (bRefused L c = if c.k = 5 ∨ c.k = 6 then (if L[i].cl = c.cl then 0 else 4) else 3) := by show _ = _; unfold bRefused; rw [hf, hfd]; simp only [if_true, getD_at hi]
      obtain ⟨cl, hcl⟩ : ∃ cl, cl = L[i].cl := ⟨_, rfl⟩
      rw [← hcl] at o0 HV
      clear hfd hm he he0 hcl
      by_cases h56 : c.k = 5 ∨ c.k = 6
      · have HV' : Hid (bRefused L c = if cl = c.cl then 0 else 4) := by show _ = _; rw [HV.out, if_pos h56]
        by_cases h5 : c.k = 5
        · have g5 : (c.k == 5) = true := by simp [h5]
          by_cases hcc : cl = c.cl
          · have gc : (cl == c.cl) = true := by simp [hcc]
            have HW : Hid (bRefused L c = 0) := by show _ = _; rw [HV'.out, if_pos hcc]
            clear HV HV' h5 h56 hcc
            go_wp2
            go_region
            go_wp2
            go_quiet (fail)
            go_wp2
            go_ret
            rw [HW.out]
            exact ⟨rfl, below_drewN B1.out.drew _⟩
          · have gc : (cl == c.cl) = false := by simp [hcc]
            have HW : Hid (bRefused L c = 4) := by show _ = _; rw [HV'.out, if_neg hcc]
            clear HV HV' h5 h56 hcc
            go_wp2
            go_region
            go_wp2
            go_quiet (fail)
            go_wp2
            go_ret
            rw [HW.out]
            exact ⟨rfl, below_drewN B1.out.drew _⟩
        · have g5 : (c.k == 5) = false := by simp [h5]
          have g6 : (c.k == 6) = true := by simp; omega
          by_cases hcc : cl = c.cl
          · have gc : (cl == c.cl) = true := by simp [hcc]
            have HW : Hid (bRefused L c = 0) := by show _ = _; rw [HV'.out, if_pos hcc]
            clear HV HV' h5 h56 hcc
            go_wp2
            go_region
            go_wp2
            go_quiet (fail)
            go_wp2
            go_ret
            rw [HW.out]
            exact ⟨rfl, below_drewN B1.out.drew _⟩
          · have gc : (cl == c.cl) = false := by simp [hcc]
            have HW : Hid (bRefused L c = 4) := by show _ = _; rw [HV'.out, if_neg hcc]
            clear HV HV' h5 h56 hcc
            go_wp2
            go_region
            go_wp2
            go_quiet (fail)
            go_wp2
            go_ret
            rw [HW.out]
            exact ⟨rfl, below_drewN B1.out.drew _⟩
      · have g5 : (c.k == 5) = false := by simp; omega
        have g6 : (c.k == 6) = false := by simp; omega
        have HW : Hid (bRefused L c = 3) := by show _ = _; rw [HV.out, if_neg h56]
        clear HV h56
        go_wp2
        go_region
        go_wp2
        go_ret
        rw [HW.out]
        exact ⟨rfl, B1.out.drew⟩
  · have hfb : fairB c.k c.cl c.id c.sd c.pr c.q = false := by simpa [cmFair] using hf
    have hv : bRefused L c = 2 := by unfold bRefused; simp [hf]
    rw [hv]
    go_enter Try.func32, Try.ntmps32
    go_wp2_with fail
    refine (fair_any _ _ _ _ _ _ _).mono ?_
    rintro e w1 ⟨rfl, b1⟩
    have B1 : Hid (Below w.heap.size w w1) := ((Below.refl _ _).alloc (Nat.le_refl _) _).trans (b1.mono (by simp))
    rw [hfb]
    go_wp2
    go_ret
    exact ⟨rfl, B1.out⟩
end Go.Proofs.Ytbljokilfkodfaa
