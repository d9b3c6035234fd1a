/-
  Sums over levels; the levels in a side's order: plain mathematics.
-/
import Derived.Test.YtbljokilfkodfaaG24
import Derived.Test.YtbljokilfkodfaaG27
namespace Go.Proofs.Ytbljokilfkodfaa
open Go.RowKit

theorem sumTo_cons (f : Int → Int) (x : Int) (l : List Int) : ∀ k, sumTo f (x :: l) (k + 1) = f x + sumTo f l k
  | 0 => by simp [sumTo]
  | k + 1 => by
    have := sumTo_cons f x l k
    simp only [sumTo, List.getD_cons_succ] at this ⊢
    rw [this]
    omega
theorem sumTo_add (f g : Int → Int) (l : List Int) : ∀ k, sumTo (fun x => f x + g x) l k = sumTo f l k + sumTo g l k
  | 0 => by simp [sumTo]
  | k + 1 => by simp only [sumTo, sumTo_add f g l k]; omega
theorem sumTo_congr {f g : Int → Int} {l : List Int} : ∀ k, k ≤ l.length → (∀ x ∈ l, f x = g x) → sumTo f l k = sumTo g l k
  | 0, _, _ => rfl
  | k + 1, hk, h => by
    have hm : l.getD k 0 ∈ l := by rw [List.getD_eq_getElem?_getD, List.getElem?_eq_getElem (by omega)]; exact List.getElem_mem _
    simp only [sumTo, sumTo_congr k (by omega) h, h _ hm]
theorem sumTo_zero (l : List Int) : ∀ k, sumTo (fun _ => 0) l k = 0
  | 0 => rfl
  | k + 1 => by simp [sumTo, sumTo_zero l k]

/-- What is left of the order of a number. -/
def qId (L : List Od) (id : Int) : Int := match L.find? (fun o => decide (o.id = id)) with
  | some o => o.q
  | none => 0
theorem qId_at {L : List Od} (h : (L.map Od.id).Nodup) {o : Od} (ho : o ∈ L) : qId L o.id = o.q := by
  unfold qId
  induction L with
  | nil => cases ho
  | cons x r ih =>
    simp only [List.map_cons, List.nodup_cons] at h
    rw [List.find?_cons]
    by_cases e : x.id = o.id
    · rcases List.mem_cons.1 ho with rfl | hr
      · simp
      · exact absurd (by rw [e]; exact List.mem_map_of_mem hr) h.1
    · simp only [e, decide_false]
      exact ih h.2 ((List.mem_cons.1 ho).resolve_left (fun e' => e (by rw [e'])))

theorem lv_sum {f : Int → Int} (sd p : Int) : ∀ (L : List Od), (∀ o ∈ L, f o.id = o.q) → sumTo f (lvIds L sd p) (lvIds L sd p).length = wsum (atLv sd p) L
  | [], _ => rfl
  | o :: L, h => by
    have ih := lv_sum sd p L (fun x hx => h x (List.mem_cons_of_mem _ hx))
    unfold lvIds at ih ⊢
    rw [List.filter_cons]
    simp only [wsum]
    split
    · rename_i hc
      rw [List.map_cons, List.length_cons, sumTo_cons, ih, h o (by simp)]
    · rename_i hc
      rw [ih]; omega

theorem one_of {V : List Int} (hV : V.Nodup) (K : Int → Bool) (p q : Int) : sumTo (fun x => if K x then (if p = x then q else 0) else 0) V V.length = if p ∈ V ∧ K p = true then q else 0 := by
  induction V with
  | nil => simp [sumTo]
  | cons x r ih =>
    simp only [List.nodup_cons] at hV
    rw [List.length_cons, sumTo_cons, ih hV.2]
    by_cases e : p = x
    · subst e
      by_cases hk : K p = true
      · simp [hk, hV.1]
      · simp [hk]
    · by_cases hm : p ∈ r
      · by_cases hk : K p = true <;> simp [e, hm, hk]
      · simp [e, hm]

/-- Over all levels that K takes: what those orders have. -/
theorem sum_levels {V : List Int} (hV : V.Nodup) (K : Int → Bool) (sd : Int) : ∀ (L : List Od), (∀ o ∈ L, o.sd = sd → o.pr ∈ V) →
    sumTo (fun p => if K p then wsum (atLv sd p) L else 0) V V.length = wsum (fun o => decide (o.sd = sd) && K o.pr) L
  | [], _ => by
    have : (fun p => if K p = true then wsum (atLv sd p) [] else 0) = (fun _ => (0 : Int)) := by funext p; split <;> rfl
    rw [this, sumTo_zero]; rfl
  | o :: L, h => by
    have ih := sum_levels hV K sd L (fun x hx => h x (List.mem_cons_of_mem _ hx))
    have e : (fun p => if K p = true then wsum (atLv sd p) (o :: L) else 0) = (fun p => (if K p = true then (if o.pr = p then (if o.sd = sd then o.q else 0) else 0) else 0) + (if K p = true then wsum (atLv sd p) L else 0)) := by
      funext p
      by_cases hk : K p = true
      · simp only [hk, if_true, wsum, atLv, Bool.and_eq_true, decide_eq_true_eq]
        by_cases h1 : o.sd = sd <;> by_cases h2 : o.pr = p <;> simp [h1, h2]
      · simp [hk]
    rw [e, sumTo_add, ih, one_of hV]
    simp only [wsum, Bool.and_eq_true, decide_eq_true_eq]
    by_cases h1 : o.sd = sd
    · have := h o (by simp) h1
      simp [h1, this]
    · simp [h1]

/-- What an order meets, level by level. -/
theorem room_levels {w : World} {pb : Nat} {g : Gh} {L : List Od} (h : BkAt w pb g L) (hL : BookOk L) {sd pr : Int} (hsd : sd = 1 ∨ sd = 2) (hp : 0 ≤ pr ∧ pr ≤ 99) :
    sumTo (fun p => if decide (keyOf' (otherS sd) p ≤ keyOf' (otherS sd) (codePr sd pr)) then wsum (atLv (otherS sd) p) L else 0) (g.V (otherS sd)) (g.V (otherS sd)).length = bRoom L sd pr := by
  have hs := h.side (sides hsd).1
  rw [sum_levels hs.vnd (fun p => decide (keyOf' (otherS sd) p ≤ keyOf' (otherS sd) (codePr sd pr))) (otherS sd) L (fun o ho e => (hs.vmem _).2 (fun e' => by
    have : o.id ∈ lvIds L (otherS sd) o.pr := mem_lvIds.2 ⟨o, ho, rfl, e, rfl⟩
    rw [e'] at this; cases this)), bRoom_eq]
  refine wsum_congr fun o ho => ?_
  have := meets_key hL hsd hp ho
  rw [Bool.eq_iff_iff, this]
  simp

theorem sorted_eq {k : Int → Int} : ∀ {l m : List Int}, l.Pairwise (fun a b => k a < k b) → m.Pairwise (fun a b => k a < k b) → (∀ x, x ∈ l ↔ x ∈ m) → l = m
  | [], [], _, _, _ => rfl
  | [], b :: m, _, _, h => absurd ((h b).2 (by simp)) (by simp)
  | a :: l, [], _, _, h => absurd ((h a).1 (by simp)) (by simp)
  | a :: l, b :: m, h1, h2, h => by
    rw [List.pairwise_cons] at h1 h2
    have hab : a = b := by
      rcases List.mem_cons.1 ((h a).1 (by simp)) with e | e
      · exact e
      · rcases List.mem_cons.1 ((h b).2 (by simp)) with e' | e'
        · exact e'.symm
        · have := h2.1 a e; have := h1.1 b e'; omega
    subst hab
    rw [sorted_eq h1.2 h2.2 (fun x => ⟨fun hx => ?_, fun hx => ?_⟩)]
    · rcases List.mem_cons.1 ((h x).1 (List.mem_cons_of_mem _ hx)) with e | e
      · subst e; have := h1.1 x hx; omega
      · exact e
    · rcases List.mem_cons.1 ((h x).2 (List.mem_cons_of_mem _ hx)) with e | e
      · subst e; have := h2.1 x hx; omega
      · exact e

/-- Prices in a side's order. -/
def sortP (sd : Int) (V : List Int) : List Int := V.mergeSort (fun x y => !decide (keyOf' sd y < keyOf' sd x))
theorem sortP_perm (sd : Int) (V : List Int) : (sortP sd V).Perm V := List.mergeSort_perm _ _
theorem sortP_sorted {sd : Int} {V : List Int} (hV : V.Nodup) : (sortP sd V).Pairwise (fun a b => keyOf' sd a < keyOf' sd b) := by
  have h1 : (sortP sd V).Pairwise (fun a b => (!decide (keyOf' sd b < keyOf' sd a)) = true) := List.pairwise_mergeSort (le := fun x y => !decide (keyOf' sd y < keyOf' sd x)) (by intro a b c; simp; omega) (by intro a b; simp; omega) V
  have h2 : (sortP sd V).Nodup := (sortP_perm sd V).nodup_iff.2 hV
  have h3 := List.pairwise_and_iff.2 ⟨h1, h2⟩
  refine h3.imp ?_
  rintro a b ⟨ha, hb⟩
  simp at ha
  rcases Int.lt_or_eq_of_le ha with h | h
  · exact h
  · exact absurd (key_inj h) hb

theorem bLevelTo_n (L : List Od) (sd pr : Int) : ∀ n, n ≤ L.length → (bLevelTo L sd pr n).2 = (((L.take n).filter (atLv sd pr)).length : Int)
  | 0, _ => by simp [bLevelTo]
  | n + 1, hn => by
    have ih := bLevelTo_n L sd pr n (by omega)
    have e : L.getD n od0 = L[n] := getD_at (by omega)
    rw [bLevelTo, List.take_succ_eq_append_getElem (by omega), List.filter_append, List.length_append, e]
    by_cases hc : L[n].sd = sd ∧ L[n].pr = pr
    · have : atLv sd pr L[n] = true := by simp [atLv, hc]
      rw [if_pos hc]
      simp [this, ih]
    · have : atLv sd pr L[n] = false := by
        unfold atLv
        rw [Bool.eq_false_iff]
        simpa using hc
      rw [if_neg hc]
      simp [this, ih]
theorem bLevel_eq (L : List Od) (sd p : Int) : bLevel L sd p = ⟨p, wsum (atLv sd p) L, ((lvIds L sd p).length : Int)⟩ := by
  have h1 := (bLevel_q L sd p).1
  have h2 := bLevelTo_n L sd p L.length (Nat.le_refl _)
  rw [List.take_length] at h2
  unfold bLevel at h1 ⊢
  simp only at h1
  rw [h1, h2]
  simp [lvIds]
  rfl

theorem bDepthTo_eq (L : List Od) (sd : Int) : ∀ n, bDepthTo L sd n = ((((List.range n).map (fun i => bPrice sd (i + 1))).filter (fun p => decide (lvIds L sd p ≠ []))).map (bLevel L sd))
  | 0 => rfl
  | n + 1 => by
    rw [bDepthTo, bDepthTo_eq L sd n, List.range_succ, List.map_append, List.filter_append, List.map_append]
    congr 1
    have hn : (bLevel L sd (bPrice sd (n + 1))).n = ((lvIds L sd (bPrice sd (n + 1))).length : Int) := by rw [bLevel_eq]
    rw [hn]
    by_cases hc : lvIds L sd (bPrice sd (n + 1)) = []
    · simp [hc]
    · have : 0 < (lvIds L sd (bPrice sd (n + 1))).length := List.length_pos_iff.2 hc
      simp [hc]
theorem price_sorted (sd : Int) : ∀ n : Nat, ((List.range n).map (fun i => bPrice sd (i + 1))).Pairwise (fun a b => keyOf' sd a < keyOf' sd b) := by
  intro n
  rw [List.pairwise_map]
  refine (List.pairwise_lt_range).imp ?_
  intro a b h
  unfold bPrice keyOf'
  split <;> omega

/-- What rests on a side, as the program comes to it. -/
theorem depth_levels {w : World} {pb : Nat} {g : Gh} {L : List Od} (h : BkAt w pb g L) {sd : Int} (hsd : sd = 1 ∨ sd = 2) :
    (sortP sd (g.V sd)).map (fun p => (⟨p, wsum (atLv sd p) L, ((lvIds L sd p).length : Int)⟩ : Lv)) = bDepth L sd := by
  have hs := h.side hsd
  have e : (fun p => (⟨p, wsum (atLv sd p) L, ((lvIds L sd p).length : Int)⟩ : Lv)) = bLevel L sd := by funext p; rw [bLevel_eq]
  unfold bDepth
  rw [e, bDepthTo_eq]
  congr 1
  refine sorted_eq (k := keyOf' sd) (sortP_sorted hs.vnd) ((price_sorted sd 99).filter _) (fun x => ?_)
  rw [(sortP_perm sd _).mem_iff, hs.vmem]
  simp only [List.mem_filter, List.mem_map, List.mem_range, decide_eq_true_eq]
  constructor
  · intro hx
    refine ⟨?_, hx⟩
    obtain ⟨id, hid⟩ := List.exists_mem_of_ne_nil _ hx
    obtain ⟨o, ho, _, _, e2⟩ := mem_lvIds.1 hid
    obtain ⟨_, _, _, ⟨p1, p2⟩, _⟩ := h.ok.each o ho
    rcases hsd with rfl | rfl
    · exact ⟨(99 - x).toNat, by omega, by simp [bPrice]; omega⟩
    · exact ⟨(x - 1).toNat, by omega, by simp [bPrice]; omega⟩
  · exact fun hx => hx.2
theorem depth_wrong (L : List Od) (hL : ∀ o ∈ L, o.sd = 1 ∨ o.sd = 2) {sd : Int} (h : ¬ (sd = 1 ∨ sd = 2)) : bDepth L sd = [] := by
  unfold bDepth
  rw [bDepthTo_eq, List.map_eq_nil_iff, List.filter_eq_nil_iff]
  intro p _
  simp only [decide_eq_true_eq, Classical.not_not]
  by_cases e : lvIds L sd p = []
  · exact e
  · obtain ⟨id, hid⟩ := List.exists_mem_of_ne_nil _ e
    obtain ⟨o, ho, _, e2, _⟩ := mem_lvIds.1 hid
    exact absurd (by rw [← e2]; exact hL o ho) h
end Go.Proofs.Ytbljokilfkodfaa
