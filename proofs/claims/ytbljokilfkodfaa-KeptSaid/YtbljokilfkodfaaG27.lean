/-
  Kept: what a command brings, all of it; what the levels tell.
-/
import Derived.Test.YtbljokilfkodfaaG16
import Derived.Test.YtbljokilfkodfaaG3
namespace Go.Proofs.Ytbljokilfkodfaa

theorem fair_of_taken {L : List Od} {c : Cm} (hr : bRefused L c = 0) : cmFair c = true := by
  unfold bRefused at hr
  by_cases hf : cmFair c = true
  · exact hf
  · simp [hf] at hr
theorem fair_parts {c : Cm} (hf : cmFair c = true) : (c.k = 6 → (1 ≤ c.pr ∧ c.pr ≤ 99) ∧ 1 ≤ c.q ∧ c.q ≤ 99) ∧ (c.k ≠ 5 → c.k ≠ 6 → (1 ≤ c.sd ∧ c.sd ≤ 2) ∧ (1 ≤ c.q ∧ c.q ≤ 99) ∧ (c.k ≠ 2 → 1 ≤ c.pr ∧ c.pr ≤ 99)) := by
  have hfb := hf
  unfold cmFair fairB at hfb
  simp only [Bool.and_eq_true, inB_iff] at hfb
  obtain ⟨⟨⟨hk, hc⟩, hi⟩, hrest⟩ := hfb
  refine ⟨fun h6 => ?_, fun h5 h6 => ?_⟩
  · rw [if_neg (show ¬ c.k = 2 by omega), if_neg (show ¬ c.k = 5 by omega), if_pos h6] at hrest
    simp only [Bool.and_eq_true, inB_iff, decide_eq_true_eq] at hrest
    omega
  · by_cases h2 : c.k = 2
    · rw [if_pos h2] at hrest
      simp only [Bool.and_eq_true, inB_iff, decide_eq_true_eq] at hrest
      omega
    · rw [if_neg h2, if_neg h5, if_neg h6] at hrest
      simp only [Bool.and_eq_true, inB_iff] at hrest
      omega

/-- What a command that is taken brings; T: the sides as they were told, left: what its order had. -/
structure DoKept (L : List Od) (c : Cm) (T : Int → Int) (E : List Ev) (L' : List Od) : Prop where
  trades : kTrades c.id c.pr (if c.k = 5 ∨ c.k = 6 then T c.id else c.sd) 0 E
  cancel : c.k = 5 → evSum 3 c.id E = 0 ∧ evSum 6 c.id E = 0 ∧ evSum 5 c.id E = (bLeft L c.id).1 ∧ tot L' = tot L - (bLeft L c.id).1
  replace : c.k = 6 → evSum 3 c.id E + evSum 6 c.id E = c.q ∧ evSum 5 c.id E = 0 ∧ tot L' = tot L - (bLeft L c.id).1 - evSum 3 c.id E + evSum 6 c.id E
  other : c.k ≠ 5 → c.k ≠ 6 → evSum 3 c.id E + evSum 6 c.id E + evSum 5 c.id E = c.q ∧ tot L' = tot L - evSum 3 c.id E + evSum 6 c.id E ∧ (c.k ≠ 1 → evSum 6 c.id E = 0) ∧ (c.k = 4 → evSum 3 c.id E = 0 ∨ evSum 3 c.id E = c.q)
  cross : NoCross L'
  sides : ∀ o ∈ L', (if c.k = 5 ∨ c.k = 6 then T o.id else if o.id = c.id then c.sd else T o.id) = o.sd

theorem evSum_accepted (e : Int) (he : e ≠ 1) (c : Cm) (E : List Ev) : evSum e c.id (evAccepted c :: E) = evSum e c.id E := by
  simp only [evSum]
  rw [if_neg (by rintro ⟨h, _⟩; exact he h.symm)]; omega
theorem kTrades_accepted {id pr sd last : Int} {c : Cm} {E : List Ev} : kTrades id pr sd last (evAccepted c :: E) ↔ kTrades id pr sd last E :=
  kTrades_skip (by rintro ⟨h, _⟩; exact absurd h (by show ¬ (1 : Int) = 3; decide))

theorem do_kept {L : List Od} (h : BookOk L) (hc : NoCross L) (c : Cm) (T : Int → Int) (hT : ∀ o ∈ L, T o.id = o.sd) (hr : bRefused L c = 0) : DoKept L c T (bDo L c).1 (bDo L c).2 := by
  have hf := fair_of_taken hr
  obtain ⟨f6, f1⟩ := fair_parts hf
  have hr0 := hr
  unfold bRefused at hr
  rw [if_pos hf] at hr
  unfold bDo
  rw [if_pos hr0]
  simp only
  by_cases h5 : c.k = 5
  · rw [if_pos h5]
    rw [if_pos (.inl h5)] at hr
    cases hfd : bFind L c.id with
    | none => rw [hfd] at hr; simp at hr
    | some i =>
      obtain ⟨hil, hid⟩ := bFind_some hfd
      simp only [Option.getD_some]
      have hleft : (bLeft L c.id).1 = (L.getD i od0).q := by unfold bLeft; rw [hfd]
      have s5 : ∀ e : Int, e ≠ 1 → evSum e c.id [evAccepted c, ⟨5, c.cl, c.id, 0, 0, (L.getD i od0).q⟩] = if e = 5 then (L.getD i od0).q else 0 := fun e he => by
        rw [evSum_accepted e he]
        simp only [evSum]
        by_cases h : e = 5
        · rw [if_pos h, if_pos ⟨h.symm, trivial⟩]; omega
        · rw [if_neg h, if_neg (by rintro ⟨h', _⟩; exact h h'.symm)]; rfl
      refine ⟨?_, fun _ => ⟨?_, ?_, ?_, ?_⟩, fun h6 => by omega, fun h => absurd h5 h, hc.erase i, fun o ho => ?_⟩
      · rw [kTrades_accepted, kTrades_skip (by rintro ⟨h, _⟩; exact absurd h (by show ¬ (5 : Int) = 3; decide))]; trivial
      · rw [s5 3 (by decide)]; simp
      · rw [s5 6 (by decide)]; simp
      · rw [s5 5 (by decide), hleft]; simp
      · rw [hleft]; unfold tot; rw [wsum_erase _ L i hil]; simp
      · rw [if_pos (.inl h5)]; exact hT o (List.mem_of_mem_eraseIdx ho)
  · rw [if_neg h5]
    by_cases h6 : c.k = 6
    · rw [if_pos h6]
      rw [if_pos (.inr h6)] at hr
      have f6' := f6 h6
      cases hfd : bFind L c.id with
      | none => rw [hfd] at hr; simp at hr
      | some i =>
        obtain ⟨hil, hid⟩ := bFind_some hfd
        have hm := h.each _ (getD_mem hil)
        have hside : T c.id = (L.getD i od0).sd := by rw [← hid]; exact hT _ (getD_mem hil)
        simp only [Option.getD_some]
        have hleft : (bLeft L c.id).1 = (L.getD i od0).q := by unfold bLeft; rw [hfd]
        have terase : tot (L.eraseIdx i) = tot L - (L.getD i od0).q := by unfold tot; rw [wsum_erase _ L i hil]; simp
        by_cases hin : (L.getD i od0).pr = c.pr ∧ c.q ≤ (L.getD i od0).q
        · rw [if_pos hin]
          have s6 : ∀ e : Int, e ≠ 1 → evSum e c.id [evAccepted c, ⟨6, c.cl, c.id, 0, c.pr, c.q⟩] = if e = 6 then c.q else 0 := fun e he => by
            rw [evSum_accepted e he]
            simp only [evSum]
            by_cases h : e = 6
            · rw [if_pos h, if_pos ⟨h.symm, trivial⟩]; omega
            · rw [if_neg h, if_neg (by rintro ⟨h', _⟩; exact h h'.symm)]; rfl
          refine ⟨?_, fun h => absurd h h5, fun _ => ⟨?_, ?_, ?_⟩, fun _ h => absurd h6 h, hc.set hil _, fun o ho => ?_⟩
          · rw [kTrades_accepted, kTrades_skip (by rintro ⟨h, _⟩; exact absurd h (by show ¬ (6 : Int) = 3; decide))]; trivial
          · rw [s6 3 (by decide), s6 6 (by decide)]; simp
          · rw [s6 5 (by decide)]; simp
          · rw [hleft, s6 3 (by decide), s6 6 (by decide)]; unfold tot; rw [wsum_set _ _ L i hil]; simp
          · rw [if_pos (.inr h6)]
            rcases List.mem_or_eq_of_mem_set ho with ho | rfl
            · exact hT o ho
            · exact hT (L.getD i od0) (getD_mem hil)
        · rw [if_neg hin]
          have K := enter_kept (h.erase i) (hc.erase i) 1 { L.getD i od0 with pr := c.pr, q := c.q } (by show 1 ≤ c.q; omega) hm.2.2.1 (fun _ => by show 1 ≤ c.pr; omega) (nodup_erase h hil)
          obtain ⟨r, hrr⟩ : ∃ r, r = bEnter (L.eraseIdx i) 1 { L.getD i od0 with pr := c.pr, q := c.q } := ⟨_, rfl⟩
          rw [← hrr] at K
          rw [← hrr]
          obtain ⟨k1, k2, k3, k4, k5, k6, k7, k8⟩ := K
          have k1' : evSum 3 c.id r.1 + evSum 6 c.id r.1 + evSum 5 c.id r.1 = c.q := by rw [← hid]; exact k1
          have k2' : tot r.2 = tot (L.eraseIdx i) - evSum 3 c.id r.1 + evSum 6 c.id r.1 := by rw [← hid]; exact k2
          have k4' : evSum 5 c.id r.1 = 0 := by rw [← hid]; exact k4 rfl
          refine ⟨?_, fun h => absurd h h5, fun _ => ⟨?_, ?_, ?_⟩, fun _ h => absurd h6 h, k7, fun o ho => ?_⟩
          · rw [kTrades_accepted, if_pos (.inr h6), hside]
            have : kTrades (L.getD i od0).id c.pr (L.getD i od0).sd 0 r.1 := k6
            rw [hid] at this; exact this
          · rw [evSum_accepted 3 (by decide), evSum_accepted 6 (by decide)]; omega
          · rw [evSum_accepted 5 (by decide)]; exact k4'
          · rw [evSum_accepted 3 (by decide), evSum_accepted 6 (by decide), hleft]; show tot r.2 = _; rw [k2', terase]
          · rw [if_pos (.inr h6)]
            rcases k8 o ho with ⟨m', hm', e1, e2⟩ | ⟨e1, e2⟩
            · rw [← e2, ← e1]; exact hT m' (List.mem_of_mem_eraseIdx hm')
            · have e2' : o.id = (L.getD i od0).id := e2
              have e1' : o.sd = (L.getD i od0).sd := e1
              rw [e2', e1']; exact hT _ (getD_mem hil)
    · rw [if_neg h6]
      rw [if_neg (by omega)] at hr
      obtain ⟨g1, g2, g3⟩ := f1 h5 h6
      cases hfd : bFind L c.id with
      | some i => rw [hfd] at hr; simp at hr
      | none =>
        have hnn := bFind_none hfd
        have K := enter_kept h hc c.k (cmOd c) g2.1 g1 (fun h1 => (g3 (by omega)).1) hnn
        obtain ⟨r, hrr⟩ : ∃ r, r = bEnter L c.k (cmOd c) := ⟨_, rfl⟩
        rw [← hrr] at K
        rw [← hrr]
        obtain ⟨k1, k2, k3, k4, k5, k6, k7, k8⟩ := K
        have k1' : evSum 3 c.id r.1 + evSum 6 c.id r.1 + evSum 5 c.id r.1 = c.q := k1
        have k2' : tot r.2 = tot L - evSum 3 c.id r.1 + evSum 6 c.id r.1 := k2
        refine ⟨?_, fun h => absurd h h5, fun h => absurd h h6, fun _ _ => ⟨?_, ?_, fun h1 => ?_, fun h4 => ?_⟩, k7, fun o ho => ?_⟩
        · rw [kTrades_accepted, if_neg (by omega)]; exact k6
        · rw [evSum_accepted 3 (by decide), evSum_accepted 6 (by decide), evSum_accepted 5 (by decide)]; exact k1'
        · rw [evSum_accepted 3 (by decide), evSum_accepted 6 (by decide)]; exact k2'
        · rw [evSum_accepted 6 (by decide)]; exact k3 h1
        · rw [evSum_accepted 3 (by decide)]; exact k5 h4
        · rw [if_neg (by omega)]
          rcases k8 o ho with ⟨m', hm', e1, e2⟩ | ⟨e1, e2⟩
          · rw [if_neg (fun e => hnn (List.mem_map.2 ⟨m', hm', e2.trans e⟩)), ← e2, ← e1]; exact hT m' hm'
          · rw [if_pos (show o.id = c.id from e2)]; exact e1.symm

theorem do_refused {L : List Od} {c : Cm} (hr : bRefused L c ≠ 0) : bDo L c = ([evRejected c (bRefused L c)], L) := by
  unfold bDo; rw [if_neg hr]
theorem do_taken {L : List Od} {c : Cm} (hr : bRefused L c = 0) : ∃ E, (bDo L c).1 = evAccepted c :: E := by
  unfold bDo
  rw [if_pos hr]
  simp only
  split
  · exact ⟨_, rfl⟩
  · split
    · split
      · exact ⟨_, rfl⟩
      · exact ⟨_, rfl⟩
    · exact ⟨_, rfl⟩

/-! ## The levels. -/
def lvSum : List Lv → Int
  | [] => 0
  | v :: l => v.q + lvSum l
theorem lvSum_append : ∀ (l m : List Lv), lvSum (l ++ m) = lvSum l + lvSum m
  | [], m => by simp [lvSum]
  | v :: l, m => by simp only [List.cons_append, lvSum, lvSum_append l m]; omega
def atPr (sd pr : Int) (o : Od) : Bool := decide (o.sd = sd) && decide (o.pr = pr)
theorem bLevelTo_eq (L : List Od) (sd pr : Int) : ∀ n, n ≤ L.length → (bLevelTo L sd pr n).1 = wsum (atPr sd pr) (L.take n) ∧ 0 ≤ (bLevelTo L sd pr n).2 ∧ ((bLevelTo L sd pr n).2 = 0 → ∀ o ∈ L.take n, atPr sd pr o = false) ∧ (0 < (bLevelTo L sd pr n).2 → ∃ o ∈ L, o.sd = sd ∧ o.pr = pr)
  | 0, _ => ⟨rfl, Int.le_refl _, fun _ o ho => by simp at ho, fun h => absurd h (by show ¬ (0 : Int) < 0; omega)⟩
  | n + 1, hn => by
    obtain ⟨i1, i2, i3, i4⟩ := bLevelTo_eq L sd pr n (by omega)
    have hg : L.getD n od0 = L[n] := by rw [List.getD_eq_getElem?_getD, List.getElem?_eq_getElem (show n < L.length by omega)]; rfl
    rw [bLevelTo, List.take_succ_eq_append_getElem (by omega), wsum_append, hg]
    split
    · rename_i hc
      have ha : atPr sd pr L[n] = true := by unfold atPr; simp [hc]
      refine ⟨?_, ?_, fun h => ?_, fun _ => ⟨_, List.getElem_mem (by omega), hc⟩⟩
      · show (bLevelTo L sd pr n).1 + L[n].q = _
        rw [i1]; simp [wsum, ha]
      · show 0 ≤ (bLevelTo L sd pr n).2 + 1; omega
      · have : (bLevelTo L sd pr n).2 + 1 = 0 := h
        omega
    · rename_i hc
      have ha : atPr sd pr L[n] = false := by
        unfold atPr
        simp only [Bool.and_eq_false_iff, decide_eq_false_iff_not]
        by_cases h1 : L[n].sd = sd
        · exact .inr fun h2 => hc ⟨h1, h2⟩
        · exact .inl h1
      refine ⟨?_, i2, fun h o ho => ?_, i4⟩
      · rw [i1]; simp [wsum, ha]
      · rcases List.mem_append.1 ho with ho | ho
        · exact i3 h o ho
        · rw [List.mem_singleton] at ho; rw [ho]; exact ha
theorem bLevel_q (L : List Od) (sd pr : Int) : (bLevel L sd pr).q = wsum (atPr sd pr) L ∧ ((bLevel L sd pr).n ≤ 0 → wsum (atPr sd pr) L = 0) ∧ (0 < (bLevel L sd pr).n → ∃ o ∈ L, o.sd = sd ∧ o.pr = pr) := by
  obtain ⟨h1, h2, h3, h4⟩ := bLevelTo_eq L sd pr L.length (Nat.le_refl _)
  rw [List.take_length] at h1 h3
  exact ⟨h1, fun h => wsum_none (h3 (by have : (bLevelTo L sd pr L.length).2 ≤ 0 := h; omega)), h4⟩
def inTo (sd : Int) (n : Nat) (o : Od) : Bool := decide (o.sd = sd) && (if sd = 1 then decide (100 - (n : Int) ≤ o.pr) && decide (o.pr ≤ 99) else decide (1 ≤ o.pr) && decide (o.pr ≤ (n : Int)))
theorem depth_sum (L : List Od) (sd : Int) : ∀ n : Nat, lvSum (bDepthTo L sd n) = wsum (inTo sd n) L
  | 0 => by
    rw [wsum_none]
    · rfl
    · intro o _
      unfold inTo
      split
      · by_cases h : o.pr ≤ 99
        · have : decide (100 - ((0 : Nat) : Int) ≤ o.pr) = false := decide_eq_false (by omega)
          rw [this]; simp
        · simp [h]
      · by_cases h : 1 ≤ o.pr
        · have : decide (o.pr ≤ ((0 : Nat) : Int)) = false := decide_eq_false (by omega)
          rw [this]; simp
        · simp [h]
  | n + 1 => by
    rw [bDepthTo, lvSum_append, depth_sum L sd n]
    obtain ⟨l1, l2, _⟩ := bLevel_q L sd (bPrice sd (n + 1))
    have e : lvSum (if 0 < (bLevel L sd (bPrice sd (n + 1))).n then [bLevel L sd (bPrice sd (n + 1))] else []) = wsum (atPr sd (bPrice sd (n + 1))) L := by
      split
      · show (bLevel L sd (bPrice sd (n + 1))).q + 0 = _
        rw [l1]; omega
      · rename_i hn
        rw [l2 (by omega)]; rfl
    rw [e]
    symm
    refine wsum_split fun o _ => ?_
    unfold inTo atPr bPrice
    by_cases hs : o.sd = sd
    · simp only [hs, decide_true, Bool.true_and]
      split
      · by_cases h1 : o.pr = 100 - ((n + 1 : Nat) : Int)
        · have a1 : decide (100 - ((n + 1 : Nat) : Int) ≤ o.pr) = true := decide_eq_true (by omega)
          have a2 : decide (o.pr ≤ 99) = true := decide_eq_true (by omega)
          have a3 : decide (100 - (n : Int) ≤ o.pr) = false := decide_eq_false (by omega)
          have a4 : decide (o.pr = 100 - ((n + 1 : Nat) : Int)) = true := decide_eq_true h1
          rw [a1, a2, a3, a4]; simp
        · have a4 : decide (o.pr = 100 - ((n + 1 : Nat) : Int)) = false := decide_eq_false h1
          have a1 : decide (100 - ((n + 1 : Nat) : Int) ≤ o.pr) = decide (100 - (n : Int) ≤ o.pr) := by
            by_cases h2 : 100 - (n : Int) ≤ o.pr
            · rw [decide_eq_true h2]; exact decide_eq_true (by omega)
            · rw [decide_eq_false h2]; exact decide_eq_false (by omega)
          rw [a1, a4]; simp
      · by_cases h1 : o.pr = ((n + 1 : Nat) : Int)
        · have a1 : decide (o.pr ≤ ((n + 1 : Nat) : Int)) = true := decide_eq_true (by omega)
          have a2 : decide (1 ≤ o.pr) = true := decide_eq_true (by omega)
          have a3 : decide (o.pr ≤ (n : Int)) = false := decide_eq_false (by omega)
          have a4 : decide (o.pr = ((n + 1 : Nat) : Int)) = true := decide_eq_true h1
          rw [a1, a2, a3, a4]; simp
        · have a4 : decide (o.pr = ((n + 1 : Nat) : Int)) = false := decide_eq_false h1
          have a1 : decide (o.pr ≤ ((n + 1 : Nat) : Int)) = decide (o.pr ≤ (n : Int)) := by
            by_cases h2 : o.pr ≤ (n : Int)
            · rw [decide_eq_true h2]; exact decide_eq_true (by omega)
            · rw [decide_eq_false h2]; exact decide_eq_false (by omega)
          rw [a1, a4]; simp
    · simp [hs]
/-- The levels of both sides tell how much rests. -/
theorem depth_tot {L : List Od} (h : BookOk L) : lvSum (bDepth L 1) + lvSum (bDepth L 2) = tot L := by
  unfold bDepth tot
  rw [depth_sum, depth_sum]
  symm
  refine wsum_split fun o ho => ?_
  obtain ⟨_, _, hs, hp, _⟩ := h.each o ho
  unfold inTo
  have p1 : decide (100 - ((99 : Nat) : Int) ≤ o.pr) = true := decide_eq_true (by omega)
  have p2 : decide (o.pr ≤ 99) = true := decide_eq_true (by omega)
  have p3 : decide (1 ≤ o.pr) = true := decide_eq_true (by omega)
  have p4 : decide (o.pr ≤ ((99 : Nat) : Int)) = true := decide_eq_true (by omega)
  by_cases h1 : o.sd = 1
  · have a1 : decide (o.sd = 1) = true := decide_eq_true h1
    have a2 : decide (o.sd = 2) = false := decide_eq_false (by omega)
    rw [a1, a2, p1, p2, p3, p4]; simp
  · have a1 : decide (o.sd = 1) = false := decide_eq_false h1
    have a2 : decide (o.sd = 2) = true := decide_eq_true (by omega)
    rw [a1, a2, p1, p2, p3, p4]; simp
theorem depth_mem {L : List Od} {sd : Int} : ∀ {n : Nat} {v : Lv}, v ∈ bDepthTo L sd n → ∃ o ∈ L, o.sd = sd ∧ o.pr = v.pr
  | 0, v, h => by simp [bDepthTo] at h
  | n + 1, v, h => by
    rw [bDepthTo] at h
    rcases List.mem_append.1 h with h | h
    · exact depth_mem h
    · split at h
      · rename_i hn
        rw [List.mem_singleton] at h
        subst h
        exact (bLevel_q L sd _).2.2 hn
      · cases h
/-- The best price that is bid is lower than the best one that is asked. -/
theorem depth_cross {L : List Od} (h : NoCross L) {a b : Lv} (ha : a ∈ bDepth L 1) (hb : b ∈ bDepth L 2) : a.pr < b.pr := by
  obtain ⟨o, ho, s1, e1⟩ := depth_mem ha
  obtain ⟨m, hm, s2, e2⟩ := depth_mem hb
  rw [← e1, ← e2]
  exact h o ho m hm s1 s2
end Go.Proofs.Ytbljokilfkodfaa
/-
  Turns, as plain mathematics: orders to sell at one price, then one to buy at any.
-/
namespace Go.Proofs.Ytbljokilfkodfaa

/-- An order of the law's: to sell at that price. -/
def tOd (p : Int) (id : Int) : Od := ⟨1, id, 2, p, 1 + id % 7⟩
def tBook (p : Int) (l : List Int) : List Od := l.map (tOd p)
def tCm (p id : Int) : Cm := ⟨1, 1, id, 2, p, 1 + id % 7⟩
def tBuy (q : Int) : Cm := ⟨2, 2, 99, 1, 0, q⟩

theorem tBook_at {p : Int} {l : List Int} {i : Nat} (h : i < l.length) : (tBook p l).getD i od0 = tOd p (l.getD i 0) := by
  unfold tBook
  rw [List.getD_eq_getElem?_getD, List.getD_eq_getElem?_getD, List.getElem?_map, List.getElem?_eq_getElem h]; rfl
theorem tBook_len (p : Int) (l : List Int) : (tBook p l).length = l.length := by unfold tBook; rw [List.length_map]
theorem tFind_none {p : Int} {l : List Int} {id : Int} (h : id ∉ l) : ∀ n, n ≤ l.length → bFindTo (tBook p l) id n = none
  | 0, _ => rfl
  | n + 1, hn => by
    unfold bFindTo
    rw [tFind_none h n (by omega), tBook_at (by omega)]
    have : l.getD n 0 ∈ l := by
      rw [List.getD_eq_getElem?_getD, List.getElem?_eq_getElem (show n < l.length by omega)]; exact List.getElem_mem _
    have hne : ¬ (tOd p (l.getD n 0)).id = id := fun e => h (by rw [← e]; exact this)
    simp only [hne, if_false]
theorem tFind {p : Int} {l : List Int} {id : Int} (h : id ∉ l) : bFind (tBook p l) id = none := by
  unfold bFind; rw [tBook_len]; exact tFind_none h _ (Nat.le_refl _)
/-- Of one that rests something is left. -/
theorem tLeft_in {p : Int} {l : List Int} {id : Int} (h : id ∈ l) (h0 : ∀ x ∈ l, 0 ≤ x) : 0 < (bLeft (tBook p l) id).1 := by
  unfold bLeft
  cases hf : bFind (tBook p l) id with
  | none =>
    exfalso
    refine bFind_none hf ?_
    unfold tBook
    rw [List.map_map]
    exact List.mem_map.2 ⟨id, h, rfl⟩
  | some i =>
    obtain ⟨hi, _⟩ := bFind_some hf
    rw [tBook_len] at hi
    show 0 < ((tBook p l).getD i od0).q
    rw [tBook_at hi]
    have hm : l.getD i 0 ∈ l := by
      rw [List.getD_eq_getElem?_getD, List.getElem?_eq_getElem hi]; exact List.getElem_mem _
    have := h0 _ hm
    show 0 < 1 + l.getD i 0 % 7
    omega
theorem tLeft_out {p : Int} {l : List Int} {id : Int} (h : id ∉ l) : (bLeft (tBook p l) id).1 = 0 := by
  unfold bLeft; rw [tFind h]

/-- No order to sell meets one to sell. -/
theorem tBest_sell (p : Int) (l : List Int) (pr : Int) : ∀ n, n ≤ l.length → bBestTo (tBook p l) 2 pr n = none
  | 0, _ => rfl
  | n + 1, hn => by
    unfold bBestTo
    rw [tBest_sell p l pr n (by omega), tBook_at (by omega)]
    have : bMeets 2 pr (tOd p (l.getD n 0)) = false := by unfold bMeets tOd; simp
    simp only [this]
    simp
theorem tDo_sell {p : Int} {l : List Int} {id : Int} (hp : 1 ≤ p ∧ p ≤ 99) (hid : 0 ≤ id ∧ id < 99) (hn : id ∉ l) (hl : l.length < 12) :
    (bDo (tBook p l) (tCm p id)).1.length = 2 ∧ (bDo (tBook p l) (tCm p id)).2 = tBook p (l ++ [id]) := by
  have hf : cmFair (tCm p id) = true := by
    have e : cmFair (tCm p id) = fairB 1 1 id 2 p (1 + id % 7) := rfl
    rw [e]
    unfold fairB
    have h1 : inB id 0 99 = true := inB_iff.2 (by omega)
    have h2 : inB p 1 99 = true := inB_iff.2 (by omega)
    have h3 : inB (1 + id % 7) 1 99 = true := inB_iff.2 (by omega)
    rw [h1, h2, h3]
    simp [inB]
  have hfd : bFind (tBook p l) (tCm p id).id = none := tFind hn
  have hr : bRefused (tBook p l) (tCm p id) = 0 := by
    unfold bRefused
    rw [hf, if_pos rfl, if_neg (by show ¬ ((1 : Int) = 5 ∨ (1 : Int) = 6); decide), hfd]
    simp only
    rw [if_neg]
    rintro ⟨_, h⟩
    rw [tBook_len] at h
    omega
  have hm : bMatch ((tBook p l).length + 2) (tBook p l) (cmOd (tCm p id)) (cmOd (tCm p id)).pr = ([], tBook p l, 1 + id % 7) := by
    rw [bMatch, if_neg (show ¬ (cmOd (tCm p id)).q ≤ 0 from (show ¬ (1 + id % 7) ≤ 0 by omega))]
    have : bBest (tBook p l) (cmOd (tCm p id)).sd (cmOd (tCm p id)).pr = none := by
      unfold bBest; rw [tBook_len]; exact tBest_sell p l p _ (Nat.le_refl _)
    rw [this]
    rfl
  have he : bEnter (tBook p l) 1 (cmOd (tCm p id)) = ([evRests (cmOd (tCm p id)) (1 + id % 7)], tBook p l ++ [tOd p id]) := by
    unfold bEnter
    rw [if_neg (by rintro ⟨h, _⟩; exact absurd h (by decide)), hm]
    simp only
    rw [if_neg (show ¬ (1 + id % 7) = 0 by omega), if_pos trivial]
    rfl
  unfold bDo
  rw [if_pos hr]
  simp only
  rw [if_neg (show ¬ (tCm p id).k = 5 from (show ¬ (1 : Int) = 5 by decide)), if_neg (show ¬ (tCm p id).k = 6 from (show ¬ (1 : Int) = 6 by decide))]
  have hk : (tCm p id).k = 1 := rfl
  rw [hk, he]
  refine ⟨rfl, ?_⟩
  show tBook p l ++ [tOd p id] = tBook p (l ++ [id])
  unfold tBook
  rw [List.map_append]; rfl

/-- What the law looks for: the trades are with those that are left, in their turn. -/
def tGood (p : Int) : List Ev → List Int → Int → Prop
  | [], l, want => want = 0 ∨ l = []
  | e :: E, l, want => if e.k = 3 ∧ e.id = 99 then (∃ x l', l = x :: l' ∧ e.ot = x ∧ e.q = (if want < 1 + x % 7 then want else 1 + x % 7) ∧ e.pr = p ∧ tGood p E l' (want - (if want < 1 + x % 7 then want else 1 + x % 7))) else tGood p E l want
theorem tGood_skip {p : Int} {e : Ev} {E : List Ev} {l : List Int} {want : Int} (h : ¬ (e.k = 3 ∧ e.id = 99)) : tGood p (e :: E) l want ↔ tGood p E l want := by
  rw [tGood]; simp only [h, if_false]
theorem tGood_snoc {p : Int} {e : Ev} (h : ¬ (e.k = 3 ∧ e.id = 99)) : ∀ {E : List Ev} {l : List Int} {want : Int}, tGood p E l want → tGood p (E ++ [e]) l want
  | [], l, want, hg => by
    show tGood p [e] l want
    rw [tGood_skip h]; exact hg
  | x :: E, l, want, hg => by
    show tGood p (x :: (E ++ [e])) l want
    rw [tGood] at hg ⊢
    split
    · rename_i hx
      rw [if_pos hx] at hg
      obtain ⟨y, l', h1, h2, h3, h4, h5⟩ := hg
      exact ⟨y, l', h1, h2, h3, h4, tGood_snoc h h5⟩
    · rename_i hx
      rw [if_neg hx] at hg
      exact tGood_snoc h hg

/-- The first that rests is the best. -/
theorem tBest_buy (p : Int) (x : Int) (l : List Int) : ∀ n, n ≤ l.length → bBestTo (tBook p (x :: l)) 1 0 (n + 1) = some 0
  | 0, _ => by
    unfold bBestTo bBestTo
    have : bMeets 1 0 ((tBook p (x :: l)).getD 0 od0) = true := by unfold tBook bMeets; rfl
    simp only [this, if_true]
  | n + 1, hn => by
    rw [bBestTo, tBest_buy p x l n (by omega)]
    dsimp only
    rw [tBook_at (show n + 1 < (x :: l).length by simp; omega), tBook_at (show 0 < (x :: l).length by simp)]
    have : bBetter (tOd p ((x :: l).getD (n + 1) 0)).sd (tOd p ((x :: l).getD (n + 1) 0)).pr (tOd p ((x :: l).getD 0 0)).pr = false := by
      unfold bBetter tOd; simp
    simp only [this]
    simp
theorem bMatch_len : ∀ (n : Nat) (L : List Od) (o : Od) (pr : Int), (bMatch n L o pr).1.length ≤ 3 * n + 1
  | 0, _, _, _ => by simp [bMatch]
  | n + 1, L, o, pr => by
    unfold bMatch
    split
    · simp
    · split
      · simp
      · rename_i k _
        show (bTradeEv L k o (bTake o (L.getD k od0)) ++ (bMatch n (bTraded L k (bTake o (L.getD k od0))) { o with q := o.q - bTake o (L.getD k od0) } pr).1).length ≤ _
        rw [List.length_append]
        have := bMatch_len n (bTraded L k (bTake o (L.getD k od0))) { o with q := o.q - bTake o (L.getD k od0) } pr
        have : (bTradeEv L k o (bTake o (L.getD k od0))).length ≤ 3 := by unfold bTradeEv; split <;> simp
        omega
theorem tMatch (p : Int) : ∀ (l : List Int) (n : Nat) (q : Int), (∀ x ∈ l, 0 ≤ x ∧ x < 99) → 0 ≤ q → (l.length + 2 ≤ n ∨ (q = 0 ∧ 1 ≤ n)) → tGood p (bMatch n (tBook p l) ⟨2, 99, 1, 0, q⟩ 0).1 l q ∧ (0 < q → (bMatch n (tBook p l) ⟨2, 99, 1, 0, q⟩ 0).1.length ≤ 3 * n + 1)
  | l, 0, q, _, _, hn => by omega
  | l, n + 1, q, hx, hq, hn => by
    unfold bMatch
    by_cases h0 : q ≤ 0
    · rw [if_pos h0]
      refine ⟨?_, fun h => by omega⟩
      rw [tGood_skip (show ¬ ((evFilled ⟨2, 99, 1, 0, q⟩).k = 3 ∧ (evFilled ⟨2, 99, 1, 0, q⟩).id = 99) by unfold evFilled; simp)]
      exact .inl (by omega)
    · rw [if_neg h0]
      cases l with
      | nil =>
        have : bBest (tBook p []) 1 0 = none := rfl
        simp only [this]
        exact ⟨.inr rfl, fun _ => by simp⟩
      | cons x l =>
        have hb : bBest (tBook p (x :: l)) 1 0 = some 0 := by
          unfold bBest; rw [tBook_len]; exact tBest_buy p x l _ (Nat.le_refl _)
        have hx0 := hx x (by simp)
        have hm : (tBook p (x :: l)).getD 0 od0 = tOd p x := rfl
        have ht : bTake ⟨2, 99, 1, 0, q⟩ (tOd p x) = (if q < 1 + x % 7 then q else 1 + x % 7) := by
          show (if 1 + x % 7 < q then 1 + x % 7 else q) = _
          split <;> split <;> omega
        obtain ⟨T, hT⟩ : ∃ T, T = (if q < 1 + x % 7 then q else 1 + x % 7) := ⟨_, rfl⟩
        have hTb : 1 ≤ T ∧ T ≤ q := by rw [hT]; split <;> omega
        rw [← hT] at ht
        simp only [hb, hm, ht]
        have good : ∀ (E : List Ev), tGood p E l (q - T) → tGood p (bTradeEv (tBook p (x :: l)) 0 ⟨2, 99, 1, 0, q⟩ T ++ E) (x :: l) q := by
          intro E hE
          have hskipB : ¬ ((evBack ⟨2, 99, 1, 0, q⟩ (tOd p x) T).k = 3 ∧ (evBack ⟨2, 99, 1, 0, q⟩ (tOd p x) T).id = 99) := by
            rintro ⟨_, h⟩
            have : x = 99 := h
            omega
          have hskipF : ¬ ((evFilled (tOd p x)).k = 3 ∧ (evFilled (tOd p x)).id = 99) := by
            rintro ⟨h, _⟩
            exact absurd h (by show ¬ (4 : Int) = 3; decide)
          unfold bTradeEv
          rw [hm]
          split
          · show tGood p (evTrade ⟨2, 99, 1, 0, q⟩ (tOd p x) T :: evBack ⟨2, 99, 1, 0, q⟩ (tOd p x) T :: evFilled (tOd p x) :: E) (x :: l) q
            rw [tGood, if_pos ⟨rfl, rfl⟩]
            refine ⟨x, l, rfl, rfl, hT, rfl, ?_⟩
            rw [← hT, tGood_skip hskipB, tGood_skip hskipF]
            exact hE
          · show tGood p (evTrade ⟨2, 99, 1, 0, q⟩ (tOd p x) T :: evBack ⟨2, 99, 1, 0, q⟩ (tOd p x) T :: E) (x :: l) q
            rw [tGood, if_pos ⟨rfl, rfl⟩]
            refine ⟨x, l, rfl, rfl, hT, rfl, ?_⟩
            rw [← hT, tGood_skip hskipB]
            exact hE
        refine ⟨good _ ?_, fun _ => ?_⟩
        · by_cases hq2 : q - T ≤ 0
          · obtain ⟨n', rfl⟩ : ∃ n', n = n' + 1 := ⟨n - 1, by simp at hn; omega⟩
            rw [bMatch, if_pos (show q - T ≤ 0 from hq2)]
            rw [tGood_skip (show ¬ ((evFilled ⟨2, 99, 1, 0, q - T⟩).k = 3 ∧ (evFilled ⟨2, 99, 1, 0, q - T⟩).id = 99) by unfold evFilled; simp)]
            exact .inl (by omega)
          · have hbt : bTraded (tBook p (x :: l)) 0 T = tBook p l := by
              unfold bTraded
              rw [hm, if_pos]
              · rfl
              · show 1 + x % 7 = T
                rw [hT]; rw [hT] at hq2; split at hq2 <;> split <;> omega
            rw [hbt]
            exact (tMatch p l n (q - T) (fun y hy => hx y (by simp [hy])) (by omega) (.inl (by simp at hn; omega))).1
        · have := (bMatch_len n (bTraded (tBook p (x :: l)) 0 T) ⟨2, 99, 1, 0, q - T⟩ 0)
          rw [List.length_append]
          have h3 : (bTradeEv (tBook p (x :: l)) 0 ⟨2, 99, 1, 0, q⟩ T).length ≤ 3 := by unfold bTradeEv; split <;> simp
          omega
/-- The trades of the one that buys. -/
theorem tDo_buy {p : Int} {l : List Int} {q : Int} (hx : ∀ x ∈ l, 0 ≤ x ∧ x < 99) (hq : 1 ≤ q ∧ q ≤ 99) : tGood p (bDo (tBook p l) (tBuy q)).1 l q := by
  have hn : (99 : Int) ∉ l := fun h => by have := hx _ h; omega
  have hf : cmFair (tBuy q) = true := by
    have e : cmFair (tBuy q) = fairB 2 2 99 1 0 q := rfl
    rw [e]
    unfold fairB
    have h3 : inB q 1 99 = true := inB_iff.2 (by omega)
    rw [h3]
    simp [inB]
  have hfd : bFind (tBook p l) (tBuy q).id = none := tFind hn
  have hr : bRefused (tBook p l) (tBuy q) = 0 := by
    unfold bRefused
    rw [hf, if_pos rfl, if_neg (show ¬ ((tBuy q).k = 5 ∨ (tBuy q).k = 6) from (show ¬ ((2 : Int) = 5 ∨ (2 : Int) = 6) by decide)), hfd]
    simp only
    rw [if_neg]
    rintro ⟨h, _⟩
    exact absurd h (by show ¬ (2 : Int) = 1; decide)
  unfold bDo
  rw [if_pos hr]
  simp only
  rw [if_neg (show ¬ (tBuy q).k = 5 from (show ¬ (2 : Int) = 5 by decide)), if_neg (show ¬ (tBuy q).k = 6 from (show ¬ (2 : Int) = 6 by decide))]
  rw [tGood_skip (show ¬ ((evAccepted (tBuy q)).k = 3 ∧ (evAccepted (tBuy q)).id = 99) by rintro ⟨h, _⟩; exact absurd h (by show ¬ (1 : Int) = 3; decide))]
  have hg := (tMatch p l (l.length + 2) q hx (by omega) (.inl (Nat.le_refl _))).1
  unfold bEnter
  rw [if_neg (show ¬ ((tBuy q).k = 4 ∧ _) by rintro ⟨h, _⟩; exact absurd h (by show ¬ (2 : Int) = 4; decide)), tBook_len]
  have e : bMatch (l.length + 2) (tBook p l) (cmOd (tBuy q)) (cmOd (tBuy q)).pr = bMatch (l.length + 2) (tBook p l) ⟨2, 99, 1, 0, q⟩ 0 := rfl
  rw [e]
  simp only
  split
  · exact hg
  · rw [if_neg (show ¬ (tBuy q).k = 1 from (show ¬ (2 : Int) = 1 by decide))]
    exact tGood_snoc (by unfold evCanceled; simp) hg
end Go.Proofs.Ytbljokilfkodfaa
