/-
  A heap, as plain mathematics: keys by places; what one round of 'up' and of 'down' keeps.
-/
import Derived.Test.YtbljokilfkodfaaG3
namespace Go.Proofs.Ytbljokilfkodfaa

/-- Among the first n places every one is at or above its own's parent. -/
def HeapTo (k : Nat → Int) (n : Nat) : Prop := ∀ j, 0 < j → j < n → k ((j - 1) / 2) ≤ k j
/-- .. but for place x against its parent; and x's children are at or above x's parent. -/
def HeapUp (k : Nat → Int) (n x : Nat) : Prop :=
  (∀ j, 0 < j → j < n → j ≠ x → k ((j - 1) / 2) ≤ k j) ∧ (0 < x → ∀ j, 0 < j → j < n → (j - 1) / 2 = x → k ((x - 1) / 2) ≤ k j)
/-- .. but for the children of place x against x; and they are at or above x's parent. -/
def HeapDown (k : Nat → Int) (n x : Nat) : Prop :=
  (∀ j, 0 < j → j < n → (j - 1) / 2 ≠ x → k ((j - 1) / 2) ≤ k j) ∧ (0 < x → ∀ j, 0 < j → j < n → (j - 1) / 2 = x → k ((x - 1) / 2) ≤ k j)
def swapK (k : Nat → Int) (a b : Nat) : Nat → Int := fun j => if j = a then k b else if j = b then k a else k j

theorem HeapUp.done {k : Nat → Int} {n x : Nat} (h : HeapUp k n x) (hx : x = 0 ∨ ¬ k x < k ((x - 1) / 2)) : HeapTo k n := by
  intro j h0 hn
  by_cases e : j = x
  · subst e
    rcases hx with hx | hx
    · omega
    · omega
  · exact h.1 j h0 hn e
theorem HeapUp.round {k : Nat → Int} {n x : Nat} (h : HeapUp k n x) (hx0 : 0 < x) (hxn : x < n) (hlt : k x < k ((x - 1) / 2)) : HeapUp (swapK k ((x - 1) / 2) x) n ((x - 1) / 2) := by
  obtain ⟨p, hp⟩ : ∃ p, p = (x - 1) / 2 := ⟨_, rfl⟩
  rw [← hp] at hlt ⊢
  have hpx : p < x := by omega
  constructor
  · intro j h0 hn hne
    unfold swapK
    by_cases e : j = x
    · subst e
      rw [if_neg (by omega : ¬ j = p), if_pos rfl, if_pos hp.symm]
      omega
    · rw [if_neg hne, if_neg e]
      have hj := h.1 j h0 hn e
      by_cases e1 : (j - 1) / 2 = p
      · rw [if_pos e1]
        rw [e1] at hj
        omega
      · rw [if_neg e1]
        by_cases e2 : (j - 1) / 2 = x
        · rw [if_pos e2]
          have := h.2 hx0 j h0 hn e2
          rw [← hp] at this
          exact this
        · rw [if_neg e2]
          exact hj
  · intro hp0 j h0 hn he
    unfold swapK
    have hpp : (p - 1) / 2 ≠ p ∧ (p - 1) / 2 ≠ x := by omega
    rw [if_neg hpp.1, if_neg hpp.2]
    have hpar := h.1 p hp0 (by omega) (by omega)
    by_cases e : j = x
    · subst e
      rw [if_neg (by omega : ¬ j = p), if_pos rfl]
      exact hpar
    · rw [if_neg (by omega : ¬ j = p), if_neg e]
      have := h.1 j h0 hn e
      rw [he] at this
      omega

theorem HeapDown.done {k : Nat → Int} {n x : Nat} (h : HeapDown k n x) (hx : ∀ j, 0 < j → j < n → (j - 1) / 2 = x → k x ≤ k j) : HeapTo k n := by
  intro j h0 hn
  by_cases e : (j - 1) / 2 = x
  · rw [e]; exact hx j h0 hn e
  · exact h.1 j h0 hn e
/-- c is x's child with the least key, and below x's. -/
theorem HeapDown.round {k : Nat → Int} {n x c : Nat} (h : HeapDown k n x) (hc0 : 0 < c) (hcn : c < n) (hcx : (c - 1) / 2 = x) (hmin : ∀ j, 0 < j → j < n → (j - 1) / 2 = x → k c ≤ k j) (hlt : k c < k x) : HeapDown (swapK k x c) n c := by
  have hxc : x < c := by omega
  constructor
  · intro j h0 hn hne
    unfold swapK
    rw [if_neg hne]
    by_cases e1 : (j - 1) / 2 = x
    · rw [if_pos e1]
      by_cases e : j = c
      · rw [if_neg (by omega : ¬ j = x), if_pos e]; omega
      · rw [if_neg (by omega : ¬ j = x), if_neg e]
        exact hmin j h0 hn e1
    · rw [if_neg e1]
      have hj := h.1 j h0 hn e1
      by_cases e2 : j = x
      · subst e2
        rw [if_pos rfl]
        exact h.2 h0 c hc0 hcn hcx
      · rw [if_neg e2, if_neg (by intro e; rw [e] at e1; exact e1 hcx)]
        exact hj
  · intro _ j h0 hn he
    unfold swapK
    rw [hcx, if_pos rfl]
    have e1 : ¬ j = x := by omega
    have e2 : ¬ j = c := by omega
    rw [if_neg e1, if_neg e2]
    have hne : (j - 1) / 2 ≠ x := by omega
    have := h.1 j h0 hn hne
    rw [he] at this
    exact this
/-- The last one comes to place x (it has gone from place n): as far as its children, and then as far as its parent, are not looked at. -/
theorem HeapTo.put {k : Nat → Int} {n x : Nat} (h : HeapTo k (n + 1)) (hx : x < n) : (∀ j, 0 < j → j < n → (j - 1) / 2 ≠ x → j ≠ x → swapK k x n ((j - 1) / 2) ≤ swapK k x n j) ∧ (0 < x → ∀ j, 0 < j → j < n → (j - 1) / 2 = x → swapK k x n ((x - 1) / 2) ≤ swapK k x n j) := by
  constructor
  · intro j h0 hn h1 h2
    unfold swapK
    rw [if_neg h1, if_neg (by omega), if_neg h2, if_neg (by omega)]
    exact h j h0 (by omega)
  · intro hx0 j h0 hn he
    unfold swapK
    rw [if_neg (by omega), if_neg (by omega), if_neg (by omega), if_neg (by omega)]
    have a := h j h0 (by omega)
    have b := h x hx0 (by omega)
    rw [he] at a
    omega
end Go.Proofs.Ytbljokilfkodfaa
/-
  Four halvings at once: what four bits bring, and what is shifted down.
-/
namespace Go.Proofs.Ytbljokilfkodfaa

theorem xor_div2 (a b : Nat) : (a ^^^ b) / 2 = a / 2 ^^^ b / 2 := by
  have := Nat.shiftRight_xor_distrib (i := 1) (a := a) (b := b)
  simpa [Nat.shiftRight_eq_div_pow] using this
theorem xor_mod2 (a b : Nat) : (a ^^^ b) % 2 = (a % 2 + b % 2) % 2 := by
  have h : (a ^^^ b) % 2 = (a % 2) ^^^ (b % 2) := by
    have := Nat.xor_mod_two_pow (a := a) (b := b) (n := 1)
    simpa using this
  rw [h]
  rcases Nat.mod_two_eq_zero_or_one a with ha | ha <;> rcases Nat.mod_two_eq_zero_or_one b with hb | hb <;> rw [ha, hb] <;> rfl
theorem pStep_xor (a b : Nat) : pStep (a ^^^ b) = pStep a ^^^ pStep b := by
  unfold pStep
  rw [xor_div2, xor_mod2]
  rcases Nat.mod_two_eq_zero_or_one a with ha | ha <;> rcases Nat.mod_two_eq_zero_or_one b with hb | hb <;> simp only [ha, hb] <;> simp
  · rw [Nat.xor_assoc]
  · rw [Nat.xor_assoc, Nat.xor_assoc, Nat.xor_comm (b/2)]
  · have : (a / 2 ^^^ 3988292384) ^^^ (b / 2 ^^^ 3988292384) = (a/2 ^^^ b/2) ^^^ (3988292384 ^^^ 3988292384) := by ac_rfl
    rw [this]; simp
theorem pSteps_xor (k a b : Nat) : pSteps k (a ^^^ b) = pSteps k a ^^^ pSteps k b := by
  induction k with
  | zero => rfl
  | succ k ih => rw [pSteps, pSteps, pSteps, ih, pStep_xor]
theorem pSteps_even (k h : Nat) : pSteps k (2 ^ k * h) = h := by
  induction k generalizing h with
  | zero => simp [pSteps]
  | succ k ih =>
    rw [pSteps, show 2 ^ (k+1) * h = 2 ^ k * (2 * h) by rw [Nat.pow_succ]; ac_rfl, ih, pStep, if_neg (by omega)]; omega
theorem split16 (c : Nat) : c = (16 * (c / 16)) ^^^ (c % 16) := by
  apply Nat.eq_of_testBit_eq
  intro i
  rw [Nat.testBit_xor, show (16:Nat) = 2^4 from rfl, Nat.testBit_two_pow_mul, Nat.testBit_mod_two_pow]
  by_cases hi : i < 4
  · simp [hi, show ¬ 4 ≤ i by omega]
  · simp [hi, show 4 ≤ i by omega]
    rw [show (16:Nat) = 2^4 from rfl, Nat.testBit_div_two_pow, show i - 4 + 4 = i by omega]
theorem nib (c : Nat) : pSteps 4 c = (c / 16) ^^^ pSteps 4 (c % 16) := by
  conv => lhs; rw [split16 c]
  rw [pSteps_xor]
  rw [show pSteps 4 (16 * (c/16)) = c / 16 from pSteps_even 4 (c/16)]
theorem pSteps_add (a b c : Nat) : pSteps (a + b) c = pSteps a (pSteps b c) := by
  induction a with
  | zero => simp [pSteps]
  | succ a ih => rw [Nat.succ_add, pSteps, pSteps, ih]
theorem pByte_nib (c b : Nat) : pByte c b = (let n := c ^^^ b; let m := (n / 16) ^^^ pSteps 4 (n % 16); (m / 16) ^^^ pSteps 4 (m % 16)) := by
  unfold pByte
  rw [show (8 : Nat) = 4 + 4 from rfl, pSteps_add, nib (pSteps 4 (c ^^^ b)), nib (c ^^^ b)]
end Go.Proofs.Ytbljokilfkodfaa
/-
  Kept, as plain mathematics: nothing is lost, nothing comes from nowhere; never crossed; the trades in their order.
-/
namespace Go.Proofs.Ytbljokilfkodfaa

/-- How much rests of those that φ takes. -/
def wsum (φ : Od → Bool) : List Od → Int
  | [] => 0
  | o :: L => (if φ o then o.q else 0) + wsum φ L
def tot (L : List Od) : Int := wsum (fun _ => true) L

theorem wsum_append (φ : Od → Bool) : ∀ (L M : List Od), wsum φ (L ++ M) = wsum φ L + wsum φ M
  | [], M => by simp [wsum]
  | o :: L, M => by simp only [List.cons_append, wsum, wsum_append φ L M]; omega
theorem wsum_erase (φ : Od → Bool) : ∀ (L : List Od) (i : Nat), i < L.length → wsum φ (L.eraseIdx i) = wsum φ L - (if φ (L.getD i od0) then (L.getD i od0).q else 0)
  | [], i, h => absurd h (by simp)
  | o :: L, 0, _ => by
    show wsum φ L = (if φ o then o.q else 0) + wsum φ L - (if φ o then o.q else 0)
    omega
  | o :: L, i + 1, h => by
    have := wsum_erase φ L i (by simpa using h)
    show (if φ o then o.q else 0) + wsum φ (L.eraseIdx i) = (if φ o then o.q else 0) + wsum φ L - (if φ (L.getD i od0) then (L.getD i od0).q else 0)
    omega
theorem wsum_set (φ : Od → Bool) (x : Od) : ∀ (L : List Od) (i : Nat), i < L.length → wsum φ (L.set i x) = wsum φ L - (if φ (L.getD i od0) then (L.getD i od0).q else 0) + (if φ x then x.q else 0)
  | [], i, h => absurd h (by simp)
  | o :: L, 0, _ => by
    show (if φ x then x.q else 0) + wsum φ L = (if φ o then o.q else 0) + wsum φ L - (if φ o then o.q else 0) + (if φ x then x.q else 0)
    omega
  | o :: L, i + 1, h => by
    have := wsum_set φ x L i (by simpa using h)
    show (if φ o then o.q else 0) + wsum φ (L.set i x) = (if φ o then o.q else 0) + wsum φ L - (if φ (L.getD i od0) then (L.getD i od0).q else 0) + (if φ x then x.q else 0)
    omega
theorem wsum_congr {φ ψ : Od → Bool} : ∀ {L : List Od}, (∀ o ∈ L, φ o = ψ o) → wsum φ L = wsum ψ L
  | [], _ => rfl
  | o :: L, h => by
    simp only [wsum]
    rw [h o (by simp), wsum_congr (fun x hx => h x (by simp [hx]))]
theorem wsum_none {φ : Od → Bool} : ∀ {L : List Od}, (∀ o ∈ L, φ o = false) → wsum φ L = 0
  | [], _ => rfl
  | o :: L, h => by
    simp only [wsum]
    rw [h o (by simp), wsum_none (fun x hx => h x (by simp [hx]))]; simp
theorem wsum_split {φ ψ χ : Od → Bool} : ∀ {L : List Od}, (∀ o ∈ L, (if χ o then o.q else 0) = (if φ o then o.q else 0) + (if ψ o then o.q else 0)) → wsum χ L = wsum φ L + wsum ψ L
  | [], _ => rfl
  | o :: L, h => by
    simp only [wsum]
    rw [h o (by simp), wsum_split (fun x hx => h x (by simp [hx]))]; omega

/-- A weight that the quantity has no part in. -/
def Blind (φ : Od → Bool) : Prop := ∀ (o : Od) (q : Int), φ { o with q := q } = φ o
theorem wsum_traded {φ : Od → Bool} (hφ : Blind φ) {L : List Od} {k : Nat} (hk : k < L.length) (t : Int) : wsum φ (bTraded L k t) = wsum φ L - (if φ (L.getD k od0) then t else 0) := by
  unfold bTraded
  split
  · rename_i h
    rw [wsum_erase φ L k hk, h]
  · have e : (if φ { L.getD k od0 with q := (L.getD k od0).q - t } then ({ L.getD k od0 with q := (L.getD k od0).q - t } : Od).q else 0) = if φ (L.getD k od0) then (L.getD k od0).q - t else 0 := by rw [hφ]
    rw [wsum_set φ _ L k hk, e]
    split <;> omega

theorem bBestTo_none' {L : List Od} {sd pr : Int} : ∀ {n : Nat}, bBestTo L sd pr n = none → ∀ j, j < n → bMeets sd pr (L.getD j od0) = false
  | 0, _, j, hj => absurd hj (by omega)
  | n + 1, h, j, hj => by
    unfold bBestTo at h
    cases hb : bBestTo L sd pr n with
    | none =>
      rw [hb] at h
      simp only at h
      split at h
      · cases h
      · rename_i hm
        rcases Nat.lt_or_ge j n with hlt | hge
        · exact bBestTo_none' hb j hlt
        · obtain rfl : j = n := by omega
          simpa using hm
    | some i =>
      rw [hb] at h
      simp only at h
      split at h <;> cases h
theorem bBest_none' {L : List Od} {sd pr : Int} (h : bBest L sd pr = none) : ∀ o ∈ L, bMeets sd pr o = false := fun o ho => by
  obtain ⟨i, hi, rfl⟩ := mem_getD ho
  exact bBestTo_none' h i hi
theorem meets_side {sd pr : Int} {o : Od} (hsd : 1 ≤ sd ∧ sd ≤ 2) (ho : 1 ≤ o.sd ∧ o.sd ≤ 2) (h : bMeets sd pr o = true) : o.sd = 3 - sd := by
  unfold bMeets at h
  simp only [Bool.and_eq_true, Bool.not_eq_true', decide_eq_false_iff_not] at h
  omega
theorem meets_price {sd pr : Int} {o : Od} (h : bMeets sd pr o = true) : pr = 0 ∨ (sd = 1 ∧ o.pr ≤ pr) ∨ (sd ≠ 1 ∧ pr ≤ o.pr) := by
  unfold bMeets at h
  simp only [Bool.and_eq_true, Bool.or_eq_true, decide_eq_true_eq] at h
  rcases h.2 with h | h
  · exact .inl h
  · split at h
    · rename_i hs
      exact .inr (.inl ⟨hs, by simpa using h⟩)
    · rename_i hs
      exact .inr (.inr ⟨hs, by simpa using h⟩)

/-- The best that is met: no other that is met has a better price. -/
theorem bBestTo_best {L : List Od} {sd pr : Int} (hsd : 1 ≤ sd ∧ sd ≤ 2) (hL : ∀ o ∈ L, 1 ≤ o.sd ∧ o.sd ≤ 2) : ∀ {n k : Nat}, n ≤ L.length → bBestTo L sd pr n = some k →
    bMeets sd pr (L.getD k od0) = true ∧ ∀ j, j < n → bMeets sd pr (L.getD j od0) = true → (sd = 1 → (L.getD k od0).pr ≤ (L.getD j od0).pr) ∧ (sd = 2 → (L.getD j od0).pr ≤ (L.getD k od0).pr)
  | 0, k, _, h => by simp [bBestTo] at h
  | n + 1, k, hn, h => by
    unfold bBestTo at h
    cases hb : bBestTo L sd pr n with
    | none =>
      rw [hb] at h
      simp only at h
      split at h
      · rename_i hm
        simp at h
        subst h
        refine ⟨hm, fun j hj hmj => ?_⟩
        rcases Nat.lt_or_ge j n with hlt | hge
        · exact absurd hmj (by rw [bBestTo_none' hb j hlt]; simp)
        · obtain rfl : j = n := by omega
          exact ⟨fun _ => Int.le_refl _, fun _ => Int.le_refl _⟩
      · cases h
    | some i =>
      rw [hb] at h
      obtain ⟨h1, h2⟩ := bBestTo_best hsd hL (by omega) hb
      have hi := bBestTo_some hb
      simp only at h
      split at h
      · rename_i hc
        simp at h
        subst h
        simp only [Bool.and_eq_true] at hc
        refine ⟨hc.1, fun j hj hmj => ?_⟩
        rcases Nat.lt_or_ge j n with hlt | hge
        · have hs := meets_side hsd (hL _ (getD_mem (show n < L.length by omega))) hc.1
          have h3 := h2 j hlt hmj
          have hc2 := hc.2
          unfold bBetter at hc2
          split at hc2
          · have := of_decide_eq_true hc2
            exact ⟨fun e => by omega, fun e => by have := h3.2 e; omega⟩
          · have := of_decide_eq_true hc2
            exact ⟨fun e => by have := h3.1 e; omega, fun e => by omega⟩
        · obtain rfl : j = n := by omega
          exact ⟨fun _ => Int.le_refl _, fun _ => Int.le_refl _⟩
      · rename_i hc
        simp at h
        subst h
        refine ⟨h1, fun j hj hmj => ?_⟩
        rcases Nat.lt_or_ge j n with hlt | hge
        · exact h2 j hlt hmj
        · obtain rfl : j = n := by omega
          have hs := meets_side hsd (hL _ (getD_mem (show j < L.length by omega))) hmj
          rw [hmj] at hc
          simp only [Bool.true_and, Bool.not_eq_true] at hc
          unfold bBetter at hc
          split at hc
          · have := of_decide_eq_false hc
            exact ⟨fun e => by omega, fun e => by omega⟩
          · have := of_decide_eq_false hc
            exact ⟨fun e => by omega, fun e => by omega⟩
theorem bBest_best {L : List Od} {sd pr : Int} (hsd : 1 ≤ sd ∧ sd ≤ 2) (hL : BookOk L) {k : Nat} (h : bBest L sd pr = some k) :
    bMeets sd pr (L.getD k od0) = true ∧ ∀ o ∈ L, bMeets sd pr o = true → (sd = 1 → (L.getD k od0).pr ≤ o.pr) ∧ (sd = 2 → o.pr ≤ (L.getD k od0).pr) := by
  obtain ⟨h1, h2⟩ := bBestTo_best hsd (fun o ho => (hL.each o ho).2.2.1) (Nat.le_refl _) h
  refine ⟨h1, fun o ho hm => ?_⟩
  obtain ⟨j, hj, rfl⟩ := mem_getD ho
  exact h2 j hj hm
theorem mem_traded {L : List Od} {k : Nat} (hk : k < L.length) (t : Int) {o : Od} (h : o ∈ bTraded L k t) : ∃ m ∈ L, m.sd = o.sd ∧ m.pr = o.pr ∧ m.id = o.id := by
  unfold bTraded at h
  split at h
  · exact ⟨o, List.mem_of_mem_eraseIdx h, rfl, rfl, rfl⟩
  · rcases List.mem_or_eq_of_mem_set h with h | rfl
    · exact ⟨o, h, rfl, rfl, rfl⟩
    · exact ⟨_, getD_mem hk, rfl, rfl, rfl⟩
theorem meets_congr {sd pr : Int} {o m : Od} (h1 : m.sd = o.sd) (h2 : m.pr = o.pr) : bMeets sd pr m = bMeets sd pr o := by
  unfold bMeets; rw [h1, h2]
end Go.Proofs.Ytbljokilfkodfaa
/-
  Kept: what a match brings.
-/
namespace Go.Proofs.Ytbljokilfkodfaa

/-- Of all events of a kind and a number, how much. -/
def evSum (k id : Int) : List Ev → Int
  | [] => 0
  | e :: E => (if e.k = k ∧ e.id = id then e.q else 0) + evSum k id E
theorem evSum_append (k id : Int) : ∀ (E F : List Ev), evSum k id (E ++ F) = evSum k id E + evSum k id F
  | [], F => by simp [evSum]
  | e :: E, F => by simp only [List.cons_append, evSum, evSum_append k id E F]; omega

def okPrice (pr sd x : Int) : Prop := ¬ (0 < pr ∧ ((sd = 1 ∧ pr < x) ∨ (sd = 2 ∧ x < pr)))
def okOrder (last sd x : Int) : Prop := ¬ (0 < last ∧ ((sd = 1 ∧ x < last) ∨ (sd = 2 ∧ last < x)))
/-- The trades are told to both, at prices that are allowed, the better ones first. -/
def kTrades (id pr sd : Int) : Int → List Ev → Prop
  | _, [] => True
  | last, x :: E =>
    if x.k = 3 ∧ x.id = id then
      (∃ y E', E = y :: E' ∧ y.k = 3 ∧ y.id = x.ot ∧ y.ot = x.id ∧ y.pr = x.pr ∧ y.q = x.q) ∧ 1 ≤ x.q ∧ x.ot ≠ id ∧ okPrice pr sd x.pr ∧ okOrder last sd x.pr ∧ kTrades id pr sd x.pr E
    else kTrades id pr sd last E
theorem kTrades_skip {id pr sd last : Int} {x : Ev} {E : List Ev} (h : ¬ (x.k = 3 ∧ x.id = id)) : kTrades id pr sd last (x :: E) ↔ kTrades id pr sd last E := by
  rw [kTrades, if_neg h]
theorem kTrades_snoc {id pr sd : Int} {x : Ev} (h : ¬ (x.k = 3 ∧ x.id = id)) : ∀ {last : Int} {E : List Ev}, kTrades id pr sd last E → kTrades id pr sd last (E ++ [x])
  | last, [], _ => by
    show kTrades id pr sd last [x]
    rw [kTrades_skip h]; trivial
  | last, e :: E, hk => by
    show kTrades id pr sd last (e :: (E ++ [x]))
    rw [kTrades] at hk ⊢
    split
    · rename_i he
      rw [if_pos he] at hk
      obtain ⟨⟨y, E', rfl, hy⟩, h1, h2, h3, h4, h5⟩ := hk
      exact ⟨⟨y, E' ++ [x], rfl, hy⟩, h1, h2, h3, h4, kTrades_snoc h h5⟩
    · rename_i he
      rw [if_neg he] at hk
      exact kTrades_snoc h hk

structure MatchKept (L : List Od) (o : Od) (pr last : Int) (n : Nat) (r : List Ev × List Od × Int) : Prop where
  traded : evSum 3 o.id r.1 = o.q - r.2.2
  gone : evSum 5 o.id r.1 = 0
  rests : evSum 6 o.id r.1 = 0
  trades : kTrades o.id pr o.sd last r.1
  sums : ∀ φ, Blind φ → (∀ m, bMeets o.sd pr m = true → φ m = true) → wsum φ r.2.1 = wsum φ L - (o.q - r.2.2)
  mem : ∀ m ∈ r.2.1, ∃ m' ∈ L, m'.sd = m.sd ∧ m'.pr = m.pr ∧ m'.id = m.id
  last : L.length + 1 ≤ n → 0 < r.2.2 → bBest r.2.1 o.sd pr = none

theorem match_kept : ∀ (n : Nat) {L : List Od} (o : Od) (pr last : Int), BookOk L → 0 ≤ o.q → (1 ≤ o.sd ∧ o.sd ≤ 2) → o.id ∉ L.map Od.id →
    (∀ m ∈ L, bMeets o.sd pr m = true → okOrder last o.sd m.pr) → MatchKept L o pr last n (bMatch n L o pr)
  | 0, L, o, pr, last, h, hq, hsd, hid, hl => by
    refine ⟨?_, rfl, rfl, trivial, fun φ _ _ => ?_, fun m hm => ⟨m, hm, rfl, rfl, rfl⟩, fun hn => absurd hn (by omega)⟩
    · show (0 : Int) = o.q - o.q; omega
    · show wsum φ L = wsum φ L - (o.q - o.q); omega
  | n + 1, L, o, pr, last, h, hq, hsd, hid, hl => by
    unfold bMatch
    by_cases h0 : o.q ≤ 0
    · rw [if_pos h0]
      refine ⟨?_, rfl, rfl, ?_, fun φ _ _ => ?_, fun m hm => ⟨m, hm, rfl, rfl, rfl⟩, fun _ h => absurd h (by show ¬ (0 : Int) < 0; omega)⟩
      · show (0 : Int) + 0 = o.q - 0; omega
      · rw [kTrades_skip (by rintro ⟨h, _⟩; exact absurd h (by show ¬ (4 : Int) = 3; decide))]; trivial
      · show wsum φ L = wsum φ L - (o.q - 0); omega
    · rw [if_neg h0]
      cases hb : bBest L o.sd pr with
      | none =>
        refine ⟨?_, rfl, rfl, trivial, fun φ _ _ => ?_, fun m hm => ⟨m, hm, rfl, rfl, rfl⟩, fun _ _ => hb⟩
        · show (0 : Int) = o.q - o.q; omega
        · show wsum φ L = wsum φ L - (o.q - o.q); omega
      | some k =>
        have hk := bBest_some hb
        obtain ⟨hm, hbest⟩ := bBest_best hsd h hb
        obtain ⟨t, ht⟩ : ∃ t, t = bTake o (L.getD k od0) := ⟨_, rfl⟩
        have tp := bTake_pos h hk (o := o) (by omega)
        have ok' := bTraded_ok h hk o (by omega)
        rw [← ht] at tp ok'
        have hmid : (L.getD k od0).id ≠ o.id := fun e => hid (List.mem_map.2 ⟨_, getD_mem hk, e⟩)
        obtain ⟨i1, i2, i3, i4, i5, i6, i7⟩ := match_kept n { o with q := o.q - t } pr (L.getD k od0).pr ok' (by show 0 ≤ o.q - t; omega) hsd (fun hi => hid (bTraded_ids hk t _ hi)) (by
          intro m hm' hmm
          obtain ⟨m', hL', e1, e2, _⟩ := mem_traded hk t hm'
          have hmm' : bMeets o.sd pr m' = true := by rw [meets_congr e1 e2]; exact hmm
          obtain ⟨b1, b2⟩ := hbest m' hL' hmm'
          show okOrder (L.getD k od0).pr o.sd m.pr
          rw [← e2]
          rintro ⟨_, ⟨hs, hlt⟩ | ⟨hs, hlt⟩⟩
          · have := b1 hs; omega
          · have := b2 hs; omega)
        obtain ⟨_, _, _, j4, j5, _⟩ := bMatch_ok n { o with q := o.q - t } pr ok' (by show 0 ≤ o.q - t; omega)
        simp only
        rw [← ht]
        obtain ⟨r, hr⟩ : ∃ r, r = bMatch n (bTraded L k t) { o with q := o.q - t } pr := ⟨_, rfl⟩
        rw [← hr] at i1 i2 i3 i4 i5 i6 i7 j4 j5
        rw [← hr]
        obtain ⟨M, hM⟩ : ∃ M, M = L.getD k od0 := ⟨_, rfl⟩
        rw [← hM] at hmid hm hbest i4
        have j5' : r.2.2 ≤ o.q - t := j5
        have nb : ¬ ((evBack o M t).k = 3 ∧ (evBack o M t).id = o.id) := by rintro ⟨_, h⟩; exact hmid h
        have nf : ∀ x : Od, ¬ ((evFilled x).k = 3 ∧ (evFilled x).id = o.id) := by rintro x ⟨h, _⟩; exact absurd h (by show ¬ (4 : Int) = 3; decide)
        have tr : evSum 3 o.id (bTradeEv L k o t) = t ∧ evSum 5 o.id (bTradeEv L k o t) = 0 ∧ evSum 6 o.id (bTradeEv L k o t) = 0 := by
          unfold bTradeEv
          rw [← hM]
          rw [evSum_append, evSum_append, evSum_append]
          have a1 : evSum 3 o.id [evTrade o M t, evBack o M t] = t := by
            simp only [evSum]
            rw [if_pos ⟨rfl, rfl⟩, if_neg nb]; show t + (0 + 0) = t; omega
          have a2 : ∀ e : Int, e ≠ 3 → evSum e o.id [evTrade o M t, evBack o M t] = 0 := by
            intro e he
            simp only [evSum]
            rw [if_neg (by rintro ⟨h, _⟩; exact he h.symm), if_neg (by rintro ⟨h, _⟩; exact he h.symm)]; rfl
          have a3 : ∀ e : Int, evSum e o.id (if M.q = t then [evFilled M] else []) = 0 := by
            intro e
            split
            · simp only [evSum]
              show (if _ then (0 : Int) else 0) + 0 = 0
              split <;> rfl
            · rfl
          rw [a1, a2 5 (by decide), a2 6 (by decide), a3, a3, a3]
          exact ⟨by omega, by omega, by omega⟩
        refine ⟨?_, ?_, ?_, ?_, fun φ hφ hmφ => ?_, fun m hm' => ?_, fun hn hp => ?_⟩
        · show evSum 3 o.id (bTradeEv L k o t ++ r.1) = o.q - r.2.2
          rw [evSum_append, tr.1]
          have : evSum 3 o.id r.1 = o.q - t - r.2.2 := i1
          omega
        · show evSum 5 o.id (bTradeEv L k o t ++ r.1) = 0
          rw [evSum_append, tr.2.1]
          have : evSum 5 o.id r.1 = 0 := i2
          omega
        · show evSum 6 o.id (bTradeEv L k o t ++ r.1) = 0
          rw [evSum_append, tr.2.2]
          have : evSum 6 o.id r.1 = 0 := i3
          omega
        · show kTrades o.id pr o.sd last (bTradeEv L k o t ++ r.1)
          have i4' : kTrades o.id pr o.sd M.pr r.1 := i4
          have okp : okPrice pr o.sd M.pr := by
            rintro ⟨hp, hh⟩
            rcases meets_price hm with h | h | h
            · omega
            · omega
            · omega
          have oko : okOrder last o.sd M.pr := hl M (by rw [hM]; exact getD_mem hk) hm
          unfold bTradeEv
          rw [← hM]
          have tail : kTrades o.id pr o.sd M.pr ((if M.q = t then [evFilled M] else []) ++ r.1) := by
            split
            · show kTrades o.id pr o.sd M.pr (evFilled M :: r.1)
              rw [kTrades_skip (nf M)]; exact i4'
            · exact i4'
          show kTrades o.id pr o.sd last (evTrade o M t :: evBack o M t :: ((if M.q = t then [evFilled M] else []) ++ r.1))
          rw [kTrades, if_pos ⟨rfl, rfl⟩]
          refine ⟨⟨_, _, rfl, rfl, rfl, rfl, rfl, rfl⟩, tp.1, hmid, okp, oko, ?_⟩
          rw [kTrades_skip nb]
          exact tail
        · have e1 := i5 φ hφ hmφ
          rw [wsum_traded hφ hk t, ← hM, if_pos (hmφ M hm)] at e1
          show wsum φ r.2.1 = wsum φ L - (o.q - r.2.2)
          have e2 : wsum φ r.2.1 = wsum φ L - t - (o.q - t - r.2.2) := e1
          omega
        · obtain ⟨m1, h1, a1, a2, a3⟩ := i6 m hm'
          obtain ⟨m2, h2, b1, b2, b3⟩ := mem_traded hk t h1
          exact ⟨m2, h2, b1.trans a1, b2.trans a2, b3.trans a3⟩
        · have hp' : 0 < r.2.2 := hp
          refine i7 ?_ hp'
          have hmq : M.q < o.q := by
            by_cases hge : M.q < o.q
            · exact hge
            · exfalso
              have : t = o.q := by rw [ht, ← hM]; unfold bTake; rw [if_neg (by omega)]
              omega
          have htm : M.q = t := by rw [ht, ← hM]; unfold bTake; rw [if_pos hmq]
          have : (bTraded L k t).length = L.length - 1 := by
            unfold bTraded
            rw [← hM, if_pos htm, List.length_eraseIdx_of_lt hk]
          omega
end Go.Proofs.Ytbljokilfkodfaa
/-
  Kept: what a command brings.
-/
namespace Go.Proofs.Ytbljokilfkodfaa

/-- A book is never crossed. -/
def NoCross (L : List Od) : Prop := ∀ a ∈ L, ∀ b ∈ L, a.sd = 1 → b.sd = 2 → a.pr < b.pr
theorem NoCross.nil : NoCross [] := fun _ h => (nomatch h)
theorem NoCross.of_mem {L M : List Od} (h : NoCross L) (hm : ∀ m ∈ M, ∃ m' ∈ L, m'.sd = m.sd ∧ m'.pr = m.pr) : NoCross M := fun a ha b hb h1 h2 => by
  obtain ⟨a', ha', e1, e2⟩ := hm a ha
  obtain ⟨b', hb', f1, f2⟩ := hm b hb
  rw [← e2, ← f2]
  exact h a' ha' b' hb' (e1.trans h1) (f1.trans h2)
theorem NoCross.erase {L : List Od} (h : NoCross L) (i : Nat) : NoCross (L.eraseIdx i) := h.of_mem fun m hm => ⟨m, List.mem_of_mem_eraseIdx hm, rfl, rfl⟩
theorem NoCross.set {L : List Od} (h : NoCross L) {i : Nat} (hi : i < L.length) (q : Int) : NoCross (L.set i { L.getD i od0 with q := q }) := h.of_mem fun m hm => by
  rcases List.mem_or_eq_of_mem_set hm with hm | rfl
  · exact ⟨m, hm, rfl, rfl⟩
  · exact ⟨_, getD_mem hi, rfl, rfl⟩
theorem NoCross.snoc {L : List Od} (h : NoCross L) (o : Od) (hp : 1 ≤ o.pr) (hn : ∀ m ∈ L, bMeets o.sd o.pr m = false) : NoCross (L ++ [o]) := fun a ha b hb h1 h2 => by
  have key : ∀ m ∈ L, m.sd ≠ o.sd → ¬ (o.sd = 1 ∧ m.pr ≤ o.pr) ∧ ¬ (o.sd ≠ 1 ∧ o.pr ≤ m.pr) := fun m hm hs => by
    have := hn m hm
    unfold bMeets at this
    simp only [hs, decide_false, Bool.not_false, Bool.true_and, Bool.or_eq_false_iff, decide_eq_false_iff_not] at this
    obtain ⟨_, h⟩ := this
    split at h
    · rename_i e
      have := of_decide_eq_false h
      exact ⟨fun h => this h.2, fun h => h.1 e⟩
    · rename_i e
      have := of_decide_eq_false h
      exact ⟨fun h => e h.1, fun h => this h.2⟩
  rcases List.mem_append.1 ha with ha' | ha' <;> rcases List.mem_append.1 hb with hb' | hb'
  · exact h a ha' b hb' h1 h2
  · rw [List.mem_singleton] at hb'; subst hb'
    have := key a ha' (by omega); omega
  · rw [List.mem_singleton] at ha'; subst ha'
    have := key b hb' (by omega); omega
  · rw [List.mem_singleton] at ha' hb'; subst ha'; rw [hb'] at h2; omega

/-- What an order that enters brings. -/
structure EnterKept (L : List Od) (k : Int) (o : Od) (E : List Ev) (L' : List Od) : Prop where
  all : evSum 3 o.id E + evSum 6 o.id E + evSum 5 o.id E = o.q
  tot : tot L' = tot L - evSum 3 o.id E + evSum 6 o.id E
  rest : k ≠ 1 → evSum 6 o.id E = 0
  gone : k = 1 → evSum 5 o.id E = 0
  whole : k = 4 → evSum 3 o.id E = 0 ∨ evSum 3 o.id E = o.q
  trades : kTrades o.id o.pr o.sd 0 E
  cross : NoCross L'
  mem : ∀ m ∈ L', (∃ m' ∈ L, m'.sd = m.sd ∧ m'.id = m.id) ∨ (m.sd = o.sd ∧ m.id = o.id)

theorem blind_true : Blind (fun _ => true) := fun _ _ => rfl
theorem blind_meets (sd pr : Int) : Blind (bMeets sd pr) := fun _ _ => rfl
theorem bRoomTo_eq (L : List Od) (sd pr : Int) : ∀ n, n ≤ L.length → bRoomTo L sd pr n = wsum (bMeets sd pr) (L.take n)
  | 0, _ => by simp [bRoomTo, wsum]
  | n + 1, hn => by
    rw [bRoomTo, bRoomTo_eq L sd pr n (by omega), List.take_succ_eq_append_getElem (by omega), wsum_append]
    have : L.getD n od0 = L[n] := by rw [List.getD_eq_getElem?_getD, List.getElem?_eq_getElem (show n < L.length by omega)]; rfl
    rw [this]
    simp [wsum]
theorem bRoom_eq (L : List Od) (sd pr : Int) : bRoom L sd pr = wsum (bMeets sd pr) L := by
  unfold bRoom; rw [bRoomTo_eq L sd pr _ (Nat.le_refl _), List.take_length]

theorem enter_kept {L : List Od} (h : BookOk L) (hc : NoCross L) (k : Int) (o : Od) (hq : 1 ≤ o.q) (hsd : 1 ≤ o.sd ∧ o.sd ≤ 2) (hp : k = 1 → 1 ≤ o.pr) (hid : o.id ∉ L.map Od.id) : EnterKept L k o (bEnter L k o).1 (bEnter L k o).2 := by
  unfold bEnter
  by_cases hw : k = 4 ∧ bRoom L o.sd o.pr < o.q
  · rw [if_pos hw]
    have e5 : evSum 5 o.id [evCanceled o o.q] = o.q := by simp only [evSum]; rw [if_pos ⟨rfl, rfl⟩]; show o.q + 0 = o.q; omega
    have ee : ∀ e : Int, e ≠ 5 → evSum e o.id [evCanceled o o.q] = 0 := fun e he => by simp only [evSum]; rw [if_neg (by rintro ⟨h, _⟩; exact he h.symm)]; rfl
    refine ⟨?_, ?_, fun _ => ee 6 (by decide), fun h1 => by omega, fun _ => .inl (ee 3 (by decide)), ?_, hc, fun m hm => .inl ⟨m, hm, rfl, rfl⟩⟩
    · rw [e5, ee 3 (by decide), ee 6 (by decide)]; omega
    · rw [ee 3 (by decide), ee 6 (by decide)]; show tot L = tot L - 0 + 0; omega
    · rw [kTrades_skip (by rintro ⟨h, _⟩; exact absurd h (by show ¬ (5 : Int) = 3; decide))]; trivial
  · rw [if_neg hw]
    have M := match_kept (L.length + 2) o o.pr 0 h (by omega) hsd hid (fun _ _ _ => by rintro ⟨h, _⟩; omega)
    obtain ⟨_, _, _, j4, j5, _⟩ := bMatch_ok (L.length + 2) o o.pr h (by omega)
    simp only
    obtain ⟨r, hr⟩ : ∃ r, r = bMatch (L.length + 2) L o o.pr := ⟨_, rfl⟩
    rw [← hr] at M j4 j5
    rw [← hr]
    have ht : tot r.2.1 = tot L - (o.q - r.2.2) := M.sums _ blind_true (fun _ _ => rfl)
    have hcm : NoCross r.2.1 := hc.of_mem fun m hm => by obtain ⟨m', h1, h2, h3, _⟩ := M.mem m hm; exact ⟨m', h1, h2, h3⟩
    have hmem : ∀ m ∈ r.2.1, (∃ m' ∈ L, m'.sd = m.sd ∧ m'.id = m.id) := fun m hm => by obtain ⟨m', h1, h2, _, h3⟩ := M.mem m hm; exact ⟨m', h1, h2, h3⟩
    by_cases hz : r.2.2 = 0
    · rw [if_pos hz]
      have t3 : evSum 3 o.id r.1 = o.q := by rw [M.traded, hz]; omega
      refine ⟨?_, ?_, fun _ => M.rests, fun _ => M.gone, fun _ => .inr t3, M.trades, hcm, fun m hm => .inl (hmem m hm)⟩
      · show evSum 3 o.id r.1 + evSum 6 o.id r.1 + evSum 5 o.id r.1 = o.q
        rw [t3, M.rests, M.gone]; omega
      · show tot r.2.1 = tot L - evSum 3 o.id r.1 + evSum 6 o.id r.1
        rw [ht, t3, M.rests, hz]; omega
    · rw [if_neg hz]
      have hpos : 0 < r.2.2 := by omega
      have hnone := bBest_none' (M.last (by omega) hpos)
      by_cases h1 : k = 1
      · rw [if_pos h1]
        have s6 : ∀ e : Int, evSum e o.id [evRests o r.2.2] = if e = 6 then r.2.2 else 0 := fun e => by
          simp only [evSum]
          by_cases he : e = 6
          · rw [if_pos he, if_pos ⟨he.symm, rfl⟩]; show r.2.2 + 0 = r.2.2; omega
          · rw [if_neg he, if_neg (by rintro ⟨h, _⟩; exact he h.symm)]; rfl
        refine ⟨?_, ?_, fun h => absurd h1 h, fun _ => ?_, fun h4 => by omega, ?_, ?_, fun m hm => ?_⟩
        · show evSum 3 o.id (r.1 ++ [evRests o r.2.2]) + evSum 6 o.id (r.1 ++ [evRests o r.2.2]) + evSum 5 o.id (r.1 ++ [evRests o r.2.2]) = o.q
          rw [evSum_append, evSum_append, evSum_append, s6, s6, s6, M.traded, M.rests, M.gone]; simp
        · show tot (r.2.1 ++ [{ o with q := r.2.2 }]) = tot L - evSum 3 o.id (r.1 ++ [evRests o r.2.2]) + evSum 6 o.id (r.1 ++ [evRests o r.2.2])
          have e : tot (r.2.1 ++ [{ o with q := r.2.2 }]) = tot r.2.1 + r.2.2 := by
            unfold tot; rw [wsum_append]; simp [wsum]
          rw [e, ht, evSum_append, evSum_append, s6, s6, M.traded, M.rests]; simp
        · show evSum 5 o.id (r.1 ++ [evRests o r.2.2]) = 0
          rw [evSum_append, s6, M.gone]; simp
        · exact kTrades_snoc (by rintro ⟨h, _⟩; exact absurd h (by show ¬ (6 : Int) = 3; decide)) M.trades
        · exact hcm.snoc _ (hp h1) hnone
        · rcases List.mem_append.1 hm with hm | hm
          · exact .inl (hmem m hm)
          · rw [List.mem_singleton] at hm; subst hm; exact .inr ⟨rfl, rfl⟩
      · rw [if_neg h1]
        have s5 : ∀ e : Int, evSum e o.id [evCanceled o r.2.2] = if e = 5 then r.2.2 else 0 := fun e => by
          simp only [evSum]
          by_cases he : e = 5
          · rw [if_pos he, if_pos ⟨he.symm, rfl⟩]; show r.2.2 + 0 = r.2.2; omega
          · rw [if_neg he, if_neg (by rintro ⟨h, _⟩; exact he h.symm)]; rfl
        refine ⟨?_, ?_, fun _ => ?_, fun h => absurd h h1, fun h4 => ?_, ?_, hcm, fun m hm => .inl (hmem m hm)⟩
        · show evSum 3 o.id (r.1 ++ [evCanceled o r.2.2]) + evSum 6 o.id (r.1 ++ [evCanceled o r.2.2]) + evSum 5 o.id (r.1 ++ [evCanceled o r.2.2]) = o.q
          rw [evSum_append, evSum_append, evSum_append, s5, s5, s5, M.traded, M.rests, M.gone]; simp
        · show tot r.2.1 = tot L - evSum 3 o.id (r.1 ++ [evCanceled o r.2.2]) + evSum 6 o.id (r.1 ++ [evCanceled o r.2.2])
          rw [ht, evSum_append, evSum_append, s5, s5, M.traded, M.rests]; simp
        · show evSum 6 o.id (r.1 ++ [evCanceled o r.2.2]) = 0
          rw [evSum_append, s5, M.rests]; simp
        · exfalso
          have hroom : o.q ≤ bRoom L o.sd o.pr := by
            have : ¬ bRoom L o.sd o.pr < o.q := fun h => hw ⟨h4, h⟩
            omega
          rw [bRoom_eq] at hroom
          have e1 := M.sums _ (blind_meets o.sd o.pr) (fun _ h => h)
          rw [wsum_none hnone] at e1
          omega
        · exact kTrades_snoc (by rintro ⟨h, _⟩; exact absurd h (by show ¬ (5 : Int) = 3; decide)) M.trades
end Go.Proofs.Ytbljokilfkodfaa
