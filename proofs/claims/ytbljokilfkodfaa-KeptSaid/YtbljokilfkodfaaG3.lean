/-
  Plain mathematics of commands as bytes: which commands are fair, the CRC-32 bit by bit, ten bytes. No walk, no program.
-/
namespace Go.Proofs.Ytbljokilfkodfaa

def inB (n lo hi : Int) : Bool := decide (lo ≤ n) && decide (n ≤ hi)
theorem inB_iff {n lo hi : Int} : inB n lo hi = true ↔ lo ≤ n ∧ n ≤ hi := by simp [inB]
theorem inB_not {n lo hi : Int} (h : lo ≤ n → hi < n) : inB n lo hi = false := by
  rw [Bool.eq_false_iff]; intro hb; rw [inB_iff] at hb; omega

/-- P3, for the numbers of one command. -/
def fairB (k c i s p q : Int) : Bool :=
  inB k 1 6 && inB c 0 3 && inB i 0 99 &&
  (if k = 2 then inB s 1 2 && decide (p = 0) && inB q 1 99
   else if k = 5 then decide (s = 0) && decide (p = 0) && decide (q = 0)
   else if k = 6 then decide (s = 0) && inB p 1 99 && inB q 1 99
   else inB s 1 2 && inB p 1 99 && inB q 1 99)

theorem fairB_bounds {k c i s p q : Int} (h : fairB k c i s p q = true) :
    (1 ≤ k ∧ k ≤ 6) ∧ (0 ≤ c ∧ c ≤ 3) ∧ (0 ≤ i ∧ i ≤ 99) ∧ (0 ≤ s ∧ s ≤ 2) ∧ (0 ≤ p ∧ p ≤ 99) ∧ (0 ≤ q ∧ q ≤ 99) := by
  unfold fairB at h
  by_cases h2 : k = 2
  · simp [h2, inB] at h; omega
  by_cases h5 : k = 5
  · simp [h5, inB] at h; omega
  by_cases h6 : k = 6
  · simp [h6, inB] at h; omega
  simp [h2, h5, h6, inB] at h
  omega

/-- One of the eight halvings of a byte. -/
def pStep (c : Nat) : Nat := if c % 2 = 1 then c / 2 ^^^ 3988292384 else c / 2
def pSteps : Nat → Nat → Nat
  | 0, c => c
  | k + 1, c => pStep (pSteps k c)
def pByte (c b : Nat) : Nat := pSteps 8 (c ^^^ b)
def pCrcTo (l : List UInt8) : Nat := l.foldl (fun c b => pByte c b.toNat) 4294967295
def pCrc (l : List UInt8) : Nat := 4294967295 ^^^ pCrcTo l

theorem pStep_lt {c : Nat} (h : c < 4294967296) : pStep c < 4294967296 := by
  unfold pStep
  split
  · have : c / 2 ^^^ 3988292384 < 2 ^ 32 := Nat.xor_lt_two_pow (by omega) (by omega)
    omega
  · omega
theorem pSteps_lt {c : Nat} (h : c < 4294967296) : ∀ k, pSteps k c < 4294967296
  | 0 => h
  | k + 1 => pStep_lt (pSteps_lt h k)
theorem pByte_lt {c b : Nat} (h : c < 4294967296) (hb : b < 256) : pByte c b < 4294967296 := by
  have : c ^^^ b < 2 ^ 32 := Nat.xor_lt_two_pow (by omega) (by omega)
  exact pSteps_lt (by omega) 8
theorem pFold_lt (l : List UInt8) : ∀ c, c < 4294967296 → l.foldl (fun c b => pByte c b.toNat) c < 4294967296 := by
  induction l with
  | nil => intro c h; exact h
  | cons b l ih => intro c h; exact ih _ (pByte_lt h b.toNat_lt)
theorem pCrcTo_lt (l : List UInt8) : pCrcTo l < 4294967296 := pFold_lt l _ (by omega)
theorem pCrc_lt (l : List UInt8) : pCrc l < 4294967296 := by
  have : 4294967295 ^^^ pCrcTo l < 2 ^ 32 := Nat.xor_lt_two_pow (by omega) (by have := pCrcTo_lt l; omega)
  unfold pCrc; omega
theorem pCrcTo_snoc (l : List UInt8) (b : UInt8) : pCrcTo (l ++ [b]) = pByte (pCrcTo l) b.toNat := by
  unfold pCrcTo; rw [List.foldl_append]; rfl

/-- A sum's four bytes, the lowest first. -/
def pFour (n : Nat) : List UInt8 := [UInt8.ofNat (n % 256), UInt8.ofNat (n / 256 % 256), UInt8.ofNat (n / 65536 % 256), UInt8.ofNat (n / 16777216 % 256)]
/-- The six bytes of a command's numbers. -/
def pSix (k c i s p q : Int) : List UInt8 := [UInt8.ofNat k.toNat, UInt8.ofNat c.toNat, UInt8.ofNat i.toNat, UInt8.ofNat s.toNat, UInt8.ofNat p.toNat, UInt8.ofNat q.toNat]
def pTen (k c i s p q : Int) : List UInt8 := pSix k c i s p q ++ pFour (pCrc (pSix k c i s p q))

end Go.Proofs.Ytbljokilfkodfaa
/-
  Ten bytes as a command: the plain functions.
-/
namespace Go.Proofs.Ytbljokilfkodfaa

/-- The number of a byte. -/
def byteAt (s : ByteArray) (j : Nat) : Int := ((s.data.toList.getD j 0).toNat : Int)
def sumOk (s : ByteArray) : Bool := (s.extract 6 s.size).toList == pFour (pCrc (s.data.toList.take 6))
def fairAt (s : ByteArray) : Bool := fairB (byteAt s 0) (byteAt s 1) (byteAt s 2) (byteAt s 3) (byteAt s 4) (byteAt s 5)

end Go.Proofs.Ytbljokilfkodfaa
/-
  The document's book, as plain functions on lists (P3 to P8).
-/
namespace Go.Proofs.Ytbljokilfkodfaa

/-- An order that rests (or comes): client, number, side, price, how much. -/
structure Od where
  cl : Int
  id : Int
  sd : Int
  pr : Int
  q : Int
/-- An event: its kind, client, number, the other one, price, how much. -/
structure Ev where
  k : Int
  cl : Int
  id : Int
  ot : Int
  pr : Int
  q : Int
/-- A command. -/
structure Cm where
  k : Int
  cl : Int
  id : Int
  sd : Int
  pr : Int
  q : Int
/-- A level: price, how much, how many. -/
structure Lv where
  pr : Int
  q : Int
  n : Int

def od0 : Od := ⟨0, 0, 0, 0, 0⟩

/-- Where the order of that number stands, among the first n; none: it is not there. -/
def bFindTo (L : List Od) (id : Int) : Nat → Option Nat
  | 0 => none
  | n + 1 => match bFindTo L id n with
    | some i => some i
    | none => if (L.getD n od0).id = id then some n else none
def bFind (L : List Od) (id : Int) : Option Nat := bFindTo L id L.length

def bMeets (sd pr : Int) (o : Od) : Bool := !decide (o.sd = sd) && (decide (pr = 0) || (if sd = 1 then decide (o.pr ≤ pr) else decide (pr ≤ o.pr)))
def bBetter (sd a b : Int) : Bool := if sd = 1 then decide (b < a) else decide (a < b)

/-- Of the first n the best that is met. -/
def bBestTo (L : List Od) (sd pr : Int) : Nat → Option Nat
  | 0 => none
  | n + 1 =>
    let o := L.getD n od0
    match bBestTo L sd pr n with
    | none => if bMeets sd pr o then some n else none
    | some k => if bMeets sd pr o && bBetter o.sd o.pr (L.getD k od0).pr then some n else some k
def bBest (L : List Od) (sd pr : Int) : Option Nat := bBestTo L sd pr L.length

/-- How much is met among the first n. -/
def bRoomTo (L : List Od) (sd pr : Int) : Nat → Int
  | 0 => 0
  | n + 1 => bRoomTo L sd pr n + (if bMeets sd pr (L.getD n od0) then (L.getD n od0).q else 0)
def bRoom (L : List Od) (sd pr : Int) : Int := bRoomTo L sd pr L.length

def evTrade (o m : Od) (t : Int) : Ev := ⟨3, o.cl, o.id, m.id, m.pr, t⟩
def evBack (o m : Od) (t : Int) : Ev := ⟨3, m.cl, m.id, o.id, m.pr, t⟩
def evFilled (o : Od) : Ev := ⟨4, o.cl, o.id, 0, 0, 0⟩
def evCanceled (o : Od) (q : Int) : Ev := ⟨5, o.cl, o.id, 0, 0, q⟩
def evRests (o : Od) (q : Int) : Ev := ⟨6, o.cl, o.id, 0, o.pr, q⟩

/-- How much of a trade. -/
def bTake (o m : Od) : Int := if m.q < o.q then m.q else o.q
/-- The book behind a trade with the one that stands at k. -/
def bTraded (L : List Od) (k : Nat) (t : Int) : List Od :=
  if (L.getD k od0).q = t then L.eraseIdx k else L.set k { L.getD k od0 with q := (L.getD k od0).q - t }
def bTradeEv (L : List Od) (k : Nat) (o : Od) (t : Int) : List Ev :=
  [evTrade o (L.getD k od0) t, evBack o (L.getD k od0) t] ++ (if (L.getD k od0).q = t then [evFilled (L.getD k od0)] else [])

/-- P5: at most so many rounds; the events, the book, what is left. -/
def bMatch : Nat → List Od → Od → Int → List Ev × List Od × Int
  | 0, L, o, _ => ([], L, o.q)
  | n + 1, L, o, pr =>
    if o.q ≤ 0 then ([evFilled o], L, 0)
    else match bBest L o.sd pr with
      | none => ([], L, o.q)
      | some k =>
        let t := bTake o (L.getD k od0)
        let r := bMatch n (bTraded L k t) { o with q := o.q - t } pr
        (bTradeEv L k o t ++ r.1, r.2.1, r.2.2)

/-- P6. -/
def bEnter (L : List Od) (k : Int) (o : Od) : List Ev × List Od :=
  if k = 4 ∧ bRoom L o.sd o.pr < o.q then ([evCanceled o o.q], L)
  else
    let r := bMatch (L.length + 2) L o o.pr
    if r.2.2 = 0 then (r.1, r.2.1)
    else if k = 1 then (r.1 ++ [evRests o r.2.2], r.2.1 ++ [{ o with q := r.2.2 }])
    else (r.1 ++ [evCanceled o r.2.2], r.2.1)

def cmFair (c : Cm) : Bool := fairB c.k c.cl c.id c.sd c.pr c.q
/-- P4: the error's number; 0: it is taken. -/
def bRefused (L : List Od) (c : Cm) : Int :=
  if cmFair c then
    if c.k = 5 ∨ c.k = 6 then
      match bFind L c.id with
      | none => 4
      | some i => if (L.getD i od0).cl = c.cl then 0 else 4
    else match bFind L c.id with
      | some _ => 3
      | none => if c.k = 1 ∧ 12 ≤ L.length then 5 else 0
  else 2

def evAccepted (c : Cm) : Ev := ⟨1, c.cl, c.id, 0, 0, 0⟩
def evRejected (c : Cm) (e : Int) : Ev := ⟨2, c.cl, c.id, e, 0, 0⟩
def cmOd (c : Cm) : Od := ⟨c.cl, c.id, c.sd, c.pr, c.q⟩

/-- P4 to P7. -/
def bDo (L : List Od) (c : Cm) : List Ev × List Od :=
  if bRefused L c = 0 then
    let i := (bFind L c.id).getD 0
    let o := L.getD i od0
    if c.k = 5 then ([evAccepted c, ⟨5, c.cl, c.id, 0, 0, o.q⟩], L.eraseIdx i)
    else if c.k = 6 then
      if o.pr = c.pr ∧ c.q ≤ o.q then ([evAccepted c, ⟨6, c.cl, c.id, 0, c.pr, c.q⟩], L.set i { o with q := c.q })
      else
        let r := bEnter (L.eraseIdx i) 1 { o with pr := c.pr, q := c.q }
        (evAccepted c :: r.1, r.2)
    else
      let r := bEnter L c.k (cmOd c)
      (evAccepted c :: r.1, r.2)
  else ([evRejected c (bRefused L c)], L)

/-- P8: of a price, among the first n: how much and how many. -/
def bLevelTo (L : List Od) (sd pr : Int) : Nat → Int × Int
  | 0 => (0, 0)
  | n + 1 =>
    let r := bLevelTo L sd pr n
    if (L.getD n od0).sd = sd ∧ (L.getD n od0).pr = pr then (r.1 + (L.getD n od0).q, r.2 + 1) else r
def bLevel (L : List Od) (sd pr : Int) : Lv := ⟨pr, (bLevelTo L sd pr L.length).1, (bLevelTo L sd pr L.length).2⟩
def bPrice (sd : Int) (p : Nat) : Int := if sd = 1 then 100 - (p : Int) else (p : Int)
/-- The levels of the first n prices in a side's order. -/
def bDepthTo (L : List Od) (sd : Int) : Nat → List Lv
  | 0 => []
  | n + 1 => bDepthTo L sd n ++ (if 0 < (bLevel L sd (bPrice sd (n + 1))).n then [bLevel L sd (bPrice sd (n + 1))] else [])
def bDepth (L : List Od) (sd : Int) : List Lv := bDepthTo L sd 99
def bLeft (L : List Od) (id : Int) : Int × Int := match bFind L id with
  | none => (0, 4)
  | some i => ((L.getD i od0).q, 0)

/-- What every book that was come to keeps. -/
def OdOk (o : Od) : Prop := (0 ≤ o.cl ∧ o.cl ≤ 3) ∧ (0 ≤ o.id ∧ o.id ≤ 99) ∧ (1 ≤ o.sd ∧ o.sd ≤ 2) ∧ (1 ≤ o.pr ∧ o.pr ≤ 99) ∧ (1 ≤ o.q ∧ o.q ≤ 99)
structure BookOk (L : List Od) : Prop where
  each : ∀ o, o ∈ L → OdOk o
  len : L.length ≤ 12
  ids : (L.map Od.id).Nodup

theorem BookOk.nil : BookOk [] := ⟨fun _ h => (nomatch h), Nat.zero_le _, List.nodup_nil⟩

end Go.Proofs.Ytbljokilfkodfaa
/-
  The plain book: what every book that was come to keeps.
-/
namespace Go.Proofs.Ytbljokilfkodfaa

theorem bFindTo_some {L : List Od} {id : Int} : ∀ {n i : Nat}, bFindTo L id n = some i → i < n ∧ (L.getD i od0).id = id
  | 0, i, h => by simp [bFindTo] at h
  | n + 1, i, h => by
    unfold bFindTo at h
    cases hf : bFindTo L id n with
    | some j =>
      rw [hf] at h
      simp at h
      subst h
      have := bFindTo_some hf
      exact ⟨by omega, this.2⟩
    | none =>
      rw [hf] at h
      by_cases hc : (L.getD n od0).id = id
      · simp only [hc, if_true] at h
        simp at h
        subst h
        exact ⟨by omega, hc⟩
      · simp only [hc, if_false] at h
        cases h
theorem bFindTo_none {L : List Od} {id : Int} : ∀ {n : Nat}, bFindTo L id n = none → ∀ i, i < n → (L.getD i od0).id ≠ id
  | 0, _, i, hi => absurd hi (by omega)
  | n + 1, h, i, hi => by
    unfold bFindTo at h
    cases hf : bFindTo L id n with
    | some j => rw [hf] at h; simp at h
    | none =>
      rw [hf] at h
      by_cases hc : (L.getD n od0).id = id
      · simp only [hc, if_true] at h
        cases h
      · by_cases hin : i < n
        · exact bFindTo_none hf i hin
        · obtain rfl : i = n := by omega
          exact hc
theorem bFind_some {L : List Od} {id : Int} {i : Nat} (h : bFind L id = some i) : i < L.length ∧ (L.getD i od0).id = id := bFindTo_some h
theorem getD_mem {L : List Od} {i : Nat} (h : i < L.length) : L.getD i od0 ∈ L := by
  rw [List.getD_eq_getElem?_getD, List.getElem?_eq_getElem h]; exact List.getElem_mem h
theorem mem_getD {L : List Od} {o : Od} (h : o ∈ L) : ∃ i, i < L.length ∧ L.getD i od0 = o := by
  obtain ⟨i, hi, he⟩ := List.getElem_of_mem h
  exact ⟨i, hi, by rw [List.getD_eq_getElem?_getD, List.getElem?_eq_getElem hi]; exact he⟩
theorem bFind_none {L : List Od} {id : Int} (h : bFind L id = none) : id ∉ L.map Od.id := by
  intro hm
  obtain ⟨o, ho, he⟩ := List.mem_map.1 hm
  obtain ⟨i, hi, hg⟩ := mem_getD ho
  exact bFindTo_none h i hi (by rw [hg]; exact he)

theorem BookOk.erase {L : List Od} (h : BookOk L) (i : Nat) : BookOk (L.eraseIdx i) :=
  ⟨fun o ho => h.each o (List.mem_of_mem_eraseIdx ho), Nat.le_trans (List.eraseIdx_sublist L i).length_le h.len, h.ids.sublist ((List.eraseIdx_sublist L i).map Od.id)⟩
theorem BookOk.set {L : List Od} (h : BookOk L) {i : Nat} (hi : i < L.length) (q : Int) (h1 : 1 ≤ q) (h2 : q ≤ 99) : BookOk (L.set i { L.getD i od0 with q := q }) := by
  have hm := h.each _ (getD_mem hi)
  refine ⟨fun o ho => ?_, by rw [List.length_set]; exact h.len, ?_⟩
  · rcases List.mem_or_eq_of_mem_set ho with ho | rfl
    · exact h.each o ho
    · exact ⟨hm.1, hm.2.1, hm.2.2.1, hm.2.2.2.1, h1, h2⟩
  · have e : (L.set i { L.getD i od0 with q := q }).map Od.id = L.map Od.id := by
      rw [List.map_set]
      apply List.ext_getElem?
      intro j
      rw [List.getElem?_set]
      by_cases hij : i = j
      · subst hij
        rw [if_pos rfl, if_pos (by simpa using hi), List.getElem?_map, List.getElem?_eq_getElem hi, List.getD_eq_getElem?_getD, List.getElem?_eq_getElem hi]
        rfl
      · rw [if_neg hij]
    rw [e]; exact h.ids
theorem BookOk.snoc {L : List Od} (h : BookOk L) (o : Od) (ho : OdOk o) (hl : L.length < 12) (hn : o.id ∉ L.map Od.id) : BookOk (L ++ [o]) := by
  refine ⟨fun x hx => ?_, by simp; omega, ?_⟩
  · rcases List.mem_append.1 hx with hx | hx
    · exact h.each x hx
    · simp at hx; subst hx; exact ho
  · rw [List.map_append, List.nodup_append]
    refine ⟨h.ids, by simp, fun a ha b hb => ?_⟩
    simp at hb
    subst hb
    intro he
    subst he
    exact hn ha

theorem bBestTo_some {L : List Od} {sd pr : Int} : ∀ {n k : Nat}, bBestTo L sd pr n = some k → k < n
  | 0, k, h => by simp [bBestTo] at h
  | n + 1, k, h => by
    unfold bBestTo at h
    cases hb : bBestTo L sd pr n with
    | none =>
      rw [hb] at h
      simp only at h
      split at h
      · simp at h; omega
      · cases h
    | some j =>
      rw [hb] at h
      have := bBestTo_some hb
      simp only at h
      split at h
      · simp at h; omega
      · simp at h; omega
theorem bBest_some {L : List Od} {sd pr : Int} {k : Nat} (h : bBest L sd pr = some k) : k < L.length := bBestTo_some h

theorem bTraded_ok {L : List Od} (h : BookOk L) {k : Nat} (hk : k < L.length) (o : Od) (ho : 0 < o.q) : BookOk (bTraded L k (bTake o (L.getD k od0))) := by
  have hm := h.each _ (getD_mem hk)
  unfold bTraded
  split
  · exact h.erase k
  · rename_i hne
    by_cases hlt : (L.getD k od0).q < o.q
    · have e : bTake o (L.getD k od0) = (L.getD k od0).q := by unfold bTake; rw [if_pos hlt]
      exact absurd e.symm hne
    · have e : bTake o (L.getD k od0) = o.q := by unfold bTake; rw [if_neg hlt]
      rw [e] at hne ⊢
      have := hm.2.2.2.2
      exact h.set hk _ (by omega) (by omega)
theorem bTraded_len {L : List Od} {k : Nat} (t : Int) : (bTraded L k t).length ≤ L.length := by
  unfold bTraded
  split
  · exact (List.eraseIdx_sublist L k).length_le
  · rw [List.length_set]; exact Nat.le_refl _
theorem bTraded_ids {L : List Od} {k : Nat} (hk : k < L.length) (t : Int) (id : Int) (h : id ∈ (bTraded L k t).map Od.id) : id ∈ L.map Od.id := by
  unfold bTraded at h
  split at h
  · exact ((List.eraseIdx_sublist L k).map Od.id).subset h
  · obtain ⟨o, ho, he⟩ := List.mem_map.1 h
    rcases List.mem_or_eq_of_mem_set ho with ho | rfl
    · exact List.mem_map.2 ⟨o, ho, he⟩
    · exact List.mem_map.2 ⟨_, getD_mem hk, he⟩
theorem bTake_pos {L : List Od} (h : BookOk L) {k : Nat} (hk : k < L.length) {o : Od} (ho : 0 < o.q) : 1 ≤ bTake o (L.getD k od0) ∧ bTake o (L.getD k od0) ≤ o.q ∧ bTake o (L.getD k od0) ≤ 99 := by
  have hm := (h.each _ (getD_mem hk)).2.2.2.2
  unfold bTake
  split <;> omega

/-- What a match keeps. -/
theorem bMatch_ok : ∀ (n : Nat) {L : List Od} (o : Od) (pr : Int), BookOk L → 0 ≤ o.q →
    BookOk (bMatch n L o pr).2.1 ∧ (bMatch n L o pr).2.1.length ≤ L.length ∧ (∀ id, id ∈ (bMatch n L o pr).2.1.map Od.id → id ∈ L.map Od.id) ∧
      0 ≤ (bMatch n L o pr).2.2 ∧ (bMatch n L o pr).2.2 ≤ o.q ∧ (bMatch n L o pr).1.length ≤ 3 * n + 1
  | 0, L, o, pr, h, hq => ⟨h, Nat.le_refl _, fun _ => id, hq, Int.le_refl _, by simp [bMatch]⟩
  | n + 1, L, o, pr, h, hq => by
    unfold bMatch
    by_cases h0 : o.q ≤ 0
    · rw [if_pos h0]
      exact ⟨h, Nat.le_refl _, fun _ => id, Int.le_refl _, hq, by simp⟩
    · rw [if_neg h0]
      cases hb : bBest L o.sd pr with
      | none => exact ⟨h, Nat.le_refl _, fun _ => id, hq, Int.le_refl _, by simp⟩
      | some k =>
        have hk := bBest_some hb
        have ht := bTake_pos h hk (o := o) (by omega)
        obtain ⟨i1, i2, i3, i4, i5, i6⟩ := bMatch_ok n { o with q := o.q - bTake o (L.getD k od0) } pr (bTraded_ok h hk o (by omega)) (by show 0 ≤ o.q - bTake o (L.getD k od0); omega)
        refine ⟨i1, Nat.le_trans i2 (bTraded_len _), fun id hid => bTraded_ids hk _ id (i3 id hid), i4, ?_, ?_⟩
        · have : (bMatch n (bTraded L k (bTake o (L.getD k od0))) { o with q := o.q - bTake o (L.getD k od0) } pr).2.2 ≤ o.q - bTake o (L.getD k od0) := i5
          show (bMatch n (bTraded L k (bTake o (L.getD k od0))) { o with q := o.q - bTake o (L.getD k od0) } pr).2.2 ≤ o.q
          omega
        · show (bTradeEv L k o (bTake o (L.getD k od0)) ++ (bMatch n (bTraded L k (bTake o (L.getD k od0))) { o with q := o.q - bTake o (L.getD k od0) } pr).1).length ≤ _
          rw [List.length_append]
          have : (bTradeEv L k o (bTake o (L.getD k od0))).length ≤ 3 := by
            unfold bTradeEv
            split <;> simp
          omega

theorem bEnter_ok {L : List Od} (h : BookOk L) (k : Int) (o : Od) (ho : (0 ≤ o.cl ∧ o.cl ≤ 3) ∧ (0 ≤ o.id ∧ o.id ≤ 99) ∧ (1 ≤ o.sd ∧ o.sd ≤ 2) ∧ (1 ≤ o.q ∧ o.q ≤ 99)) (hp : k = 1 → 1 ≤ o.pr ∧ o.pr ≤ 99) (hl : k = 1 → L.length < 12) (hn : o.id ∉ L.map Od.id) :
    BookOk (bEnter L k o).2 ∧ (bEnter L k o).1.length ≤ 3 * (L.length + 2) + 2 := by
  unfold bEnter
  obtain ⟨m1, m2, m3, m4, m5, m6⟩ := bMatch_ok (L.length + 2) o o.pr h (by omega)
  split
  · exact ⟨h, by simp⟩
  · simp only
    split
    · exact ⟨m1, Nat.le_trans m6 (by omega)⟩
    · rename_i hne
      split
      · rename_i hk
        refine ⟨m1.snoc _ ⟨ho.1, ho.2.1, ho.2.2.1, hp hk, by show 1 ≤ (bMatch (L.length + 2) L o o.pr).2.2; omega, by show (bMatch (L.length + 2) L o o.pr).2.2 ≤ 99; omega⟩ (by have := hl hk; omega) (fun hm => hn (m3 _ hm)), ?_⟩
        rw [List.length_append]; simp; omega
      · refine ⟨m1, ?_⟩
        rw [List.length_append]; simp; omega

theorem nodup_erase {L : List Od} (h : BookOk L) {i : Nat} (hi : i < L.length) : (L.getD i od0).id ∉ (L.eraseIdx i).map Od.id := by
  intro hm
  obtain ⟨o, ho, he⟩ := List.mem_map.1 hm
  obtain ⟨j, hj, hne, hg⟩ := List.mem_eraseIdx_iff_getElem.1 ho
  have hnd := h.ids
  rw [List.nodup_iff_pairwise_ne, List.pairwise_iff_getElem] at hnd
  have e1 : (L.map Od.id)[i]'(by simpa using hi) = (L.map Od.id)[j]'(by simpa using hj) := by
    simp only [List.getElem_map]
    rw [hg, he, List.getD_eq_getElem?_getD, List.getElem?_eq_getElem hi]; rfl
  rcases Nat.lt_trichotomy i j with h' | h' | h'
  · exact hnd i j _ _ h' e1
  · exact hne h'.symm
  · exact hnd j i _ _ h' e1.symm

theorem bDo_both {L : List Od} (c : Cm) (h : BookOk L) : BookOk (bDo L c).2 ∧ (bDo L c).1.length ≤ 100 := by
  unfold bDo
  split
  · rename_i hr
    have hf : cmFair c = true := by
      unfold bRefused at hr
      by_cases hf : cmFair c = true
      · exact hf
      · simp [hf] at hr
    unfold bRefused at hr
    rw [if_pos hf] at hr
    have hfb := hf
    unfold cmFair fairB at hfb
    simp only [Bool.and_eq_true, inB_iff] at hfb
    obtain ⟨⟨⟨hk, hc⟩, hi⟩, hrest⟩ := hfb
    simp only
    by_cases h5 : c.k = 5
    · rw [if_pos h5]
      exact ⟨h.erase _, by simp⟩
    · rw [if_neg h5]
      by_cases h6 : c.k = 6
      · rw [if_pos h6]
        have h2 : ¬ c.k = 2 := by omega
        rw [if_neg h2, if_neg h5, if_pos h6] at hrest
        simp only [Bool.and_eq_true, inB_iff, decide_eq_true_eq] at hrest
        rw [if_pos (.inr h6)] at hr
        cases hfd : bFind L c.id with
        | none => rw [hfd] at hr; simp at hr
        | some i =>
          obtain ⟨hil, hid⟩ := bFind_some hfd
          have hm := h.each _ (getD_mem hil)
          simp only [Option.getD_some]
          split
          · rename_i hq
            exact ⟨h.set hil _ (by omega) (by omega), by simp⟩
          · obtain ⟨e1, e2⟩ := bEnter_ok (h.erase i) 1 { L.getD i od0 with pr := c.pr, q := c.q } ⟨hm.1, hm.2.1, hm.2.2.1, by show 1 ≤ c.q ∧ c.q ≤ 99; omega⟩ (fun _ => by show 1 ≤ c.pr ∧ c.pr ≤ 99; omega) (fun _ => by rw [List.length_eraseIdx_of_lt hil]; have := h.len; omega) (nodup_erase h hil)
            have := (List.eraseIdx_sublist L i).length_le
            have := h.len
            exact ⟨e1, Nat.le_trans (Nat.succ_le_succ e2) (by omega)⟩
      · rw [if_neg h6]
        rw [if_neg (by omega)] at hr
        cases hfd : bFind L c.id with
        | some i => rw [hfd] at hr; simp at hr
        | none =>
          rw [hfd] at hr
          simp only at hr
          have hnn := bFind_none hfd
          have hsq : (1 ≤ c.sd ∧ c.sd ≤ 2) ∧ (1 ≤ c.q ∧ c.q ≤ 99) ∧ (c.k = 1 → 1 ≤ c.pr ∧ c.pr ≤ 99) := by
            by_cases h2 : c.k = 2
            · rw [if_pos h2] at hrest
              simp only [Bool.and_eq_true, inB_iff, decide_eq_true_eq] at hrest
              omega
            · rw [if_neg h2, if_neg h5, if_neg h6] at hrest
              simp only [Bool.and_eq_true, inB_iff] at hrest
              omega
          obtain ⟨e1, e2⟩ := bEnter_ok h c.k (cmOd c) ⟨hc, hi, hsq.1, hsq.2.1⟩ hsq.2.2 (fun hk1 => by
            by_cases hl : 12 ≤ L.length
            · simp [hk1, hl] at hr
            · omega) hnn
          have := h.len
          exact ⟨e1, Nat.le_trans (Nat.succ_le_succ e2) (by omega)⟩
  · exact ⟨h, by simp⟩
theorem bDo_ok {L : List Od} (c : Cm) (h : BookOk L) : BookOk (bDo L c).2 := (bDo_both c h).1
theorem bDo_len {L : List Od} (c : Cm) (h : BookOk L) : (bDo L c).1.length ≤ 100 := (bDo_both c h).2
end Go.Proofs.Ytbljokilfkodfaa
/-
  Lists that go both ways, as plain functions: who stands behind, who stands ahead.
-/
namespace Go.Proofs.Ytbljokilfkodfaa

/-- Who stands right behind id. -/
def nextOf : List Int → Int → Option Int
  | [], _ => none
  | x :: r, id => if x = id then r.head? else nextOf r id
/-- Who stands right ahead of id (p: who stands ahead of the whole list). -/
def prevFrom : Option Int → List Int → Int → Option Int
  | _, [], _ => none
  | p, x :: r, id => if x = id then p else prevFrom (some x) r id
def prevOf (l : List Int) (id : Int) : Option Int := prevFrom none l id

theorem nextOf_notin {l : List Int} {id : Int} (h : id ∉ l) : nextOf l id = none := by
  induction l with
  | nil => rfl
  | cons x r ih =>
    simp only [List.mem_cons, not_or] at h
    simp only [nextOf, if_neg (fun e : x = id => h.1 e.symm), ih h.2]
theorem prevFrom_notin {l : List Int} {id : Int} (h : id ∉ l) : ∀ p, prevFrom p l id = none := by
  induction l with
  | nil => intro p; rfl
  | cons x r ih =>
    intro p
    simp only [List.mem_cons, not_or] at h
    simp only [prevFrom, if_neg (fun e : x = id => h.1 e.symm), ih h.2]

theorem nextOf_snoc (l : List Int) (a id : Int) (ha : a ∉ l) (hn : l.Nodup) :
    nextOf (l ++ [a]) id = if l.getLast? = some id then some a else nextOf l id := by
  induction l with
  | nil => simp [nextOf]
  | cons x r ih =>
    simp only [List.mem_cons, not_or] at ha
    simp only [List.nodup_cons] at hn
    cases r with
    | nil =>
      by_cases h : x = id
      · simp [nextOf, h]
      · simp [nextOf, h]
    | cons y t =>
      by_cases h : x = id
      · subst h
        have : ¬ (x :: y :: t).getLast? = some x := by
          rw [List.getLast?_cons_cons]
          intro hl
          exact hn.1 (List.mem_of_getLast? hl)
        rw [if_neg this]
        simp [nextOf]
      · have e := ih ha.2 hn.2
        simp only [List.cons_append, nextOf, if_neg h] at e ⊢
        rw [List.getLast?_cons_cons]
        exact e
theorem prevFrom_snoc (l : List Int) (a id : Int) (ha : a ∉ l) : ∀ p, prevFrom p (l ++ [a]) id = if id = a then (match l.getLast? with | none => p | some x => some x) else prevFrom p l id := by
  induction l with
  | nil =>
    intro p
    by_cases h : id = a
    · subst h; simp [prevFrom]
    · have h' : ¬ a = id := fun e => h e.symm
      simp [prevFrom, h, h']
  | cons x r ih =>
    intro p
    simp only [List.mem_cons, not_or] at ha
    by_cases h : x = id
    · subst h
      have : ¬ x = a := fun e => ha.1 e.symm
      simp [prevFrom, this]
    · simp only [List.cons_append, prevFrom, if_neg h]
      rw [ih ha.2 (some x)]
      by_cases h2 : id = a
      · rw [if_pos h2, if_pos h2]
        cases r with
        | nil => simp
        | cons y t => rw [List.getLast?_cons_cons]; cases ht : (y :: t).getLast? with
          | none => simp at ht
          | some z => rfl
      · rw [if_neg h2, if_neg h2]
theorem prevOf_snoc (l : List Int) (a id : Int) (ha : a ∉ l) : prevOf (l ++ [a]) id = if id = a then l.getLast? else prevOf l id := by
  unfold prevOf
  rw [prevFrom_snoc l a id ha none]
  cases l.getLast? <;> rfl

/-- One is taken out: those that stood about it join. -/
theorem nextOf_erase (l : List Int) (a id : Int) (hn : l.Nodup) (hne : id ≠ a) :
    nextOf (l.erase a) id = if nextOf l id = some a then nextOf l a else nextOf l id := by
  induction l with
  | nil => simp [nextOf]
  | cons x r ih =>
    simp only [List.nodup_cons] at hn
    by_cases hx : x = a
    · subst hx
      rw [List.erase_cons_head]
      have h1 : ¬ x = id := fun e => hne e.symm
      simp only [nextOf, if_neg h1, if_pos]
      by_cases hi : nextOf r id = some x
      · exfalso
        have : x ∈ r := by
          clear ih hn
          induction r with
          | nil => simp [nextOf] at hi
          | cons y t iht =>
            simp only [nextOf] at hi
            split at hi
            · exact List.mem_cons_of_mem _ (List.mem_of_head? hi)
            · exact List.mem_cons_of_mem _ (iht hi)
        exact hn.1 this
      · rw [if_neg hi]
    · rw [List.erase_cons_tail (by simpa using hx)]
      by_cases hxi : x = id
      · subst hxi
        simp only [nextOf, if_pos, if_neg hx]
        cases r with
        | nil => simp
        | cons y t =>
          by_cases hy : y = a
          · subst hy
            simp [nextOf]
          · rw [List.erase_cons_tail (by simpa using hy)]
            simp [hy]
      · simp only [nextOf, if_neg hxi, if_neg hx]
        exact ih hn.2
theorem prevFrom_erase (l : List Int) (a id : Int) (hn : l.Nodup) (hne : id ≠ a) : ∀ p, p ≠ some a →
    prevFrom p (l.erase a) id = if prevFrom p l id = some a then prevFrom p l a else prevFrom p l id := by
  induction l with
  | nil => intro p _; simp [prevFrom]
  | cons x r ih =>
    intro p hp
    simp only [List.nodup_cons] at hn
    by_cases hx : x = a
    · subst hx
      rw [List.erase_cons_head]
      have h1 : ¬ x = id := fun e => hne e.symm
      simp only [prevFrom, if_neg h1, if_pos]
      cases r with
      | nil => simp [prevFrom]
      | cons y t =>
        by_cases hy : y = id
        · subst hy; simp [prevFrom]
        · simp only [prevFrom, if_neg hy]
          by_cases hi : prevFrom (some y) t id = some x
          · exfalso
            have hm : ∀ (q : Option Int) (l : List Int), q ≠ some x → prevFrom q l id = some x → x ∈ l := by
              intro q l
              induction l generalizing q with
              | nil => intro _ h; simp [prevFrom] at h
              | cons z s ihs =>
                intro hq h
                simp only [prevFrom] at h
                split at h
                · exact absurd h hq
                · by_cases hz : z = x
                  · rw [hz]; exact List.mem_cons_self
                  · exact List.mem_cons_of_mem _ (ihs (some z) (by simpa using hz) h)
            have hyx : y ≠ x := fun e => hn.1 (by rw [e]; exact List.mem_cons_self)
            exact hn.1 (List.mem_cons_of_mem _ (hm (some y) t (by simpa using hyx) hi))
          · rw [if_neg hi]
    · rw [List.erase_cons_tail (by simpa using hx)]
      by_cases hxi : x = id
      · subst hxi
        simp only [prevFrom, if_pos]
        rw [if_neg hp]
      · simp only [prevFrom, if_neg hxi, if_neg hx]
        exact ih hn.2 (some x) (by simpa using hx)
theorem prevOf_erase (l : List Int) (a id : Int) (hn : l.Nodup) (hne : id ≠ a) :
    prevOf (l.erase a) id = if prevOf l id = some a then prevOf l a else prevOf l id := prevFrom_erase l a id hn hne none (by simp)

/-- The first and the last behind one's taking out. -/
theorem head_erase (l : List Int) (a : Int) (hn : l.Nodup) (ha : a ∈ l) : (l.erase a).head? = if prevOf l a = none then nextOf l a else l.head? := by
  cases l with
  | nil => cases ha
  | cons x r =>
    by_cases hx : x = a
    · subst hx; simp [prevOf, prevFrom, nextOf]
    · rw [List.erase_cons_tail (by simpa using hx)]
      have : ¬ prevOf (x :: r) a = none := by
        have hr : a ∈ r := by rcases List.mem_cons.1 ha with h | h; exact absurd h.symm hx; exact h
        simp only [prevOf, prevFrom, if_neg hx]
        clear hn ha
        intro h
        have hm : ∀ (q : Int) (l : List Int), a ∈ l → prevFrom (some q) l a ≠ none := by
          intro q l
          induction l generalizing q with
          | nil => intro h; cases h
          | cons z s ihs =>
            intro hz
            simp only [prevFrom]
            split
            · simp
            · rename_i hne
              rcases List.mem_cons.1 hz with h | h
              · exact absurd h.symm hne
              · exact ihs z h
        exact hm x r hr h
      rw [if_neg this]
      rfl
theorem last_erase (l : List Int) (a : Int) (hn : l.Nodup) (ha : a ∈ l) : ∀ p, (match (l.erase a).getLast? with | none => p | some x => some x) = if nextOf l a = none then prevFrom p l a else l.getLast? := by
  induction l with
  | nil => cases ha
  | cons x r ih =>
    intro p
    simp only [List.nodup_cons] at hn
    by_cases hx : x = a
    · subst hx
      rw [List.erase_cons_head]
      simp only [nextOf, prevFrom, if_pos]
      cases r with
      | nil => simp
      | cons y t =>
        simp only [List.head?_cons, reduceCtorEq, if_false, List.getLast?_cons_cons]
        cases ht : (y :: t).getLast? with
        | none => simp at ht
        | some z => rfl
    · rw [List.erase_cons_tail (by simpa using hx)]
      have hr : a ∈ r := by rcases List.mem_cons.1 ha with h | h; exact absurd h.symm hx; exact h
      have e := ih hn.2 hr (some x)
      simp only [nextOf, prevFrom, if_neg hx]
      cases r with
      | nil => cases hr
      | cons y t =>
        rw [List.getLast?_cons_cons]
        rw [← e]
        cases hq : (y :: t).erase a with
        | nil => simp
        | cons z s => rw [List.getLast?_cons_cons]; cases hz : (z :: s).getLast? with
          | none => simp at hz
          | some u => rfl
theorem lastOf_erase (l : List Int) (a : Int) (hn : l.Nodup) (ha : a ∈ l) : (l.erase a).getLast? = if nextOf l a = none then prevOf l a else l.getLast? := by
  have := last_erase l a hn ha none
  unfold prevOf
  rw [← this]
  cases (l.erase a).getLast? <;> rfl
end Go.Proofs.Ytbljokilfkodfaa
