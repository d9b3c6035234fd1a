/-
  The levels of a side: one order less (half.remove): what it comes to.
-/
import Derived.Test.YtbljokilfkodfaaG22
import Derived.Test.YtbljokilfkodfaaG6
import Derived.Carry
namespace Go.Proofs.Ytbljokilfkodfaa
open Go.RowKit

theorem rem_step {w w' : World} {pb : Nat} {g : Gh} {L : List Od} {sd p : Int} (h : SideAt w pb g sd L) (tlt : ∀ k, g.tag k ≠ none → k < w.heap.size) (tb : g.tag pb = some .book) (odt : ∀ o ∈ L, g.tag (g.A o.id) = some (.ord o.id)) (nd : (L.map Od.id).Nodup)
    (hp : p ∈ g.V sd) (c : Cells (remT (g.B sd p) g.A (lvIds L sd p)) w w') :
    Step pb g g sd L w w' ∧ HalfAt w' pb (offS sd) sd (g.sv sd) (g.B sd) (g.V sd) ∧ ∀ q ∈ g.V sd, q ≠ p → Links w' (g.B sd q) g.A (lvIds L sd q) := by
  have ltag := h.lvt _ hp
  have idt : ∀ id ∈ lvIds L sd p, g.tag (g.A id) = some (.ord id) := fun id hid => by
    obtain ⟨x, hx, rfl, _⟩ := mem_lvIds.1 hid; exact odt x hx
  have tT : ∀ k i, remT (g.B sd p) g.A (lvIds L sd p) k i → (k = g.B sd p ∧ (i = 1 ∨ i = 2)) ∨ ((∃ id, g.tag k = some (.ord id) ∧ id ∈ lvIds L sd p) ∧ (i = 5 ∨ i = 6)) := fun k i hT => by
    rcases hT with hT | ⟨id, hid, rfl, hi⟩
    · exact .inl hT
    · exact .inr ⟨⟨id, idt id hid, hid⟩, hi⟩
  have noT : ∀ k t, g.tag k = some t → (∀ id, t ≠ .ord id) → t ≠ .lvl sd p → ∀ i, ¬ remT (g.B sd p) g.A (lvIds L sd p) k i := fun k t hk h1 h2 i hT => by
    rcases tT k i hT with ⟨e, _⟩ | ⟨⟨id, e, _⟩, _⟩
    · rw [e, ltag] at hk; injection hk with hk; exact h2 hk.symm
    · rw [e] at hk; injection hk with hk; exact h1 id hk.symm
  have farO : ∀ id, g.tag (g.A id) = some (.ord id) → id ∉ lvIds L sd p → ∀ i, ¬ remT (g.B sd p) g.A (lvIds L sd p) (g.A id) i := fun id ht h2 i hT => by
    rcases tT _ i hT with ⟨e, _⟩ | ⟨⟨id', e, he⟩, _⟩
    · rw [e, ltag] at ht; cases ht
    · rw [ht] at e; injection e with e; injection e with e; subst e
      exact h2 he
  refine ⟨⟨rfl, rfl, fun _ _ => ⟨rfl, rfl, rfl⟩, fun _ _ h => h, fun _ h => .inl h, fun k hk => Nat.lt_of_lt_of_le (tlt k hk) c.size, c.only.mono (fun k _ ⟨i, hT⟩ => ?_), ⟨fun i _ => c.cell _ _ h.half.lt (noT pb _ tb (fun _ e => by cases e) (fun e => by cases e) i), fun i => c.froz _ _ h.half.lt⟩, fun k i id hk hi => c.cell _ _ (tlt k (by rw [hk]; simp)) (fun hT => ?_), fun k i id hk => c.froz _ _ (tlt k (by rw [hk]; simp)), fun x hx hne => c.block _ (tlt _ (by rw [odt x hx]; simp)) (farO x.id (odt x hx) (fun hm => ?_))⟩, h.half.keepC c (noT pb _ tb (fun _ e => by cases e) (fun e => by cases e)) (fun k hk => noT k _ (h.rowt k hk) (fun _ e => by cases e) (fun e => by cases e)) (fun q hq hT => ?_), fun q hq hqp => ?_⟩
  · rcases tT k i hT with ⟨e, _⟩ | ⟨⟨id, e, _⟩, _⟩
    · exact .inr (.inr (.inl ⟨p, by rw [e]; exact ltag⟩))
    · exact .inr (.inr (.inr ⟨id, e⟩))
  · rcases tT k i hT with ⟨e, _⟩ | ⟨_, e⟩
    · rw [e, ltag] at hk; cases hk
    · omega
  · obtain ⟨y, hy, e1, e2, _⟩ := mem_lvIds.1 hm
    exact hne (by rw [← od_unique nd hy hx e1]; exact e2)
  · rcases tT _ 0 hT with ⟨_, e⟩ | ⟨_, e⟩ <;> omega
  · have hk := h.links q hq
    refine hk.keepB c.size (c.block _ hk.ltl (noT _ _ (h.lvt q hq) (fun _ e => by cases e) (fun e' => by injection e' with _ e'; exact hqp e'))) (fun id hid => ?_)
    obtain ⟨x, hx, rfl, _, hxp⟩ := mem_lvIds.1 hid
    refine c.block _ (hk.lto _ hid) (farO x.id (odt x hx) (fun hm => ?_))
    obtain ⟨y, hy, e1, _, e2⟩ := mem_lvIds.1 hm
    exact hqp (by rw [← hxp, ← od_unique nd hy hx e1]; exact e2)

/-- Somebody still rests there. -/
theorem rem_old {w w' : World} {pb : Nat} {g : Gh} {L L' : List Od} {sd p a : Int} (h : SideAt w pb g sd L) (tlt : ∀ k, g.tag k ≠ none → k < w.heap.size) (tb : g.tag pb = some .book) (odt : ∀ o ∈ L, g.tag (g.A o.id) = some (.ord o.id)) (nd : (L.map Od.id).Nodup)
    (hp : p ∈ g.V sd) (hl : Links w' (g.B sd p) g.A ((lvIds L sd p).erase a)) (c : Cells (remT (g.B sd p) g.A (lvIds L sd p)) w w') (hL : ∀ q, lvIds L' sd q = if q = p then (lvIds L sd p).erase a else lvIds L sd q) (hne : (lvIds L sd p).erase a ≠ []) :
    Step pb g g sd L w w' ∧ SideAt w' pb g sd L' := by
  obtain ⟨st, hh, ho⟩ := rem_step h tlt tb odt nd hp c
  refine ⟨st, hh, h.rowt, h.heap, h.vnd, fun q => ?_, h.lvt, fun q hq => ?_⟩
  · rw [hL q]
    by_cases e : q = p
    · rw [if_pos e, e]; simp [hp, hne]
    · rw [if_neg e]; exact h.vmem q
  · rw [hL q]
    by_cases e : q = p
    · rw [if_pos e, e]; exact hl
    · rw [if_neg e]; exact ho q hq e

def Gh.less (g : Gh) (sd : Int) (V' : List Int) (sv' : Value) : Gh := { g with V := fun s => if s = sd then V' else g.V s, sv := fun s => if s = sd then sv' else g.sv s }

/-- Nobody rests there any more: the level has gone. -/
theorem rem_gone {w w1 w' : World} {pb : Nat} {g : Gh} {L L' : List Od} {sd p a : Int} {V' : List Int} {sv' : Value} (h : SideAt w pb g sd L) (tlt : ∀ k, g.tag k ≠ none → k < w.heap.size) (tb : g.tag pb = some .book) (odt : ∀ o ∈ L, g.tag (g.A o.id) = some (.ord o.id)) (nd : (L.map Od.id).Nodup)
    (hp : p ∈ g.V sd) (c : Cells (remT (g.B sd p) g.A (lvIds L sd p)) w w1) (hL : ∀ q, lvIds L' sd q = if q = p then (lvIds L sd p).erase a else lvIds L sd q) (hnil : (lvIds L sd p).erase a = [])
    (hh : HalfAt w' pb (offS sd) sd sv' (g.B sd) V') (hpm : (p :: V').Perm (g.V sd)) (hhp : HeapTo (fun j => keyOf' sd (V'.getD j 0)) V'.length) (hsv : sv'.ownBlock = (g.sv sd).ownBlock)
    (on : Only (fun k => k = pb ∨ (g.sv sd).ownBlock = some k) w1 w') (pk : PbKeep pb (offS sd) w1 w') :
    Step pb g (g.less sd V' sv') sd L w w' ∧ SideAt w' pb (g.less sd V' sv') sd L' := by
  obtain ⟨st, h1, ho⟩ := rem_step h tlt tb odt nd hp c
  have s1 : w.heap.size ≤ w1.heap.size := c.size
  have onT : ∀ k t, g.tag k = some t → t ≠ .book → (∀ s, t ≠ .row s) → ¬ (k = pb ∨ (g.sv sd).ownBlock = some k) := fun k t hk h1 h2 hor => by
    rcases hor with e | e
    · rw [e, tb] at hk; injection hk with hk; exact h1 hk.symm
    · rw [h.rowt k e] at hk; injection hk with hk; exact h2 _ hk.symm
  have eV : (g.less sd V' sv').V sd = V' := if_pos rfl
  have esv : (g.less sd V' sv').sv sd = sv' := if_pos rfl
  have nd' : (p :: V').Nodup := hpm.nodup_iff.2 h.vnd
  rw [List.nodup_cons] at nd'
  have memV : ∀ q, q ∈ V' ↔ q ∈ g.V sd ∧ q ≠ p := fun q => by
    rw [← hpm.mem_iff, List.mem_cons]
    constructor
    · intro hq; exact ⟨.inr hq, fun e => nd'.1 (by rw [← e]; exact hq)⟩
    · rintro ⟨e | hq, hne⟩
      · exact absurd e hne
      · exact hq
  constructor
  · refine ⟨rfl, rfl, fun s hs => ⟨if_neg hs, if_neg hs, rfl⟩, fun _ _ h => h, fun _ h => .inl h, fun k hk => Nat.lt_of_lt_of_le (tlt k hk) (Nat.le_trans s1 on.size), st.only.trans (on.mono (fun k _ hor => ?_)), st.pbk.trans pk, fun k i id hk hi => (on.cell (by have := tlt k (by rw [hk]; simp); omega) (onT k _ hk (fun e => by cases e) (fun _ e => by cases e))).trans (st.odk k i id hk hi), fun k i id hk => (on.frozen (by have := tlt k (by rw [hk]; simp); omega) (onT k _ hk (fun e => by cases e) (fun _ e => by cases e))).trans (st.odf k i id hk), fun x hx hne => (on.block _ (by have := tlt _ (by rw [odt x hx]; simp : g.tag (g.A x.id) ≠ none); omega) (onT _ _ (odt x hx) (fun e => by cases e) (fun _ e => by cases e))).trans (st.far x hx hne)⟩
    rcases hor with e | e
    · exact .inl e
    · exact .inr (.inl (h.rowt k e))
  · refine ⟨by rw [eV, esv]; exact hh, fun k hk => ?_, by rw [eV]; exact hhp, by rw [eV]; exact nd'.2, fun q => ?_, fun q hq => ?_, fun q hq => ?_⟩
    · rw [esv, hsv] at hk; exact h.rowt k hk
    · rw [eV, memV, hL q]
      by_cases e : q = p
      · rw [if_pos e, hnil]; simp [e]
      · rw [if_neg e]; simp only [e, ne_eq, not_false_eq_true, and_true]; exact h.vmem q
    · rw [eV, memV] at hq; exact h.lvt q hq.1
    · rw [eV, memV] at hq
      rw [hL q, if_neg hq.2]
      refine (ho q hq.1 hq.2).keep on (onT _ _ (h.lvt q hq.1) (fun e => by cases e) (fun _ e => by cases e)) (fun id hid => ?_)
      obtain ⟨x, hx, rfl, _⟩ := mem_lvIds.1 hid
      exact onT _ _ (odt x hx) (fun e => by cases e) (fun _ e => by cases e)

set_option maxRecDepth 100000 in
set_option maxHeartbeats 1000000 in
theorem hrem_any {w : World} {pb : Nat} {g : Gh} {L L' : List Od} {o : Od} (h : SideAt w pb g o.sd L) (ho : o ∈ L) (hoc : OdCells w (g.A o.id) o) (tlt : ∀ k, g.tag k ≠ none → k < w.heap.size) (tb : g.tag pb = some .book) (odt : ∀ o ∈ L, g.tag (g.A o.id) = some (.ord o.id)) (nd : (L.map Od.id).Nodup) (hL : ∀ q, lvIds L' o.sd q = if q = o.pr then (lvIds L o.sd o.pr).erase o.id else lvIds L o.sd q) :
    Calls Try.prog 94 #[.pointer (some ⟨pb, offS o.sd, none⟩), .pointer (some ⟨g.A o.id, 0, none⟩)] w fun e w' => ∃ g', e = .returned (.tuple #[]) ∧ Step pb g g' o.sd L w w' ∧ SideAt w' pb g' o.sd L' := by
  have H : Hid (SideAt w pb g o.sd L) := h
  have c3 := hoc.c3
  have hlt := h.half.lt
  have hla := tlt _ (by rw [odt o ho]; simp : g.tag (g.A o.id) ≠ none)
  have TL : Hid (∀ k, g.tag k ≠ none → k < w.heap.size) := tlt
  have OD : Hid (∀ o ∈ L, g.tag (g.A o.id) = some (.ord o.id)) := odt
  have TB : Hid (g.tag pb = some .book) := tb
  have HL : Hid (∀ q, lvIds L' o.sd q = if q = o.pr then (lvIds L o.sd o.pr).erase o.id else lvIds L o.sd q) := hL
  have hm : o.id ∈ lvIds L o.sd o.pr := mem_lvIds.2 ⟨o, ho, rfl, rfl, rfl⟩
  have hpV : o.pr ∈ g.V o.sd := (h.vmem o.pr).2 (fun e => by rw [e] at hm; cases hm)
  have hfnd := hfind_any h.half o.pr
  clear h hoc tlt odt tb hL
  go_enter Try.func94, Try.ntmps94
  go_wp2_with fail
  refine hfnd.mono ?_
  rintro e w1 ⟨⟨i, rfl, hi⟩, b1⟩
  clear hfnd
  rcases hi with ⟨rfl, hno⟩ | ⟨n, rfl, hn1, hn2⟩
  · exact absurd hpV hno
  have on1 : Only (fun _ => False) w w1 := Only.of_below b1
  have tl1 : Hid (∀ k, g.tag k ≠ none → k < w1.heap.size) := fun k hk => Nat.lt_of_lt_of_le (TL.out k hk) b1.size
  have H1 : Hid (SideAt w1 pb g o.sd L) := H.out.keep on1 (by rw [TB.out]; simp) (fun x hx => by rw [OD.out x hx]; simp) (fun _ _ => id)
  have hpr := H1.out.half.row
  have s01 : w.heap.size ≤ w1.heap.size := b1.size
  have B1 : Hid (Below w.heap.size w w1) := b1
  clear c3 b1 on1
  obtain ⟨gr, c, hsv, hg, _, hcell, _⟩ := own_some H1.out.half.own (by omega)
  have HSV : Hid (g.sv o.sd = .slice (some ⟨gr, 0, none⟩) (g.V o.sd).length c) := hsv
  rw [hsv] at hpr
  clear hsv
  have hgd : (g.V o.sd)[n] = o.pr := by rw [← hn2, List.getD_eq_getElem?_getD, List.getElem?_eq_getElem hn1]; rfl
  have cn : w1.cell? ⟨gr, n, none⟩ = some (.pointer (some ⟨g.B o.sd o.pr, 0, none⟩)) := (hcell n hn1).trans (by simp [lvPtrs, hn1, hgd])
  have hni2 : (n : Int) < ((g.V o.sd).length : Int) := by omega
  have few := H1.out.half.few
  clear hcell hgd
  go_wp2_with fail
  refine (lrem_any (H1.out.links _ hpV) hm).mono ?_
  rintro e w2 ⟨rfl, l2, c2⟩
  have L2 : Hid (Links w2 (g.B o.sd o.pr) g.A ((lvIds L o.sd o.pr).erase o.id)) := l2
  have C2 : Hid (Cells (remT (g.B o.sd o.pr) g.A (lvIds L o.sd o.pr)) w1 w2) := c2
  obtain ⟨st2, hh2, ho2⟩ := rem_step H1.out tl1.out TB.out OD.out nd hpV c2
  have HH2 : Hid (HalfAt w2 pb (offS o.sd) o.sd (g.sv o.sd) (g.B o.sd) (g.V o.sd)) := hh2
  have f2 := l2.first
  have r2 := hh2.row
  obtain ⟨gr', c', hsv', hg', _, hcell', _⟩ := own_some hh2.own (by omega)
  rw [HSV.out] at hsv' r2
  injection hsv' with hsa _ hsc
  injection hsa with hsa
  injection hsa with hsa _ _
  subst hsa
  subst hsc
  have hgd : (g.V o.sd)[n] = o.pr := by rw [← hn2, List.getD_eq_getElem?_getD, List.getElem?_eq_getElem hn1]; rfl
  have cn2 : w2.cell? ⟨gr, n, none⟩ = some (.pointer (some ⟨g.B o.sd o.pr, 0, none⟩)) := (hcell' n hn1).trans (by simp [lvPtrs, hn1, hgd])
  clear hcell' hgd l2 c2 st2 hh2 ho2 hpr cn
  cases hemp : (lvIds L o.sd o.pr).erase o.id with
  | nil =>
    rw [hemp] at f2
    simp only [List.head?_nil, ptrO, Option.map_none] at f2
    have HE : Hid ((lvIds L o.sd o.pr).erase o.id = []) := hemp
    clear hemp
    go_wp2_with fail
    refine (heapRemove_any HH2.out H1.out.heap n hn1).mono ?_
    rintro e w3 ⟨v, sv', V', rfl, hh, hpm, hhp, hsv3, on, pk⟩
    rw [hn2] at hpm
    obtain ⟨st, sd'⟩ := rem_gone (L' := L') (a := o.id) H1.out tl1.out TB.out OD.out nd hpV C2.out HL.out HE.out hh hpm hhp hsv3 on pk
    have R : Hid (Step pb g (g.less o.sd V' sv') o.sd L w w3 ∧ SideAt w3 pb (g.less o.sd V' sv') o.sd L') := ⟨st.before B1.out TL.out (by rw [TB.out]; simp) (fun x hx => by rw [OD.out x hx]; simp), sd'⟩
    clear st sd' hh hpm hhp hsv3 on pk
    go_wp2
    go_end0
    exact ⟨_, rfl, R.out⟩
  | cons y t =>
    rw [hemp] at f2
    simp only [List.head?_cons, ptrO, Option.map_some] at f2
    have HE : Hid ((lvIds L o.sd o.pr).erase o.id ≠ []) := by show _ ≠ _; rw [hemp]; simp
    clear hemp
    go_wp2_with fail
    go_end0
    obtain ⟨st, sd'⟩ := rem_old (L' := L') (a := o.id) H1.out tl1.out TB.out OD.out nd hpV L2.out C2.out HL.out HE.out
    exact ⟨g, rfl, st.before B1.out TL.out (by rw [TB.out]; simp) (fun x hx => by rw [OD.out x hx]; simp), sd'⟩
end Go.Proofs.Ytbljokilfkodfaa
/-
  The book: add, remove.
-/
namespace Go.Proofs.Ytbljokilfkodfaa
open Go.RowKit

def otherS (sd : Int) : Int := if sd = 1 then 2 else 1
theorem sides {sd : Int} (h : sd = 1 ∨ sd = 2) : (otherS sd = 1 ∨ otherS sd = 2) ∧ otherS sd ≠ sd := by
  rcases h with rfl | rfl <;> simp [otherS]

theorem half_off (b : Nat) (sd : Int) (w : World) :
    Calls Try.prog 61 #[.pointer (some ⟨b, 0, none⟩), .int .i64 sd] w fun e w' => e = .returned (.pointer (some ⟨b, offS sd, none⟩)) ∧ w' = w := half_any b sd w

/-- The map alone has turned. -/
theorem SideAt.keepM {w wm : World} {pb : Nat} {g : Gh} {sd : Int} {L : List Od} (hs : SideAt w pb g sd L) (om : Only (fun k => k = g.mb) w wm) (tb : g.tag pb = some .book) (tm : g.tag g.mb = some .map) (odt : ∀ o ∈ L, g.tag (g.A o.id) = some (.ord o.id)) : SideAt wm pb g sd L := by
  refine ⟨hs.half.keep om (tag_ne tb tm (fun e => by cases e)) (fun k hk => tag_ne (hs.rowt k hk) tm (fun e => by cases e)) (fun p hp => tag_ne (hs.lvt p hp) tm (fun e => by cases e)), hs.rowt, hs.heap, hs.vnd, hs.vmem, hs.lvt, fun p hp => (hs.links p hp).keep om (tag_ne (hs.lvt p hp) tm (fun e => by cases e)) (fun id hid => ?_)⟩
  obtain ⟨x, hx, rfl, _⟩ := mem_lvIds.1 hid
  exact tag_ne (odt x hx) tm (fun e => by cases e)

/-- What lies behind a step on one side, the map turned too. -/
theorem BkAt.step {w wm w' : World} {pb : Nat} {g g' : Gh} {L L' : List Od} {sd : Int} (h : BkAt w pb g L) (hsd : sd = 1 ∨ sd = 2) (om : Only (fun k => k = g.mb) w wm) (hm : MapIs wm g.mb g.A (L'.map Od.id)) (st : Step pb g g' sd L wm w') (s' : SideAt w' pb g' sd L')
    (hoth : ∀ p, lvIds L' (otherS sd) p = lvIds L (otherS sd) p) (hod : ∀ o ∈ L', g.tag (g.A o.id) = some (.ord o.id) ∧ OdCells wm (g.A o.id) o) (hok : BkOk0 L') : BkAt w' pb g' L' := by
  have hpm : pb ≠ g.mb := tag_ne h.tb h.tm (fun e => by cases e)
  have so' : SideAt wm pb g (otherS sd) L := (h.side (sides hsd).1).keepM om h.tb h.tm h.odt
  have so := so'.other st (sides hsd).1 hsd (sides hsd).2 h.tb hoth
  have ltm : ∀ k, g.tag k ≠ none → k < wm.heap.size := fun k hk => Nat.lt_of_lt_of_le (h.tlt k hk) om.size
  have hmb : ¬ (g.mb = pb ∨ g.tag g.mb = some (.row sd) ∨ (∃ p, g.tag g.mb = some (.lvl sd p)) ∨ ∃ id, g.tag g.mb = some (.ord id)) := by
    rw [h.tm]
    rintro (e | e | ⟨_, e⟩ | ⟨_, e⟩)
    · exact hpm e.symm
    · cases e
    · cases e
    · cases e
  have zero : (0 : Nat) ≠ offS sd + 1 := by omega
  refine ⟨st.tlt, st.told _ _ h.tb, by rw [st.mb]; exact st.told _ _ h.tm, by rw [st.mb]; exact (st.pbk.1 0 zero).trans ((om.cell (h.tlt pb (by rw [h.tb]; simp)) hpm).trans h.orders), fun i => (st.pbk.2 i).trans ((om.frozen (h.tlt pb (by rw [h.tb]; simp)) hpm).trans (h.softp i)), by rw [st.mb, st.A]; exact hm.keep st.only hmb, ?_, ?_, fun o ho => by rw [st.A]; exact st.told _ _ (hod o ho).1, fun o ho => ?_, hok⟩
  · rcases hsd with rfl | rfl
    · exact s'
    · exact so
  · rcases hsd with rfl | rfl
    · exact so
    · exact s'
  · rw [st.A]
    obtain ⟨t, c⟩ := hod o ho
    exact ⟨(st.odk _ 0 _ t (by omega)).trans c.c0, (st.odk _ 1 _ t (by omega)).trans c.c1, (st.odk _ 2 _ t (by omega)).trans c.c2, (st.odk _ 3 _ t (by omega)).trans c.c3, (st.odk _ 4 _ t (by omega)).trans c.c4, fun i => (st.odf _ i _ t).trans (c.soft i)⟩

/-- What is told of a book behind a call: where it lies, and that nothing else has turned. -/
def Behind (pb : Nat) (g : Gh) (L' : List Od) (w w' : World) : Prop := ∃ g', BkAt w' pb g' L' ∧ Only (fun k => g.tag k ≠ none) w w' ∧ (∀ k, g'.tag k ≠ none → g.tag k ≠ none ∨ w.heap.size ≤ k) ∧ (∀ k t, g.tag k = some t → g'.tag k = some t) ∧ g'.A = g.A

theorem nodup_len : ∀ (V M : List Int), V.Nodup → (∀ x ∈ V, x ∈ M) → V.length ≤ M.length
  | [], _, _, _ => Nat.zero_le _
  | p :: r, M, hn, hs => by
    rw [List.nodup_cons] at hn
    have hp := hs p List.mem_cons_self
    have ih := nodup_len r (M.erase p) hn.2 (fun x hx => by
      have hne : x ≠ p := fun e => hn.1 (by rw [← e]; exact hx)
      exact (List.mem_erase_of_ne hne).2 (hs x (List.mem_cons_of_mem _ hx)))
    rw [List.length_erase_of_mem hp] at ih
    have : 0 < M.length := List.length_pos_of_mem hp
    simp only [List.length_cons]
    omega
theorem few_levels {w : World} {pb : Nat} {g : Gh} {L : List Od} (h : BkAt w pb g L) {sd : Int} (hs : sd = 1 ∨ sd = 2) : (g.V sd).length ≤ 12 := by
  have hsd := h.side hs
  have := nodup_len (g.V sd) (L.map Od.pr) hsd.vnd (fun p hp => by
    have hne := (hsd.vmem p).1 hp
    obtain ⟨id, hid⟩ := List.exists_mem_of_ne_nil _ hne
    obtain ⟨o, ho, _, _, e⟩ := mem_lvIds.1 hid
    rw [← e]
    exact List.mem_map_of_mem ho)
  have hl := h.ok.len
  simp at this
  omega

set_option maxRecDepth 100000 in
set_option maxHeartbeats 1000000 in
theorem badd_any {w : World} {pb : Nat} {g : Gh} {L : List Od} {o : Od} (h : BkAt w pb g L) (hn : NewOd w g L o) (hok : BkOk0 (L ++ [o])) :
    Calls Try.prog 74 #[.pointer (some ⟨pb, 0, none⟩), .pointer (some ⟨g.A o.id, 0, none⟩)] w fun e w' => e = .returned (.tuple #[]) ∧ Behind pb g (L ++ [o]) w w' := by
  have H : Hid (BkAt w pb g L) := h
  have HN : Hid (NewOd w g L o) := hn
  have hoo := hok.each o (by simp)
  obtain ⟨_, ⟨i1, i2⟩, ⟨s1, s2⟩, _, _⟩ := hoo
  have hsd : o.sd = 1 ∨ o.sd = 2 := by omega
  have c1 := hn.cells.c1
  have c2 := hn.cells.c2
  have p0 := h.orders
  have hlt := h.tlt pb (by rw [h.tb]; simp)
  have hla := h.tlt _ (by rw [hn.tag]; simp : g.tag (g.A o.id) ≠ none)
  have hlen := h.ok.len
  have hfl := few_levels h hsd
  obtain ⟨wm, hrun, hmi, om'⟩ := (h.map.keep (Only.refl (fun _ => False) w).drew1 id).put (id := o.id) (by omega) (by omega) hn.fresh (by simp; omega)
  have om : Only (fun k => k = g.mb) w wm := (Only.refl _ w).drew1.trans om'
  clear om'
  have ham : g.A o.id ≠ g.mb := tag_ne hn.tag h.tm (fun e => by cases e)
  have N2 : Hid (NewOd wm g L o) := hn.keep om hla ham
  have d2 := N2.out.cells.c2
  clear h hn
  go_enter Try.func74, Try.ntmps74
  go_wp2_with fail
  go_region
  have OM : Hid (Only (fun k => k = g.mb) w wm) := om
  have HMI : Hid (MapIs wm g.mb g.A (L.map Od.id ++ [o.id])) := hmi
  clear hrun om hmi c1 c2 p0 HN
  go_wp2_with fail
  refine (half_off pb o.sd _).mono ?_
  rintro e w2 ⟨rfl, rfl⟩
  have om := OM.out
  have SM : Hid (SideAt w2 pb g o.sd L) := (H.out.side hsd).keepM om H.out.tb H.out.tm H.out.odt
  have TM : Hid (∀ k, g.tag k ≠ none → k < w2.heap.size) := fun k hk => Nat.lt_of_lt_of_le (H.out.tlt k hk) om.size
  clear om d2
  go_wp2_with fail
  have om := OM.out
  have hmi := HMI.out
  refine (hadd_any SM.out N2.out TM.out H.out.tb H.out.odt H.out.ok.ids (by omega)).mono ?_
  rintro e w3 ⟨g', rfl, st, s'⟩
  have hoth : ∀ p, lvIds (L ++ [o]) (otherS o.sd) p = lvIds L (otherS o.sd) p := fun p => by rw [lvIds_snoc, if_neg (fun e => (sides hsd).2 e.1.symm)]
  have hod : ∀ x ∈ L ++ [o], g.tag (g.A x.id) = some (.ord x.id) ∧ OdCells w2 (g.A x.id) x := fun x hx => by
    rcases List.mem_append.1 hx with hx | hx
    · exact ⟨H.out.odt x hx, (H.out.odc x hx).keep om (H.out.tlt _ (by rw [H.out.odt x hx]; simp)) (tag_ne (H.out.odt x hx) H.out.tm (fun e => by cases e))⟩
    · simp at hx; subst hx; exact ⟨N2.out.tag, N2.out.cells⟩
  have R : Hid (Behind pb g (L ++ [o]) w w3) := ⟨g', H.out.step hsd om (by rw [List.map_append]; exact hmi) st s' hoth hod hok, (om.mono (fun k _ e => by rw [e, H.out.tm]; simp)).trans (st.only.mono (fun k _ hor => by
      rcases hor with e | e | ⟨_, e⟩ | ⟨_, e⟩
      · rw [e, H.out.tb]; simp
      · rw [e]; simp
      · rw [e]; simp
      · rw [e]; simp)), fun k hk => (st.tnew k hk).imp id (fun h => Nat.le_trans om.size h), st.told, st.A⟩
  clear st s' hoth hod om hmi
  go_wp2
  go_end0
  exact ⟨rfl, R.out⟩

theorem erase_filter (L : List Od) (k : Nat) (hk : k < L.length) (nd : (L.map Od.id).Nodup) (sd p : Int) : lvIds (L.eraseIdx k) sd p = if L[k].sd = sd ∧ L[k].pr = p then (lvIds L sd p).erase L[k].id else lvIds L sd p := by
  induction L generalizing k with
  | nil => simp at hk
  | cons x r ih =>
    rw [List.map_cons, List.nodup_cons] at nd
    cases k with
    | zero =>
      simp only [List.eraseIdx_cons_zero, List.getElem_cons_zero]
      by_cases h : x.sd = sd ∧ x.pr = p
      · rw [if_pos h]
        have : atLv sd p x = true := by simp [atLv, h.1, h.2]
        simp [lvIds, this]
      · rw [if_neg h]
        have : atLv sd p x = false := by
          unfold atLv
          by_cases h1 : x.sd = sd
          · have h2 : ¬ x.pr = p := fun e => h ⟨h1, e⟩
            simp [h2]
          · simp [h1]
        simp [lvIds, this]
    | succ k =>
      have hk' : k < r.length := by simpa using hk
      have e := ih k hk' nd.2
      simp only [List.eraseIdx_cons_succ, List.getElem_cons_succ]
      have hne : ¬ x.id = r[k].id := fun e => nd.1 (by rw [e]; exact List.mem_map_of_mem (List.getElem_mem _))
      cases hx : atLv sd p x with
      | true =>
        have e1 : lvIds (x :: r.eraseIdx k) sd p = x.id :: lvIds (r.eraseIdx k) sd p := by simp [lvIds, hx]
        have e2 : lvIds (x :: r) sd p = x.id :: lvIds r sd p := by simp [lvIds, hx]
        rw [e1, e2, e]
        split
        · rw [List.erase_cons_tail (by simpa using hne)]
        · rfl
      | false =>
        have e1 : lvIds (x :: r.eraseIdx k) sd p = lvIds (r.eraseIdx k) sd p := by simp [lvIds, hx]
        have e2 : lvIds (x :: r) sd p = lvIds r sd p := by simp [lvIds, hx]
        rw [e1, e2, e]
theorem erase_ids (L : List Od) (k : Nat) (hk : k < L.length) (nd : (L.map Od.id).Nodup) : (L.eraseIdx k).map Od.id = (L.map Od.id).erase L[k].id := by
  induction L generalizing k with
  | nil => simp at hk
  | cons x r ih =>
    rw [List.map_cons, List.nodup_cons] at nd
    cases k with
    | zero => simp
    | succ k =>
      have hk' : k < r.length := by simpa using hk
      have hne : ¬ x.id = r[k].id := fun e => nd.1 (by rw [e]; exact List.mem_map_of_mem (List.getElem_mem _))
      simp only [List.eraseIdx_cons_succ, List.map_cons, List.getElem_cons_succ]
      rw [List.erase_cons_tail (by simpa using hne), ih k hk' nd.2]
end Go.Proofs.Ytbljokilfkodfaa
/-
  The book: remove.
-/
namespace Go.Proofs.Ytbljokilfkodfaa
open Go.RowKit

set_option maxRecDepth 100000 in
set_option maxHeartbeats 1000000 in
theorem brem_any {w : World} {pb : Nat} {g : Gh} {L : List Od} (h : BkAt w pb g L) (k : Nat) (hk : k < L.length) (hok : BkOk0 (L.eraseIdx k)) :
    Calls Try.prog 80 #[.pointer (some ⟨pb, 0, none⟩), .pointer (some ⟨g.A L[k].id, 0, none⟩)] w fun e w' => e = .returned (.tuple #[]) ∧ Behind pb g (L.eraseIdx k) w w' ∧ OdCells w' (g.A L[k].id) L[k] := by
  have H : Hid (BkAt w pb g L) := h
  have hm : L[k] ∈ L := List.getElem_mem _
  have hid : L[k].id ∈ L.map Od.id := List.mem_map_of_mem hm
  have hoo := h.ok.each _ hm
  obtain ⟨_, ⟨i1, i2⟩, ⟨s1, s2⟩, _, _⟩ := hoo
  have hsd : L[k].sd = 1 ∨ L[k].sd = 2 := by omega
  have c1 := (h.odc _ hm).c1
  have c2 := (h.odc _ hm).c2
  have p0 := h.orders
  have hlt := h.tlt pb (by rw [h.tb]; simp)
  have hla := h.tlt _ (by rw [h.odt _ hm]; simp : g.tag (g.A L[k].id) ≠ none)
  have HE := erase_ids L k hk h.ok.ids
  have HF : Hid (∀ sd p, lvIds (L.eraseIdx k) sd p = if L[k].sd = sd ∧ L[k].pr = p then (lvIds L sd p).erase L[k].id else lvIds L sd p) := fun sd p => erase_filter L k hk h.ok.ids sd p
  obtain ⟨o, ho⟩ : ∃ o, o = L[k] := ⟨_, rfl⟩
  rw [← ho] at hm hid i1 i2 s1 s2 hsd c1 c2 hla HE HF ⊢
  obtain ⟨L', hL'⟩ : ∃ L', L' = L.eraseIdx k := ⟨_, rfl⟩
  rw [← hL'] at HE HF hok ⊢
  have hsub : ∀ x ∈ L', x ∈ L := fun x hx => by rw [hL'] at hx; exact List.mem_of_mem_eraseIdx hx
  clear ho hL'
  obtain ⟨wm, hrun, hmi, om'⟩ := (h.map.keep (Only.refl (fun _ => False) w).drew1 id).del h.ok.ids (id := o.id) (by omega) (by omega) hid 0
  have om : Only (fun k => k = g.mb) w wm := (Only.refl _ w).drew1.trans om'
  have ham : g.A o.id ≠ g.mb := tag_ne (h.odt o hm) h.tm (fun e => by cases e)
  have d2 : wm.cell? ⟨g.A o.id, 2, none⟩ = some (.int .i64 o.sd) := (om.cell hla ham).trans c2
  clear om' h
  go_enter Try.func80, Try.ntmps80
  go_wp2_with fail
  go_region
  have OM : Hid (Only (fun k => k = g.mb) w wm) := om
  have HMI : Hid (MapIs wm g.mb g.A (L'.map Od.id)) := by show MapIs _ _ _ _; rw [HE]; exact hmi
  clear hrun om hmi c1 c2 p0 HE
  go_wp2_with fail
  refine (half_off pb o.sd _).mono ?_
  rintro e w2 ⟨rfl, rfl⟩
  have SM : Hid (SideAt w2 pb g o.sd L) := (H.out.side hsd).keepM OM.out H.out.tb H.out.tm H.out.odt
  have TM : Hid (∀ k, g.tag k ≠ none → k < w2.heap.size) := fun k hk => Nat.lt_of_lt_of_le (H.out.tlt k hk) OM.out.size
  have OC : Hid (OdCells w2 (g.A o.id) o) := (H.out.odc o hm).keep OM.out hla ham
  clear d2
  go_wp2_with fail
  refine (hrem_any (L' := L') SM.out hm OC.out TM.out H.out.tb H.out.odt H.out.ok.ids (fun q => ?_)).mono ?_
  · rw [HF.out]
    by_cases e : q = o.pr
    · rw [if_pos ⟨rfl, e.symm⟩, if_pos e, e]
    · rw [if_neg (fun h => e h.2.symm), if_neg e]
  rintro e w3 ⟨g', rfl, st, s'⟩
  have hoth : ∀ p, lvIds L' (otherS o.sd) p = lvIds L (otherS o.sd) p := fun p => by rw [HF.out, if_neg (fun e => (sides hsd).2 e.1.symm)]
  have hod : ∀ x ∈ L', g.tag (g.A x.id) = some (.ord x.id) ∧ OdCells w2 (g.A x.id) x := fun x hx => by
    have hx := hsub x hx
    exact ⟨H.out.odt x hx, (H.out.odc x hx).keep OM.out (H.out.tlt _ (by rw [H.out.odt x hx]; simp)) (tag_ne (H.out.odt x hx) H.out.tm (fun e => by cases e))⟩
  have R : Hid (Behind pb g L' w w3) := ⟨g', H.out.step hsd OM.out HMI.out st s' hoth hod hok, (OM.out.mono (fun k _ e => by rw [e, H.out.tm]; simp)).trans (st.only.mono (fun k _ hor => by
      rcases hor with e | e | ⟨_, e⟩ | ⟨_, e⟩
      · rw [e, H.out.tb]; simp
      · rw [e]; simp
      · rw [e]; simp
      · rw [e]; simp)), fun k hk => (st.tnew k hk).imp id (fun h => Nat.le_trans OM.out.size h), st.told, st.A⟩
  have ot := H.out.odt o hm
  have R2 : Hid (OdCells w3 (g.A o.id) o) := ⟨(st.odk _ 0 _ ot (by omega)).trans OC.out.c0, (st.odk _ 1 _ ot (by omega)).trans OC.out.c1, (st.odk _ 2 _ ot (by omega)).trans OC.out.c2, (st.odk _ 3 _ ot (by omega)).trans OC.out.c3, (st.odk _ 4 _ ot (by omega)).trans OC.out.c4, fun i => (st.odf _ i _ ot).trans (OC.out.soft i)⟩
  clear st s' hoth hod
  go_wp2
  go_end0
  exact ⟨rfl, R.out, R2.out⟩
end Go.Proofs.Ytbljokilfkodfaa
/-
  The book: New, Left.
-/
namespace Go.Proofs.Ytbljokilfkodfaa
open Go.RowKit

def gh0 (pb mb : Nat) : Gh := ⟨fun k => if k = pb then some .book else if k = mb then some .map else none, mb, fun _ => 0, fun _ _ => 0, fun _ => [], fun _ => .slice none 0 0⟩
theorem side0 {w : World} {pb mb : Nat} {sd : Int} (hlt : pb < w.heap.size) (h1 : w.cell? ⟨pb, offS sd, none⟩ = some (.int .i64 sd)) (h2 : w.cell? ⟨pb, offS sd + 1, none⟩ = some (.slice none 0 0)) (h3 : w.frozen? ⟨pb, offS sd + 1, none⟩ = false) : SideAt w pb (gh0 pb mb) sd [] :=
  ⟨⟨hlt, h1, h2, h3, World.ownsRow_nil _ _ _ _, by simp [gh0, Value.ownBlock], fun _ h => (nomatch h), by simp [gh0]⟩, fun k hk => by simp [gh0, Value.ownBlock] at hk, fun j h0 hj => by simp [gh0] at hj, List.nodup_nil, fun p => by simp [gh0, lvIds], fun _ h => (nomatch h), fun _ h => (nomatch h)⟩

set_option maxRecDepth 100000 in
set_option maxHeartbeats 1000000 in
theorem new_said : NewSaid CodeRep 8 := by
  intro w
  have hmk := fun w => run_makeMap (P := Try.prog) 77 w
  go_enter Try.func8, Try.ntmps8
  go_wp2_with fail
  go_ret
  have hp1 : w.heap.size + 1 < ((w.alloc (.map #[] 0)).alloc (.cells #[.map (some w.heap.size), .int .i64 1, .slice none 0 0, .int .i64 2, .slice none 0 0] 82)).heap.size := by simp
  have hm := (MapIs.made w (fun _ => 0)).keep (Only.of_below (S := fun _ => False) ((Below.refl _ _).alloc (Nat.le_refl _) (.cells #[.map (some w.heap.size), .int .i64 1, .slice none 0 0, .int .i64 2, .slice none 0 0] 82))) id
  refine ⟨⟨w.heap.size + 1, 0, none⟩, fun k => (gh0 (w.heap.size + 1) w.heap.size).tag k ≠ none, rfl, ⟨w.heap.size + 1, gh0 (w.heap.size + 1) w.heap.size, rfl, ⟨fun k hk => ?_, if_pos rfl, ?_, by simp [gh0], fun i => by simp, hm, side0 hp1 (by simp [offS]) (by simp [offS]) (by simp [offS]), side0 hp1 (by simp [offS]) (by simp [offS]) (by simp [offS]), fun _ h => (nomatch h), fun _ h => (nomatch h), BookOk.nil.ok0⟩, fun _ => Iff.rfl⟩, ((Below.refl _ _).alloc (Nat.le_refl _) _).alloc (by simp) _, fun k hk => ?_⟩
  · by_cases e1 : k = w.heap.size + 1
    · rw [e1]; exact hp1
    · by_cases e2 : k = w.heap.size
      · rw [e2]; simp; omega
      · exact absurd (by simp [gh0, e1, e2]) hk
  · simp [gh0]
  · by_cases e1 : k = w.heap.size + 1
    · omega
    · by_cases e2 : k = w.heap.size
      · omega
      · exact absurd (by simp [gh0, e1, e2]) hk

theorem getD_at {L : List Od} {i : Nat} (h : i < L.length) : L.getD i od0 = L[i] := by
  rw [List.getD_eq_getElem?_getD, List.getElem?_eq_getElem h]; rfl

set_option maxRecDepth 100000 in
set_option maxHeartbeats 1000000 in
theorem left_any {w : World} {pb : Nat} {g : Gh} {L : List Od} (h : BkAt w pb g L) (id : Int) (h1 : -9223372036854775808 ≤ id) (h2 : id ≤ 9223372036854775807) :
    Calls Try.prog 16 #[.pointer (some ⟨pb, 0, none⟩), .int .i64 id] w fun e w' => e = .returned (.tuple #[.int .i64 (bLeft L id).1, .int .i64 (bLeft L id).2]) ∧ w' = w := by
  have hlk := h.map.look h1 h2
  have p0 := h.orders
  unfold bLeft
  cases hf : bFind L id with
  | none =>
    have hn := bFind_none hf
    rw [if_neg hn] at hlk
    have hd : decide (id ∈ L.map Od.id) = false := decide_eq_false hn
    rw [hd] at hlk
    simp only [ptrO, Option.map_none] at hlk
    clear h hf hn hd
    go_enter Try.func16, Try.ntmps16
    go_wp2_with fail
    go_ret2
    exact ⟨rfl, rfl⟩
  | some i =>
    obtain ⟨hi, he0⟩ := bFind_some hf
    have he : L[i].id = id := by rw [← getD_at hi]; exact he0
    clear he0
    have hm : id ∈ L.map Od.id := by rw [← he]; exact List.mem_map_of_mem (List.getElem_mem _)
    rw [if_pos hm] at hlk
    have hd : decide (id ∈ L.map Od.id) = true := decide_eq_true hm
    rw [hd] at hlk
    simp only [ptrO, Option.map_some] at hlk
    have c4 := (h.odc _ (List.getElem_mem hi)).c4
    rw [he] at c4
    simp only [getD_at hi]
    obtain ⟨q, hq⟩ : ∃ q, q = L[i].q := ⟨_, rfl⟩
    rw [← hq] at c4 ⊢
    clear h hf hm hd he hq
    go_enter Try.func16, Try.ntmps16
    go_wp2_with fail
    go_ret2
    exact ⟨rfl, rfl⟩
end Go.Proofs.Ytbljokilfkodfaa
/-
  The book: what is left of an order is written; the events.
-/
namespace Go.Proofs.Ytbljokilfkodfaa
open Go.RowKit

theorem Links.keepC {w w' : World} {lb : Nat} {A : Int → Nat} {ids : List Int} {T : Nat → Nat → Prop} (h : Links w lb A ids) (c : Cells T w w') (hl : ∀ i, ¬ T lb i) (ho : ∀ id ∈ ids, ¬ T (A id) 5 ∧ ¬ T (A id) 6) : Links w' lb A ids :=
  ⟨(c.cell _ _ h.ltl (hl _)).trans h.first, (c.cell _ _ h.ltl (hl _)).trans h.last, fun id hid => (c.cell _ _ (h.lto id hid) (ho id hid).1).trans (h.prev id hid), fun id hid => (c.cell _ _ (h.lto id hid) (ho id hid).2).trans (h.next id hid), Nat.lt_of_lt_of_le h.ltl c.size, fun id hid => Nat.lt_of_lt_of_le (h.lto id hid) c.size, fun o => (c.froz _ _ h.ltl).trans (h.softl o), fun id hid o => (c.froz _ _ (h.lto id hid)).trans (h.softo id hid o), h.inj, h.ne, h.nodup⟩

def setQ (L : List Od) (k : Nat) (q : Int) : List Od := L.set k { L.getD k od0 with q := q }
theorem setQ_ids (L : List Od) (k : Nat) (hk : k < L.length) (q : Int) : (setQ L k q).map Od.id = L.map Od.id := by
  unfold setQ
  rw [List.map_set]
  show (L.map Od.id).set k (L.getD k od0).id = _
  rw [getD_at hk]
  apply List.ext_getElem?
  intro i
  rw [List.getElem?_set]
  by_cases e : k = i
  · subst e; simp [hk]
  · simp [e]
theorem setQ_lv (L : List Od) (k : Nat) (hk : k < L.length) (q sd p : Int) : lvIds (setQ L k q) sd p = lvIds L sd p := by
  induction L generalizing k with
  | nil => simp at hk
  | cons x r ih =>
    cases k with
    | zero =>
      have : atLv sd p { x with q := q } = atLv sd p x := rfl
      simp only [setQ, lvIds, List.set_cons_zero, List.getD_cons_zero, List.filter_cons, this]
      split <;> simp
    | succ k =>
      have e := ih k (by simpa using hk)
      have e2 : setQ (x :: r) (k + 1) q = x :: setQ r k q := by simp [setQ]
      rw [e2]
      unfold lvIds at e ⊢
      rw [List.filter_cons, List.filter_cons]
      split
      · rw [List.map_cons, List.map_cons, e]
      · exact e
theorem nodup_inj {l : List Int} (h : l.Nodup) {i j : Nat} {hi : i < l.length} {hj : j < l.length} (e : l[i] = l[j]) : i = j := by
  rcases Nat.lt_trichotomy i j with h1 | h1 | h1
  · exact absurd e (List.pairwise_iff_getElem.1 h i j hi hj h1)
  · exact h1
  · exact absurd e.symm (List.pairwise_iff_getElem.1 h j i hj hi h1)
theorem setQ_mem {L : List Od} {k : Nat} (hk : k < L.length) {q : Int} {x : Od} (hx : x ∈ setQ L k q) (nd : (L.map Od.id).Nodup) : (x = { L[k] with q := q }) ∨ (x ∈ L ∧ x.id ≠ L[k].id) := by
  unfold setQ at hx
  obtain ⟨i, hi, e⟩ := List.getElem_of_mem hx
  have hi' : i < L.length := by simpa using hi
  rw [List.getElem_set] at e
  split at e
  · left; rw [← e, getD_at hk]
  · rename_i hne
    right
    refine ⟨by rw [← e]; exact List.getElem_mem _, fun e' => hne ?_⟩
    rw [← e] at e'
    have h1 : (L.map Od.id)[i]'(by simpa using hi') = (L.map Od.id)[k]'(by simpa using hk) := by simpa using e'
    exact (nodup_inj nd h1).symm

theorem BkAt.setq {w : World} {pb : Nat} {g : Gh} {L : List Od} (h : BkAt w pb g L) (k : Nat) (hk : k < L.length) (q : Int) (q0 : 0 ≤ q) (q9 : q ≤ 99) : BkAt (w.setCell ⟨g.A L[k].id, 4, none⟩ (.int .i64 q)) pb g (setQ L k q) := by
  have hm : L[k] ∈ L := List.getElem_mem _
  have ht := h.odt _ hm
  have hlt := h.tlt _ (by rw [ht]; simp)
  have c := Cells.set w (g.A L[k].id) 4 (.int .i64 q)
  have noT : ∀ b t, g.tag b = some t → (∀ id, t ≠ .ord id) → ∀ i, ¬ (b = g.A L[k].id ∧ i = 4) := fun b t hb h1 i hT => by rw [hT.1, ht] at hb; injection hb with hb; exact h1 _ hb.symm
  have side : ∀ s, SideAt w pb g s L → SideAt (w.setCell ⟨g.A L[k].id, 4, none⟩ (.int .i64 q)) pb g s (setQ L k q) := fun s hs =>
    ⟨hs.half.keepC c (noT pb _ h.tb (fun _ e => by cases e)) (fun b hb => noT b _ (hs.rowt b hb) (fun _ e => by cases e)) (fun p hp => noT _ _ (hs.lvt p hp) (fun _ e => by cases e) 0), hs.rowt, hs.heap, hs.vnd, fun p => by rw [setQ_lv L k hk]; exact hs.vmem p, hs.lvt, fun p hp => by
      rw [setQ_lv L k hk]
      exact (hs.links p hp).keepC c (noT _ _ (hs.lvt p hp) (fun _ e => by cases e)) (fun id _ => ⟨fun e => by omega, fun e => by omega⟩)⟩
  have hpl := h.tlt pb (by rw [h.tb]; simp)
  refine ⟨fun b hb => Nat.lt_of_lt_of_le (h.tlt b hb) c.size, h.tb, h.tm, (c.cell _ _ hpl (noT pb _ h.tb (fun _ e => by cases e) 0)).trans h.orders, fun i => (c.froz _ _ hpl).trans (h.softp i), by rw [setQ_ids L k hk]; exact h.map.keep c.only (fun ⟨i, hi⟩ => noT _ _ h.tm (fun _ e => by cases e) i hi), side 1 h.s1, side 2 h.s2, fun x hx => ?_, fun x hx => ?_, ⟨fun x hx => ?_, by simp [setQ]; exact h.ok.len, by rw [setQ_ids L k hk]; exact h.ok.ids⟩⟩
  · rcases setQ_mem hk hx h.ok.ids with e | ⟨hx, _⟩
    · rw [e]; exact ht
    · exact h.odt x hx
  · rcases setQ_mem hk hx h.ok.ids with e | ⟨hx, hne⟩
    · rw [e]
      have hc := h.odc _ hm
      exact ⟨so hc.c0 (by omega), so hc.c1 (by omega), so hc.c2 (by omega), so hc.c3 (by omega), ss hc.c4, fun i => (c.froz _ _ hlt).trans (hc.soft i)⟩
    · have hl := h.tlt _ (by rw [h.odt x hx]; simp)
      have hb : g.A x.id ≠ g.A L[k].id := tag_ne (h.odt x hx) ht (fun e => by injection e with e; exact hne e)
      exact (h.odc x hx).keep c.only hl (fun ⟨_, e⟩ => hb e.1)
  · rcases setQ_mem hk hx h.ok.ids with e | ⟨hx, _⟩
    · rw [e]
      obtain ⟨a, b, c, d, _⟩ := h.ok.each _ hm
      exact ⟨a, b, c, d, q0, q9⟩
    · exact h.ok.each x hx

def evV (e : Ev) : Value := .agg #[.int .i64 e.k, .int .i64 e.cl, .int .i64 e.id, .int .i64 e.ot, .int .i64 e.pr, .int .i64 e.q]
end Go.Proofs.Ytbljokilfkodfaa
