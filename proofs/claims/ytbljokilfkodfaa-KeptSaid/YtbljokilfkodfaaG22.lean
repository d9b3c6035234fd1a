/-
  The levels of a side: find, best, meets.
-/
import Derived.Test.YtbljokilfkodfaaG21
import Derived.Test.YtbljokilfkodfaaG19
import Derived.Test.YtbljokilfkodfaaG17
namespace Go.Proofs.Ytbljokilfkodfaa
open Go.RowKit

set_option maxRecDepth 100000 in
set_option maxHeartbeats 1000000 in
theorem find1_any {w : World} (cb lb : Nat) (p q : Int) (h1 : w.cell? ⟨cb, 0, none⟩ = some (.int .i64 p)) (h2 : w.cell? ⟨lb, 0, none⟩ = some (.int .i64 q)) :
    Calls Try.prog 126 #[.pointer (some ⟨lb, 0, none⟩), .pointer (some ⟨cb, 0, none⟩)] w fun e w' => e = .returned (.bool (q == p)) ∧ ∃ m, w' = w.drewN m := by
  go_enter Try.func126, Try.ntmps126
  go_wp2_with fail
  go_quiet (fail)
  go_wp2
  go_ret
  exact ⟨rfl, nq, rfl⟩

set_option maxRecDepth 100000 in
set_option maxHeartbeats 1000000 in
theorem index_any {w : World} {b o c : Nat} {sd : Int} {x : Option Addr} {Bf : Int → Nat} {V : List Int} (h : HalfAt w b o sd (.slice x V.length c) Bf V) (cb : Nat) (p : Int) (h1 : w.cell? ⟨cb, 0, none⟩ = some (.int .i64 p)) :
    Calls Try.prog 125 #[.slice x V.length c, .func (.func 126) #[] #[.pointer (some ⟨cb, 0, none⟩)]] w fun e w' => (∃ i : Int, e = .returned (.int .i64 i) ∧ ((i = -1 ∧ p ∉ V) ∨ ∃ n : Nat, i = (n : Int) ∧ n < V.length ∧ V.getD n 0 = p)) ∧ ∃ m, w' = w.drewN m := by
  have H : Hid (HalfAt w b o sd (.slice x V.length c) Bf V) := h
  have few := h.few
  clear h
  go_enter Try.func125, Try.ntmps125
  go_wp2_with fail
  go_loopw [8] (fun i wr => ∃ k : Nat, k ≤ V.length ∧ i = .int .i64 (k : Int) ∧ (∀ j, j < k → V.getD j 0 ≠ p) ∧ ∃ m, wr = w.drewN m) (fun i _ => V.length - (intOf i).toNat)
  case atStart => exact ⟨0, Nat.zero_le _, rfl, fun j hj => absurd hj (by omega), 0, rfl⟩
  case round =>
    obtain ⟨k, hk, rfl, hno, m, rfl⟩ := hrel
    have HN : Hid (∀ j, j < k → V.getD j 0 ≠ p) := hno
    clear hno
    by_cases hlt : k < V.length
    · obtain ⟨g, c', hsv, hg, _, hcell, _⟩ := own_some H.out.own (by omega)
      injection hsv with hx _ hc
      subst hx
      subst hc
      have hm : V[k] ∈ V := List.getElem_mem _
      have ck : w.cell? ⟨g, k, none⟩ = some (.pointer (some ⟨Bf V[k], 0, none⟩)) := (hcell k hlt).trans (by simp [lvPtrs, hlt])
      have hp := (H.out.lv _ hm).1
      have hki : (k : Int) < (V.length : Int) := by omega
      clear hcell
      go_wp2_with fail
      refine (find1_any (w := w.drewN m) cb (Bf V[k]) p V[k] h1 hp).mono ?_
      rintro e w1 ⟨rfl, m1, rfl⟩
      have hgd : V.getD k 0 = V[k] := by rw [List.getD_eq_getElem?_getD, List.getElem?_eq_getElem hlt]; rfl
      by_cases he : V[k] = p
      · have hb : (V[k] == p) = true := by simp [he]
        rw [hb]
        have HE : Hid (V.getD k 0 = p) := by show _ = _; rw [hgd]; exact he
        clear hb he hgd ck hp
        go_wp2
        go_ret
        exact ⟨⟨_, rfl, .inr ⟨k, rfl, hlt, HE.out⟩⟩, m + m1, by simp [World.drewN]⟩
      · have hb : (V[k] == p) = false := by simp [he]
        rw [hb]
        have HE : Hid (V.getD k 0 ≠ p) := by show _ ≠ _; rw [hgd]; exact he
        clear hb he hgd ck hp
        go_wp2
        refine ⟨⟨k + 1, by omega, by go_num, fun j hj => ?_, m + m1, by simp [World.drewN]⟩, by simp [intOf]; omega⟩
        rcases (by omega : j < k ∨ j = k) with h | h
        · exact HN.out j h
        · rw [h]; exact HE.out
    · go_wp2
      go_ret
      refine ⟨⟨_, rfl, .inl ⟨rfl, fun hm => ?_⟩⟩, m, rfl⟩
      obtain ⟨j, hj, e⟩ := List.getElem_of_mem hm
      exact HN.out j (by omega) (by rw [List.getD_eq_getElem?_getD, List.getElem?_eq_getElem hj]; exact e)

set_option maxRecDepth 100000 in
set_option maxHeartbeats 1000000 in
theorem hfind_any {w : World} {b o : Nat} {sd : Int} {sv : Value} {Bf : Int → Nat} {V : List Int} (h : HalfAt w b o sd sv Bf V) (p : Int) :
    Calls Try.prog 111 #[.pointer (some ⟨b, o, none⟩), .int .i64 p] w fun e w' => (∃ i : Int, e = .returned (.int .i64 i) ∧ ((i = -1 ∧ p ∉ V) ∨ ∃ n : Nat, i = (n : Int) ∧ n < V.length ∧ V.getD n 0 = p)) ∧ Below w.heap.size w w' := by
  have H : Hid (HalfAt w b o sd sv Bf V) := h
  have hr := h.row
  have hmf2 := hmf
  obtain ⟨x, c, hsv⟩ := owned_form' h.own
  subst hsv
  have hlt := h.lt
  clear h
  go_enter Try.func111, Try.ntmps111
  go_wp2_with fail
  have B1 : Below w.heap.size w (w.alloc (.cells #[.int .i64 p] 3)) := (Below.refl _ _).alloc (Nat.le_refl _) _
  refine (index_any (H.out.keep (Only.of_below (S := fun _ => False) B1) id (fun _ _ => id) (fun _ _ => id)) w.heap.size p (by simp)).mono ?_
  rintro e w1 ⟨⟨i, rfl, hi⟩, m, rfl⟩
  go_wp2
  go_ret
  exact ⟨⟨i, rfl, hi⟩, below_drewN B1 m⟩

/-- The level that stands ahead. -/
theorem hbest_any {w : World} {b o : Nat} {sd : Int} {sv : Value} {Bf : Int → Nat} {V : List Int} (h : HalfAt w b o sd sv Bf V) (hn : 0 < V.length) :
    Calls Try.prog 90 #[.pointer (some ⟨b, o, none⟩)] w fun e w' => e = .returned (.pointer (some ⟨Bf (V.getD 0 0), 0, none⟩)) ∧ w' = w := by
  have hr := h.row
  obtain ⟨g, c, hsv, hg, _, hcell, _⟩ := own_some h.own hn
  subst hsv
  have c0 : w.cell? ⟨g, 0, none⟩ = some (.pointer (some ⟨Bf (V.getD 0 0), 0, none⟩)) := (hcell 0 hn).trans (by simp [lvPtrs, hn])
  obtain ⟨q, hq⟩ : ∃ q, q = V.getD 0 0 := ⟨_, rfl⟩
  rw [← hq] at c0 ⊢
  clear h hcell hq
  go_enter Try.func90, Try.ntmps90
  go_wp2
  go_ret
  exact ⟨rfl, rfl⟩

set_option maxRecDepth 100000 in
set_option maxHeartbeats 1000000 in
theorem hmeets_any {w : World} {b o : Nat} {sd : Int} {sv : Value} {Bf : Int → Nat} {V : List Int} (h : HalfAt w b o sd sv Bf V) (p : Int) :
    Calls Try.prog 88 #[.pointer (some ⟨b, o, none⟩), .int .i64 p] w fun e w' => e = .returned (.bool (decide (0 < V.length) && decide (keyOf' sd (V.getD 0 0) ≤ keyOf' sd p))) ∧ ∃ m, w' = w.drewN m := by
  have H : Hid (HalfAt w b o sd sv Bf V) := h
  have hr := h.row
  have hs := h.side
  have few := h.few
  obtain ⟨x, c, hsv⟩ := owned_form' h.own
  subst hsv
  by_cases hn : 0 < V.length
  · have hm : V.getD 0 0 ∈ V := by rw [List.getD_eq_getElem?_getD, List.getElem?_eq_getElem hn]; exact List.getElem_mem _
    have hp := (h.lv _ hm).1
    have hd : decide (0 < V.length) = true := decide_eq_true hn
    rw [hd]
    have hbst := hbest_any h hn
    obtain ⟨q, hq⟩ : ∃ q, q = V.getD 0 0 := ⟨_, rfl⟩
    rw [← hq] at hp hbst ⊢
    have HBst : Hid (Calls Try.prog 90 #[.pointer (some ⟨b, o, none⟩)] w fun e w' => e = .returned (.pointer (some ⟨Bf q, 0, none⟩)) ∧ w' = w) := hbst
    clear h hm hd hq hbst
    go_enter Try.func88, Try.ntmps88
    go_wp2_with fail
    refine Calls.mono HBst.out ?_
    rintro e w1 ⟨rfl, rfl⟩
    go_wp2_with fail
    refine (allows_any b o sd p q _ hs).mono ?_
    rintro e w2 ⟨rfl, rfl⟩
    go_wp2
    go_ret
    exact ⟨by simp, 0, rfl⟩
  · have hd : decide (0 < V.length) = false := decide_eq_false hn
    have hz : V.length = 0 := by omega
    rw [hd]
    rw [hz] at hr
    clear h hd
    go_enter Try.func88, Try.ntmps88
    go_wp2_with fail
    go_ret
    exact ⟨by simp, 0, rfl⟩
end Go.Proofs.Ytbljokilfkodfaa
/-
  The program's book in memory: what it is.
-/
namespace Go.Proofs.Ytbljokilfkodfaa
open Go.RowKit

def atLv (sd pr : Int) (o : Od) : Bool := decide (o.sd = sd) && decide (o.pr = pr)
/-- Who rests at a price of a side, in their turn. -/
def lvIds (L : List Od) (sd pr : Int) : List Int := (L.filter (atLv sd pr)).map Od.id

/-- What a block is for. -/
inductive Tg where
  | book : Tg
  | map : Tg
  | row : Int → Tg
  | lvl : Int → Int → Tg
  | ord : Int → Tg
structure Gh where
  tag : Nat → Option Tg
  mb : Nat
  A : Int → Nat
  B : Int → Int → Nat
  V : Int → List Int
  sv : Int → Value
def offS (sd : Int) : Nat := if sd = 1 then 1 else 3

structure SideAt (w : World) (pb : Nat) (g : Gh) (sd : Int) (L : List Od) : Prop where
  half : HalfAt w pb (offS sd) sd (g.sv sd) (g.B sd) (g.V sd)
  rowt : ∀ k, (g.sv sd).ownBlock = some k → g.tag k = some (.row sd)
  heap : HeapTo (fun j => keyOf' sd ((g.V sd).getD j 0)) (g.V sd).length
  vnd : (g.V sd).Nodup
  vmem : ∀ p, p ∈ g.V sd ↔ lvIds L sd p ≠ []
  lvt : ∀ p, p ∈ g.V sd → g.tag (g.B sd p) = some (.lvl sd p)
  links : ∀ p, p ∈ g.V sd → Links w (g.B sd p) g.A (lvIds L sd p)

structure OdCells (w : World) (b : Nat) (o : Od) : Prop where
  c0 : w.cell? ⟨b, 0, none⟩ = some (.int .i64 o.cl)
  c1 : w.cell? ⟨b, 1, none⟩ = some (.int .i64 o.id)
  c2 : w.cell? ⟨b, 2, none⟩ = some (.int .i64 o.sd)
  c3 : w.cell? ⟨b, 3, none⟩ = some (.int .i64 o.pr)
  c4 : w.cell? ⟨b, 4, none⟩ = some (.int .i64 o.q)
  soft : ∀ i, w.frozen? ⟨b, i, none⟩ = false

/-- What every book keeps, also in the midst of a trade. -/
def OdOk0 (o : Od) : Prop := (0 ≤ o.cl ∧ o.cl ≤ 3) ∧ (0 ≤ o.id ∧ o.id ≤ 99) ∧ (1 ≤ o.sd ∧ o.sd ≤ 2) ∧ (1 ≤ o.pr ∧ o.pr ≤ 99) ∧ (0 ≤ o.q ∧ o.q ≤ 99)
structure BkOk0 (L : List Od) : Prop where
  each : ∀ o, o ∈ L → OdOk0 o
  len : L.length ≤ 12
  ids : (L.map Od.id).Nodup
theorem BookOk.ok0 {L : List Od} (h : BookOk L) : BkOk0 L := ⟨fun o ho => by obtain ⟨a, b, c, d, e1, e2⟩ := h.each o ho; exact ⟨a, b, c, d, by omega, e2⟩, h.len, h.ids⟩

structure BkAt (w : World) (pb : Nat) (g : Gh) (L : List Od) : Prop where
  tlt : ∀ k, g.tag k ≠ none → k < w.heap.size
  tb : g.tag pb = some .book
  tm : g.tag g.mb = some .map
  orders : w.cell? ⟨pb, 0, none⟩ = some (.map (some g.mb))
  softp : ∀ i, w.frozen? ⟨pb, i, none⟩ = false
  map : MapIs w g.mb g.A (L.map Od.id)
  s1 : SideAt w pb g 1 L
  s2 : SideAt w pb g 2 L
  odt : ∀ o ∈ L, g.tag (g.A o.id) = some (.ord o.id)
  odc : ∀ o ∈ L, OdCells w (g.A o.id) o
  ok : BkOk0 L

theorem BkAt.side {w : World} {pb : Nat} {g : Gh} {L : List Od} (h : BkAt w pb g L) {sd : Int} (hs : sd = 1 ∨ sd = 2) : SideAt w pb g sd L := by
  rcases hs with rfl | rfl
  · exact h.s1
  · exact h.s2

theorem mem_lvIds {L : List Od} {sd p id : Int} : id ∈ lvIds L sd p ↔ ∃ o ∈ L, o.id = id ∧ o.sd = sd ∧ o.pr = p := by
  unfold lvIds atLv
  simp only [List.mem_map, List.mem_filter, Bool.and_eq_true, decide_eq_true_eq]
  constructor
  · rintro ⟨o, ⟨h1, h2, h3⟩, h4⟩; exact ⟨o, h1, h4, h2, h3⟩
  · rintro ⟨o, h1, h4, h2, h3⟩; exact ⟨o, ⟨h1, h2, h3⟩, h4⟩
theorem lvIds_nodup {L : List Od} (h : (L.map Od.id).Nodup) (sd p : Int) : (lvIds L sd p).Nodup := by
  unfold lvIds
  exact h.sublist ((List.filter_sublist).map _)

theorem Links.keep {w w' : World} {lb : Nat} {A : Int → Nat} {ids : List Int} {T : Nat → Prop} (h : Links w lb A ids) (on : Only T w w') (hl : ¬ T lb) (ho : ∀ id ∈ ids, ¬ T (A id)) : Links w' lb A ids :=
  ⟨(on.cell h.ltl hl).trans h.first, (on.cell h.ltl hl).trans h.last, fun id hid => (on.cell (h.lto id hid) (ho id hid)).trans (h.prev id hid), fun id hid => (on.cell (h.lto id hid) (ho id hid)).trans (h.next id hid), Nat.lt_of_lt_of_le h.ltl on.size, fun id hid => Nat.lt_of_lt_of_le (h.lto id hid) on.size, fun o => (on.frozen h.ltl hl).trans (h.softl o), fun id hid o => (on.frozen (h.lto id hid) (ho id hid)).trans (h.softo id hid o), h.inj, h.ne, h.nodup⟩
theorem OdCells.keep {w w' : World} {b : Nat} {o : Od} {T : Nat → Prop} (h : OdCells w b o) (on : Only T w w') (hb : b < w.heap.size) (hT : ¬ T b) : OdCells w' b o :=
  ⟨(on.cell hb hT).trans h.c0, (on.cell hb hT).trans h.c1, (on.cell hb hT).trans h.c2, (on.cell hb hT).trans h.c3, (on.cell hb hT).trans h.c4, fun i => (on.frozen hb hT).trans (h.soft i)⟩

/-- Nothing of the book has turned. -/
theorem SideAt.keep {w w' : World} {pb : Nat} {g : Gh} {sd : Int} {L : List Od} {T : Nat → Prop} (h : SideAt w pb g sd L) (on : Only T w w') (tb : g.tag pb ≠ none) (odt : ∀ o ∈ L, g.tag (g.A o.id) ≠ none) (hT : ∀ k, g.tag k ≠ none → ¬ T k) : SideAt w' pb g sd L :=
  ⟨h.half.keep on (hT pb tb) (fun k hk => hT k (by rw [h.rowt k hk]; simp)) (fun p hp => hT _ (by rw [h.lvt p hp]; simp)), h.rowt, h.heap, h.vnd, h.vmem, h.lvt, fun p hp => (h.links p hp).keep on (hT _ (by rw [h.lvt p hp]; simp)) (fun id hid => by
    obtain ⟨o, ho, rfl, _⟩ := mem_lvIds.1 hid
    exact hT _ (odt o ho))⟩
theorem BkAt.keep {w w' : World} {pb : Nat} {g : Gh} {L : List Od} {T : Nat → Prop} (h : BkAt w pb g L) (on : Only T w w') (hT : ∀ k, g.tag k ≠ none → ¬ T k) : BkAt w' pb g L := by
  have tb : g.tag pb ≠ none := by rw [h.tb]; simp
  have tm : g.tag g.mb ≠ none := by rw [h.tm]; simp
  have odt : ∀ o ∈ L, g.tag (g.A o.id) ≠ none := fun o ho => by rw [h.odt o ho]; simp
  exact ⟨fun k hk => Nat.lt_of_lt_of_le (h.tlt k hk) on.size, h.tb, h.tm, (on.cell (h.tlt pb tb) (hT pb tb)).trans h.orders, fun i => (on.frozen (h.tlt pb tb) (hT pb tb)).trans (h.softp i), h.map.keep on (hT _ tm), h.s1.keep on tb odt hT, h.s2.keep on tb odt hT, h.odt, fun o ho => (h.odc o ho).keep on (h.tlt _ (odt o ho)) (hT _ (odt o ho)), h.ok⟩

def CodeRep (w : World) (v : Value) (S : Nat → Prop) (L : List Od) : Prop := ∃ pb g, v = .pointer (some ⟨pb, 0, none⟩) ∧ BkAt w pb g L ∧ ∀ k, S k ↔ g.tag k ≠ none
end Go.Proofs.Ytbljokilfkodfaa
/-
  The program's book in memory: one step on one of its sides.
-/
namespace Go.Proofs.Ytbljokilfkodfaa
open Go.RowKit

/-- An order that comes to rest on this side: the cells of its block, its links. -/
structure NewOd (w : World) (g : Gh) (L : List Od) (o : Od) : Prop where
  cells : OdCells w (g.A o.id) o
  x5 : ∃ x, w.cell? ⟨g.A o.id, 5, none⟩ = some x
  x6 : w.cell? ⟨g.A o.id, 6, none⟩ = some (.pointer none)
  tag : g.tag (g.A o.id) = some (.ord o.id)
  fresh : o.id ∉ L.map Od.id

theorem lvIds_snoc (L : List Od) (o : Od) (sd p : Int) : lvIds (L ++ [o]) sd p = if o.sd = sd ∧ o.pr = p then lvIds L sd p ++ [o.id] else lvIds L sd p := by
  unfold lvIds
  rw [List.filter_append, List.map_append]
  by_cases h : o.sd = sd ∧ o.pr = p
  · rw [if_pos h]; simp [atLv, h.1, h.2]
  · rw [if_neg h]
    have : atLv sd p o = false := by
      unfold atLv
      by_cases h1 : o.sd = sd
      · have h2 : ¬ o.pr = p := fun e => h ⟨h1, e⟩
        simp [h2]
      · simp [h1]
    simp [this]

/-- A step on side sd: what has turned, and what has not. -/
structure Step (pb : Nat) (g g' : Gh) (sd : Int) (L : List Od) (w w' : World) : Prop where
  mb : g'.mb = g.mb
  A : g'.A = g.A
  oV : ∀ s, s ≠ sd → g'.V s = g.V s ∧ g'.sv s = g.sv s ∧ g'.B s = g.B s
  told : ∀ k t, g.tag k = some t → g'.tag k = some t
  tnew : ∀ k, g'.tag k ≠ none → g.tag k ≠ none ∨ w.heap.size ≤ k
  tlt : ∀ k, g'.tag k ≠ none → k < w'.heap.size
  only : Only (fun k => k = pb ∨ g.tag k = some (.row sd) ∨ (∃ p, g.tag k = some (.lvl sd p)) ∨ ∃ id, g.tag k = some (.ord id)) w w'
  pbk : PbKeep pb (offS sd) w w'
  odk : ∀ k i id, g.tag k = some (.ord id) → i < 5 → w'.cell? ⟨k, i, none⟩ = w.cell? ⟨k, i, none⟩
  odf : ∀ k i id, g.tag k = some (.ord id) → w'.frozen? ⟨k, i, none⟩ = w.frozen? ⟨k, i, none⟩
  far : ∀ o ∈ L, o.sd ≠ sd → w'.heap[g.A o.id]? = w.heap[g.A o.id]?

theorem Links.keepB {w w' : World} {lb : Nat} {A : Int → Nat} {ids : List Int} (h : Links w lb A ids) (hs : w.heap.size ≤ w'.heap.size) (hl : w'.heap[lb]? = w.heap[lb]?) (ho : ∀ id ∈ ids, w'.heap[A id]? = w.heap[A id]?) : Links w' lb A ids :=
  ⟨(World.cell?_of_block (w := w) hl).trans h.first, (World.cell?_of_block (w := w) hl).trans h.last, fun id hid => (World.cell?_of_block (w := w) (ho id hid)).trans (h.prev id hid), fun id hid => (World.cell?_of_block (w := w) (ho id hid)).trans (h.next id hid), Nat.lt_of_lt_of_le h.ltl hs, fun id hid => Nat.lt_of_lt_of_le (h.lto id hid) hs, fun o => (World.frozen?_of_block (w := w) hl).trans (h.softl o), fun id hid o => (World.frozen?_of_block (w := w) (ho id hid)).trans (h.softo id hid o), h.inj, h.ne, h.nodup⟩

theorem offS_ne {s sd : Int} (hs : s = 1 ∨ s = 2) (hsd : sd = 1 ∨ sd = 2) (hne : s ≠ sd) : offS s ≠ offS sd + 1 ∧ offS s + 1 ≠ offS sd + 1 := by
  rcases hs with rfl | rfl <;> rcases hsd with rfl | rfl
  · exact absurd rfl hne
  · exact ⟨by decide, by decide⟩
  · exact ⟨by decide, by decide⟩
  · exact absurd rfl hne

/-- The other side stays. -/
theorem SideAt.other {w w' : World} {pb : Nat} {g g' : Gh} {s sd : Int} {L L' : List Od} (h : SideAt w pb g s L) (st : Step pb g g' sd L w w') (hs : s = 1 ∨ s = 2) (hsd : sd = 1 ∨ sd = 2) (hne : s ≠ sd) (tb : g.tag pb = some .book) (hL : ∀ p, lvIds L' s p = lvIds L s p) : SideAt w' pb g' s L' := by
  obtain ⟨eV, esv, eB⟩ := st.oV s hne
  obtain ⟨n1, n2⟩ := offS_ne hs hsd hne
  have far : ∀ k t, g.tag k = some t → (t = .row s ∨ ∃ p, t = .lvl s p) → ¬ (k = pb ∨ g.tag k = some (.row sd) ∨ (∃ p, g.tag k = some (.lvl sd p)) ∨ ∃ id, g.tag k = some (.ord id)) := by
    intro k t hk ht hor
    rcases hor with e | e | ⟨p, e⟩ | ⟨id, e⟩
    · subst e
      rw [tb] at hk
      injection hk with hk
      rcases ht with ht | ⟨p, ht⟩ <;> rw [ht] at hk <;> cases hk
    · rw [hk] at e
      injection e with e
      rcases ht with ht | ⟨p, ht⟩ <;> rw [ht] at e
      · injection e with e; exact hne e
      · cases e
    · rw [hk] at e
      injection e with e
      rcases ht with ht | ⟨q, ht⟩ <;> rw [ht] at e
      · cases e
      · injection e with e _; exact hne e
    · rw [hk] at e
      injection e with e
      rcases ht with ht | ⟨q, ht⟩ <;> rw [ht] at e <;> cases e
  have hlv : ∀ p ∈ g.V s, ¬ _ := fun p hp => far (g.B s p) _ (h.lvt p hp) (.inr ⟨p, rfl⟩)
  refine ⟨?_, ?_, by rw [eV]; exact h.heap, by rw [eV]; exact h.vnd, fun p => by rw [eV, hL p]; exact h.vmem p, fun p hp => ?_, fun p hp => ?_⟩
  · rw [eV, esv, eB]
    refine ⟨Nat.lt_of_lt_of_le h.half.lt st.only.size, (st.pbk.1 _ n1).trans h.half.side, (st.pbk.1 _ n2).trans h.half.row, (st.pbk.2 _).trans h.half.soft, own_keep h.half.own st.only (fun k hk => far k _ (h.rowt k hk) (.inl rfl)), h.half.ne, fun p hp => ?_, h.half.few⟩
    have hl := h.half.lv p hp
    exact ⟨(st.only.cell hl.2.1 (hlv p hp)).trans hl.1, Nat.lt_of_lt_of_le hl.2.1 st.only.size, hl.2.2⟩
  · intro k hk
    rw [esv] at hk
    exact st.told _ _ (h.rowt k hk)
  · rw [eV] at hp
    rw [eB]
    exact st.told _ _ (h.lvt p hp)
  · rw [eV] at hp
    rw [eB, st.A, hL p]
    have hk := h.links p hp
    refine hk.keepB st.only.size (st.only.block _ hk.ltl (hlv p hp)) (fun id hid => ?_)
    obtain ⟨o, ho, rfl, ho2, _⟩ := mem_lvIds.1 hid
    exact st.far o ho (by rw [ho2]; exact hne)

/-- A block of one's own is taken for an order that is to come. -/
def Gh.take (g : Gh) (id : Int) (b : Nat) : Gh := { g with tag := fun k => if k = b then some (.ord id) else g.tag k, A := fun i => if i = id then b else g.A i }
theorem Links.congrA {w : World} {lb : Nat} {A A' : Int → Nat} {ids : List Int} (h : Links w lb A ids) (e : ∀ id ∈ ids, A' id = A id) : Links w lb A' ids := by
  have eo : ∀ o : Option Int, (∀ id, o = some id → id ∈ ids) → ptrO A' o = ptrO A o := fun o ho => by
    cases o with
    | none => rfl
    | some id => simp only [ptrO, Option.map_some]; rw [e id (ho id rfl)]
  refine ⟨?_, ?_, fun id hid => ?_, fun id hid => ?_, h.ltl, fun id hid => by rw [e id hid]; exact h.lto id hid, h.softl, fun id hid o => by rw [e id hid]; exact h.softo id hid o, fun i hi j hj he => h.inj i hi j hj (by rw [← e i hi, ← e j hj]; exact he), fun id hid => by rw [e id hid]; exact h.ne id hid, h.nodup⟩
  · rw [eo _ (fun id hid => List.mem_of_head? hid)]; exact h.first
  · rw [eo _ (fun id hid => List.mem_of_getLast? hid)]; exact h.last
  · rw [eo _ (fun x hx => prevOf_mem h.nodup hx), e id hid]; exact h.prev id hid
  · rw [eo _ (fun x hx => nextOf_mem hx), e id hid]; exact h.next id hid
theorem BkAt.take {w : World} {pb : Nat} {g : Gh} {L : List Od} (h : BkAt w pb g L) (id : Int) (b : Nat) (hid : id ∉ L.map Od.id) (hb : b < w.heap.size) (ht : g.tag b = none) : BkAt w pb (g.take id b) L := by
  have hne : ∀ k, g.tag k ≠ none → k ≠ b := fun k hk e => hk (by rw [e]; exact ht)
  have tg : ∀ k t, g.tag k = some t → (g.take id b).tag k = some t := fun k t hk => by
    show (if k = b then _ else _) = _
    rw [if_neg (hne k (by rw [hk]; simp))]; exact hk
  have eA : ∀ o ∈ L, (g.take id b).A o.id = g.A o.id := fun o ho => by
    show (if o.id = id then _ else _) = _
    rw [if_neg (fun e => hid (by rw [← e]; exact List.mem_map_of_mem ho))]
  have side : ∀ s, SideAt w pb g s L → SideAt w pb (g.take id b) s L := fun s hs =>
    ⟨hs.half, fun k hk => tg _ _ (hs.rowt k hk), hs.heap, hs.vnd, hs.vmem, fun p hp => tg _ _ (hs.lvt p hp), fun p hp => (hs.links p hp).congrA (fun i hi => by
      obtain ⟨o, ho, rfl, _⟩ := mem_lvIds.1 hi
      exact eA o ho)⟩
  refine ⟨fun k hk => ?_, tg _ _ h.tb, tg _ _ h.tm, h.orders, h.softp, h.map.congr (fun i hi => ?_), side 1 h.s1, side 2 h.s2, fun o ho => ?_, fun o ho => ?_, h.ok⟩
  · by_cases e : k = b
    · rw [e]; exact hb
    · exact h.tlt k (fun hn => hk (by show (if k = b then _ else _) = _; rw [if_neg e]; exact hn))
  · obtain ⟨o, ho, rfl⟩ := List.mem_map.1 hi
    exact eA o ho
  · rw [eA o ho]; exact tg _ _ (h.odt o ho)
  · rw [eA o ho]; exact h.odc o ho
end Go.Proofs.Ytbljokilfkodfaa
/-
  The levels of a side: one more order (half.add): what it comes to.
-/
namespace Go.Proofs.Ytbljokilfkodfaa
open Go.RowKit

theorem NewOd.keep {w w' : World} {g : Gh} {L : List Od} {o : Od} {T : Nat → Prop} (h : NewOd w g L o) (on : Only T w w') (hb : g.A o.id < w.heap.size) (hT : ¬ T (g.A o.id)) : NewOd w' g L o :=
  ⟨h.cells.keep on hb hT, by obtain ⟨x, hx⟩ := h.x5; exact ⟨x, (on.cell hb hT).trans hx⟩, (on.cell hb hT).trans h.x6, h.tag, h.fresh⟩
theorem HalfAt.congrB {w : World} {b o : Nat} {sd : Int} {sv : Value} {Bf Bf' : Int → Nat} {V : List Int} (h : HalfAt w b o sd sv Bf V) (e : ∀ p ∈ V, Bf' p = Bf p) : HalfAt w b o sd sv Bf' V := by
  refine ⟨h.lt, h.side, h.row, h.soft, ?_, h.ne, fun p hp => by rw [e p hp]; exact h.lv p hp, h.few⟩
  have : lvPtrs Bf' V = lvPtrs Bf V := by unfold lvPtrs; exact List.map_congr_left (fun p hp => by rw [e p hp])
  rw [this]; exact h.own
theorem HalfAt.keepC {w w' : World} {b o : Nat} {sd : Int} {sv : Value} {Bf : Int → Nat} {V : List Int} {T : Nat → Nat → Prop} (h : HalfAt w b o sd sv Bf V) (c : Cells T w w') (hb : ∀ i, ¬ T b i) (hr : ∀ k, sv.ownBlock = some k → ∀ i, ¬ T k i) (hl : ∀ p ∈ V, ¬ T (Bf p) 0) : HalfAt w' b o sd sv Bf V :=
  ⟨Nat.lt_of_lt_of_le h.lt c.size, (c.cell _ _ h.lt (hb _)).trans h.side, (c.cell _ _ h.lt (hb _)).trans h.row, (c.froz _ _ h.lt).trans h.soft, own_keep h.own c.only (fun k hk ⟨i, hi⟩ => hr k hk i hi), h.ne, fun p hp => ⟨(c.cell _ _ (h.lv p hp).2.1 (hl p hp)).trans (h.lv p hp).1, Nat.lt_of_lt_of_le (h.lv p hp).2.1 c.size, (h.lv p hp).2.2⟩, h.few⟩

theorem od_unique {L : List Od} (h : (L.map Od.id).Nodup) {x y : Od} (hx : x ∈ L) (hy : y ∈ L) (e : x.id = y.id) : x = y := by
  induction L with
  | nil => cases hx
  | cons a r ih =>
    rw [List.map_cons, List.nodup_cons] at h
    rcases List.mem_cons.1 hx with hx1 | hx1 <;> rcases List.mem_cons.1 hy with hy1 | hy1
    · rw [hx1, hy1]
    · exact absurd (by rw [← hx1, e]; exact List.mem_map_of_mem hy1) h.1
    · exact absurd (by rw [← hy1, ← e]; exact List.mem_map_of_mem hx1) h.1
    · exact ih h.2 hx1 hy1
theorem tag_ne {g : Gh} {a b : Nat} {s t : Tg} (ha : g.tag a = some s) (hb : g.tag b = some t) (h : s ≠ t) : a ≠ b := fun e => h (by rw [e] at ha; rw [ha] at hb; injection hb)

/-- To a level that is there. -/
theorem add_old {w w' : World} {pb : Nat} {g : Gh} {L : List Od} {o : Od} (h : SideAt w pb g o.sd L) (hn : NewOd w g L o) (tlt : ∀ k, g.tag k ≠ none → k < w.heap.size) (tb : g.tag pb = some .book) (odt : ∀ o ∈ L, g.tag (g.A o.id) = some (.ord o.id))
    (nd : (L.map Od.id).Nodup) (hp : o.pr ∈ g.V o.sd) (hl : Links w' (g.B o.sd o.pr) g.A (lvIds L o.sd o.pr ++ [o.id])) (c : Cells (addT (g.B o.sd o.pr) g.A (lvIds L o.sd o.pr) o.id) w w') :
    Step pb g g o.sd L w w' ∧ SideAt w' pb g o.sd (L ++ [o]) := by
  have ltag := h.lvt _ hp
  have idt : ∀ id ∈ lvIds L o.sd o.pr, g.tag (g.A id) = some (.ord id) := fun id hid => by
    obtain ⟨x, hx, rfl, _⟩ := mem_lvIds.1 hid; exact odt x hx
  -- what T may touch
  have tT : ∀ k i, addT (g.B o.sd o.pr) g.A (lvIds L o.sd o.pr) o.id k i → (k = g.B o.sd o.pr ∧ (i = 1 ∨ i = 2)) ∨ ((∃ id, g.tag k = some (.ord id) ∧ (id = o.id ∨ id ∈ lvIds L o.sd o.pr)) ∧ (i = 5 ∨ i = 6)) := fun k i hT => by
    rcases hT with hT | ⟨rfl, rfl⟩ | ⟨id, hid, rfl, rfl⟩
    · exact .inl hT
    · exact .inr ⟨⟨o.id, hn.tag, .inl rfl⟩, .inl rfl⟩
    · exact .inr ⟨⟨id, idt id hid, .inr hid⟩, .inr rfl⟩
  have noT : ∀ k t, g.tag k = some t → (∀ id, t ≠ .ord id) → t ≠ .lvl o.sd o.pr → ∀ i, ¬ addT (g.B o.sd o.pr) g.A (lvIds L o.sd o.pr) o.id k i := fun k t hk h1 h2 i hT => by
    rcases tT k i hT with ⟨e, _⟩ | ⟨⟨id, e, _⟩, _⟩
    · rw [e, ltag] at hk; injection hk with hk; exact h2 hk.symm
    · rw [e] at hk; injection hk with hk; exact h1 id hk.symm
  have farO : ∀ id, g.tag (g.A id) = some (.ord id) → id ≠ o.id → id ∉ lvIds L o.sd o.pr → ∀ i, ¬ addT (g.B o.sd o.pr) g.A (lvIds L o.sd o.pr) o.id (g.A id) i := fun id ht h1 h2 i hT => by
    rcases tT _ i hT with ⟨e, _⟩ | ⟨⟨id', e, he⟩, _⟩
    · rw [e, ltag] at ht; cases ht
    · rw [ht] at e; injection e with e; injection e with e; subst e
      rcases he with he | he
      · exact h1 he
      · exact h2 he
  constructor
  · refine ⟨rfl, rfl, fun _ _ => ⟨rfl, rfl, rfl⟩, fun _ _ h => h, fun _ h => .inl h, fun k hk => Nat.lt_of_lt_of_le (tlt k hk) c.size, c.only.mono (fun k _ ⟨i, hT⟩ => ?_), ⟨fun i _ => c.cell _ _ h.half.lt (noT pb _ tb (fun _ e => by cases e) (fun e => by cases e) i), fun i => c.froz _ _ h.half.lt⟩, fun k i id hk hi => c.cell _ _ (tlt k (by rw [hk]; simp)) (fun hT => ?_), fun k i id hk => c.froz _ _ (tlt k (by rw [hk]; simp)), fun x hx hne => c.block _ (tlt _ (by rw [odt x hx]; simp)) (farO x.id (odt x hx) (fun e => hn.fresh (by rw [← e]; exact List.mem_map_of_mem hx)) (fun hm => ?_))⟩
    · rcases tT k i hT with ⟨e, _⟩ | ⟨⟨id, e, _⟩, _⟩
      · exact .inr (.inr (.inl ⟨o.pr, by rw [e]; exact ltag⟩))
      · exact .inr (.inr (.inr ⟨id, e⟩))
    · rcases tT k i hT with ⟨e, _⟩ | ⟨_, e⟩
      · rw [e, ltag] at hk; cases hk
      · omega
    · obtain ⟨y, hy, e1, e2, _⟩ := mem_lvIds.1 hm
      exact hne (by rw [← od_unique nd hy hx e1]; exact e2)
  · have hsame : ∀ q, q ≠ o.pr → lvIds (L ++ [o]) o.sd q = lvIds L o.sd q := fun q hq => by rw [lvIds_snoc, if_neg (fun e => hq e.2.symm)]
    have hhere : lvIds (L ++ [o]) o.sd o.pr = lvIds L o.sd o.pr ++ [o.id] := by rw [lvIds_snoc, if_pos ⟨rfl, rfl⟩]
    refine ⟨h.half.keepC c (noT pb _ tb (fun _ e => by cases e) (fun e => by cases e)) (fun k hk => noT k _ (h.rowt k hk) (fun _ e => by cases e) (fun e => by cases e)) (fun q hq hT => ?_), h.rowt, h.heap, h.vnd, fun q => ?_, h.lvt, fun q hq => ?_⟩
    · rcases tT _ 0 hT with ⟨_, e⟩ | ⟨_, e⟩ <;> omega
    · by_cases e : q = o.pr
      · subst e; rw [hhere]; simp [hp]
      · rw [hsame q e]; exact h.vmem q
    · by_cases e : q = o.pr
      · subst e; rw [hhere]; exact hl
      · rw [hsame q e]
        have hk := h.links q hq
        refine hk.keepB c.size (c.block _ hk.ltl (noT _ _ (h.lvt q hq) (fun _ e => by cases e) (fun e' => by injection e' with _ e'; exact e e'))) (fun id hid => ?_)
        obtain ⟨x, hx, rfl, _, hxp⟩ := mem_lvIds.1 hid
        refine c.block _ (hk.lto _ hid) (farO x.id (odt x hx) (fun e' => hn.fresh (by rw [← e']; exact List.mem_map_of_mem hx)) (fun hm => ?_))
        obtain ⟨y, hy, e1, _, e2⟩ := mem_lvIds.1 hm
        exact e (by rw [← hxp, ← od_unique nd hy hx e1]; exact e2)

/-- The ghost behind a new level. -/
def Gh.up (g : Gh) (sd p : Int) (lb : Nat) (V' : List Int) (sv' : Value) : Gh :=
  { g with tag := fun k => if k = lb then some (.lvl sd p) else match g.tag k with | some t => some t | none => if sv'.ownBlock = some k then some (.row sd) else none, B := fun s q => if s = sd ∧ q = p then lb else g.B s q, V := fun s => if s = sd then V' else g.V s, sv := fun s => if s = sd then sv' else g.sv s }

/-- To a new level. -/
theorem add_new {w w2 w3 w' : World} {pb : Nat} {g : Gh} {L : List Od} {o : Od} {V' : List Int} {sv' : Value} (h : SideAt w pb g o.sd L) (hn : NewOd w g L o) (tlt : ∀ k, g.tag k ≠ none → k < w.heap.size) (tb : g.tag pb = some .book) (odt : ∀ o ∈ L, g.tag (g.A o.id) = some (.ord o.id))
    (_nd : (L.map Od.id).Nodup) (hp : o.pr ∉ g.V o.sd) (lb : Nat) (hlb : w.heap.size ≤ lb) (hlt : lb < w2.heap.size) (b2 : Below w.heap.size w w2) (hl : Links w3 lb g.A [o.id]) (c : Cells (addT lb g.A [] o.id) w2 w3)
    (hh : HalfAt w' pb (offS o.sd) o.sd sv' (fun q => if q = o.pr then lb else g.B o.sd q) V') (hpm : V'.Perm (g.V o.sd ++ [o.pr])) (hhp : HeapTo (fun j => keyOf' o.sd (V'.getD j 0)) V'.length) (hsv : sv'.ownBlock = (g.sv o.sd).ownBlock ∨ ∃ k, sv'.ownBlock = some k ∧ w3.heap.size ≤ k)
    (on : Only (fun k => k = pb ∨ (g.sv o.sd).ownBlock = some k) w3 w') (pk : PbKeep pb (offS o.sd) w3 w') :
    Step pb g (g.up o.sd o.pr lb V' sv') o.sd L w w' ∧ SideAt w' pb (g.up o.sd o.pr lb V' sv') o.sd (L ++ [o]) := by
  have s23 : w2.heap.size ≤ w3.heap.size := c.size
  have s02 : w.heap.size ≤ w2.heap.size := b2.size
  have lne : ∀ k, g.tag k ≠ none → k ≠ lb := fun k hk e => by have := tlt k hk; omega
  have tg : ∀ k t, g.tag k = some t → (g.up o.sd o.pr lb V' sv').tag k = some t := fun k t hk => by
    show (if k = lb then _ else _) = _
    rw [if_neg (lne k (by rw [hk]; simp)), hk]
  have noT : ∀ k, k < w.heap.size → k ≠ g.A o.id → ∀ i, ¬ addT lb g.A [] o.id k i := fun k hk hne i hT => by
    rcases hT with ⟨e, _⟩ | ⟨e, _⟩ | ⟨_, hx, _⟩
    · omega
    · exact hne e
    · cases hx
  have onT : ∀ k t, g.tag k = some t → t ≠ .book → (∀ s, t ≠ .row s) → ¬ (k = pb ∨ (g.sv o.sd).ownBlock = some k) := fun k t hk h1 h2 hor => by
    rcases hor with e | e
    · rw [e, tb] at hk; injection hk with hk; exact h1 hk.symm
    · rw [h.rowt k e] at hk; injection hk with hk; exact h2 _ hk.symm
  have blk : ∀ k, k < w.heap.size → k ≠ g.A o.id → ¬ (k = pb ∨ (g.sv o.sd).ownBlock = some k) → w'.heap[k]? = w.heap[k]? := fun k hk h1 h2 =>
    (on.block k (by omega) h2).trans ((c.block k (by omega) (noT k hk h1)).trans (b2.block k hk))
  have odl : ∀ x ∈ L, x.id ≠ o.id := fun x hx e => hn.fresh (by rw [← e]; exact List.mem_map_of_mem hx)
  have oda : ∀ x ∈ L, g.A x.id ≠ g.A o.id := fun x hx e => by
    have h1 := odt x hx
    rw [e, hn.tag] at h1
    injection h1 with h1
    injection h1 with h1
    exact odl x hx h1.symm
  have odb : ∀ x ∈ L, w'.heap[g.A x.id]? = w.heap[g.A x.id]? := fun x hx => blk _ (tlt _ (by rw [odt x hx]; simp)) (oda x hx) (onT _ _ (odt x hx) (fun e => by cases e) (fun _ e => by cases e))
  constructor
  · refine ⟨rfl, rfl, fun s hs => ⟨if_neg hs, if_neg hs, ?_⟩, tg, fun k hk => ?_, fun k hk => ?_, ?_, ?_, fun k i id hk hi => ?_, fun k i id hk => ?_, fun x hx _ => odb x hx⟩
    · funext q
      show (if s = o.sd ∧ q = o.pr then _ else _) = _
      rw [if_neg (fun e => hs e.1)]
    · by_cases e : k = lb
      · exact .inr (by omega)
      · cases ht : g.tag k with
        | some t => exact .inl (by simp)
        | none =>
          right
          rcases hsv with hsv | ⟨k', hk', hl'⟩
          · exfalso
            apply hk
            show (if k = lb then _ else _) = _
            rw [if_neg e, ht]
            show (if sv'.ownBlock = some k then _ else _) = _
            rw [if_neg (fun e' => by rw [hsv] at e'; rw [h.rowt k e'] at ht; cases ht)]
          · by_cases e' : k = k'
            · omega
            · exfalso
              apply hk
              show (if k = lb then _ else _) = _
              rw [if_neg e, ht]
              show (if sv'.ownBlock = some k then _ else _) = _
              rw [if_neg (fun e'' => by rw [hk'] at e''; injection e'' with e''; exact e' e''.symm)]
    · have sz := on.size
      by_cases e : k = lb
      · omega
      · cases ht : g.tag k with
        | some t => have := tlt k (by rw [ht]; simp); omega
        | none =>
          by_cases e' : sv'.ownBlock = some k
          · exact (hh.own.lt k e').2
          · exfalso
            apply hk
            show (if k = lb then _ else _) = _
            rw [if_neg e, ht]
            show (if sv'.ownBlock = some k then _ else _) = _
            rw [if_neg e']
    · refine ⟨(on.os.trans c.os).trans b2.os, (on.tape.trans c.tape).trans b2.tape, (on.output.trans c.output).trans b2.output, by have := on.size; omega, fun k hk hS => blk k hk (fun e => hS (.inr (.inr (.inr ⟨o.id, by rw [e]; exact hn.tag⟩)))) (fun hor => hS ?_)⟩
      rcases hor with e | e
      · exact .inl e
      · exact .inr (.inl (h.rowt k e))
    · have hpb := h.half.lt
      have hne : pb ≠ g.A o.id := tag_ne tb hn.tag (fun e => by cases e)
      exact ((PbKeep.of_only (Only.of_below (S := fun _ => False) b2) hpb id).trans ⟨fun i _ => c.cell _ _ (by omega) (noT pb hpb hne i), fun i => c.froz _ _ (by omega)⟩).trans pk
    · have hkl := tlt k (by rw [hk]; simp)
      have no := onT k _ hk (fun e => by cases e) (fun _ e => by cases e)
      refine (on.cell (by omega) no).trans ((c.cell _ _ (by omega) (fun hT => ?_)).trans (b2.cell (p := ⟨k, i, none⟩) hkl))
      rcases hT with ⟨e, _⟩ | ⟨_, e⟩ | ⟨_, hx, _⟩
      · omega
      · omega
      · cases hx
    · have hkl := tlt k (by rw [hk]; simp)
      have no := onT k _ hk (fun e => by cases e) (fun _ e => by cases e)
      exact (on.frozen (by omega) no).trans ((c.froz _ _ (by omega)).trans (b2.frozen (p := ⟨k, i, none⟩) hkl))
  · have hnil : lvIds L o.sd o.pr = [] := Classical.byContradiction fun hne => hp ((h.vmem o.pr).2 hne)
    have hsame : ∀ q, q ≠ o.pr → lvIds (L ++ [o]) o.sd q = lvIds L o.sd q := fun q hq => by rw [lvIds_snoc, if_neg (fun e => hq e.2.symm)]
    have hhere : lvIds (L ++ [o]) o.sd o.pr = [o.id] := by rw [lvIds_snoc, if_pos ⟨rfl, rfl⟩, hnil]; rfl
    have eV : (g.up o.sd o.pr lb V' sv').V o.sd = V' := if_pos rfl
    have esv : (g.up o.sd o.pr lb V' sv').sv o.sd = sv' := if_pos rfl
    have eB : (g.up o.sd o.pr lb V' sv').B o.sd = fun q => if q = o.pr then lb else g.B o.sd q := by
      funext q
      show (if o.sd = o.sd ∧ q = o.pr then _ else _) = _
      simp
    have memV : ∀ q, q ∈ V' ↔ q ∈ g.V o.sd ∨ q = o.pr := fun q => by rw [hpm.mem_iff]; simp
    refine ⟨by rw [eV, esv, eB]; exact hh, fun k hk => ?_, by rw [eV]; exact hhp, ?_, fun q => ?_, fun q hq => ?_, fun q hq => ?_⟩
    · rw [esv] at hk
      rcases hsv with hsv | ⟨k', hk', hl'⟩
      · rw [hsv] at hk; exact tg _ _ (h.rowt k hk)
      · rw [hk'] at hk
        injection hk with hk
        subst hk
        show (if k' = lb then _ else _) = _
        have hno : g.tag k' = none := Classical.byContradiction fun hne => by have := tlt k' hne; omega
        rw [if_neg (by omega), hno]
        show (if sv'.ownBlock = some k' then _ else _) = _
        rw [if_pos hk']
    · rw [eV]
      refine hpm.nodup_iff.2 ?_
      rw [List.nodup_append]
      exact ⟨h.vnd, by simp, fun x hx y hy e => hp (by simp at hy; rw [← hy, ← e]; exact hx)⟩
    · rw [eV, memV]
      by_cases e : q = o.pr
      · subst e; rw [hhere]; simp
      · rw [hsame q e]; simp only [e, or_false]; exact h.vmem q
    · rw [eV, memV] at hq
      rw [eB]
      show (g.up o.sd o.pr lb V' sv').tag (if q = o.pr then lb else g.B o.sd q) = _
      by_cases e : q = o.pr
      · rw [if_pos e, e]
        show (if lb = lb then _ else _) = _
        rw [if_pos rfl]
      · rw [if_neg e]
        exact tg _ _ (h.lvt q (by simpa [e] using hq))
    · rw [eV, memV] at hq
      rw [eB]
      show Links w' (if q = o.pr then lb else g.B o.sd q) g.A _
      by_cases e : q = o.pr
      · rw [if_pos e, e, hhere]
        refine hl.keep on (fun hor => ?_) (fun id hid => ?_)
        · rcases hor with e' | e'
          · have := h.half.lt; omega
          · have := (h.half.own.lt lb e').2; omega
        · simp at hid
          subst hid
          exact onT _ _ hn.tag (fun e => by cases e) (fun _ e => by cases e)
      · rw [if_neg e, hsame q e]
        have hqV : q ∈ g.V o.sd := by simpa [e] using hq
        have hk := h.links q hqV
        refine hk.keepB (by have := on.size; omega) (blk _ hk.ltl (tag_ne (h.lvt q hqV) hn.tag (fun e => by cases e)) (onT _ _ (h.lvt q hqV) (fun e => by cases e) (fun _ e => by cases e))) (fun id hid => ?_)
        obtain ⟨x, hx, rfl, _⟩ := mem_lvIds.1 hid
        exact odb x hx
end Go.Proofs.Ytbljokilfkodfaa
/-
  The levels of a side: half.add.
-/
namespace Go.Proofs.Ytbljokilfkodfaa
open Go.RowKit

theorem Step.before {w w1 w' : World} {pb : Nat} {g g' : Gh} {sd : Int} {L : List Od} (st : Step pb g g' sd L w1 w') (b : Below w.heap.size w w1) (tlt : ∀ k, g.tag k ≠ none → k < w.heap.size) (tb : g.tag pb ≠ none) (odt : ∀ o ∈ L, g.tag (g.A o.id) ≠ none) : Step pb g g' sd L w w' :=
  ⟨st.mb, st.A, st.oV, st.told, fun k hk => (st.tnew k hk).imp id (fun h => Nat.le_trans b.size h), st.tlt, (Only.of_below b).trans st.only, (PbKeep.of_only (Only.of_below (S := fun _ => False) b) (tlt pb tb) id).trans st.pbk, fun k i id hk hi => (st.odk k i id hk hi).trans (b.cell (p := ⟨k, i, none⟩) (tlt k (by rw [hk]; simp))), fun k i id hk => (st.odf k i id hk).trans (b.frozen (p := ⟨k, i, none⟩) (tlt k (by rw [hk]; simp))), fun o ho hne => (st.far o ho hne).trans (b.block _ (tlt _ (odt o ho)))⟩

theorem links_new (w : World) (p : Int) (A : Int → Nat) : Links (w.alloc (.cells #[.int .i64 p, .pointer none, .pointer none] 139)) w.heap.size A [] :=
  ⟨by simp [ptrO], by simp [ptrO], fun _ h => (nomatch h), fun _ h => (nomatch h), by simp, fun _ h => (nomatch h), fun o => by simp, fun _ h => (nomatch h), fun _ h => (nomatch h), fun _ h => (nomatch h), List.nodup_nil⟩

set_option maxRecDepth 100000 in
set_option maxHeartbeats 1000000 in
theorem hadd_any {w : World} {pb : Nat} {g : Gh} {L : List Od} {o : Od} (h : SideAt w pb g o.sd L) (hn : NewOd w g L o) (tlt : ∀ k, g.tag k ≠ none → k < w.heap.size) (tb : g.tag pb = some .book) (odt : ∀ o ∈ L, g.tag (g.A o.id) = some (.ord o.id)) (nd : (L.map Od.id).Nodup) (hf : (g.V o.sd).length < 13) :
    Calls Try.prog 92 #[.pointer (some ⟨pb, offS o.sd, none⟩), .pointer (some ⟨g.A o.id, 0, none⟩)] w fun e w' => ∃ g', e = .returned (.tuple #[]) ∧ Step pb g g' o.sd L w w' ∧ SideAt w' pb g' o.sd (L ++ [o]) := by
  have H : Hid (SideAt w pb g o.sd L) := h
  have HN : Hid (NewOd w g L o) := hn
  have c3 := hn.cells.c3
  have hlt := h.half.lt
  have hla := tlt _ (by rw [hn.tag]; simp : g.tag (g.A o.id) ≠ none)
  have TL : Hid (∀ k, g.tag k ≠ none → k < w.heap.size) := tlt
  have OD : Hid (∀ o ∈ L, g.tag (g.A o.id) = some (.ord o.id)) := odt
  have TB : Hid (g.tag pb = some .book) := tb
  have hfnd := hfind_any h.half o.pr
  clear h hn tlt odt tb
  go_enter Try.func92, Try.ntmps92
  go_wp2_with fail
  refine hfnd.mono ?_
  rintro e w1 ⟨⟨i, rfl, hi⟩, b1⟩
  clear hfnd
  have d3 : w1.cell? ⟨g.A o.id, 3, none⟩ = some (.int .i64 o.pr) := (b1.cell (p := ⟨_, _, none⟩) hla).trans c3
  have on1 : Only (fun _ => False) w w1 := Only.of_below b1
  have tl1 : Hid (∀ k, g.tag k ≠ none → k < w1.heap.size) := fun k hk => Nat.lt_of_lt_of_le (TL.out k hk) b1.size
  have H1 : Hid (SideAt w1 pb g o.sd L) := H.out.keep on1 (by rw [TB.out]; simp) (fun x hx => by rw [OD.out x hx]; simp) (fun _ _ => id)
  have N1 : Hid (NewOd w1 g L o) := HN.out.keep on1 hla id
  have hpr := H1.out.half.row
  have s01 : w.heap.size ≤ w1.heap.size := b1.size
  have B1 : Hid (Below w.heap.size w w1) := b1
  clear c3 b1 on1
  rcases hi with ⟨rfl, hno⟩ | ⟨n, rfl, hn1, hn2⟩
  · have b2 : Below w1.heap.size w1 (w1.alloc (.cells #[.int .i64 o.pr, .pointer none, .pointer none] 139)) := (Below.refl _ _).alloc (Nat.le_refl _) _
    have N2 : Hid (NewOd (w1.alloc (.cells #[.int .i64 o.pr, .pointer none, .pointer none] 139)) g L o) := N1.out.keep (Only.of_below (S := fun _ => False) b2) (by omega) id
    have B2 : Hid (Below w1.heap.size w1 (w1.alloc (.cells #[.int .i64 o.pr, .pointer none, .pointer none] 139))) := b2
    clear b2
    go_wp2_with fail
    obtain ⟨x5, hx5⟩ := N2.out.x5
    refine (ladd_any (a := o.id) (links_new w1 o.pr g.A) (by simp) (by simp; omega) N2.out.cells.soft (by omega) (fun _ h => by cases h) x5 hx5 N2.out.x6).mono ?_
    rintro e w3 ⟨rfl, l3, c3'⟩
    have L3 : Hid (Links w3 w1.heap.size g.A [o.id]) := l3
    have C3 : Hid (Cells (addT w1.heap.size g.A [] o.id) (w1.alloc (.cells #[.int .i64 o.pr, .pointer none, .pointer none] 139)) w3) := c3'
    have lp : w3.cell? ⟨w1.heap.size, 0, none⟩ = some (.int .i64 o.pr) := (c3'.cell _ _ (by simp) (fun hT => by
      rcases hT with ⟨_, e⟩ | ⟨e, _⟩ | ⟨_, hx, _⟩
      · omega
      · omega
      · cases hx)).trans (by simp)
    have s3 : w1.heap.size < w3.heap.size := by have := c3'.size; simp at this; omega
    have HH3 : Hid (HalfAt w3 pb (offS o.sd) o.sd (g.sv o.sd) (fun q => if q = o.pr then w1.heap.size else g.B o.sd q) (g.V o.sd)) := by
      have hA : HalfAt (w1.alloc (.cells #[.int .i64 o.pr, .pointer none, .pointer none] 139)) pb (offS o.sd) o.sd (g.sv o.sd) (g.B o.sd) (g.V o.sd) := H1.out.half.keep (Only.of_below (S := fun _ => False) B2.out) id (fun _ _ => id) (fun _ _ => id)
      have no : ∀ k t, g.tag k = some t → (∀ id, t ≠ .ord id) → ∀ i, ¬ addT w1.heap.size g.A [] o.id k i := fun k t hk ht i hT => by
        have hkl := tl1.out k (by rw [hk]; simp)
        rcases hT with ⟨e, _⟩ | ⟨e, _⟩ | ⟨_, hx, _⟩
        · omega
        · rw [e, N1.out.tag] at hk; injection hk with hk; exact ht _ hk.symm
        · cases hx
      have hB := hA.keepC C3.out (no pb _ TB.out (fun _ e => by cases e)) (fun k hk => no k _ (H1.out.rowt k hk) (fun _ e => by cases e)) (fun q hq => no _ _ (H1.out.lvt q hq) (fun _ e => by cases e) 0)
      exact hB.congrB (fun q hq => if_neg (fun e => hno (by rw [← e]; exact hq)))
    have hrow : (g.sv o.sd).ownBlock ≠ some w1.heap.size := fun e => by have := (H1.out.half.own.lt _ e).2; omega
    clear l3 c3' hx5
    go_wp2_with fail
    have hpush := heapPush_any HH3.out H1.out.heap o.pr hf ⟨by simp only [if_true]; exact lp, by simp only [if_true]; exact s3, by simp only [if_true]; exact hrow, by simp only [if_true]; omega⟩
    simp only [if_true] at hpush
    refine hpush.mono ?_
    rintro e w4 ⟨sv', V', rfl, hh, hpm, hhp, hsv, on, pk⟩
    clear hpush
    obtain ⟨st, sd'⟩ := add_new H1.out N1.out tl1.out TB.out OD.out nd hno w1.heap.size (Nat.le_refl _) (by simp) B2.out L3.out C3.out hh hpm hhp hsv on pk
    have R : Hid (Step pb g (g.up o.sd o.pr w1.heap.size V' sv') o.sd L w w4 ∧ SideAt w4 pb (g.up o.sd o.pr w1.heap.size V' sv') o.sd (L ++ [o])) := ⟨st.before B1.out TL.out (by rw [TB.out]; simp) (fun x hx => by rw [OD.out x hx]; simp), sd'⟩
    clear st sd' hh hpm hhp hsv on pk
    go_wp2
    first | go_end0 | (simp only [Exit.inBlock, Exit.then]; refine bodyPost_ret (results_none rfl _ _ _) rfl ?_) | refine bodyPost_ret (results_none rfl _ _ _) rfl ?_
    exact ⟨_, rfl, R.out⟩
  · have hni : decide ((n : Int) < 0) = false := decide_eq_false (by omega)
    obtain ⟨gr, c, hsv, hg, _, hcell, _⟩ := own_some H1.out.half.own (by omega)
    rw [hsv] at hpr
    have hgd : (g.V o.sd)[n] = o.pr := by rw [← hn2, List.getD_eq_getElem?_getD, List.getElem?_eq_getElem hn1]; rfl
    have cn : w1.cell? ⟨gr, n, none⟩ = some (.pointer (some ⟨g.B o.sd o.pr, 0, none⟩)) := (hcell n hn1).trans (by simp [lvPtrs, hn1, hgd])
    have hni2 : (n : Int) < ((g.V o.sd).length : Int) := by omega
    have few := H1.out.half.few
    have hpV : o.pr ∈ g.V o.sd := by rw [← hgd]; exact List.getElem_mem _
    clear hcell hgd
    go_wp2_with fail
    obtain ⟨x5, hx5⟩ := N1.out.x5
    have hl := H1.out.links _ hpV
    have hni3 : ∀ id ∈ lvIds L o.sd o.pr, g.A id ≠ g.A o.id := fun id hid e => by
      obtain ⟨y, hy, rfl, _⟩ := mem_lvIds.1 hid
      have h1 := OD.out y hy
      rw [e, N1.out.tag] at h1
      injection h1 with h1
      injection h1 with h1
      exact N1.out.fresh (by rw [h1]; exact List.mem_map_of_mem hy)
    refine (ladd_any (a := o.id) hl (fun hm => N1.out.fresh (by obtain ⟨y, hy, e, _⟩ := mem_lvIds.1 hm; rw [← e]; exact List.mem_map_of_mem hy)) (by omega) N1.out.cells.soft (tag_ne N1.out.tag (H1.out.lvt _ hpV) (fun e => by cases e)) hni3 x5 hx5 N1.out.x6).mono ?_
    rintro e w3 ⟨rfl, l3, c3'⟩
    obtain ⟨st, sd'⟩ := add_old H1.out N1.out tl1.out TB.out OD.out nd hpV l3 c3'
    have R : Hid (Step pb g g o.sd L w w3 ∧ SideAt w3 pb g o.sd (L ++ [o])) := ⟨st.before B1.out TL.out (by rw [TB.out]; simp) (fun x hx => by rw [OD.out x hx]; simp), sd'⟩
    clear st sd' l3 c3' hl hx5
    go_wp2
    first | go_end0 | (simp only [Exit.inBlock, Exit.then]; refine bodyPost_ret (results_none rfl _ _ _) rfl ?_) | refine bodyPost_ret (results_none rfl _ _ _) rfl ?_
    exact ⟨_, rfl, R.out⟩
end Go.Proofs.Ytbljokilfkodfaa
