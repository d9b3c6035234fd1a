/-
  Kept: sums over events, trades, sides.
-/
import Derived.Test.YtbljokilfkodfaaK1
import Derived.Test.YtbljokilfkodfaaG18
import Derived.Deep.AppendLies
namespace Go.Proofs.Ytbljokilfkodfaa
open Go.RowKit

def EvOk (e : Ev) : Prop := 0 ≤ e.q ∧ e.q ≤ 99
theorem match_evs : ∀ (n : Nat) {L : List Od} (o : Od) (pr : Int), BookOk L → 0 ≤ o.q → ∀ e ∈ (bMatch n L o pr).1, EvOk e
  | 0, L, o, pr, h, hq, e, he => by simp [bMatch] at he
  | n + 1, L, o, pr, h, hq, e, he => by
    unfold bMatch at he
    by_cases h0 : o.q ≤ 0
    · rw [if_pos h0] at he
      simp only [List.mem_singleton] at he
      subst he
      exact ⟨Int.le_refl _, by show (0 : Int) ≤ 99; decide⟩
    · rw [if_neg h0] at he
      cases hb : bBest L o.sd pr with
      | none => rw [hb] at he; simp at he
      | some k =>
        rw [hb] at he
        have hk := bBest_some hb
        have tp := bTake_pos h hk (o := o) (by omega)
        have he' : e ∈ bTradeEv L k o (bTake o (L.getD k od0)) ++ (bMatch n (bTraded L k (bTake o (L.getD k od0))) { o with q := o.q - bTake o (L.getD k od0) } pr).1 := he
        rcases List.mem_append.1 he' with he | he
        · unfold bTradeEv at he
          have z : EvOk (evFilled (L.getD k od0)) := ⟨Int.le_refl _, by show (0 : Int) ≤ 99; decide⟩
          split at he
          · simp only [List.mem_append, List.mem_cons, List.not_mem_nil, or_false] at he
            rcases he with (rfl | rfl) | rfl
            · exact ⟨by show 0 ≤ bTake o _; omega, tp.2.2⟩
            · exact ⟨by show 0 ≤ bTake o _; omega, tp.2.2⟩
            · exact z
          · simp only [List.append_nil, List.mem_cons, List.not_mem_nil, or_false] at he
            rcases he with rfl | rfl
            · exact ⟨by show 0 ≤ bTake o _; omega, tp.2.2⟩
            · exact ⟨by show 0 ≤ bTake o _; omega, tp.2.2⟩
        · exact match_evs n _ pr (bTraded_ok h hk o (by omega)) (by show 0 ≤ o.q - bTake o _; omega) e he
theorem enter_evs {L : List Od} (h : BookOk L) (k : Int) (o : Od) (hq : 1 ≤ o.q ∧ o.q ≤ 99) : ∀ e ∈ (bEnter L k o).1, EvOk e := by
  intro e he
  unfold bEnter at he
  obtain ⟨_, _, _, j4, j5, _⟩ := bMatch_ok (L.length + 2) o o.pr h (by omega)
  have hm := match_evs (L.length + 2) o o.pr h (by omega)
  split at he
  · simp only [List.mem_singleton] at he
    subst he
    exact ⟨by show 0 ≤ o.q; omega, hq.2⟩
  · simp only at he
    split at he
    · exact hm e he
    · split at he
      · rcases List.mem_append.1 he with he | he
        · exact hm e he
        · rw [List.mem_singleton] at he; subst he
          exact ⟨j4, by show (bMatch (L.length + 2) L o o.pr).2.2 ≤ 99; omega⟩
      · rcases List.mem_append.1 he with he | he
        · exact hm e he
        · rw [List.mem_singleton] at he; subst he
          exact ⟨j4, by show (bMatch (L.length + 2) L o o.pr).2.2 ≤ 99; omega⟩
theorem do_evs {L : List Od} (h : BookOk L) (c : Cm) (hr : bRefused L c = 0) : ∀ e ∈ (bDo L c).1, EvOk e := by
  have hf := fair_of_taken hr
  obtain ⟨f6, f1⟩ := fair_parts hf
  have hr0 := hr
  unfold bRefused at hr
  rw [if_pos hf] at hr
  have ha : EvOk (evAccepted c) := ⟨Int.le_refl _, by show (0 : Int) ≤ 99; decide⟩
  intro e he
  unfold bDo at he
  rw [if_pos hr0] at he
  simp only at he
  by_cases h5 : c.k = 5
  · rw [if_pos h5] at he
    rw [if_pos (.inl h5)] at hr
    cases hfd : bFind L c.id with
    | none => rw [hfd] at hr; simp at hr
    | some i =>
      have hm := (h.each _ (getD_mem (bFind_some hfd).1)).2.2.2.2
      rw [hfd] at he
      simp only [Option.getD_some, List.mem_cons, List.not_mem_nil, or_false] at he
      rcases he with rfl | rfl
      · exact ha
      · exact ⟨by show 0 ≤ (L.getD i od0).q; omega, hm.2⟩
  · rw [if_neg h5] at he
    by_cases h6 : c.k = 6
    · rw [if_pos h6] at he
      have f6' := f6 h6
      split at he
      · simp only [List.mem_cons, List.not_mem_nil, or_false] at he
        rcases he with rfl | rfl
        · exact ha
        · exact ⟨by show 0 ≤ c.q; omega, f6'.2.2⟩
      · rcases List.mem_cons.1 he with rfl | he
        · exact ha
        · exact enter_evs (h.erase _) 1 _ f6'.2 e he
    · rw [if_neg h6] at he
      rcases List.mem_cons.1 he with rfl | he
      · exact ha
      · exact enter_evs h c.k (cmOd c) (f1 h5 h6).2.1 e he

theorem evSum_bound (k id : Int) : ∀ {E : List Ev}, (∀ e ∈ E, EvOk e) → 0 ≤ evSum k id E ∧ evSum k id E ≤ 99 * (E.length : Int)
  | [], _ => by simp [evSum]
  | e :: E, h => by
    have i := evSum_bound k id (E := E) (fun x hx => h x (by simp [hx]))
    have he := h e (by simp)
    unfold EvOk at he
    simp only [evSum, List.length_cons]
    split <;> omega
theorem evSum_take (k id : Int) {E : List Ev} {j : Nat} (h : j < E.length) : evSum k id (E.take (j + 1)) = evSum k id (E.take j) + (if (E.getD j ev0).k = k ∧ (E.getD j ev0).id = id then (E.getD j ev0).q else 0) := by
  rw [List.take_succ_eq_append_getElem h, evSum_append, List.getD_eq_getElem?_getD, List.getElem?_eq_getElem h]
  simp [evSum]
theorem cell_lt' {w : World} {b o : Nat} {v : Value} (h : w.cell? ⟨b, o, none⟩ = some v) : b < w.heap.size := by
  rcases Nat.lt_or_ge b w.heap.size with hl | hl
  · exact hl
  · exfalso
    unfold World.cell? at h
    simp [Array.getElem?_eq_none hl] at h
theorem getD_mem_ev {l : List Ev} {i : Nat} (h : i < l.length) : l.getD i ev0 ∈ l := by
  rw [List.getD_eq_getElem?_getD, List.getElem?_eq_getElem h]; exact List.getElem_mem h

set_option maxRecDepth 100000 in
set_option maxHeartbeats 1000000 in
theorem sum_any {w : World} {base : Nat} {N : Nat → Prop} {v : Value} {E : List Ev} (hE : ∀ e ∈ E, EvOk e) (hl : E.length ≤ 100) (row : IsRow w base N 6 v E.length (evZ E)) (kd id : Int) :
    Calls Try.prog 21 #[v, .int .i64 kd, .int .i64 id] w fun e w' => e = .returned (.int .i64 (evSum kd id E)) ∧ w' = w := by
  obtain ⟨x2, c2, rfl, row2⟩ := row
  have HRow : Hid (0 < E.length → ∃ g off, x2 = some ⟨g, off, none⟩ ∧ ∀ j i, j < E.length → i < 6 → w.cell? ⟨g, off + j * 6 + i, none⟩ = some (.int .i64 (evZ E j i))) := fun hp => by
    obtain ⟨g, off, e, _, _, _, hc⟩ := row2 hp
    exact ⟨g, off, e, fun j i hj hi => (hc j i hj hi).1⟩
  have HE : Hid (∀ e ∈ E, EvOk e) := hE
  clear row2 hE
  go_enter Try.func21, Try.ntmps21
  go_wp2_with fail
  go_loop [7, 8] (fun x i => ∃ j : Nat, j ≤ E.length ∧ x = .int .i64 (evSum kd id (E.take j)) ∧ i = .int .i64 (j : Int)) (fun _ i => E.length - (intOf i).toNat)
  case atStart => exact ⟨0, Nat.zero_le _, rfl, rfl⟩
  case round =>
    obtain ⟨j, hj, rfl, rfl⟩ := hrel
    by_cases hjl : j < E.length
    · obtain ⟨g, off, hx2, hc⟩ := HRow.out (by omega)
      subst hx2
      have c0 := hc j 0 hjl (by omega)
      have c2 := hc j 2 hjl (by omega)
      have c5 := hc j 5 hjl (by omega)
      rw [Nat.add_zero] at c0
      simp only [evZ] at c0 c2 c5
      have hq := HE.out _ (getD_mem_ev hjl)
      have hlb := evSum_bound kd id (E := E.take j) (fun v hv => HE.out v (List.mem_of_mem_take hv))
      rw [List.length_take_of_le (by omega)] at hlb
      have hsum := evSum_take kd id hjl
      obtain ⟨ee, hee⟩ : ∃ ee, ee = E.getD j ev0 := ⟨_, rfl⟩
      unfold EvOk at hq
      rw [← hee] at c0 c2 c5 hq hsum
      clear hee hc
      have hjli : (j : Int) < (E.length : Int) := by omega
      by_cases hk : ee.k = kd
      · have hkb : (ee.k == kd) = true := by simp [hk]
        by_cases hi : ee.id = id
        · have hib : (ee.id == id) = true := by simp [hi]
          rw [if_pos ⟨hk, hi⟩] at hsum
          have Hsum : Hid (evSum kd id (E.take (j + 1)) = evSum kd id (E.take j) + ee.q) := hsum
          clear hsum hk hi
          go_wp2
          exact ⟨⟨j + 1, by omega, by rw [Hsum.out], by go_num⟩, by simp [intOf]; omega⟩
        · have hib : (ee.id == id) = false := by simp [hi]
          rw [if_neg (fun h => hi h.2)] at hsum
          have Hsum : Hid (evSum kd id (E.take (j + 1)) = evSum kd id (E.take j) + 0) := hsum
          clear hsum hk hi
          go_wp2
          exact ⟨⟨j + 1, by omega, by rw [Hsum.out]; go_num, by go_num⟩, by simp [intOf]; omega⟩
      · have hkb : (ee.k == kd) = false := by simp [hk]
        rw [if_neg (fun h => hk h.1)] at hsum
        have Hsum : Hid (evSum kd id (E.take (j + 1)) = evSum kd id (E.take j) + 0) := hsum
        clear hsum hk
        go_wp2
        exact ⟨⟨j + 1, by omega, by rw [Hsum.out]; go_num, by go_num⟩, by simp [intOf]; omega⟩
    · have hd : E.take j = E := List.take_of_length_le (by omega)
      have hdi : decide ((j : Int) < (E.length : Int)) = false := decide_eq_false (by omega)
      go_wp2
      go_ret
      go_light
      exact ⟨rfl, rfl⟩

set_option maxRecDepth 100000 in
set_option maxHeartbeats 1000000 in
theorem trades_any {w : World} {base : Nat} {N : Nat → Prop} {v : Value} {E : List Ev} (hl : E.length ≤ 100) (row : IsRow w base N 6 v E.length (evZ E)) (ok cl id osd pr oq sd : Int) (hT : kTrades id pr sd 0 E) (hsd : 1 ≤ sd ∧ sd ≤ 2) :
    Calls Try.prog 20 #[v, .agg #[.int .i64 ok, .int .i64 cl, .int .i64 id, .int .i64 osd, .int .i64 pr, .int .i64 oq], .int .i64 sd] w fun e w' => e = .returned (.bool true) ∧ Below w.heap.size w w' := by
  obtain ⟨x2, c2, rfl, row2⟩ := row
  have HRow : Hid (0 < E.length → ∃ g off, x2 = some ⟨g, off, none⟩ ∧ g < w.heap.size ∧ ∀ j i, j < E.length → i < 6 → w.cell? ⟨g, off + j * 6 + i, none⟩ = some (.int .i64 (evZ E j i))) := fun hp => by
    obtain ⟨g, off, e, _, hlt, _, hc⟩ := row2 hp
    exact ⟨g, off, e, hlt, fun j i hj hi => (hc j i hj hi).1⟩
  clear row2
  have HT : Hid (kTrades id pr sd 0 E) := hT
  clear hT
  go_enter Try.func20, Try.ntmps20
  go_wp2_with fail
  obtain ⟨w0, hw0⟩ : ∃ w0, w0 = w.alloc (.cells #[.int .i64 ok, .int .i64 cl, .int .i64 id, .int .i64 osd, .int .i64 pr, .int .i64 oq] 34) := ⟨_, rfl⟩
  rw [← hw0]
  have B0 : Hid (Below w.heap.size w w0) := by rw [hw0]; exact (Below.refl _ _).alloc (Nat.le_refl _) _
  have hs0 : w0.heap.size = w.heap.size + 1 := by rw [hw0]; simp
  have HO : Hid (∀ W, Below w0.heap.size w0 W → W.cell? ⟨w.heap.size, 2, none⟩ = some (.int .i64 id) ∧ W.cell? ⟨w.heap.size, 4, none⟩ = some (.int .i64 pr)) := fun W hW => by
    have e := fun o => (bcell hW).1 w.heap.size o (by omega)
    exact ⟨(e 2).trans (by rw [hw0]; simp), (e 4).trans (by rw [hw0]; simp)⟩
  have HC : Hid (0 < E.length → ∃ g off, x2 = some ⟨g, off, none⟩ ∧ ∀ W, Below w0.heap.size w0 W → ∀ j i, j < E.length → i < 6 → W.cell? ⟨g, off + j * 6 + i, none⟩ = some (.int .i64 (evZ E j i))) := fun hp => by
    obtain ⟨g, off, e, hlt, hc⟩ := HRow.out hp
    exact ⟨g, off, e, fun W hW j i hj hi => ((bcell hW).1 g _ (by omega)).trans (((bcell B0.out).1 g _ hlt).trans (hc j i hj hi))⟩
  clear HRow hw0
  go_loopw [7, 8] (fun x i wr => ∃ (j : Nat) (last : Int), j ≤ E.length ∧ x = .int .i64 last ∧ i = .int .i64 (j : Int) ∧ kTrades id pr sd last (E.drop j) ∧ Below w0.heap.size w0 wr) (fun _ i _ => E.length - (intOf i).toNat)
  case atStart => exact ⟨0, 0, Nat.zero_le _, rfl, rfl, HT.out, Below.refl _ _⟩
  case round =>
    obtain ⟨j, last, hj, rfl, rfl, hk, B⟩ := hrel
    by_cases hjl : j < E.length
    · obtain ⟨g, off, hx2, hc⟩ := HC.out (by omega)
      subst hx2
      have hjli : (j : Int) < (E.length : Int) := by omega
      rw [drop_ev hjl, kTrades] at hk
      have c : ∀ i, i < 6 → wr.cell? ⟨g, off + j * 6 + i, none⟩ = some (.int .i64 (evZ E j i)) := fun i hi => hc wr B j i hjl hi
      have c0 := c 0 (by omega)
      have c1 := c 1 (by omega)
      have c2 := c 2 (by omega)
      have c3 := c 3 (by omega)
      have c4 := c 4 (by omega)
      have c5 := c 5 (by omega)
      rw [Nat.add_zero] at c0
      simp only [evZ] at c0 c1 c2 c3 c4 c5
      obtain ⟨ee, hee⟩ : ∃ ee, ee = E.getD j ev0 := ⟨_, rfl⟩
      rw [← hee] at hk c0 c1 c2 c3 c4 c5
      clear hee c
      have BX := B.alloc B.size (.cells #[.int .i64 ee.k, .int .i64 ee.cl, .int .i64 ee.id, .int .i64 ee.ot, .int .i64 ee.pr, .int .i64 ee.q] 48)
      obtain ⟨o2, o4⟩ := HO.out _ B
      have hwlt : w.heap.size < wr.heap.size := by have := B.size; omega
      have hglt : g < wr.heap.size := cell_lt' c0
      have HBX : Hid (Below w0.heap.size w0 (wr.alloc (.cells #[.int .i64 ee.k, .int .i64 ee.cl, .int .i64 ee.id, .int .i64 ee.ot, .int .i64 ee.pr, .int .i64 ee.q] 48))) := BX
      clear BX
      by_cases hT : ee.k = 3 ∧ ee.id = id
      · rw [if_pos hT] at hk
        obtain ⟨⟨y, E', hy, y3, yid, yot, ypr, yq⟩, q1, hot, okp, oko, hk'⟩ := hk
        have hj1 : j + 1 < E.length := by
          rcases Nat.lt_or_ge (j + 1) E.length with h | h
          · exact h
          · rw [List.drop_eq_nil_of_le h] at hy; cases hy
        have hye : E.getD (j + 1) ev0 = y := by rw [drop_ev hj1] at hy; injection hy
        have HK : Hid (kTrades id pr sd ee.pr (E.drop (j + 1))) := hk'
        have d : ∀ i, i < 6 → wr.cell? ⟨g, off + (j + 1) * 6 + i, none⟩ = some (.int .i64 (evZ E (j + 1) i)) := fun i hi => hc wr B (j + 1) i hj1 hi
        have d0 := d 0 (by omega)
        have d1 := d 1 (by omega)
        have d2 := d 2 (by omega)
        have d3 := d 3 (by omega)
        have d4 := d 4 (by omega)
        have d5 := d 5 (by omega)
        rw [Nat.add_zero] at d0
        simp only [evZ, hye, y3, yid, yot, ypr, yq] at d0 d1 d2 d3 d4 d5
        rw [hT.1] at c0 HBX
        rw [hT.2] at c2 HBX d3
        have BY := HBX.out.alloc HBX.out.size (.cells #[.int .i64 3, .int .i64 y.cl, .int .i64 ee.ot, .int .i64 id, .int .i64 ee.pr, .int .i64 ee.q] 48)
        have HBY : Hid (Below w0.heap.size w0 ((wr.alloc (.cells #[.int .i64 3, .int .i64 ee.cl, .int .i64 id, .int .i64 ee.ot, .int .i64 ee.pr, .int .i64 ee.q] 48)).alloc (.cells #[.int .i64 3, .int .i64 y.cl, .int .i64 ee.ot, .int .i64 id, .int .i64 ee.pr, .int .i64 ee.q] 48))) := BY
        have hj1i : decide ((E.length : Int) ≤ (j : Int) + 1) = false := decide_eq_false (by omega)
        have hj1l : (j : Int) + 1 < (E.length : Int) := by omega
        have hq1 : decide (ee.q < 1) = false := decide_eq_false (by omega)
        have hotb : (ee.ot == id) = false := by simp [hot]
        clear hT hk' hy hye d BY HBX hc y3 yid yot ypr yq hot
        unfold okPrice at okp
        unfold okOrder at oko
        by_cases hs : sd = 1
        · subst hs
          by_cases hp : 0 < pr
          · have hpb : decide (0 < pr) = true := decide_eq_true hp
            have hpx : decide (pr < ee.pr) = false := decide_eq_false (by omega)
            by_cases hla : 0 < last
            · have hlb : decide (0 < last) = true := decide_eq_true hla
              have hlx : decide (ee.pr < last) = false := decide_eq_false (by omega)
              clear okp oko
              go_wp2
              exact ⟨⟨j + 1, ee.pr, by omega, rfl, by go_num, HK.out, HBY.out⟩, by simp [intOf]; omega⟩
            · have hlb : decide (0 < last) = false := decide_eq_false hla
              clear okp oko
              go_wp2
              exact ⟨⟨j + 1, ee.pr, by omega, rfl, by go_num, HK.out, HBY.out⟩, by simp [intOf]; omega⟩
          · have hpb : decide (0 < pr) = false := decide_eq_false hp
            by_cases hla : 0 < last
            · have hlb : decide (0 < last) = true := decide_eq_true hla
              have hlx : decide (ee.pr < last) = false := decide_eq_false (by omega)
              clear okp oko
              go_wp2
              exact ⟨⟨j + 1, ee.pr, by omega, rfl, by go_num, HK.out, HBY.out⟩, by simp [intOf]; omega⟩
            · have hlb : decide (0 < last) = false := decide_eq_false hla
              clear okp oko
              go_wp2
              exact ⟨⟨j + 1, ee.pr, by omega, rfl, by go_num, HK.out, HBY.out⟩, by simp [intOf]; omega⟩
        · obtain rfl : sd = 2 := by omega
          by_cases hp : 0 < pr
          · have hpb : decide (0 < pr) = true := decide_eq_true hp
            have hpx : decide (ee.pr < pr) = false := decide_eq_false (by omega)
            by_cases hla : 0 < last
            · have hlb : decide (0 < last) = true := decide_eq_true hla
              have hlx : decide (last < ee.pr) = false := decide_eq_false (by omega)
              clear okp oko
              go_wp2
              exact ⟨⟨j + 1, ee.pr, by omega, rfl, by go_num, HK.out, HBY.out⟩, by simp [intOf]; omega⟩
            · have hlb : decide (0 < last) = false := decide_eq_false hla
              clear okp oko
              go_wp2
              exact ⟨⟨j + 1, ee.pr, by omega, rfl, by go_num, HK.out, HBY.out⟩, by simp [intOf]; omega⟩
          · have hpb : decide (0 < pr) = false := decide_eq_false hp
            by_cases hla : 0 < last
            · have hlb : decide (0 < last) = true := decide_eq_true hla
              have hlx : decide (last < ee.pr) = false := decide_eq_false (by omega)
              clear okp oko
              go_wp2
              exact ⟨⟨j + 1, ee.pr, by omega, rfl, by go_num, HK.out, HBY.out⟩, by simp [intOf]; omega⟩
            · have hlb : decide (0 < last) = false := decide_eq_false hla
              clear okp oko
              go_wp2
              exact ⟨⟨j + 1, ee.pr, by omega, rfl, by go_num, HK.out, HBY.out⟩, by simp [intOf]; omega⟩
      · rw [if_neg hT] at hk
        have HK : Hid (kTrades id pr sd last (E.drop (j + 1))) := hk
        clear hk hc
        by_cases h3 : ee.k = 3
        · rw [h3] at c0 HBX
          have hib : (ee.id == id) = false := by simp; exact fun h => hT ⟨h3, h⟩
          clear h3 hT
          go_wp2
          exact ⟨⟨j + 1, last, by omega, rfl, by go_num, HK.out, HBX.out⟩, by simp [intOf]; omega⟩
        · have h3b : (ee.k == 3) = false := by simp [h3]
          clear h3 hT
          go_wp2
          exact ⟨⟨j + 1, last, by omega, rfl, by go_num, HK.out, HBX.out⟩, by simp [intOf]; omega⟩
    · have hdi : decide ((j : Int) < (E.length : Int)) = false := decide_eq_false (by omega)
      go_wp2
      go_ret
      go_light
      exact ⟨rfl, bstep B0.out (show Below w0.heap.size w0 wr from B)⟩
end Go.Proofs.Ytbljokilfkodfaa
/-
  Kept: the sides as they were told.
-/
namespace Go.Proofs.Ytbljokilfkodfaa
open Go.RowKit

def look (T : List (Int × Int)) (id : Int) : Int := T.foldl (fun s p => if p.1 = id then p.2 else s) 0
theorem look_snoc (T : List (Int × Int)) (p : Int × Int) (id : Int) : look (T ++ [p]) id = if p.1 = id then p.2 else look T id := by
  unfold look; rw [List.foldl_append]; rfl
theorem look_take {T : List (Int × Int)} {j : Nat} (h : j < T.length) (id : Int) : look (T.take (j + 1)) id = if (T.getD j (0, 0)).1 = id then (T.getD j (0, 0)).2 else look (T.take j) id := by
  rw [List.take_succ_eq_append_getElem h, look_snoc, List.getD_eq_getElem?_getD, List.getElem?_eq_getElem h]; rfl
def pairCells : List (Int × Int) → List Value
  | [] => []
  | p :: T => .int .i64 p.1 :: .int .i64 p.2 :: pairCells T
theorem pairCells_append : ∀ (T U : List (Int × Int)), pairCells (T ++ U) = pairCells T ++ pairCells U
  | [], U => rfl
  | p :: T, U => by simp only [List.cons_append, pairCells, pairCells_append T U]
theorem pairCells_at : ∀ (T : List (Int × Int)) (j : Nat), j < T.length → (pairCells T)[j * 2]? = some (.int .i64 (T.getD j (0, 0)).1) ∧ (pairCells T)[j * 2 + 1]? = some (.int .i64 (T.getD j (0, 0)).2)
  | [], j, h => absurd h (by simp)
  | p :: T, 0, _ => ⟨rfl, rfl⟩
  | p :: T, j + 1, h => by
    have := pairCells_at T j (by simpa using h)
    rw [show (j + 1) * 2 = j * 2 + 1 + 1 by omega]
    exact this
theorem owned_pair {w : World} {base : Nat} {T : List (Int × Int)} {x : Option Addr} {c : Nat} (h : w.ownsRow base 52 2 (.slice x T.length c) T.length (pairCells T)) {k : Nat} (hk : k < T.length) : ∃ g, x = some ⟨g, 0, none⟩ ∧ w.cell? ⟨g, k * 2, none⟩ = some (.int .i64 (T.getD k (0, 0)).1) ∧ w.cell? ⟨g, k * 2 + 1, none⟩ = some (.int .i64 (T.getD k (0, 0)).2) := by
  have ho := h
  obtain ⟨_, ho2⟩ := ho
  rcases ho2 with ⟨hv, hn⟩ | ⟨g, cap, cur, hv, _⟩
  · omega
  · injection hv with h1 h2 h3
    subst h1
    have e := pairCells_at T k hk
    exact ⟨g, rfl, (h.cellAt (k * 2) (by omega)).trans e.1, (h.cellAt (k * 2 + 1) (by omega)).trans e.2⟩

set_option maxRecDepth 100000 in
set_option maxHeartbeats 1000000 in
theorem sideOf_any {w : World} {base : Nat} {T : List (Int × Int)} {x : Option Addr} {c : Nat} (h : w.ownsRow base 52 2 (.slice x T.length c) T.length (pairCells T)) (hl : T.length < 1152921504606846976) (id : Int) :
    Calls Try.prog 18 #[.slice x T.length c, .int .i64 id] w fun e w' => e = .returned (.int .i64 (look T id)) ∧ w' = w := by
  have HO : Hid (w.ownsRow base 52 2 (.slice x T.length c) T.length (pairCells T)) := h
  clear h
  go_enter Try.func18, Try.ntmps18
  go_wp2_with fail
  go_loop [5, 6] (fun s i => ∃ j : Nat, j ≤ T.length ∧ s = .int .i64 (look (T.take j) id) ∧ i = .int .i64 (j : Int)) (fun _ i => T.length - (intOf i).toNat)
  case atStart => exact ⟨0, Nat.zero_le _, rfl, rfl⟩
  case round =>
    obtain ⟨j, hj, rfl, rfl⟩ := hrel
    by_cases hjl : j < T.length
    · obtain ⟨g, hx, c0, c1⟩ := owned_pair HO.out hjl
      subst hx
      have hlk := look_take hjl id
      obtain ⟨pp, hpp⟩ : ∃ pp, pp = T.getD j (0, 0) := ⟨_, rfl⟩
      rw [← hpp] at c0 c1 hlk
      clear hpp
      have hjli : (j : Int) < (T.length : Int) := by omega
      by_cases hi : pp.1 = id
      · have hib : (pp.1 == id) = true := by simp [hi]
        rw [if_pos hi] at hlk
        have Hlk : Hid (look (T.take (j + 1)) id = pp.2) := hlk
        clear hlk hi
        go_wp2
        exact ⟨⟨j + 1, by omega, by rw [Hlk.out], by go_num⟩, by simp [intOf]; omega⟩
      · have hib : (pp.1 == id) = false := by simp [hi]
        rw [if_neg hi] at hlk
        have Hlk : Hid (look (T.take (j + 1)) id = look (T.take j) id) := hlk
        clear hlk hi
        go_wp2
        exact ⟨⟨j + 1, by omega, by rw [Hlk.out], by go_num⟩, by simp [intOf]; omega⟩
    · have hd : T.take j = T := List.take_of_length_le (by omega)
      have hdi : decide ((j : Int) < (T.length : Int)) = false := decide_eq_false (by omega)
      go_wp2
      go_ret
      go_light
      exact ⟨rfl, rfl⟩

end Go.Proofs.Ytbljokilfkodfaa
