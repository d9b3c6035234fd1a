/-
  Kept: how much rests, is it crossed.
-/
import Derived.Test.YtbljokilfkodfaaG27
import Derived.Test.YtbljokilfkodfaaG6
import Derived.Deep.QuietTactic
import Derived.BigQuiet
namespace Go.Proofs.Ytbljokilfkodfaa
open Go.RowKit

theorem wsum_bnd (φ : Od → Bool) : ∀ {L : List Od}, (∀ o ∈ L, OdOk o) → 0 ≤ wsum φ L ∧ wsum φ L ≤ 99 * (L.length : Int)
  | [], _ => by simp [wsum]
  | o :: L, h => by
    have i := wsum_bnd φ (L := L) (fun x hx => h x (by simp [hx]))
    have ho := (h o (by simp)).2.2.2.2
    simp only [wsum, List.length_cons]
    split <;> omega
theorem depth_bound {L : List Od} (h : BookOk L) {sd : Int} : ∀ {n : Nat} {v : Lv}, v ∈ bDepthTo L sd n → 0 ≤ v.q ∧ v.q ≤ 1188
  | 0, v, hv => by simp [bDepthTo] at hv
  | n + 1, v, hv => by
    rw [bDepthTo] at hv
    rcases List.mem_append.1 hv with hv | hv
    · exact depth_bound h hv
    · split at hv
      · rw [List.mem_singleton] at hv
        subst hv
        rw [(bLevel_q L sd _).1]
        have := wsum_bnd (atPr sd (bPrice sd (n + 1))) h.each
        have := h.len
        omega
      · cases hv
theorem lvSum_bound : ∀ {l : List Lv}, (∀ v ∈ l, 0 ≤ v.q ∧ v.q ≤ 1188) → 0 ≤ lvSum l ∧ lvSum l ≤ 1188 * (l.length : Int)
  | [], _ => by simp [lvSum]
  | v :: l, h => by
    have i := lvSum_bound (l := l) (fun x hx => h x (by simp [hx]))
    have hv := h v (by simp)
    simp only [lvSum, List.length_cons]
    omega
theorem lvSum_take {l : List Lv} {j : Nat} (h : j < l.length) : lvSum (l.take (j + 1)) = lvSum (l.take j) + (l.getD j lv0).q := by
  rw [List.take_succ_eq_append_getElem h, lvSum_append, List.getD_eq_getElem?_getD, List.getElem?_eq_getElem h]
  simp [lvSum]
theorem getD_mem_lv {l : List Lv} {i : Nat} (h : i < l.length) : l.getD i lv0 ∈ l := by
  rw [List.getD_eq_getElem?_getD, List.getElem?_eq_getElem h]; exact List.getElem_mem h

def totTo (L : List Od) : Nat → Int
  | 0 => 0
  | n + 1 => totTo L n + lvSum (bDepth L ((n : Int) + 1))

theorem totTo_bound {L : List Od} (h : BookOk L) : ∀ n : Nat, 0 ≤ totTo L n ∧ totTo L n ≤ 117612 * (n : Int)
  | 0 => by simp [totTo]
  | n + 1 => by
    have i := totTo_bound h n
    have hb := lvSum_bound (l := bDepth L ((n : Int) + 1)) (fun v hv => depth_bound h hv)
    have := bDepth_len L ((n : Int) + 1)
    simp only [totTo]
    omega

set_option maxRecDepth 100000 in
set_option maxHeartbeats 1000000 in
theorem total_any {Rep : World → Value → (Nat → Prop) → List Od → Prop} (hC : BookIs Rep 9 42 16) {w : World} {a : Addr} {S : Nat → Prop} {L : List Od} (h : Rep w (.pointer (some a)) S L) (hL : BookOk L) :
    Calls Try.prog 15 #[.pointer (some a)] w fun e w' => ∃ S', e = .returned (.int .i64 (tot L)) ∧ Rep w' (.pointer (some a)) S' L ∧ Only S w w' ∧ (∀ k, S' k → S k ∨ w.heap.size ≤ k) := by
  go_enter Try.func15, Try.ntmps15
  go_wp2_with fail
  go_loopw [3, 4] (fun x s wr => ∃ k : Nat, k ≤ 2 ∧ x = .int .i64 (totTo L k) ∧ s = .int .i64 ((k : Int) + 1) ∧ ∃ S', Rep wr (.pointer (some a)) S' L ∧ Only S w wr ∧ (∀ k, S' k → S k ∨ w.heap.size ≤ k)) (fun _ s _ => 3 - (intOf s).toNat)
  case atStart => exact ⟨0, by omega, rfl, rfl, S, h, Only.refl _ _, fun _ h => .inl h⟩
  case round =>
    obtain ⟨k, hk, rfl, rfl, S1, r1, o1, s1⟩ := hrel
    by_cases hlt : k < 2
    · have hle : (k : Int) + 1 ≤ 2 := by omega
      have hb0 := totTo_bound hL k
      have HR : Hid (Rep wr (.pointer (some a)) S1 L) := r1
      have HO : Hid (Only S w wr) := o1
      have HS : Hid (∀ k, S1 k → S k ∨ w.heap.size ≤ k) := s1
      clear r1 o1 s1 h
      obtain ⟨wo, hwo⟩ : ∃ wo, wo = wr := ⟨_, rfl⟩
      subst hwo
      go_wp2_with fail
      refine (hC.depth ((k : Int) + 1) HR.out hL (by omega) (by omega)).mono ?_
      rintro e w1 ⟨lv, S2, rfl, row, r2, o2, s2⟩
      obtain ⟨D, hD⟩ : ∃ D, D = bDepth L ((k : Int) + 1) := ⟨_, rfl⟩
      have hDl : D.length ≤ 99 := by rw [hD]; exact bDepth_len _ _
      have hDb : Hid (∀ v ∈ D, 0 ≤ v.q ∧ v.q ≤ 1188) := by rw [hD]; exact fun v hv => depth_bound hL hv
      have hT : Hid (totTo L (k + 1) = totTo L k + lvSum D) := by rw [hD]; exact rfl
      rw [← hD] at row
      clear hD
      have HN : Hid (∃ S', Rep w1 (.pointer (some a)) S' L ∧ Only S w w1 ∧ (∀ k, S' k → S k ∨ w.heap.size ≤ k)) := ⟨S2, r2, HO.out.then o2 (fun i hi hs => (HS.out i hs).elim id (fun h => by omega)), fun j hj => (s2 j hj).elim (HS.out j) (fun h => .inr (Nat.le_trans HO.out.size h))⟩
      clear r2 o2 s2 HR HO HS
      obtain ⟨x2, c2, rfl, row2⟩ := row
      have HRow : Hid (0 < D.length → ∃ g off, x2 = some ⟨g, off, none⟩ ∧ ∀ j i, j < D.length → i < 3 → w1.cell? ⟨g, off + j * 3 + i, none⟩ = some (.int .i64 (lvZ D j i))) := fun hp => by
        obtain ⟨g, off, e, _, _, _, hc⟩ := row2 hp
        exact ⟨g, off, e, fun j i hj hi => (hc j i hj hi).1⟩
      clear row2
      obtain ⟨t0, ht0⟩ : ∃ t0, t0 = totTo L k := ⟨_, rfl⟩
      rw [← ht0] at hb0 hT
      rw [← ht0]
      clear ht0
      go_wp2_with fail
      go_loop [3, 6] (fun x i => ∃ j : Nat, j ≤ D.length ∧ x = .int .i64 (t0 + lvSum (D.take j)) ∧ i = .int .i64 (j : Int)) (fun _ i => D.length - (intOf i).toNat)
      case atStart => exact ⟨0, Nat.zero_le _, by rw [List.take_zero]; simp [lvSum], rfl⟩
      case round =>
        obtain ⟨j, hj, rfl, rfl⟩ := hrel
        by_cases hjl : j < D.length
        · obtain ⟨g, off, hx2, hc⟩ := HRow.out (by omega)
          subst hx2
          have c1 := hc j 1 hjl (by omega)
          simp only [lvZ] at c1
          have hq := hDb.out _ (getD_mem_lv hjl)
          have hlb := lvSum_bound (l := D.take j) (fun v hv => hDb.out v (List.mem_of_mem_take hv))
          rw [List.length_take_of_le (by omega)] at hlb
          have hsum := lvSum_take hjl
          obtain ⟨qq, hqq⟩ : ∃ qq, qq = (D.getD j lv0).q := ⟨_, rfl⟩
          rw [← hqq] at c1 hq hsum
          have Hsum : Hid (lvSum (D.take (j + 1)) = lvSum (D.take j) + qq) := hsum
          clear hqq hsum hc
          have hjli : (j : Int) < (D.length : Int) := by omega
          go_wp2
          exact ⟨⟨j + 1, by omega, by rw [Hsum.out]; go_num, by go_num⟩, by simp [intOf]; omega⟩
        · have hd : D.take j = D := List.take_of_length_le (by omega)
          have hdi : decide ((j : Int) < (D.length : Int)) = false := decide_eq_false (by omega)
          go_wp2
          exact ⟨⟨k + 1, by omega, by rw [hT.out, hd], by go_num, HN.out⟩, by simp [intOf]; omega⟩
    · obtain rfl : k = 2 := by omega
      go_wp2
      go_ret
      go_light
      have e : totTo L 2 = tot L := by
        rw [← depth_tot hL]
        show 0 + lvSum (bDepth L ((0 : Nat) + 1)) + lvSum (bDepth L ((1 : Nat) + 1)) = _
        simp
      exact ⟨S1, by rw [e]; rfl, r1, o1, s1⟩

set_option maxRecDepth 100000 in
set_option maxHeartbeats 1000000 in
theorem crossed_any {Rep : World → Value → (Nat → Prop) → List Od → Prop} (hC : BookIs Rep 9 42 16) {w : World} {a : Addr} {S : Nat → Prop} {L : List Od} (h : Rep w (.pointer (some a)) S L) (hL : BookOk L) (hX : NoCross L) :
    Calls Try.prog 17 #[.pointer (some a)] w fun e w' => ∃ S', e = .returned (.bool false) ∧ Rep w' (.pointer (some a)) S' L ∧ Only S w w' ∧ (∀ k, S' k → S k ∨ w.heap.size ≤ k) := by
  go_enter Try.func17, Try.ntmps17
  go_wp2_with fail
  refine (hC.depth 1 h hL (by omega) (by omega)).mono ?_
  rintro e w1 ⟨lv, S1, rfl, row1, r1, o1, s1⟩
  go_wp2_with fail
  refine (hC.depth 2 r1 hL (by omega) (by omega)).mono ?_
  rintro e w2 ⟨lv', S2, rfl, row2, r2, o2, s2⟩
  have row1' := row1.keep o2 (fun k hk _ _ => hk)
  have HN : Hid (∀ m, ∃ S', Rep (w2.drewN m) (.pointer (some a)) S' L ∧ Only S w (w2.drewN m) ∧ (∀ k, S' k → S k ∨ w.heap.size ≤ k)) := fun m => ⟨S2, hC.keep r2 ((Only.refl (fun _ => False) w2).drewN m) (fun _ _ h => h), (o1.then o2 (fun i hi hs => (s1 i hs).elim id (fun h => by omega))).drewN m, fun j hj => (s2 j hj).elim (s1 j) (fun h => .inr (Nat.le_trans o1.size h))⟩
  clear row1 h r1 o1 s1 r2 o2 s2
  obtain ⟨x1, c1, rfl, g1⟩ := row1'
  obtain ⟨x2, c2, rfl, g2⟩ := row2
  obtain ⟨D1, hD1⟩ : ∃ D, D = bDepth L 1 := ⟨_, rfl⟩
  obtain ⟨D2, hD2⟩ : ∃ D, D = bDepth L 2 := ⟨_, rfl⟩
  have hl1 : D1.length ≤ 99 := by rw [hD1]; exact bDepth_len _ _
  have hl2 : D2.length ≤ 99 := by rw [hD2]; exact bDepth_len _ _
  have HX : Hid (0 < D1.length → 0 < D2.length → (D1.getD 0 lv0).pr < (D2.getD 0 lv0).pr) := fun p1 p2 => depth_cross hX (by rw [← hD1]; exact getD_mem_lv p1) (by rw [← hD2]; exact getD_mem_lv p2)
  rw [← hD1] at g1
  rw [← hD2] at g2
  rw [← hD1, ← hD2]
  clear hD1 hD2
  by_cases p1 : 0 < D1.length
  · have i1 : (0 : Int) < (D1.length : Int) := by omega
    have j1 : decide ((0 : Int) < (D1.length : Int)) = true := decide_eq_true i1
    obtain ⟨g, off, e1, _, _, _, hc1⟩ := g1 p1
    subst e1
    by_cases p2 : 0 < D2.length
    · have i2 : (0 : Int) < (D2.length : Int) := by omega
      have j2 : decide ((0 : Int) < (D2.length : Int)) = true := decide_eq_true i2
      obtain ⟨g', off', e2, _, _, _, hc2⟩ := g2 p2
      subst e2
      have d1 := (hc1 0 0 p1 (by omega)).1
      have d2 := (hc2 0 0 p2 (by omega)).1
      simp only [lvZ, Nat.zero_mul, Nat.add_zero] at d1 d2
      have hx := HX.out p1 p2
      obtain ⟨q1, hq1⟩ : ∃ q, q = (D1.getD 0 lv0).pr := ⟨_, rfl⟩
      obtain ⟨q2, hq2⟩ : ∃ q, q = (D2.getD 0 lv0).pr := ⟨_, rfl⟩
      rw [← hq1] at d1 hx
      rw [← hq2] at d2 hx
      have hdx : decide (q2 ≤ q1) = false := decide_eq_false (by omega)
      clear hq1 hq2 hc1 hc2 g1 g2
      go_wp2
      go_quiet (fail)
      go_wp2
      go_ret
      go_light
      obtain ⟨S', h1, h2, h3⟩ := HN.out nq
      exact ⟨S', rfl, h1, h2, h3⟩
    · have i2 : decide ((0 : Int) < (D2.length : Int)) = false := decide_eq_false (by omega)
      go_wp2
      go_quiet (fail)
      go_wp2
      go_ret
      go_light
      obtain ⟨S', h1, h2, h3⟩ := HN.out nq
      exact ⟨S', rfl, h1, h2, h3⟩
  · have i1 : decide ((0 : Int) < (D1.length : Int)) = false := decide_eq_false (by omega)
    go_wp2
    go_quiet (fail)
    go_wp2
    go_ret
    go_light
    obtain ⟨S', h1, h2, h3⟩ := HN.out nq
    exact ⟨S', rfl, h1, h2, h3⟩
end Go.Proofs.Ytbljokilfkodfaa
