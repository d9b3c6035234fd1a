/-
  Kept: what stands in memory between two calls.
-/
import Derived.Test.YtbljokilfkodfaaK2
import Derived.Test.YtbljokilfkodfaaG9
import Derived.Test.YtbljokilfkodfaaG6
namespace Go.Proofs.Ytbljokilfkodfaa
open Go.RowKit

theorem bDo_pos' (L : List Od) (c : Cm) : 0 < (bDo L c).1.length := by
  unfold bDo
  split
  · dsimp only
    split
    · simp
    · split
      · split <;> simp
      · simp
  · simp
/-- The blocks of X are as they were. -/
def Kp (X : Nat → Prop) (ws W : World) : Prop := ∀ k, X k → k < W.heap.size ∧ W.heap[k]? = ws.heap[k]?
theorem Kp.cell {X : Nat → Prop} {ws W : World} (h : Kp X ws W) {k o : Nat} (hk : X k) : W.cell? ⟨k, o, none⟩ = ws.cell? ⟨k, o, none⟩ := World.cell?_of_block (w := ws) (h k hk).2
theorem Kp.frozen {X : Nat → Prop} {ws W : World} (h : Kp X ws W) {k o : Nat} (hk : X k) : W.frozen? ⟨k, o, none⟩ = ws.frozen? ⟨k, o, none⟩ := World.frozen?_of_block (w := ws) (h k hk).2
theorem Kp.row {X : Nat → Prop} {ws W : World} (h : Kp X ws W) {g off c n size : Nat} {Z : Nat → Nat → Int} (hg : X g)
    (hc : ∀ j i, j < n → i < size → ws.cell? ⟨g, off + j * size + i, none⟩ = some (.int .i64 (Z j i)) ∧ ws.frozen? ⟨g, off + j * size + i, none⟩ = false) :
    IsRow W 0 (fun _ => False) size (.slice (some ⟨g, off, none⟩) n c) n Z :=
  ⟨_, _, rfl, fun _ => ⟨g, off, rfl, Nat.zero_le _, (h g hg).1, fun h => h, fun j i hj hi => ⟨(h.cell hg).trans (hc j i hj hi).1, (h.frozen hg).trans (hc j i hj hi).2⟩⟩⟩

section
variable (Rep : World → Value → (Nat → Prop) → List Od → Prop)
def KS (w : World) (a : Addr) (L : List Od) (T : List (Int × Int)) (v : Value) (X : Nat → Prop) (ws W : World) (S : Nat → Prop) : Prop :=
  Rep W (.pointer (some a)) S L ∧ (∀ k, S k → w.heap.size ≤ k) ∧ (∀ k, v.ownBlock = some k → ¬ S k ∧ ¬ X k) ∧ W.ownsRow w.heap.size 52 2 v T.length (pairCells T) ∧ Below w.heap.size w W ∧ Kp X ws W ∧ (∀ k, X k → ¬ S k)
end

section
variable {Rep : World → Value → (Nat → Prop) → List Od → Prop} {fD fP fL : Nat} {w ws W W1 : World} {a : Addr} {L L1 : List Od} {T : List (Int × Int)} {v : Value} {X : Nat → Prop} {S S1 : Nat → Prop}
theorem KS.go (h : KS Rep w a L T v X ws W S) (r1 : Rep W1 (.pointer (some a)) S1 L1) (o1 : Only S W W1) (t1 : ∀ k, S1 k → S k ∨ W.heap.size ≤ k) : KS Rep w a L1 T v X ws W1 S1 := by
  obtain ⟨_, sb, sv, own, B, kp, xs⟩ := h
  refine ⟨r1, fun k hk => (t1 k hk).elim (sb k) (fun h => Nat.le_trans B.size h), fun k hk => ⟨fun h => ?_, (sv k hk).2⟩, own_keep own o1 (fun k hk => (sv k hk).1), B.trans (o1.below B.size sb), fun k hk => ?_, fun k hk h => ?_⟩
  · rcases t1 k h with h | h
    · exact (sv k hk).1 h
    · have := (own.lt k hk).2; omega
  · obtain ⟨h1, h2⟩ := kp k hk
    exact ⟨Nat.lt_of_lt_of_le h1 o1.size, (o1.block k h1 (xs k hk)).trans h2⟩
  · rcases t1 k h with h | h
    · exact xs k hk h
    · have := (kp k hk).1; omega
theorem KS.below (hC : BookIs Rep fD fP fL) (h : KS Rep w a L T v X ws W S) (b : Below W.heap.size W W1) : KS Rep w a L T v X ws W1 S :=
  h.go (hC.keep h.1 (Only.of_below (S := fun _ => False) b) (fun _ _ h => h)) (Only.of_below b) (fun _ h => .inl h)
/-- Something more that is to be kept. -/
theorem KS.more (h : KS Rep w a L T v X ws W S) (Y : Nat → Prop) (hY : ∀ k, Y k → k < W.heap.size ∧ ¬ S k ∧ v.ownBlock ≠ some k) : KS Rep w a L T v (fun k => X k ∨ Y k) W W S := by
  obtain ⟨r, sb, sv, own, B, kp, xs⟩ := h
  refine ⟨r, sb, fun k hk => ⟨(sv k hk).1, fun h => ?_⟩, own, B, fun k hk => ?_, fun k hk => ?_⟩
  · rcases h with h | h
    · exact (sv k hk).2 h
    · exact (hY k h).2.2 hk
  · rcases hk with h | h
    · exact ⟨(kp k h).1, rfl⟩
    · exact ⟨(hY k h).1, rfl⟩
  · rcases hk with h | h
    · exact xs k h
    · exact (hY k h).2.1
theorem KS.less (h : KS Rep w a L T v X ws W S) (ws' : World) : KS Rep w a L T v (fun _ => False) ws' W S := by
  obtain ⟨r, sb, sv, own, B, kp, xs⟩ := h
  exact ⟨r, sb, fun k hk => ⟨(sv k hk).1, fun h => h⟩, own, B, fun _ h => h.elim, fun _ h => h.elim⟩
/-- One more that is told. -/
theorem KS.snoc (hC : BookIs Rep fD fP fL) (h : KS Rep w a L T v X ws W S) {p : Int × Int} {o : Obj} {g' cap' : Nat} {W4 : World}
    (own' : W4.ownsRow w.heap.size 52 2 (.slice (some ⟨g', 0, none⟩) (T.length + 1) cap') (T.length + 1) (pairCells T ++ [.int .i64 p.1, .int .i64 p.2]))
    (grow' : (W.alloc o).grownBy W4 v.ownBlock) (hg' : v.ownBlock = some g' ∨ g' = W.heap.size + 1) : KS Rep w a L (T ++ [p]) (.slice (some ⟨g', 0, none⟩) (T.length + 1) cap') X ws W4 S := by
  obtain ⟨r, sb, sv, own, B, kp, xs⟩ := h
  have on1 := only_alloc W o
  have on2 := only_grown grow'
  refine ⟨hC.keep (hC.keep r on1 (fun _ _ h => h)) on2 (fun k hk h => (sv k h).1 hk), sb, ?_, ?_, ?_, ?_, xs⟩
  · intro k hk
    simp [Value.ownBlock] at hk
    subst hk
    rcases hg' with h | h
    · exact sv _ h
    · exact ⟨fun hS => by have := hC.lt r _ hS; omega, fun hX => by have := (kp _ hX).1; omega⟩
  · rw [List.length_append, pairCells_append]; exact own'
  · exact (B.alloc B.size _).grown grow' (by have := B.size; simp; omega) (fun g hg => (own.lt g hg).1)
  · intro k hk
    obtain ⟨h1, h2⟩ := kp k hk
    have e1 := on1.block k h1 (fun h => h)
    have hlt : k < (W.alloc o).heap.size := Nat.lt_of_lt_of_le h1 on1.size
    have e2 := on2.block k hlt (fun h => (sv k h).2 hk)
    exact ⟨Nat.lt_of_lt_of_le hlt on2.size, e2.trans (e1.trans h2)⟩
end
end Go.Proofs.Ytbljokilfkodfaa
/-
  The law Kept, out of what is said of a book.
-/
namespace Go.Proofs.Ytbljokilfkodfaa
open Go.RowKit

theorem infoTold : (Try.prog.info? 52).map (fun i => (i.zero, i.size, i.bytes)) = some (some (.agg #[.int .i64 0, .int .i64 0]), 2, 16) := by kernel_rfl
theorem new2 (W : World) (g : Nat) (hg : g = W.heap.size) (T : TypeId) (v0 v1 : Value) : ∀ (j : Nat) (u : Value), [v0, v1][j]? = some u → (W.alloc (.cells #[v0, v1] T)).cell? ((⟨g, 0, none⟩ : Addr).add j) = some u := by
  subst hg
  intro j u hj
  match j, hj with
  | 0, hj => simp at hj; subst hj; simp [Addr.add]
  | 1, hj => simp at hj; subst hj; simp [Addr.add]
theorem one2 (a b : Int) : ∀ u ∈ [Value.int .i64 a, .int .i64 b], u.oneCell' = true := by
  intro u hu
  simp at hu
  rcases hu with rfl | rfl <;> rfl

theorem bLeft_bound {L : List Od} (h : BookOk L) (id : Int) : 0 ≤ (bLeft L id).1 ∧ (bLeft L id).1 ≤ 99 := by
  unfold bLeft
  cases hf : bFind L id with
  | none => exact ⟨Int.le_refl _, by show (0 : Int) ≤ 99; decide⟩
  | some i =>
    have := (h.each _ (getD_mem (bFind_some hf).1)).2.2.2.2
    exact ⟨by show 0 ≤ (L.getD i od0).q; omega, this.2⟩
/-- What holds ahead of each round. -/
def KInv (Rep : World → Value → (Nat → Prop) → List Od → Prop) (w : World) (a : Addr) (L : List Od) (T : List (Int × Int)) (v : Value) (W : World) : Prop :=
  (∃ S, KS Rep w a L T v (fun _ => False) W W S) ∧ NoCross L ∧ (∀ o ∈ L, look T o.id = o.sd)

set_option maxRecDepth 100000 in
set_option maxHeartbeats 4000000 in
theorem kept_walk {Rep : World → Value → (Nat → Prop) → List Od → Prop} (hC : BookIs Rep 9 42 16) (hN : NewSaid Rep 8)
    (xa : Option Addr) (n cap : Nat) (K C I S P Q : Nat → Int) (w : World) (hn : n ≤ 2932031007317) (hrg : ∀ j, j < n → -9223372036854775808 ≤ I j ∧ I j ≤ 9223372036854775807)
    (h0 : 0 < n → ∃ b off, xa = some ⟨b, off, none⟩ ∧ b < w.heap.size ∧ ∀ j, j < n → w.cell? ⟨b, off + j * 6, none⟩ = some (.int .i64 (K j)) ∧ w.cell? ⟨b, off + j * 6 + 1, none⟩ = some (.int .i64 (C j)) ∧ w.cell? ⟨b, off + j * 6 + 2, none⟩ = some (.int .i64 (I j)) ∧ w.cell? ⟨b, off + j * 6 + 3, none⟩ = some (.int .i64 (S j)) ∧ w.cell? ⟨b, off + j * 6 + 4, none⟩ = some (.int .i64 (P j)) ∧ w.cell? ⟨b, off + j * 6 + 5, none⟩ = some (.int .i64 (Q j))) :
    Calls Try.prog 4 #[.slice xa n cap] w fun e w' => e = .returned (.bool true) ∧ Below w.heap.size w w' := by
  obtain ⟨i0, hi, hz0, hz1, hz2⟩ := info_parts infoTold
  have HRG : Hid (∀ j, j < n → -9223372036854775808 ≤ I j ∧ I j ≤ 9223372036854775807) := hrg
  clear hrg
  have H0 : Hid (0 < n → ∃ b off, xa = some ⟨b, off, none⟩ ∧ b < w.heap.size ∧ ∀ j, j < n → ∀ W, Below w.heap.size w W → W.cell? ⟨b, off + j * 6, none⟩ = some (.int .i64 (K j)) ∧ W.cell? ⟨b, off + j * 6 + 1, none⟩ = some (.int .i64 (C j)) ∧ W.cell? ⟨b, off + j * 6 + 2, none⟩ = some (.int .i64 (I j)) ∧ W.cell? ⟨b, off + j * 6 + 3, none⟩ = some (.int .i64 (S j)) ∧ W.cell? ⟨b, off + j * 6 + 4, none⟩ = some (.int .i64 (P j)) ∧ W.cell? ⟨b, off + j * 6 + 5, none⟩ = some (.int .i64 (Q j))) := fun hp => by
    obtain ⟨b, off, hx, hb, h⟩ := h0 hp
    refine ⟨b, off, hx, hb, fun j hj W hW => ?_⟩
    obtain ⟨h0, h1, h2, h3, h4, h5⟩ := h j hj
    obtain ⟨hc, _⟩ := bcell hW
    exact ⟨(hc b _ hb).trans h0, (hc b _ hb).trans h1, (hc b _ hb).trans h2, (hc b _ hb).trans h3, (hc b _ hb).trans h4, (hc b _ hb).trans h5⟩
  clear h0
  go_enter Try.func4, Try.ntmps4
  go_wp2_with fail
  refine (hN _).mono ?_
  rintro e w1 ⟨a, S0, rfl, rC, B1, s0⟩
  have I0 : Hid (KInv Rep w a [] [] (.slice none 0 0) w1) := ⟨⟨S0, rC, s0, fun k hk => by simp [Value.ownBlock] at hk, World.ownsRow_nil _ _ _ _, B1, fun _ h => h.elim, fun _ h => h.elim⟩, NoCross.nil, fun o ho => (nomatch ho)⟩
  clear rC B1 s0
  go_wp2_with fail
  go_loopw [4, 5] (fun v i wr => ∃ (k : Nat) (T : List (Int × Int)), k ≤ n ∧ i = .int .i64 (k : Int) ∧ T.length ≤ k ∧ KInv Rep w a (stepsTo K C I S P Q k) T v wr) (fun _ i _ => n - (intOf i).toNat)
  case atStart => exact ⟨0, [], Nat.zero_le _, rfl, Nat.zero_le _, I0.out⟩
  case round =>
    obtain ⟨k, T, hk, rfl, hTk, ⟨S1, hks⟩, hnc, hlook⟩ := hrel
    have okL := stepsTo_ok K C I S P Q k
    obtain ⟨x4, c4, rfl⟩ := owned_form' hks.2.2.2.1
    have HK1 : Hid (KS Rep w a (stepsTo K C I S P Q k) T (.slice x4 T.length c4) (fun _ => False) wr wr S1) := hks
    have HNC : Hid (NoCross (stepsTo K C I S P Q k)) := hnc
    have HLK : Hid (∀ o ∈ stepsTo K C I S P Q k, look T o.id = o.sd) := hlook
    clear hks hnc hlook I0
    by_cases hkn : k < n
    · have hki : (k : Int) < (n : Int) := by omega
      have hbig : (k : Int) < 1152921504606846976 := by omega
      obtain ⟨b, off, hxa, hb, h0⟩ := H0.out (by omega)
      subst hxa
      have B := HK1.out.2.2.2.2.1
      obtain ⟨c0, c1, c2, c3, c4', c5⟩ := h0 k hkn wr B
      clear h0
      obtain ⟨c, hc⟩ : ∃ c : Cm, c = ⟨K k, C k, I k, S k, P k, Q k⟩ := ⟨_, rfl⟩
      have HNX : Hid (stepsTo K C I S P Q (k + 1) = (bDo (stepsTo K C I S P Q k) c).2) := by rw [hc]; rfl
      rw [show K k = c.k by rw [hc]] at c0
      rw [show C k = c.cl by rw [hc]] at c1
      rw [show I k = c.id by rw [hc]] at c2
      have hir := HRG.out k hkn
      rw [show I k = c.id by rw [hc]] at hir
      have HIR : Hid (-9223372036854775808 ≤ c.id ∧ c.id ≤ 9223372036854775807) := hir
      clear hir
      rw [show S k = c.sd by rw [hc]] at c3
      rw [show P k = c.pr by rw [hc]] at c4'
      rw [show Q k = c.q by rw [hc]] at c5
      clear hc
      obtain ⟨L, hL⟩ : ∃ L, L = stepsTo K C I S P Q k := ⟨_, rfl⟩
      rw [← hL] at HK1 HNC HLK HNX okL
      clear hL
      have ltS := hC.lt HK1.out.1
      -- the step's copy
      obtain ⟨wA, hwA⟩ : ∃ wA, wA = wr.alloc (.cells #[.int .i64 c.k, .int .i64 c.cl, .int .i64 c.id, .int .i64 c.sd, .int .i64 c.pr, .int .i64 c.q] 34) := ⟨_, rfl⟩
      have bA : Below wr.heap.size wr wA := by rw [hwA]; exact (Below.refl _ _).alloc (Nat.le_refl _) _
      have HKA : Hid (KS Rep w a L T (.slice x4 T.length c4) (fun k => k = wr.heap.size) wA wA S1) := by
        have h1 := (HK1.out.below hC bA).more (fun k => k = wr.heap.size) (fun k hk => ⟨by rw [hk, hwA]; simp, fun h => by have := ltS k h; omega, fun h => by have := (HK1.out.2.2.2.1.lt k h).2; omega⟩)
        obtain ⟨r, sb, sv, own, B, kp, xs⟩ := h1
        exact ⟨r, sb, fun k hk => ⟨(sv k hk).1, fun h => (sv k hk).2 (.inr h)⟩, own, B, fun k hk => kp k (.inr hk), fun k hk => xs k (.inr hk)⟩
      have OA : Hid (∀ W, Kp (fun k => k = wr.heap.size) wA W → W.cell? ⟨wr.heap.size, 0, none⟩ = some (.int .i64 c.k) ∧ W.cell? ⟨wr.heap.size, 1, none⟩ = some (.int .i64 c.cl) ∧ W.cell? ⟨wr.heap.size, 2, none⟩ = some (.int .i64 c.id) ∧ W.cell? ⟨wr.heap.size, 3, none⟩ = some (.int .i64 c.sd) ∧ W.cell? ⟨wr.heap.size, 4, none⟩ = some (.int .i64 c.pr) ∧ W.cell? ⟨wr.heap.size, 5, none⟩ = some (.int .i64 c.q)) := fun W hW => by
        refine ⟨(hW.cell rfl).trans ?_, (hW.cell rfl).trans ?_, (hW.cell rfl).trans ?_, (hW.cell rfl).trans ?_, (hW.cell rfl).trans ?_, (hW.cell rfl).trans ?_⟩ <;> (rw [hwA]; simp)
      clear HK1 bA ltS
      obtain ⟨po, hpo⟩ : ∃ po, po = wr.heap.size := ⟨_, rfl⟩
      rw [← hpo] at HKA OA
      go_wp2_with fail
      rw [← hpo, ← hwA]
      clear hwA hpo c0 c1 c2 c3 c4' c5 B
      refine (total_any hC HKA.out.1 okL).mono ?_
      rintro e w2 ⟨S2, rfl, r2, o2, t2⟩
      have HK2 : Hid (KS Rep w a L T (.slice x4 T.length c4) (fun k => k = po) wA w2 S2) := HKA.out.go r2 o2 t2
      clear r2 o2 t2 HKA
      obtain ⟨_, _, d2, _, _, _⟩ := OA.out w2 HK2.out.2.2.2.2.2.1
      go_wp2_with fail
      refine (hC.left c.id HK2.out.1 okL HIR.out.1 HIR.out.2).mono ?_
      rintro e w3 ⟨S3, rfl, r3, o3, t3⟩
      have HK3 : Hid (KS Rep w a L T (.slice x4 T.length c4) (fun k => k = po) wA w3 S3) := HK2.out.go r3 o3 t3
      clear r3 o3 t3 HK2 d2
      obtain ⟨d0, d1, d2, d3, d4, d5⟩ := OA.out w3 HK3.out.2.2.2.2.2.1
      go_wp2_with fail
      refine (command_any _ _ _ _ _ _ _).mono ?_
      rintro e w4 ⟨rfl, b4⟩
      have HK4 : Hid (KS Rep w a L T (.slice x4 T.length c4) (fun k => k = po) wA w4 S3) := HK3.out.below hC b4
      clear HK3 b4 d0 d1 d2 d3 d4 d5
      go_wp2_with fail
      refine (hC.does c HK4.out.1 okL).mono ?_
      rintro e w5 ⟨ev, S5, rfl, row, r5, o5, t5⟩
      have HK5 : Hid (KS Rep w a (bDo L c).2 T (.slice x4 T.length c4) (fun k => k = po) wA w5 S5) := HK4.out.go r5 o5 t5
      obtain ⟨E, hE⟩ : ∃ E, E = (bDo L c).1 := ⟨_, rfl⟩
      have hE1 : 0 < E.length := by rw [hE]; exact bDo_pos' _ _
      have hE2 : E.length ≤ 100 := by rw [hE]; exact bDo_len _ okL
      rw [← hE] at row
      have HE : Hid (E = (bDo L c).1) := hE
      clear hE
      obtain ⟨x5, c5, rfl, row2⟩ := row
      obtain ⟨g, off5, hx5, hge, hglt, hgS, hgc⟩ := row2 hE1
      subst hx5
      have hgown : (Value.slice x4 T.length c4).ownBlock ≠ some g := fun h => by have := (HK4.out.2.2.2.1.lt g h).2; omega
      have ok2 := bDo_ok c okL
      obtain ⟨L', hL'⟩ : ∃ L', L' = (bDo L c).2 := ⟨_, rfl⟩
      rw [← hL'] at HK5 HNX ok2
      have HL' : Hid (L' = (bDo L c).2) := hL'
      clear hL'
      have HK5' : Hid (KS Rep w a L' T (.slice x4 T.length c4) (fun k => k = po ∨ k = g) w5 w5 S5) := HK5.out.more (fun k => k = g) (fun k hk => by subst hk; exact ⟨hglt, hgS, hgown⟩)
      have OC : Hid (∀ W, Kp (fun k => k = po ∨ k = g) w5 W → (W.cell? ⟨po, 0, none⟩ = some (.int .i64 c.k) ∧ W.cell? ⟨po, 1, none⟩ = some (.int .i64 c.cl) ∧ W.cell? ⟨po, 2, none⟩ = some (.int .i64 c.id) ∧ W.cell? ⟨po, 3, none⟩ = some (.int .i64 c.sd) ∧ W.cell? ⟨po, 4, none⟩ = some (.int .i64 c.pr) ∧ W.cell? ⟨po, 5, none⟩ = some (.int .i64 c.q)) ∧ (W.cell? ⟨g, off5, none⟩ = some (.int .i64 (E.getD 0 ev0).k) ∧ W.cell? ⟨g, off5 + 1, none⟩ = some (.int .i64 (E.getD 0 ev0).cl) ∧ W.cell? ⟨g, off5 + 2, none⟩ = some (.int .i64 (E.getD 0 ev0).id)) ∧ IsRow W 0 (fun _ => False) 6 (.slice (some ⟨g, off5, none⟩) E.length c5) E.length (evZ E)) := fun W hW => by
        obtain ⟨d0, d1, d2, d3, d4, d5⟩ := OA.out w5 HK5.out.2.2.2.2.2.1
        refine ⟨⟨(hW.cell (.inl rfl)).trans d0, (hW.cell (.inl rfl)).trans d1, (hW.cell (.inl rfl)).trans d2, (hW.cell (.inl rfl)).trans d3, (hW.cell (.inl rfl)).trans d4, (hW.cell (.inl rfl)).trans d5⟩, ⟨(hW.cell (.inr rfl)).trans ?_, (hW.cell (.inr rfl)).trans ?_, (hW.cell (.inr rfl)).trans ?_⟩, hW.row (.inr rfl) hgc⟩
        · have := (hgc 0 0 hE1 (by omega)).1; rwa [Nat.zero_mul, Nat.add_zero] at this
        · have := (hgc 0 1 hE1 (by omega)).1; rwa [Nat.zero_mul, Nat.add_zero] at this
        · have := (hgc 0 2 hE1 (by omega)).1; rwa [Nat.zero_mul, Nat.add_zero] at this
      clear HK4 HK5 OA row2 hgown hge hglt hgS hgc r5 o5 t5
      go_wp2_with fail
      refine (total_any hC HK5'.out.1 ok2).mono ?_
      rintro e w6 ⟨S6, rfl, r6, o6, t6⟩
      have HK6 : Hid (KS Rep w a L' T (.slice x4 T.length c4) (fun k => k = po ∨ k = g) w5 w6 S6) := HK5'.out.go r6 o6 t6
      clear r6 o6 t6 HK5'
      obtain ⟨⟨d0, d1, d2, d3, d4, d5⟩, ⟨e0, e1, e2⟩, _⟩ := OC.out w6 HK6.out.2.2.2.2.2.1
      have hEi : (0 : Int) < (E.length : Int) := by omega
      have hEb : ((E.length : Int) == 0) = false := beq_eq_false_iff_ne.2 (by omega)
      have HK7 := fun nq : Nat => HK6.out.below hC (below_drewN (Below.refl w6.heap.size w6) nq)
      have HK7' : Hid (∀ nq, KS Rep w a L' T (.slice x4 T.length c4) (fun k => k = po ∨ k = g) w5 (w6.drewN nq) S6) := HK7
      clear HK7 HK6
      by_cases hr : bRefused L c = 0
      · have DK := do_kept okL HNC.out c (look T) HLK.out hr
        rw [← HE.out, ← HL'.out] at DK
        have HEV : Hid (∀ e ∈ E, EvOk e) := by rw [HE.out]; exact do_evs okL c hr
        have hfair : fairB c.k c.cl c.id c.sd c.pr c.q = true := fair_of_taken hr
        have hfp := fair_parts (c := c) hfair
        obtain ⟨E', hE'⟩ := do_taken hr
        rw [← HE.out] at hE'
        have hek : (E.getD 0 ev0).k = 1 := by rw [hE']; rfl
        have hecl : (E.getD 0 ev0).cl = c.cl := by rw [hE']; rfl
        have heid : (E.getD 0 ev0).id = c.id := by rw [hE']; rfl
        rw [hek] at e0
        rw [hecl] at e1
        rw [heid] at e2
        have HNC2 : Hid (NoCross L') := DK.cross
        have hleft : 0 ≤ (bLeft L c.id).1 ∧ (bLeft L c.id).1 ≤ 99 := bLeft_bound okL _
        have htl := wsum_bnd (fun _ => true) okL.each
        have htl' := wsum_bnd (fun _ => true) ok2.each
        have hlen := okL.len
        have hlen' := ok2.len
        have htot : 0 ≤ tot L ∧ tot L ≤ 1188 := ⟨htl.1, by have : tot L ≤ 99 * (L.length : Int) := htl.2; omega⟩
        have htot' : 0 ≤ tot L' ∧ tot L' ≤ 1188 := ⟨htl'.1, by have : tot L' ≤ 99 * (L'.length : Int) := htl'.2; omega⟩
        have b3 := evSum_bound 3 c.id HEV.out
        have b5 := evSum_bound 5 c.id HEV.out
        have b6 := evSum_bound 6 c.id HEV.out
        have HDK : Hid (DoKept L c (look T) E L') := DK
        have HSD : Hid (c.k = 5 ∨ c.k = 6 → 1 ≤ look T c.id ∧ look T c.id ≤ 2) := fun h56 => by
          unfold bRefused at hr
          rw [if_pos (show cmFair c = true from hfair), if_pos h56] at hr
          cases hfd : bFind L c.id with
          | none => rw [hfd] at hr; simp at hr
          | some i =>
            obtain ⟨hil, hid⟩ := bFind_some hfd
            rw [← hid, HLK.out _ (getD_mem hil)]
            exact (okL.each _ (getD_mem hil)).2.2.1
        have Hecl : Hid ((E.getD 0 ev0).cl = c.cl) := hecl
        clear DK htl htl' hE' hecl heid
        go_wp2
        go_quiet (fail)
        go_wp2_with fail
        refine (crossed_any hC (HK7'.out nq).1 ok2 HNC2.out).mono ?_
        rintro e w8 ⟨S8, rfl, r8, o8, t8⟩
        have HK8 : Hid (KS Rep w a L' T (.slice x4 T.length c4) (fun k => k = po ∨ k = g) w5 w8 S8) := (HK7'.out nq).go r8 o8 t8
        clear r8 o8 t8 HK7' d0 d1 d2 d3 d4 d5 e0 e1 e2
        obtain ⟨⟨d0, d1, d2, d3, d4, d5⟩, ⟨e0, e1, e2⟩, _⟩ := OC.out w8 HK8.out.2.2.2.2.2.1
        rw [hek] at e0
        by_cases h5 : c.k = 5
        · have hkb5 : (c.k == 5) = true := by simp [h5]
          as_aux_lemma =>
            rw [h5] at hfair d0
            have hside : 1 ≤ look T c.id ∧ look T c.id ≤ 2 := HSD.out (.inl h5)
            obtain ⟨side, hsd⟩ : ∃ sd, sd = look T c.id := ⟨_, rfl⟩
            have HTR : Hid (kTrades c.id c.pr side 0 E) := by have := HDK.out.trades; rw [if_pos (.inl h5), ← hsd] at this; exact this
            have hsdb : 1 ≤ side ∧ side ≤ 2 := by rw [hsd]; exact hside
            have hcan := HDK.out.cancel h5
            have HLK2 : Hid (∀ o ∈ L', look T o.id = o.sd) := fun o ho => by have := HDK.out.sides o ho; rwa [if_pos (.inl h5)] at this
            clear hside
            go_wp2_with fail
            refine (sideOf_any HK8.out.2.2.2.1 (by omega) c.id).mono ?_
            rintro e wx ⟨rfl, rfl⟩
            rw [← hsd]
            clear hsd
            obtain ⟨T', hT'⟩ : ∃ T', T' = T := ⟨_, rfl⟩
            subst hT'
            obtain ⟨Sx, hSx⟩ : ∃ Sx, Sx = S8 := ⟨_, rfl⟩
            subst hSx
            have HKx := HK8
            clear HK8 d0 d1 d2 d3 d4 d5 e0 e1 e2
            obtain ⟨⟨d0, d1, d2, d3, d4, d5⟩, _, _⟩ := OC.out wx HKx.out.2.2.2.2.2.1
            go_wp2_with fail
            refine (command_any _ _ _ _ _ _ _).mono ?_
            rintro e wy ⟨rfl, by1⟩
            clear d0 d1 d2 d3 d4 d5
            go_wp2_with fail
            refine (plain_any _ _ _ _ _ _ _).mono ?_
            rintro e wz ⟨rfl, bz⟩
            go_wp2_with fail
            refine (rfair_any _ _ _ _ _ _ _).mono ?_
            rintro e wf ⟨rfl, bf⟩
            have HKf : Hid (KS Rep w a L' T' (.slice x4 T'.length c4) (fun k => k = po ∨ k = g) w5 wf Sx) := ((HKx.out.below hC by1).below hC bz).below hC bf
            clear by1 bz bf HKx
            obtain ⟨⟨d0, d1, d2, d3, d4, d5⟩, _, rowf⟩ := OC.out wf HKf.out.2.2.2.2.2.1
            go_wp2_with fail
            refine (trades_any hE2 rowf _ _ c.id _ c.pr _ side HTR.out hsdb).mono ?_
            rintro e wt ⟨rfl, bt⟩
            have HKt : Hid (KS Rep w a L' T' (.slice x4 T'.length c4) (fun k => k = po ∨ k = g) w5 wt Sx) := HKf.out.below hC bt
            clear d0 d1 d2 d3 d4 d5 rowf bt HKf
            obtain ⟨⟨d0, d1, d2, d3, d4, d5⟩, ⟨e0, e1, e2⟩, rowt⟩ := OC.out wt HKt.out.2.2.2.2.2.1
            rw [hek] at e0
            go_wp2_with fail
            refine (sum_any HEV.out hE2 rowt 3 c.id).mono ?_
            rintro e wt1 ⟨rfl, rfl⟩
            go_wp2_with fail
            refine (sum_any HEV.out hE2 rowt 6 c.id).mono ?_
            rintro e wt2 ⟨rfl, rfl⟩
            go_wp2_with fail
            refine (sum_any HEV.out hE2 rowt 5 c.id).mono ?_
            rintro e wt3 ⟨rfl, rfl⟩
            clear rowt
            obtain ⟨k3, k6, k5, kt⟩ := hcan
            go_wp2
            exact ⟨⟨k + 1, T', by omega, by go_num, by omega, by rw [HNX.out]; exact ⟨⟨Sx, HKt.out.less wt3⟩, HNC2.out, HLK2.out⟩⟩, by simp [intOf]; omega⟩
        · by_cases h6 : c.k = 6
          · have hkb5 : (c.k == 5) = false := by simp [h5]
            as_aux_lemma =>
              have hkb6 : (c.k == 6) = true := by simp [h6]
              rw [h6] at hfair d0
              have hside : 1 ≤ look T c.id ∧ look T c.id ≤ 2 := HSD.out (.inr h6)
              obtain ⟨side, hsd⟩ : ∃ sd, sd = look T c.id := ⟨_, rfl⟩
              have HTR : Hid (kTrades c.id c.pr side 0 E) := by have := HDK.out.trades; rw [if_pos (.inr h6), ← hsd] at this; exact this
              have hsdb : 1 ≤ side ∧ side ≤ 2 := by rw [hsd]; exact hside
              have HRP : Hid _ := HDK.out.replace h6
              have HLK2 : Hid (∀ o ∈ L', look T o.id = o.sd) := fun o ho => by have := HDK.out.sides o ho; rwa [if_pos (.inr h6)] at this
              clear hside h5
              go_wp2_with fail
              refine (sideOf_any HK8.out.2.2.2.1 (by omega) c.id).mono ?_
              rintro e wx ⟨rfl, rfl⟩
              rw [← hsd]
              clear hsd
              obtain ⟨T', hT'⟩ : ∃ T', T' = T := ⟨_, rfl⟩
              subst hT'
              obtain ⟨Sx, hSx⟩ : ∃ Sx, Sx = S8 := ⟨_, rfl⟩
              subst hSx
              have HKx := HK8
              clear HK8 d0 d1 d2 d3 d4 d5 e0 e1 e2
              obtain ⟨⟨d0, d1, d2, d3, d4, d5⟩, _, _⟩ := OC.out wx HKx.out.2.2.2.2.2.1
              go_wp2_with fail
              refine (command_any _ _ _ _ _ _ _).mono ?_
              rintro e wy ⟨rfl, by1⟩
              clear d0 d1 d2 d3 d4 d5
              go_wp2_with fail
              refine (plain_any _ _ _ _ _ _ _).mono ?_
              rintro e wz ⟨rfl, bz⟩
              go_wp2_with fail
              refine (rfair_any _ _ _ _ _ _ _).mono ?_
              rintro e wf ⟨rfl, bf⟩
              have HKf : Hid (KS Rep w a L' T' (.slice x4 T'.length c4) (fun k => k = po ∨ k = g) w5 wf Sx) := ((HKx.out.below hC by1).below hC bz).below hC bf
              clear by1 bz bf HKx
              obtain ⟨⟨d0, d1, d2, d3, d4, d5⟩, _, rowf⟩ := OC.out wf HKf.out.2.2.2.2.2.1
              go_wp2_with fail
              refine (trades_any hE2 rowf _ _ c.id _ c.pr _ side HTR.out hsdb).mono ?_
              rintro e wt ⟨rfl, bt⟩
              have HKt : Hid (KS Rep w a L' T' (.slice x4 T'.length c4) (fun k => k = po ∨ k = g) w5 wt Sx) := HKf.out.below hC bt
              clear d0 d1 d2 d3 d4 d5 rowf bt HKf
              obtain ⟨⟨d0, d1, d2, d3, d4, d5⟩, ⟨e0, e1, e2⟩, rowt⟩ := OC.out wt HKt.out.2.2.2.2.2.1
              rw [hek] at e0
              go_wp2_with fail
              refine (sum_any HEV.out hE2 rowt 3 c.id).mono ?_
              rintro e wt1 ⟨rfl, rfl⟩
              go_wp2_with fail
              refine (sum_any HEV.out hE2 rowt 6 c.id).mono ?_
              rintro e wt2 ⟨rfl, rfl⟩
              go_wp2_with fail
              refine (sum_any HEV.out hE2 rowt 5 c.id).mono ?_
              rintro e wt3 ⟨rfl, rfl⟩
              clear rowt
              obtain ⟨t3, ht3⟩ : ∃ t, t = evSum 3 c.id E := ⟨_, rfl⟩
              obtain ⟨t6, ht6⟩ : ∃ t, t = evSum 6 c.id E := ⟨_, rfl⟩
              obtain ⟨t5, ht5⟩ : ∃ t, t = evSum 5 c.id E := ⟨_, rfl⟩
              rw [← ht3] at b3
              rw [← ht6] at b6
              rw [← ht5] at b5
              obtain ⟨k1, k2, kt⟩ := HRP.out
              rw [← ht3, ← ht6] at k1 kt
              rw [← ht5] at k2
              rw [← ht5]
              have hq : c.q = t3 + t6 := k1.symm
              have H3 : Hid (evSum 3 c.id E = t3) := ht3.symm
              have H6 : Hid (evSum 6 c.id E = t6) := ht6.symm
              simp only [← ht3, ← ht6]
              clear ht3 ht6 ht5 H3 H6 k1
              go_wp2
              exact ⟨⟨k + 1, T', by omega, by go_num, by omega, by rw [HNX.out]; exact ⟨⟨Sx, HKt.out.less wt3⟩, HNC2.out, HLK2.out⟩⟩, by simp [intOf]; omega⟩
          · have hkb5 : (c.k == 5) = false := by simp [h5]
            as_aux_lemma =>
              have hkb6 : (c.k == 6) = false := by simp [h6]
              have hk56 : ¬ (c.k = 5 ∨ c.k = 6) := by omega
              have HTR : Hid (kTrades c.id c.pr c.sd 0 E) := by have := HDK.out.trades; rw [if_neg hk56] at this; exact this
              have hsdb : 1 ≤ c.sd ∧ c.sd ≤ 2 := (hfp.2 h5 h6).1
              have HOT : Hid _ := HDK.out.other h5 h6
              have HQ1 : Hid (1 ≤ c.q) := (hfp.2 h5 h6).2.1.1
              have HLK2 : Hid (∀ o ∈ L', look (T ++ [(c.id, c.sd)]) o.id = o.sd) := fun o ho => by
                have := HDK.out.sides o ho
                rw [if_neg hk56] at this
                rw [look_snoc]
                by_cases hid : o.id = c.id
                · rw [if_pos hid] at this; rw [if_pos hid.symm]; exact this
                · rw [if_neg hid] at this; rw [if_neg (fun h => hid h.symm)]; exact this
              have hb8 := HK8.out.2.2.2.2.1.size
              clear hk56 h5 h6
              go_wp2_with (at_builtin; refine wpList_append_lies _ rfl (.tmp 102) (.tmp 108) 42 rfl w.heap.size 52 i0 _ 2 16 Try.underlying42 hi hz0 hz1 hz2 rfl (by decide) _ _ _ rfl (HK8.out.2.2.2.1.alloc _) ⟨w8.heap.size, 0, none⟩ 1 1 [.int .i64 c.id, .int .i64 c.sd] rfl rfl ?c1 ?c2 (by decide) ?c3 ?c4 ?c5 (w8.heap.size + 1) (by simp) ?_)
              case c1 => exact new2 _ _ rfl _ _ _
              case c2 => exact one2 _ _
              case c3 => unfold maxLen; omega
              case c4 => omega
              case c5 => simp; omega
              · intro g' cap' wx own' grow' hg' _
                have HKx : Hid (KS Rep w a L' (T ++ [(c.id, c.sd)]) (.slice (some ⟨g', 0, none⟩) (T.length + 1) cap') (fun k => k = po ∨ k = g) w5 wx S8) := HK8.out.snoc hC (p := (c.id, c.sd)) own' grow' hg'
                clear own' grow' hg' HK8 d0 d1 d2 d3 d4 d5 e0 e1 e2
                obtain ⟨⟨d0, d1, d2, d3, d4, d5⟩, _, _⟩ := OC.out wx HKx.out.2.2.2.2.2.1
                go_wp2_with fail
                refine (command_any _ _ _ _ _ _ _).mono ?_
                rintro e wy ⟨rfl, by1⟩
                clear d0 d1 d2 d3 d4 d5
                go_wp2_with fail
                refine (plain_any _ _ _ _ _ _ _).mono ?_
                rintro e wz ⟨rfl, bz⟩
                go_wp2_with fail
                refine (rfair_any _ _ _ _ _ _ _).mono ?_
                rintro e wf ⟨rfl, bf⟩
                have HKf : Hid (KS Rep w a L' (T ++ [(c.id, c.sd)]) (.slice (some ⟨g', 0, none⟩) (T.length + 1) cap') (fun k => k = po ∨ k = g) w5 wf S8) := ((HKx.out.below hC by1).below hC bz).below hC bf
                clear by1 bz bf HKx
                obtain ⟨⟨d0, d1, d2, d3, d4, d5⟩, _, rowf⟩ := OC.out wf HKf.out.2.2.2.2.2.1
                go_wp2_with fail
                refine (trades_any hE2 rowf _ _ c.id _ c.pr _ c.sd HTR.out hsdb).mono ?_
                rintro e wt ⟨rfl, bt⟩
                have HKt : Hid (KS Rep w a L' (T ++ [(c.id, c.sd)]) (.slice (some ⟨g', 0, none⟩) (T.length + 1) cap') (fun k => k = po ∨ k = g) w5 wt S8) := HKf.out.below hC bt
                clear d0 d1 d2 d3 d4 d5 rowf bt HKf
                obtain ⟨⟨d0, d1, d2, d3, d4, d5⟩, ⟨e0, e1, e2⟩, rowt⟩ := OC.out wt HKt.out.2.2.2.2.2.1
                rw [hek] at e0
                go_wp2_with fail
                refine (sum_any HEV.out hE2 rowt 3 c.id).mono ?_
                rintro e wt1 ⟨rfl, rfl⟩
                go_wp2_with fail
                refine (sum_any HEV.out hE2 rowt 6 c.id).mono ?_
                rintro e wt2 ⟨rfl, rfl⟩
                go_wp2_with fail
                refine (sum_any HEV.out hE2 rowt 5 c.id).mono ?_
                rintro e wt3 ⟨rfl, rfl⟩
                clear rowt
                obtain ⟨t3, ht3⟩ : ∃ t, t = evSum 3 c.id E := ⟨_, rfl⟩
                obtain ⟨t6, ht6⟩ : ∃ t, t = evSum 6 c.id E := ⟨_, rfl⟩
                obtain ⟨t5, ht5⟩ : ∃ t, t = evSum 5 c.id E := ⟨_, rfl⟩
                rw [← ht3] at b3
                rw [← ht6] at b6
                rw [← ht5] at b5
                obtain ⟨k1, kt, k6, k4⟩ := HOT.out
                rw [← ht3, ← ht6, ← ht5] at k1
                rw [← ht3, ← ht6] at kt
                rw [← ht6] at k6
                rw [← ht3] at k4
                rw [← ht5]
                simp only [← ht3, ← ht6]
                clear ht3 ht6 ht5
                have HK6 : Hid (c.k ≠ 1 → t6 = 0) := k6
                have HK4 : Hid (c.k = 4 → t3 = 0 ∨ t3 = c.q) := k4
                have HQ : Hid (t3 + t6 + t5 = c.q) := k1
                rw [show c.q = t3 + t6 + t5 from k1.symm] at d5
                clear k1 k6 k4
                by_cases hk1 : c.k = 1
                · have hkb1 : (c.k == 1) = true := by simp [hk1]
                  have hkb4 : (c.k == 4) = false := by simp; omega
                  have hkn1 : (c.k != 1) = false := by simp [hk1]
                  clear hk1
                  by_cases h6 : 0 < t6
                  · have h6d : decide ((0 : Int) < t6) = true := decide_eq_true h6
                    as_aux_lemma =>
                      go_wp2
                      all_goals exact ⟨⟨k + 1, T ++ [(c.id, c.sd)], by omega, by go_num, by simp; omega, by rw [HNX.out]; exact ⟨⟨S8, HKt.out.less wt3⟩, HNC2.out, HLK2.out⟩⟩, by simp [intOf]; omega⟩
                  · have h6d : decide ((0 : Int) < t6) = false := decide_eq_false h6
                    as_aux_lemma =>
                      go_wp2
                      all_goals exact ⟨⟨k + 1, T ++ [(c.id, c.sd)], by omega, by go_num, by simp; omega, by rw [HNX.out]; exact ⟨⟨S8, HKt.out.less wt3⟩, HNC2.out, HLK2.out⟩⟩, by simp [intOf]; omega⟩
                · have hkb1 : (c.k == 1) = false := by simp [hk1]
                  have h60 : t6 = 0 := HK6.out hk1
                  subst h60
                  clear hk1
                  by_cases hk4 : c.k = 4
                  · have hkb4 : (c.k == 4) = true := by simp [hk4]
                    rcases HK4.out hk4 with h30 | h30
                    · subst h30
                      clear hk4
                      as_aux_lemma =>
                        go_wp2
                        all_goals exact ⟨⟨k + 1, T ++ [(c.id, c.sd)], by omega, by go_num, by simp; omega, by rw [HNX.out]; exact ⟨⟨S8, HKt.out.less wt3⟩, HNC2.out, HLK2.out⟩⟩, by simp [intOf]; omega⟩
                    · have h50 : t5 = 0 := by have := HQ.out; omega
                      have hz3 : (t3 == 0) = false := by
                        have := HQ.out
                        have := HQ1.out
                        simp
                        omega
                      subst h50
                      have hq3 : (t3 != t3 + 0 + 0) = false := by simp
                      have hn3 : (t3 != 0) = true := by
                        have := HQ.out
                        have := HQ1.out
                        simp
                        omega
                      clear hk4 h30
                      as_aux_lemma =>
                        go_wp2
                        all_goals exact ⟨⟨k + 1, T ++ [(c.id, c.sd)], by omega, by go_num, by simp; omega, by rw [HNX.out]; exact ⟨⟨S8, HKt.out.less wt3⟩, HNC2.out, HLK2.out⟩⟩, by simp [intOf]; omega⟩
                  · have hkb4 : (c.k == 4) = false := by simp [hk4]
                    clear hk4
                    as_aux_lemma =>
                      go_wp2
                      all_goals exact ⟨⟨k + 1, T ++ [(c.id, c.sd)], by omega, by go_num, by simp; omega, by rw [HNX.out]; exact ⟨⟨S8, HKt.out.less wt3⟩, HNC2.out, HLK2.out⟩⟩, by simp [intOf]; omega⟩
      · have hbd := do_refused hr
        as_aux_lemma =>
          have hEE : E = [evRejected c (bRefused L c)] := by rw [HE.out, hbd]
          have hLL0 : L' = L := by rw [HL'.out, hbd]
          have hEl : E.length = 1 := by rw [hEE]; rfl
          have hek : (E.getD 0 ev0).k = 2 := by rw [hEE]; rfl
          have hecl : (E.getD 0 ev0).cl = c.cl := by rw [hEE]; rfl
          have heid : (E.getD 0 ev0).id = c.id := by rw [hEE]; rfl
          rw [hek] at e0
          rw [hecl] at e1
          rw [heid] at e2
          have HNC2 : Hid (NoCross L') := by rw [hLL0]; exact HNC.out
          have HLK2 : Hid (∀ o ∈ L', look T o.id = o.sd) := by rw [hLL0]; exact HLK.out
          have HTT0 : tot L' = tot L := by rw [hLL0]
          clear hEE hbd hLL0 hecl heid
          go_wp2
          go_quiet (fail)
          go_wp2_with fail
          refine (crossed_any hC (HK7'.out nq).1 ok2 HNC2.out).mono ?_
          rintro e w8 ⟨S8, rfl, r8, o8, t8⟩
          have HK8 : Hid (KS Rep w a L' T (.slice x4 T.length c4) (fun k => k = po ∨ k = g) w5 w8 S8) := (HK7'.out nq).go r8 o8 t8
          clear r8 o8 t8 HK7' d0 d1 d2 d3 d4 d5 e0 e1 e2
          obtain ⟨⟨d0, d1, d2, d3, d4, d5⟩, ⟨e0, e1, e2⟩, _⟩ := OC.out w8 HK8.out.2.2.2.2.2.1
          rw [hek] at e0
          go_wp2
          exact ⟨⟨k + 1, T, by omega, by go_num, by omega, by rw [HNX.out]; exact ⟨⟨S8, HK8.out.less w8⟩, HNC2.out, HLK2.out⟩⟩, by simp [intOf]; omega⟩
    · have B := HK1.out.2.2.2.2.1
      as_aux_lemma =>
        have hki : decide ((k : Int) < (n : Int)) = false := decide_eq_false (by omega)
        go_wp2_with fail
        refine (alive_any hC hN _).mono ?_
        rintro e w3 ⟨rfl, b3⟩
        go_wp2
        go_ret
        go_light
        exact ⟨rfl, bstep B b3⟩
end Go.Proofs.Ytbljokilfkodfaa
