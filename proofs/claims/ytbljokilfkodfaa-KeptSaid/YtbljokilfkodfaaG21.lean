/-
  The levels of a side: Push, Pop.
-/
import Derived.Test.YtbljokilfkodfaaG20
import Derived.Deep.RegionLaw
import Derived.Deep.AppendLies
namespace Go.Proofs.Ytbljokilfkodfaa
open Go.RowKit

/-- Of a side's own block only the row's cell may have turned. -/
def PbKeep (b o : Nat) (w w' : World) : Prop := (∀ i, i ≠ o + 1 → w'.cell? ⟨b, i, none⟩ = w.cell? ⟨b, i, none⟩) ∧ ∀ i, w'.frozen? ⟨b, i, none⟩ = w.frozen? ⟨b, i, none⟩
theorem PbKeep.trans {b o : Nat} {u v w : World} (h : PbKeep b o u v) (k : PbKeep b o v w) : PbKeep b o u w := ⟨fun i hi => (k.1 i hi).trans (h.1 i hi), fun i => (k.2 i).trans (h.2 i)⟩
theorem PbKeep.of_only {b o : Nat} {T : Nat → Prop} {w w' : World} (h : Only T w w') (hb : b < w.heap.size) (hT : ¬ T b) : PbKeep b o w w' := ⟨fun _ _ => h.cell hb hT, fun _ => h.frozen hb hT⟩
theorem PbKeep.set (w : World) (b o : Nat) (v : Value) : PbKeep b o w (w.setCell ⟨b, o + 1, none⟩ v) :=
  ⟨fun i hi => World.cell?_setCell_other _ ⟨b, o + 1, none⟩ ⟨b, i, none⟩ _ (by first | (simp; done) | (simp; intro e; exact hi e.symm)), fun i => by simp⟩
theorem own_take {w : World} {base m n g c : Nat} {e : TypeId} {xs : List Value} (h : w.ownsRow base e 1 (.slice (some ⟨g, 0, none⟩) m c) m xs) (hn : n ≤ m) :
    w.ownsRow base e 1 (.slice (some ⟨g, 0, none⟩) n c) n (xs.take n) := by
  obtain ⟨h1, h2⟩ := h
  refine ⟨by simp; omega, ?_⟩
  rcases h2 with ⟨h0, _⟩ | ⟨g', cap', cur, hv, hg, hh, hc, hm, hs, ht⟩
  · cases h0
  · injection hv with ha hb hcp
    injection ha with ha
    injection ha with hgg _ _
    subst hgg
    subst hcp
    refine .inr ⟨g, c, cur, rfl, hg, hh, by omega, hm, hs, ?_⟩
    rw [← ht, List.take_take]
    congr 1
    omega
theorem ownsRow_setOther {w : World} {base n : Nat} {e : TypeId} {size : Nat} {v : Value} {xs : List Value} (h : w.ownsRow base e size v n xs) (b o : Nat) (u : Value) (hb : v.ownBlock ≠ some b) : (w.setCell ⟨b, o, none⟩ u).ownsRow base e size v n xs :=
  own_keep h (only_set w b o u) (fun k hk e => hb (by rw [hk, e]))

theorem only_grownS {S : Nat → Prop} {a w w' : World} {row : Option Nat} (h : Only S a w) (hg : w.grownBy w' row) (hr : ∀ k, row = some k → k < a.heap.size → S k) : Only S a w' :=
  ⟨hg.os.trans h.os, hg.tape.trans h.tape, hg.output.trans h.output, Nat.le_trans h.size hg.size, fun k hk hS => (hg.block k (Nat.lt_of_lt_of_le hk h.size) (fun e => hS (hr k e.symm hk))).trans (h.block k hk hS)⟩
theorem new1 (W : World) (g : Nat) (hg : g = W.heap.size) (T : TypeId) (v0 : Value) : ∀ (j : Nat) (u : Value), [v0][j]? = some u → (W.alloc (.cells #[v0] T)).drew.cell? ((⟨g, 0, none⟩ : Addr).add j) = some u := by
  subst hg
  intro j u hj
  match j, hj with
  | 0, hj => simp at hj; subst hj; simp [Addr.add]
theorem one1 (a : Addr) : ∀ u ∈ [Value.pointer (some a)], u.oneCell' = true := by
  intro u hu
  simp at hu
  subst hu
  rfl

theorem asLevel (v : Value) (w : World) : (Instr.typeAssert (.iface 137 v) 20 137 false).run Try.prog w = .ok v w := by kernel_rfl
theorem HalfAt.push {w w4 : World} {b o : Nat} {sd : Int} {sv sv' : Value} {Bf : Int → Nat} {V : List Int} {p : Int} (h : HalfAt w b o sd sv Bf V) (hp : w.cell? ⟨Bf p, 0, none⟩ = some (.int .i64 p) ∧ Bf p < w.heap.size ∧ sv.ownBlock ≠ some (Bf p) ∧ Bf p ≠ b)
    (on : Only (fun k => sv.ownBlock = some k) w w4) (own4 : w4.ownsRow 0 137 1 sv' (V.length + 1) (lvPtrs Bf V ++ [.pointer (some ⟨Bf p, 0, none⟩)])) (hg : sv'.ownBlock = sv.ownBlock ∨ ∃ k, sv'.ownBlock = some k ∧ w.heap.size ≤ k) (hf : V.length < 13) :
    HalfAt (w4.setCell ⟨b, o + 1, none⟩ sv') b o sd sv' Bf (V ++ [p]) ∧ Only (fun k => k = b ∨ sv.ownBlock = some k) w (w4.setCell ⟨b, o + 1, none⟩ sv') := by
  have fresh : ∀ k, k < w.heap.size → sv.ownBlock ≠ some k → sv'.ownBlock ≠ some k := fun k hk hne e => by
    rcases hg with hg | ⟨k', hk', hl⟩
    · rw [hg] at e; exact hne e
    · rw [hk'] at e; injection e with e; omega
  have lt4 : b < w4.heap.size := Nat.lt_of_lt_of_le h.lt on.size
  have on2 := only_set w4 b (o + 1) sv'
  have hnb := fresh b h.lt h.ne
  refine ⟨⟨Nat.lt_of_lt_of_le lt4 on2.size, (World.cell?_setCell_other _ ⟨b, o + 1, none⟩ ⟨b, o, none⟩ _ (by simp)).trans ((on.cell h.lt h.ne).trans h.side), World.cell?_setCell_same _ _ _ ((on.cell h.lt h.ne).trans h.row), by simp; exact (on.frozen h.lt h.ne).trans h.soft, ?_, hnb, fun q hq => ?_, by simp; omega⟩, (on.mono (fun k _ hk => .inr hk)).trans (on2.mono (fun k _ hk => .inl hk))⟩
  · have e : lvPtrs Bf (V ++ [p]) = lvPtrs Bf V ++ [.pointer (some ⟨Bf p, 0, none⟩)] := by simp [lvPtrs]
    rw [e, List.length_append]
    exact ownsRow_setOther own4 b (o + 1) _ hnb
  · have hl : w.cell? ⟨Bf q, 0, none⟩ = some (.int .i64 q) ∧ Bf q < w.heap.size ∧ sv.ownBlock ≠ some (Bf q) ∧ Bf q ≠ b := by
      rcases List.mem_append.1 hq with hq | hq
      · exact h.lv q hq
      · simp at hq; subst hq; exact hp
    exact ⟨(on2.cell (Nat.lt_of_lt_of_le hl.2.1 on.size) hl.2.2.2).trans ((on.cell hl.2.1 hl.2.2.1).trans hl.1), Nat.lt_of_lt_of_le (Nat.lt_of_lt_of_le hl.2.1 on.size) on2.size, fresh _ hl.2.1 hl.2.2.1, hl.2.2.2⟩

theorem infoLp : (Try.prog.info? 137).map (fun i => (i.zero, i.size, i.bytes)) = some (some (.pointer none), 1, 8) := by kernel_rfl

set_option maxRecDepth 100000 in
set_option maxHeartbeats 1000000 in
theorem hpop_any {w : World} {b o : Nat} {sd : Int} {sv : Value} {Bf : Int → Nat} {V : List Int} (h : HalfAt w b o sd sv Bf V) (n : Nat) (hn : V.length = n + 1) :
    Calls Try.prog 167 #[.pointer (some ⟨b, o, none⟩)] w fun e w' => ∃ v sv', e = .returned v ∧ HalfAt w' b o sd sv' Bf (V.take n) ∧ sv'.ownBlock = sv.ownBlock ∧ Only (fun k => k = b ∨ sv.ownBlock = some k) w w' ∧ PbKeep b o w w' := by
  have hr := h.row
  have H := (show Hid _ from h)
  obtain ⟨g, c, hsv, hg, hc, hcell, hz⟩ := own_some h.own (by omega)
  subst hsv
  have few := h.few
  have hi : n < V.length := by omega
  have cn : w.cell? ⟨g, n, none⟩ = some (.pointer (some ⟨Bf V[n], 0, none⟩)) := (hcell n hi).trans (by simp [lvPtrs, hi])
  have soft := h.soft
  rw [hn] at hr
  have hne : g ≠ b := fun e => h.ne (by rw [e]; rfl)
  clear h hcell
  go_enter Try.func167, Try.ntmps167
  go_wp2_with fail
  go_ret
  go_light
  refine ⟨_, .slice (some ⟨g, 0, none⟩) n c, rfl, ?_, rfl, ?_, (PbKeep.of_only (only_set w g n (.pointer none)) H.out.lt (fun e => hne e.symm)).trans (PbKeep.set _ b o _)⟩
  · have on1 := only_set w g n (.pointer none)
    have hb : ¬ b = g := fun e => hne e.symm
    have hs1 : (w.setCell ⟨g, n, none⟩ (.pointer none)).cell? ⟨b, o + 1, none⟩ = some (.slice (some ⟨g, 0, none⟩) (n + 1) c) := (on1.cell H.out.lt hb).trans hr
    have on2 := only_set (w.setCell ⟨g, n, none⟩ (.pointer none)) b (o + 1) (.slice (some ⟨g, 0, none⟩) n c)
    have lt1 : b < (w.setCell ⟨g, n, none⟩ (.pointer none)).heap.size := Nat.lt_of_lt_of_le H.out.lt on1.size
    refine ⟨Nat.lt_of_lt_of_le lt1 on2.size, ?_, World.cell?_setCell_same _ _ _ hs1, by simp; exact H.out.soft, ?_, fun e => hne (by simpa [Value.ownBlock] using e), fun p hp => ?_, by simp; omega⟩
    · exact (World.cell?_setCell_other _ ⟨b, o + 1, none⟩ ⟨b, o, none⟩ _ (by simp)).trans ((on1.cell H.out.lt hb).trans H.out.side)
    · have h1 := own_take (own_set H.out.own n hi (.pointer none)) (n := n) (by omega)
      have e : List.take n ((lvPtrs Bf V).set n (.pointer none)) = lvPtrs Bf (V.take n) := by
        rw [List.take_set_of_le (Nat.le_refl n)]; unfold lvPtrs; rw [List.map_take]
      rw [e] at h1
      have hl : (V.take n).length = n := by simp; omega
      rw [hl]
      exact ownsRow_setOther h1 b (o + 1) _ (fun e => hne (by simpa [Value.ownBlock] using e))
    · have hl := H.out.lv p (List.mem_of_mem_take hp)
      have hgp : ¬ Bf p = g := fun e => hl.2.2.1 (by rw [e]; rfl)
      exact ⟨(on2.cell (Nat.lt_of_lt_of_le hl.2.1 on1.size) hl.2.2.2).trans ((on1.cell hl.2.1 hgp).trans hl.1), Nat.lt_of_lt_of_le (Nat.lt_of_lt_of_le hl.2.1 on1.size) on2.size, fun e => hgp (by simpa [Value.ownBlock, eq_comm] using e), hl.2.2.2⟩
  · exact ((only_set _ _ _ _).mono (fun k _ hk => .inr (by rw [hk]; rfl))).trans ((only_set _ _ _ _).mono (fun k _ hk => .inl hk))

set_option maxRecDepth 100000 in
set_option maxHeartbeats 1000000 in
theorem hpush_any {w : World} {b o : Nat} {sd : Int} {sv : Value} {Bf : Int → Nat} {V : List Int} (h : HalfAt w b o sd sv Bf V) (p : Int) (hf : V.length < 13) (hp : w.cell? ⟨Bf p, 0, none⟩ = some (.int .i64 p) ∧ Bf p < w.heap.size ∧ sv.ownBlock ≠ some (Bf p) ∧ Bf p ≠ b) :
    Calls Try.prog 168 #[.pointer (some ⟨b, o, none⟩), .iface 137 (.pointer (some ⟨Bf p, 0, none⟩))] w fun e w' => ∃ sv', e = .returned (.tuple #[]) ∧ HalfAt w' b o sd sv' Bf (V ++ [p]) ∧ (sv'.ownBlock = sv.ownBlock ∨ ∃ k, sv'.ownBlock = some k ∧ w.heap.size ≤ k) ∧ Only (fun k => k = b ∨ sv.ownBlock = some k) w w' ∧ PbKeep b o w w' := by
  have hr := h.row
  have H := (show Hid _ from h)
  obtain ⟨i0, hi, hz0, hz1, hz2⟩ := info_parts infoLp
  obtain ⟨x, c, hsv⟩ := owned_form' h.own
  subst hsv
  have soft := h.soft
  have few := h.few
  have hlt := h.lt
  have hnb : x ≠ some ⟨b, 0, none⟩ := fun e => h.ne (by rw [e]; rfl)
  have HP4 : Hid (∀ W4, (w.alloc (.cells #[.pointer (some ⟨Bf p, 0, none⟩)] 137)).drew.grownBy W4 (Value.slice x V.length c).ownBlock → (W4.cell? ⟨b, o + 1, none⟩ = some (.slice x V.length c) ∧ W4.frozen? ⟨b, o + 1, none⟩ = false)) := fun W4 hg => by
    have o4 : Only (fun k => (Value.slice x V.length c).ownBlock = some k) w (w.alloc (.cells #[.pointer (some ⟨Bf p, 0, none⟩)] 137)).drew := (Only.of_below ((Below.refl _ _).alloc (Nat.le_refl _) _)).drew1
    have o5 := only_grownS o4 hg (fun k hk _ => hk)
    exact ⟨(o5.cell H.out.lt H.out.ne).trans H.out.row, (o5.frozen H.out.lt H.out.ne).trans H.out.soft⟩
  have hMz : V.length + 1 ≤ maxLen := by unfold maxLen; omega
  have hMb : (V.length + 1) * 8 ≤ 140737488355328 := by omega
  clear h
  have hta := asLevel
  go_enter Try.func168, Try.ntmps168
  go_wp2_with fail
  go_region_law (refine step_append_lies _ rfl (.tmp 8) (.tmp 11) 78 rfl 0 137 i0 _ 1 8 Try.underlying78 hi hz0 hz1 hz2 rfl (by decide) _ _ _ (by simp [Act.eval]) (H.out.own.alloc _).drew ⟨w.heap.size, 0, none⟩ 1 1 [.pointer (some ⟨Bf p, 0, none⟩)] (by simp [Act.eval]) rfl (new1 _ _ (by simp) _ _) (one1 _) (by decide) hMz hMb (Nat.zero_le _) (w.heap.size + 1) (by simp) ?_; intro g' cap' w4 own4 grow4 hg4 _; obtain ⟨p4, f4⟩ := HP4.out w4 grow4)
  all_goals
    have on4 : Only (fun k => (Value.slice x V.length c).ownBlock = some k) w w4 := only_grownS (Only.of_below ((Below.refl _ _).alloc (Nat.le_refl _) _)).drew1 grow4 (fun k hk _ => hk)
    have R := H.out.push hp on4 own4 (hg4.imp (fun h => h.symm) (fun h => ⟨g', rfl, by omega⟩)) hf
    go_end0
    exact ⟨_, rfl, R.1, hg4.imp (fun h => h.symm) (fun h => ⟨g', rfl, by omega⟩), R.2, (PbKeep.of_only on4 H.out.lt H.out.ne).trans (PbKeep.set _ b o _)⟩
end Go.Proofs.Ytbljokilfkodfaa
/-
  container/heap over the levels: up, down.
-/
namespace Go.Proofs.Ytbljokilfkodfaa
open Go.RowKit

theorem mLess (a : Option Addr) (w : World) : (method 322 135 (.pointer a) "Less").run Try.prog w = .ok (166, .pointer a) w := by kernel_rfl
theorem mSwap (a : Option Addr) (w : World) : (method 322 135 (.pointer a) "Swap").run Try.prog w = .ok (169, .pointer a) w := by kernel_rfl
theorem mLen (a : Option Addr) (w : World) : (method 322 135 (.pointer a) "Len").run Try.prog w = .ok (165, .pointer a) w := by kernel_rfl
theorem mPush (a : Option Addr) (w : World) : (method 322 135 (.pointer a) "Push").run Try.prog w = .ok (168, .pointer a) w := by kernel_rfl
theorem mPop (a : Option Addr) (w : World) : (method 322 135 (.pointer a) "Pop").run Try.prog w = .ok (167, .pointer a) w := by kernel_rfl

theorem swapL_get (V : List Int) (i j l : Nat) (hi : i < V.length) (hj : j < V.length) : (swapL V i j).getD l 0 = if l = j then V.getD i 0 else if l = i then V.getD j 0 else V.getD l 0 := by
  unfold swapL
  simp only [List.getD_eq_getElem?_getD, List.getElem?_set, List.length_set]
  by_cases h1 : l = j
  · subst h1; simp [hj]
  · by_cases h2 : l = i
    · subst h2
      have h1' : ¬ j = l := fun e => h1 e.symm
      simp [h1, hi, h1']
    · have h1' : ¬ j = l := fun e => h1 e.symm
      have h2' : ¬ i = l := fun e => h2 e.symm
      simp [h1, h2, h1', h2']
theorem swapL_key (sd : Int) (V : List Int) (i j : Nat) (hi : i < V.length) (hj : j < V.length) : (fun l => keyOf' sd ((swapL V i j).getD l 0)) = swapK (fun l => keyOf' sd (V.getD l 0)) i j := by
  funext l
  rw [swapL_get V i j l hi hj]
  unfold swapK
  by_cases h1 : l = j
  · by_cases h2 : l = i
    · subst h1; subst h2; simp
    · simp [h1]
      intro e; rw [e]
  · simp only [if_neg h1]
    by_cases h2 : l = i
    · simp [h2]
    · simp [h2]
theorem swapL_perm (V : List Int) (i j : Nat) (hi : i < V.length) (hj : j < V.length) : (swapL V i j).Perm V := by
  unfold swapL
  rw [List.getD_eq_getElem?_getD, List.getD_eq_getElem?_getD, List.getElem?_eq_getElem hi, List.getElem?_eq_getElem hj]
  exact List.set_set_perm hi hj

set_option maxRecDepth 100000 in
set_option maxHeartbeats 1000000 in
theorem up_any {w : World} {b o : Nat} {sd : Int} {sv : Value} {Bf : Int → Nat} {V : List Int} (h : HalfAt w b o sd sv Bf V) (x n : Nat) (hn : n ≤ V.length) (hx : x < n) (hh : HeapUp (fun j => keyOf' sd (V.getD j 0)) n x) :
    Calls Try.prog 127 #[.iface 135 (.pointer (some ⟨b, o, none⟩)), .int .i64 (x : Int)] w fun e w' => ∃ V', e = .returned (.tuple #[]) ∧ HalfAt w' b o sd sv Bf V' ∧ V'.Perm V ∧ HeapTo (fun j => keyOf' sd (V'.getD j 0)) n ∧ (∀ j, n ≤ j → V'.getD j 0 = V.getD j 0) ∧ Only (fun k => sv.ownBlock = some k) w w' := by
  have H : Hid (HalfAt w b o sd sv Bf V) := h
  have few := h.few
  clear h
  go_enter Try.func127, Try.ntmps127
  go_wp2_with fail
  go_loopw [1] (fun j wr => ∃ (k : Nat) (V' : List Int), j = .int .i64 (k : Int) ∧ k < n ∧ HalfAt wr b o sd sv Bf V' ∧ V'.Perm V ∧ HeapUp (fun j => keyOf' sd (V'.getD j 0)) n k ∧ (∀ j, n ≤ j → V'.getD j 0 = V.getD j 0) ∧ Only (fun k => sv.ownBlock = some k) w wr) (fun j _ => (intOf j).toNat)
  case atStart => exact ⟨x, V, rfl, hx, H.out, List.Perm.refl _, hh, fun _ _ => rfl, Only.refl _ _⟩
  case round =>
    obtain ⟨k, V', rfl, hk, h', hp, hu, hs, on⟩ := hrel
    have HH : Hid (HalfAt wr b o sd sv Bf V') := h'
    have HP : Hid (V'.Perm V) := hp
    have HU : Hid (HeapUp (fun j => keyOf' sd (V'.getD j 0)) n k) := hu
    have HS : Hid (∀ j, n ≤ j → V'.getD j 0 = V.getD j 0) := hs
    have HO : Hid (Only (fun k => sv.ownBlock = some k) w wr) := on
    have hlen : n ≤ V'.length := by rw [hp.length_eq]; exact hn
    clear h' hp hu on hs H hh
    by_cases hk0 : k = 0
    · subst hk0
      go_wp2_with fail
      go_end0
      exact ⟨V', rfl, HH.out, HP.out, HU.out.done (.inl rfl), HS.out, HO.out⟩
    · have hkp : 0 < k := by omega
      obtain ⟨q, hq⟩ : ∃ q, q = (k - 1) / 2 := ⟨_, rfl⟩
      have hqi : ((k : Int) - 1) / 2 = (q : Int) := by omega
      have hqk : q < k := by omega
      have hqe : ((q : Int) == (k : Int)) = false := by simp; omega
      have HQ : Hid (q = (k - 1) / 2) := hq
      clear hq
      have hm := mLess
      have hm2 := mSwap
      go_wp2_with fail
      refine (hless_any HH.out k q (by omega) (by omega)).mono ?_
      rintro e w1 ⟨rfl, m, rfl⟩
      have HH1 : Hid (HalfAt (wr.drewN m) b o sd sv Bf V') := HH.out.drewN m
      have HO1 : Hid (Only (fun k => sv.ownBlock = some k) w (wr.drewN m)) := HO.out.drewN m
      clear HH HO
      by_cases hless : keyOf' sd (V'.getD k 0) < keyOf' sd (V'.getD q 0)
      · have hb : decide (keyOf' sd (V'.getD k 0) < keyOf' sd (V'.getD q 0)) = true := decide_eq_true hless
        rw [hb]
        have HU2 : Hid (HeapUp (swapK (fun j => keyOf' sd (V'.getD j 0)) q k) n q) := by
          have hl := hless
          rw [HQ.out] at hl ⊢
          exact HU.out.round hkp hk hl
        clear hb hless
        go_wp2_with fail
        refine (hswap_any HH1.out q k (by omega) (by omega)).mono ?_
        rintro e w2 ⟨rfl, h2, o2⟩
        go_wp2
        refine ⟨⟨q, swapL V' q k, rfl, by omega, h2, (swapL_perm V' q k (by omega) (by omega)).trans HP.out, ?_, fun j hj => ?_, HO1.out.trans o2⟩, by simp [intOf]; omega⟩
        · rw [swapL_key sd V' q k (by omega) (by omega)]
          exact HU2.out
        · rw [swapL_get V' q k j (by omega) (by omega), if_neg (by omega), if_neg (by omega)]
          exact HS.out j hj
      · have hb : decide (keyOf' sd (V'.getD k 0) < keyOf' sd (V'.getD q 0)) = false := decide_eq_false hless
        rw [hb]
        have HN : Hid (keyOf' sd (V'.getD q 0) ≤ keyOf' sd (V'.getD k 0)) := Int.not_lt.1 hless
        clear hb hless
        go_wp2
        go_end0
        exact ⟨V', rfl, HH1.out, HP.out, HU.out.done (.inr (by rw [← HQ.out]; exact Int.not_lt.2 HN.out)), HS.out, HO1.out⟩

end Go.Proofs.Ytbljokilfkodfaa
/-
  container/heap over the levels: down.
-/
namespace Go.Proofs.Ytbljokilfkodfaa
open Go.RowKit

theorem hless_at {w : World} {b o : Nat} {sd : Int} {sv : Value} {Bf : Int → Nat} {V : List Int} (h : HalfAt w b o sd sv Bf V) (i j : Nat) (hi : i < V.length) (hj : j < V.length) (x y : Int) (hx : x = (i : Int)) (hy : y = (j : Int)) :
    Calls Try.prog 166 #[.pointer (some ⟨b, o, none⟩), .int .i64 x, .int .i64 y] w fun e w' => e = .returned (.bool (decide (keyOf' sd (V.getD i 0) < keyOf' sd (V.getD j 0)))) ∧ ∃ m, w' = w.drewN m := by
  subst hx; subst hy; exact hless_any h i j hi hj
theorem hswap_at {w : World} {b o : Nat} {sd : Int} {sv : Value} {Bf : Int → Nat} {V : List Int} (h : HalfAt w b o sd sv Bf V) (i j : Nat) (hi : i < V.length) (hj : j < V.length) (x y : Int) (hx : x = (i : Int)) (hy : y = (j : Int)) :
    Calls Try.prog 169 #[.pointer (some ⟨b, o, none⟩), .int .i64 x, .int .i64 y] w fun e w' => e = .returned (.tuple #[]) ∧ HalfAt w' b o sd sv Bf (swapL V i j) ∧ Only (fun k => sv.ownBlock = some k) w w' := by
  subst hx; subst hy; exact hswap_any h i j hi hj

set_option maxRecDepth 100000 in
set_option maxHeartbeats 4000000 in
theorem down_any {w : World} {b o : Nat} {sd : Int} {sv : Value} {Bf : Int → Nat} {V : List Int} (h : HalfAt w b o sd sv Bf V) (x n : Nat) (hn : n ≤ V.length) (hx : x < n) (hh : HeapDown (fun j => keyOf' sd (V.getD j 0)) n x) :
    Calls Try.prog 128 #[.iface 135 (.pointer (some ⟨b, o, none⟩)), .int .i64 (x : Int), .int .i64 (n : Int)] w fun e w' => ∃ V' m, e = .returned (.bool m) ∧ HalfAt w' b o sd sv Bf V' ∧ V'.Perm V ∧ HeapTo (fun j => keyOf' sd (V'.getD j 0)) n ∧ (∀ j, n ≤ j → V'.getD j 0 = V.getD j 0) ∧ Only (fun k => sv.ownBlock = some k) w w' := by
  have H : Hid (HalfAt w b o sd sv Bf V) := h
  have few := h.few
  clear h
  go_enter Try.func128, Try.ntmps128
  go_wp2_with fail
  go_loopw [7] (fun j wr => ∃ (k : Nat) (V' : List Int), j = .int .i64 (k : Int) ∧ k < n ∧ HalfAt wr b o sd sv Bf V' ∧ V'.Perm V ∧ HeapDown (fun j => keyOf' sd (V'.getD j 0)) n k ∧ (∀ j, n ≤ j → V'.getD j 0 = V.getD j 0) ∧ Only (fun k => sv.ownBlock = some k) w wr) (fun j _ => n - (intOf j).toNat)
  case atStart => exact ⟨x, V, rfl, hx, H.out, List.Perm.refl _, hh, fun _ _ => rfl, Only.refl _ _⟩
  case round =>
    obtain ⟨k, V', rfl, hk, h', hp, hu, hs, on⟩ := hrel
    have HHq : Hid (∀ q, HalfAt (wr.drewN q) b o sd sv Bf V') := fun q => h'.drewN q
    have HH : Hid (HalfAt wr b o sd sv Bf V') := h'
    have HP : Hid (V'.Perm V) := hp
    have HU : Hid (HeapDown (fun j => keyOf' sd (V'.getD j 0)) n k) := hu
    have HS : Hid (∀ j, n ≤ j → V'.getD j 0 = V.getD j 0) := hs
    have HOq : Hid (∀ q, Only (fun k => sv.ownBlock = some k) w (wr.drewN q)) := fun q => on.drewN q
    have HO : Hid (Only (fun k => sv.ownBlock = some k) w wr) := on
    have hlen : n ≤ V'.length := by rw [hp.length_eq]; exact hn
    clear h' hp hu on hs H hh
    have hm := mLess
    have hm2 := mSwap
    have hk13 : (k : Int) < 13 := by omega
    by_cases hend : n ≤ 2 * k + 1
    · have hg : decide ((n : Int) ≤ 2 * (k : Int) + 1) = true := decide_eq_true (by omega)
      go_wp2_with fail
      go_ret
      refine ⟨V', _, rfl, HH.out, HP.out, HU.out.done (fun j h0 hj he => by omega), HS.out, HO.out⟩
    · have hg : decide ((n : Int) ≤ 2 * (k : Int) + 1) = false := decide_eq_false (by omega)
      have hg0 : decide (2 * (k : Int) + 1 < 0) = false := decide_eq_false (by omega)
      by_cases h2 : 2 * k + 2 < n
      · have hg2 : decide (2 * (k : Int) + 1 + 1 < (n : Int)) = true := decide_eq_true (by omega)
        go_wp2_with fail
        refine (hless_at HH.out (2 * k + 2) (2 * k + 1) (by omega) (by omega) _ _ (by omega) (by omega)).mono ?_
        rintro e wa ⟨rfl, ma, rfl⟩
        by_cases hl2 : keyOf' sd (V'.getD (2 * k + 2) 0) < keyOf' sd (V'.getD (2 * k + 1) 0)
        · have hb2 : decide (keyOf' sd (V'.getD (2 * k + 2) 0) < keyOf' sd (V'.getD (2 * k + 1) 0)) = true := decide_eq_true hl2
          rw [hb2]
          have HMIN : Hid (∀ j, 0 < j → j < n → (j - 1) / 2 = k → (fun j => keyOf' sd (V'.getD j 0)) (2 * k + 2) ≤ (fun j => keyOf' sd (V'.getD j 0)) j) := fun j h0 hj he => by
            rcases (by omega : j = 2 * k + 1 ∨ j = 2 * k + 2) with e | e
            · rw [e]; exact Int.le_of_lt hl2
            · rw [e]; exact Int.le_refl _
          clear hb2 hl2
          go_wp2_with fail
          refine (hless_at (HHq.out _) (2 * k + 2) k (by omega) (by omega) _ _ (by omega) rfl).mono ?_
          rintro e wb ⟨rfl, mb, rfl⟩
          by_cases hless : keyOf' sd (V'.getD (2 * k + 2) 0) < keyOf' sd (V'.getD k 0)
          · have hb : decide (keyOf' sd (V'.getD (2 * k + 2) 0) < keyOf' sd (V'.getD k 0)) = true := decide_eq_true hless
            rw [hb]
            have HU2 : Hid (HeapDown (swapK (fun j => keyOf' sd (V'.getD j 0)) k (2 * k + 2)) n (2 * k + 2)) := HU.out.round (by omega) (by omega) (by omega) HMIN.out hless
            clear hb hless
            go_wp2_with fail
            refine (hswap_at (HHq.out _) k (2 * k + 2) (by omega) (by omega) _ _ rfl (by omega)).mono ?_
            rintro e wc ⟨rfl, hc, oc⟩
            go_wp2
            refine ⟨⟨2 * k + 2, swapL V' k (2 * k + 2), by go_num, by omega, hc, (swapL_perm V' k (2 * k + 2) (by omega) (by omega)).trans HP.out, ?_, fun j hj => ?_, (HOq.out _).trans oc⟩, by simp [intOf]; omega⟩
            · rw [swapL_key sd V' k (2 * k + 2) (by omega) (by omega)]
              exact HU2.out
            · rw [swapL_get V' k (2 * k + 2) j (by omega) (by omega), if_neg (by omega), if_neg (by omega)]
              exact HS.out j hj
          · have hb : decide (keyOf' sd (V'.getD (2 * k + 2) 0) < keyOf' sd (V'.getD k 0)) = false := decide_eq_false hless
            rw [hb]
            have HN : Hid (keyOf' sd (V'.getD k 0) ≤ keyOf' sd (V'.getD (2 * k + 2) 0)) := Int.not_lt.1 hless
            clear hb hless
            go_wp2
            go_ret
            exact ⟨V', _, rfl, HHq.out _, HP.out, HU.out.done (fun j h0 hj he => Int.le_trans HN.out (HMIN.out j h0 hj he)), HS.out, HOq.out _⟩
        · have hb2 : decide (keyOf' sd (V'.getD (2 * k + 2) 0) < keyOf' sd (V'.getD (2 * k + 1) 0)) = false := decide_eq_false hl2
          rw [hb2]
          have HMIN : Hid (∀ j, 0 < j → j < n → (j - 1) / 2 = k → (fun j => keyOf' sd (V'.getD j 0)) (2 * k + 1) ≤ (fun j => keyOf' sd (V'.getD j 0)) j) := fun j h0 hj he => by
            rcases (by omega : j = 2 * k + 1 ∨ j = 2 * k + 2) with e | e
            · rw [e]; exact Int.le_refl _
            · rw [e]; exact Int.not_lt.1 hl2
          clear hb2 hl2
          go_wp2_with fail
          refine (hless_at (HHq.out _) (2 * k + 1) k (by omega) (by omega) _ _ (by omega) rfl).mono ?_
          rintro e wb ⟨rfl, mb, rfl⟩
          by_cases hless : keyOf' sd (V'.getD (2 * k + 1) 0) < keyOf' sd (V'.getD k 0)
          · have hb : decide (keyOf' sd (V'.getD (2 * k + 1) 0) < keyOf' sd (V'.getD k 0)) = true := decide_eq_true hless
            rw [hb]
            have HU2 : Hid (HeapDown (swapK (fun j => keyOf' sd (V'.getD j 0)) k (2 * k + 1)) n (2 * k + 1)) := HU.out.round (by omega) (by omega) (by omega) HMIN.out hless
            clear hb hless
            go_wp2_with fail
            refine (hswap_at (HHq.out _) k (2 * k + 1) (by omega) (by omega) _ _ rfl (by omega)).mono ?_
            rintro e wc ⟨rfl, hc, oc⟩
            go_wp2
            refine ⟨⟨2 * k + 1, swapL V' k (2 * k + 1), by go_num, by omega, hc, (swapL_perm V' k (2 * k + 1) (by omega) (by omega)).trans HP.out, ?_, fun j hj => ?_, (HOq.out _).trans oc⟩, by simp [intOf]; omega⟩
            · rw [swapL_key sd V' k (2 * k + 1) (by omega) (by omega)]
              exact HU2.out
            · rw [swapL_get V' k (2 * k + 1) j (by omega) (by omega), if_neg (by omega), if_neg (by omega)]
              exact HS.out j hj
          · have hb : decide (keyOf' sd (V'.getD (2 * k + 1) 0) < keyOf' sd (V'.getD k 0)) = false := decide_eq_false hless
            rw [hb]
            have HN : Hid (keyOf' sd (V'.getD k 0) ≤ keyOf' sd (V'.getD (2 * k + 1) 0)) := Int.not_lt.1 hless
            clear hb hless
            go_wp2
            go_ret
            exact ⟨V', _, rfl, HHq.out _, HP.out, HU.out.done (fun j h0 hj he => Int.le_trans HN.out (HMIN.out j h0 hj he)), HS.out, HOq.out _⟩
      · have hg2 : decide (2 * (k : Int) + 1 + 1 < (n : Int)) = false := decide_eq_false (by omega)
        have HMIN : Hid (∀ j, 0 < j → j < n → (j - 1) / 2 = k → (fun j => keyOf' sd (V'.getD j 0)) (2 * k + 1) ≤ (fun j => keyOf' sd (V'.getD j 0)) j) := fun j h0 hj he => by
          rw [(by omega : j = 2 * k + 1)]; exact Int.le_refl _
        go_wp2_with fail
        refine (hless_at HH.out (2 * k + 1) k (by omega) (by omega) _ _ (by omega) rfl).mono ?_
        rintro e wb ⟨rfl, mb, rfl⟩
        by_cases hless : keyOf' sd (V'.getD (2 * k + 1) 0) < keyOf' sd (V'.getD k 0)
        · have hb : decide (keyOf' sd (V'.getD (2 * k + 1) 0) < keyOf' sd (V'.getD k 0)) = true := decide_eq_true hless
          rw [hb]
          have HU2 : Hid (HeapDown (swapK (fun j => keyOf' sd (V'.getD j 0)) k (2 * k + 1)) n (2 * k + 1)) := HU.out.round (by omega) (by omega) (by omega) HMIN.out hless
          clear hb hless
          go_wp2_with fail
          refine (hswap_at (HHq.out _) k (2 * k + 1) (by omega) (by omega) _ _ rfl (by omega)).mono ?_
          rintro e wc ⟨rfl, hc, oc⟩
          go_wp2
          refine ⟨⟨2 * k + 1, swapL V' k (2 * k + 1), by go_num, by omega, hc, (swapL_perm V' k (2 * k + 1) (by omega) (by omega)).trans HP.out, ?_, fun j hj => ?_, (HOq.out _).trans oc⟩, by simp [intOf]; omega⟩
          · rw [swapL_key sd V' k (2 * k + 1) (by omega) (by omega)]
            exact HU2.out
          · rw [swapL_get V' k (2 * k + 1) j (by omega) (by omega), if_neg (by omega), if_neg (by omega)]
            exact HS.out j hj
        · have hb : decide (keyOf' sd (V'.getD (2 * k + 1) 0) < keyOf' sd (V'.getD k 0)) = false := decide_eq_false hless
          rw [hb]
          have HN : Hid (keyOf' sd (V'.getD k 0) ≤ keyOf' sd (V'.getD (2 * k + 1) 0)) := Int.not_lt.1 hless
          clear hb hless
          go_wp2
          go_ret
          exact ⟨V', _, rfl, HHq.out _, HP.out, HU.out.done (fun j h0 hj he => Int.le_trans HN.out (HMIN.out j h0 hj he)), HS.out, HOq.out _⟩
end Go.Proofs.Ytbljokilfkodfaa
/-
  container/heap over the levels: down, where nothing turns.
-/
namespace Go.Proofs.Ytbljokilfkodfaa
open Go.RowKit

set_option maxRecDepth 100000 in
set_option maxHeartbeats 4000000 in
/-- Where no child is below: nothing turns. -/
theorem down_none {w : World} {b o : Nat} {sd : Int} {sv : Value} {Bf : Int → Nat} {V : List Int} (h : HalfAt w b o sd sv Bf V) (x n : Nat) (hn : n ≤ V.length) (hx : x < n) (hc : ∀ j, 0 < j → j < n → (j - 1) / 2 = x → keyOf' sd (V.getD x 0) ≤ keyOf' sd (V.getD j 0)) :
    Calls Try.prog 128 #[.iface 135 (.pointer (some ⟨b, o, none⟩)), .int .i64 (x : Int), .int .i64 (n : Int)] w fun e w' => e = .returned (.bool false) ∧ ∃ m, w' = w.drewN m := by
  have H : Hid (HalfAt w b o sd sv Bf V) := h
  have HC : Hid (∀ j, 0 < j → j < n → (j - 1) / 2 = x → keyOf' sd (V.getD x 0) ≤ keyOf' sd (V.getD j 0)) := hc
  have few := h.few
  clear h hc
  go_enter Try.func128, Try.ntmps128
  go_wp2_with fail
  go_loopw [7] (fun j wr => j = .int .i64 (x : Int) ∧ wr = w) (fun j _ => 0)
  case atStart => exact ⟨rfl, rfl⟩
  case round =>
    obtain ⟨rfl, rfl⟩ := hrel
    have hm := mLess
    have hk13 : (x : Int) < 13 := by omega
    by_cases hend : n ≤ 2 * x + 1
    · have hg : decide ((n : Int) ≤ 2 * (x : Int) + 1) = true := decide_eq_true (by omega)
      go_wp2_with fail
      go_ret
      exact ⟨by simp, 0, rfl⟩
    · have hg : decide ((n : Int) ≤ 2 * (x : Int) + 1) = false := decide_eq_false (by omega)
      have hg0 : decide (2 * (x : Int) + 1 < 0) = false := decide_eq_false (by omega)
      by_cases h2 : 2 * x + 2 < n
      · have hg2 : decide (2 * (x : Int) + 1 + 1 < (n : Int)) = true := decide_eq_true (by omega)
        go_wp2_with fail
        refine (hless_at H.out (2 * x + 2) (2 * x + 1) (by omega) (by omega) _ _ (by omega) (by omega)).mono ?_
        rintro e wa ⟨rfl, ma, rfl⟩
        by_cases hl2 : keyOf' sd (V.getD (2 * x + 2) 0) < keyOf' sd (V.getD (2 * x + 1) 0)
        · have hb2 : decide (keyOf' sd (V.getD (2 * x + 2) 0) < keyOf' sd (V.getD (2 * x + 1) 0)) = true := decide_eq_true hl2
          rw [hb2]
          clear hb2 hl2
          go_wp2_with fail
          refine (hless_at (H.out.drewN ma) (2 * x + 2) x (by omega) (by omega) _ _ (by omega) rfl).mono ?_
          rintro e wb ⟨rfl, mb, rfl⟩
          rw [decide_eq_false (Int.not_lt.2 (HC.out (2 * x + 2) (by omega) (by omega) (by omega)))]
          go_wp2
          go_ret
          exact ⟨by simp, ma + mb, by simp [World.drewN]⟩
        · have hb2 : decide (keyOf' sd (V.getD (2 * x + 2) 0) < keyOf' sd (V.getD (2 * x + 1) 0)) = false := decide_eq_false hl2
          rw [hb2]
          clear hb2 hl2
          go_wp2_with fail
          refine (hless_at (H.out.drewN ma) (2 * x + 1) x (by omega) (by omega) _ _ (by omega) rfl).mono ?_
          rintro e wb ⟨rfl, mb, rfl⟩
          rw [decide_eq_false (Int.not_lt.2 (HC.out (2 * x + 1) (by omega) (by omega) (by omega)))]
          go_wp2
          go_ret
          exact ⟨by simp, ma + mb, by simp [World.drewN]⟩
      · have hg2 : decide (2 * (x : Int) + 1 + 1 < (n : Int)) = false := decide_eq_false (by omega)
        go_wp2_with fail
        refine (hless_at H.out (2 * x + 1) x (by omega) (by omega) _ _ (by omega) rfl).mono ?_
        rintro e wb ⟨rfl, mb, rfl⟩
        rw [decide_eq_false (Int.not_lt.2 (HC.out (2 * x + 1) (by omega) (by omega) (by omega)))]
        go_wp2
        go_ret
        exact ⟨by simp, mb, rfl⟩
end Go.Proofs.Ytbljokilfkodfaa
/-
  container/heap over the levels: Push, Remove.
-/
namespace Go.Proofs.Ytbljokilfkodfaa
open Go.RowKit

theorem HeapTo.toUp {k : Nat → Int} {n x : Nat} (h : HeapTo k n) (hx : x < n) : HeapUp k n x := by
  refine ⟨fun j h0 hn _ => h j h0 hn, fun hx0 j h0 hn he => ?_⟩
  have a := h j h0 hn
  have b := h x hx0 hx
  rw [he] at a
  omega

/-- One more at the end. -/
theorem HeapTo.snoc {sd : Int} {V : List Int} {p : Int} (h : HeapTo (fun j => keyOf' sd (V.getD j 0)) V.length) : HeapUp (fun j => keyOf' sd ((V ++ [p]).getD j 0)) (V.length + 1) V.length := by
  have e : ∀ j, j < V.length → (V ++ [p]).getD j 0 = V.getD j 0 := fun j hj => by
    rw [List.getD_eq_getElem?_getD, List.getD_eq_getElem?_getD, List.getElem?_append_left hj]
  refine ⟨fun j h0 hn hne => ?_, fun _ j h0 hn he => by omega⟩
  have hj : j < V.length := by omega
  show keyOf' sd ((V ++ [p]).getD ((j - 1) / 2) 0) ≤ keyOf' sd ((V ++ [p]).getD j 0)
  rw [e j hj, e _ (by omega)]
  exact h j h0 hj

theorem up_at {w : World} {b o : Nat} {sd : Int} {sv : Value} {Bf : Int → Nat} {V : List Int} (h : HalfAt w b o sd sv Bf V) (x n : Nat) (hn : n ≤ V.length) (hx : x < n) (hh : HeapUp (fun j => keyOf' sd (V.getD j 0)) n x) (y : Int) (hy : y = (x : Int)) :
    Calls Try.prog 127 #[.iface 135 (.pointer (some ⟨b, o, none⟩)), .int .i64 y] w fun e w' => ∃ V', e = .returned (.tuple #[]) ∧ HalfAt w' b o sd sv Bf V' ∧ V'.Perm V ∧ HeapTo (fun j => keyOf' sd (V'.getD j 0)) n ∧ (∀ j, n ≤ j → V'.getD j 0 = V.getD j 0) ∧ Only (fun k => sv.ownBlock = some k) w w' := by
  subst hy; exact up_any h x n hn hx hh

theorem take_get (V : List Int) (n j : Nat) (hj : j < n) : (V.take n).getD j 0 = V.getD j 0 := by
  rw [List.getD_eq_getElem?_getD, List.getD_eq_getElem?_getD, List.getElem?_take, if_pos hj]
theorem pop_end {sd : Int} {V W : List Int} {x n : Nat} (hn : W.length = n + 1) (hp : W.Perm V) (hg : W.getD n 0 = V.getD x 0) (hh : HeapTo (fun j => keyOf' sd (W.getD j 0)) n) :
    (V.getD x 0 :: W.take n).Perm V ∧ HeapTo (fun j => keyOf' sd ((W.take n).getD j 0)) (W.take n).length := by
  constructor
  · have e : W = W.take n ++ [W.getD n 0] := by
      have h1 := List.take_succ_eq_append_getElem (l := W) (i := n) (by omega)
      rw [List.take_of_length_le (by omega)] at h1
      rw [List.getD_eq_getElem?_getD, List.getElem?_eq_getElem (by omega : n < W.length)]
      exact h1
    rw [← hg]
    have h2 : (W.getD n 0 :: W.take n).Perm (W.take n ++ [W.getD n 0]) := (List.perm_append_singleton _ _).symm
    rw [← e] at h2
    exact h2.trans hp
  · intro j h0 hj
    have hl : (W.take n).length = n := by simp; omega
    rw [hl] at hj
    show keyOf' sd ((W.take n).getD ((j - 1) / 2) 0) ≤ keyOf' sd ((W.take n).getD j 0)
    rw [take_get W n j hj, take_get W n _ (by omega)]
    exact hh j h0 hj

set_option maxRecDepth 100000 in
set_option maxHeartbeats 1000000 in
theorem heapPush_any {w : World} {b o : Nat} {sd : Int} {sv : Value} {Bf : Int → Nat} {V : List Int} (h : HalfAt w b o sd sv Bf V) (hh : HeapTo (fun j => keyOf' sd (V.getD j 0)) V.length) (p : Int) (hf : V.length < 13) (hp : w.cell? ⟨Bf p, 0, none⟩ = some (.int .i64 p) ∧ Bf p < w.heap.size ∧ sv.ownBlock ≠ some (Bf p) ∧ Bf p ≠ b) :
    Calls Try.prog 113 #[.iface 135 (.pointer (some ⟨b, o, none⟩)), .iface 137 (.pointer (some ⟨Bf p, 0, none⟩))] w fun e w' => ∃ sv' V', e = .returned (.tuple #[]) ∧ HalfAt w' b o sd sv' Bf V' ∧ V'.Perm (V ++ [p]) ∧ HeapTo (fun j => keyOf' sd (V'.getD j 0)) V'.length ∧ (sv'.ownBlock = sv.ownBlock ∨ ∃ k, sv'.ownBlock = some k ∧ w.heap.size ≤ k) ∧ Only (fun k => k = b ∨ sv.ownBlock = some k) w w' ∧ PbKeep b o w w' := by
  have H : Hid (HalfAt w b o sd sv Bf V) := h
  have HH : Hid (HeapTo (fun j => keyOf' sd (V.getD j 0)) V.length) := hh
  have HP : Hid _ := hp
  have m1 := mPush
  have m2 := mLen
  clear h hh hp
  go_enter Try.func113, Try.ntmps113
  go_wp2_with fail
  refine (hpush_any H.out p hf HP.out).mono ?_
  rintro e w1 ⟨sv1, rfl, h1, g1, o1, k1⟩
  have H1 : Hid (HalfAt w1 b o sd sv1 Bf (V ++ [p])) := h1
  have f1 := h1.few
  clear h1
  have hl1 : ((V ++ [p]).length : Int) = (V.length : Int) + 1 := by simp
  go_wp2_with fail
  refine (hlen_any H1.out).mono ?_
  rintro e w2 ⟨rfl, rfl⟩
  go_wp2_with fail
  refine (up_at H1.out V.length (V.length + 1) (by simp) (by omega) HH.out.snoc _ (by omega)).mono ?_
  rintro e w3 ⟨V3, rfl, h3, p3, t3, _, o3⟩
  go_wp2
  go_end0
  have hl3 : V3.length = V.length + 1 := by rw [p3.length_eq]; simp
  refine ⟨sv1, V3, rfl, h3, p3, by rw [hl3]; exact t3, g1, o1.then o3 (fun k hk h => ?_), k1.trans (PbKeep.of_only o3 H1.out.lt H1.out.ne)⟩
  rcases g1 with g | ⟨k', g, hl⟩
  · rw [g] at h; exact .inr h
  · rw [g] at h; injection h with h; omega

set_option maxRecDepth 100000 in
set_option maxHeartbeats 1000000 in
theorem heapRemove_any {w : World} {b o : Nat} {sd : Int} {sv : Value} {Bf : Int → Nat} {V : List Int} (h : HalfAt w b o sd sv Bf V) (hh : HeapTo (fun j => keyOf' sd (V.getD j 0)) V.length) (x : Nat) (hx : x < V.length) :
    Calls Try.prog 115 #[.iface 135 (.pointer (some ⟨b, o, none⟩)), .int .i64 (x : Int)] w fun e w' => ∃ v sv' V', e = .returned v ∧ HalfAt w' b o sd sv' Bf V' ∧ (V.getD x 0 :: V').Perm V ∧ HeapTo (fun j => keyOf' sd (V'.getD j 0)) V'.length ∧ sv'.ownBlock = sv.ownBlock ∧ Only (fun k => k = b ∨ sv.ownBlock = some k) w w' ∧ PbKeep b o w w' := by
  have H : Hid (HalfAt w b o sd sv Bf V) := h
  have HH : Hid (HeapTo (fun j => keyOf' sd (V.getD j 0)) V.length) := hh
  have m1 := mPop
  have m2 := mLen
  have m3 := mSwap
  have few := h.few
  obtain ⟨n, hn⟩ : ∃ n, V.length = n + 1 := ⟨V.length - 1, by omega⟩
  clear h hh
  go_enter Try.func115, Try.ntmps115
  go_wp2_with fail
  refine (hlen_any H.out).mono ?_
  rintro e w1 ⟨rfl, rfl⟩
  by_cases hxn : x = n
  · have hb : ((n : Int) == (x : Int)) = true := by simp; omega
    go_wp2_with fail
    refine (hpop_any H.out n hn).mono ?_
    rintro e w2 ⟨v, sv2, rfl, h2, g2, o2, k2⟩
    go_wp2
    go_ret
    obtain ⟨q1, q2⟩ := pop_end (sd := sd) (V := V) (W := V) (x := x) hn (List.Perm.refl _) (by rw [hxn]) (fun j h0 hj => HH.out j h0 (by omega))
    exact ⟨_, sv2, V.take n, rfl, h2, q1, q2, g2, o2, k2⟩
  · have hb : ((n : Int) == (x : Int)) = false := by simp; omega
    have hxl : x < n := by omega
    have HX : Hid ((∀ j, 0 < j → j < n → (j - 1) / 2 ≠ x → j ≠ x → (fun j => keyOf' sd ((swapL V x n).getD j 0)) ((j - 1) / 2) ≤ (fun j => keyOf' sd ((swapL V x n).getD j 0)) j) ∧ (0 < x → ∀ j, 0 < j → j < n → (j - 1) / 2 = x → (fun j => keyOf' sd ((swapL V x n).getD j 0)) ((x - 1) / 2) ≤ (fun j => keyOf' sd ((swapL V x n).getD j 0)) j)) := by
      rw [swapL_key sd V x n (by omega) (by omega)]
      exact HeapTo.put (by rw [← hn]; exact HH.out) hxl
    have HL : Hid ((swapL V x n).length = n + 1) := by rw [← hn]; exact swapL_length V x n
    have HG : Hid ((swapL V x n).getD n 0 = V.getD x 0) := by show _ = _; rw [swapL_get V x n n (by omega) (by omega), if_pos rfl]
    have HPm : Hid ((swapL V x n).Perm V) := swapL_perm V x n (by omega) (by omega)
    clear HH
    go_wp2_with fail
    refine (hswap_any H.out x n (by omega) (by omega)).mono ?_
    rintro e w2 ⟨rfl, h2, o2⟩
    obtain ⟨V1, hV1⟩ : ∃ V1, V1 = swapL V x n := ⟨_, rfl⟩
    rw [← hV1] at h2 HX HL HG HPm
    clear hV1
    have H2 : Hid (HalfAt w2 b o sd sv Bf V1) := h2
    have O2 : Hid (Only (fun k => sv.ownBlock = some k) w1 w2) := o2
    have hl1 : V1.length = n + 1 := HL.out
    have HLT : Hid (b < w1.heap.size) := H.out.lt
    have HNE : Hid (sv.ownBlock ≠ some b) := H.out.ne
    clear h2 o2 H
    -- behind down (and up): pop
    have FIN : Hid (∀ (W : World) (V3 : List Int), HalfAt W b o sd sv Bf V3 → V3.Perm V1 → HeapTo (fun j => keyOf' sd (V3.getD j 0)) n → (∀ j, n ≤ j → V3.getD j 0 = V1.getD j 0) → Only (fun k => sv.ownBlock = some k) w2 W →
        Calls Try.prog 167 #[.pointer (some ⟨b, o, none⟩)] W fun e w' => ∃ v sv' V', e = .returned v ∧ HalfAt w' b o sd sv' Bf V' ∧ (V.getD x 0 :: V').Perm V ∧ HeapTo (fun j => keyOf' sd (V'.getD j 0)) V'.length ∧ sv'.ownBlock = sv.ownBlock ∧ Only (fun k => k = b ∨ sv.ownBlock = some k) w1 w' ∧ PbKeep b o w1 w') := fun W V3 h3 p3 t3 s3 o3 => by
      have hl3 : V3.length = n + 1 := by rw [p3.length_eq]; exact HL.out
      refine (hpop_any h3 n hl3).mono ?_
      rintro e w4 ⟨v, sv4, rfl, h4, g4, o4, k4⟩
      obtain ⟨q1, q2⟩ := pop_end (sd := sd) (V := V) (W := V3) (x := x) hl3 (p3.trans HPm.out) ((s3 n (Nat.le_refl _)).trans HG.out) t3
      exact ⟨v, sv4, V3.take n, rfl, h4, q1, q2, g4, ((O2.out.trans o3).mono (fun _ _ h => .inr h)).trans o4, ((PbKeep.of_only O2.out HLT.out HNE.out).trans (PbKeep.of_only o3 (Nat.lt_of_lt_of_le HLT.out O2.out.size) HNE.out)).trans k4⟩
    by_cases hA : x = 0 ∨ keyOf' sd (V1.getD ((x - 1) / 2) 0) ≤ keyOf' sd (V1.getD x 0)
    · have HD : Hid (HeapDown (fun j => keyOf' sd (V1.getD j 0)) n x) := by
        refine ⟨fun j h0 hj hne => ?_, HX.out.2⟩
        by_cases e : j = x
        · subst e
          rcases hA with h | h
          · omega
          · exact h
        · exact HX.out.1 j h0 hj hne e
      clear hA
      go_wp2_with fail
      refine (down_any H2.out x n (by omega) hxl HD.out).mono ?_
      rintro e w3 ⟨V3, m, rfl, h3, p3, t3, s3, o3⟩
      have hl3 : V3.length = n + 1 := by rw [p3.length_eq]; exact HL.out
      have H3 : Hid (HalfAt w3 b o sd sv Bf V3) := h3
      have P3 : Hid (V3.Perm V1) := p3
      have T3 : Hid (HeapTo (fun j => keyOf' sd (V3.getD j 0)) n) := t3
      have S3 : Hid (∀ j, n ≤ j → V3.getD j 0 = V1.getD j 0) := s3
      have O3 : Hid (Only (fun k => sv.ownBlock = some k) w2 w3) := o3
      clear h3 p3 t3 s3 o3
      cases m
      · go_wp2_with fail
        refine (up_at H3.out x n (by omega) hxl (T3.out.toUp hxl) (x : Int) rfl).mono ?_
        rintro e w4 ⟨V4, rfl, h4, p4, t4, s4, o4⟩
        have H4 : Hid (HalfAt w4 b o sd sv Bf V4) := h4
        have P4 : Hid (V4.Perm V1) := p4.trans P3.out
        have T4 : Hid (HeapTo (fun j => keyOf' sd (V4.getD j 0)) n) := t4
        have S4 : Hid (∀ j, n ≤ j → V4.getD j 0 = V1.getD j 0) := fun j hj => (s4 j hj).trans (S3.out j hj)
        have O4 : Hid (Only (fun k => sv.ownBlock = some k) w2 w4) := O3.out.trans o4
        clear h4 p4 t4 s4 o4
        go_wp2_with fail
        refine (FIN.out w4 V4 H4.out P4.out T4.out S4.out O4.out).mono ?_
        rintro e w5 ⟨v, sv5, V5, rfl, h5, q1, q2, g5, o5, k5⟩
        go_wp2
        go_ret
        exact ⟨_, sv5, V5, rfl, h5, q1, q2, g5, o5, k5⟩
      · go_wp2_with fail
        refine (FIN.out w3 V3 H3.out P3.out T3.out S3.out O3.out).mono ?_
        rintro e w5 ⟨v, sv5, V5, rfl, h5, q1, q2, g5, o5, k5⟩
        go_wp2
        go_ret
        exact ⟨_, sv5, V5, rfl, h5, q1, q2, g5, o5, k5⟩
    · have hB : 0 < x ∧ keyOf' sd (V1.getD x 0) < keyOf' sd (V1.getD ((x - 1) / 2) 0) := by omega
      have HC : Hid (∀ j, 0 < j → j < n → (j - 1) / 2 = x → keyOf' sd (V1.getD x 0) ≤ keyOf' sd (V1.getD j 0)) := fun j h0 hj he => by
        have := HX.out.2 hB.1 j h0 hj he
        exact Int.le_trans (Int.le_of_lt hB.2) this
      have HUp : Hid (HeapUp (fun j => keyOf' sd (V1.getD j 0)) n x) := by
        refine ⟨fun j h0 hj hne => ?_, HX.out.2⟩
        by_cases e : (j - 1) / 2 = x
        · rw [e]; exact HC.out j h0 hj e
        · exact HX.out.1 j h0 hj e hne
      clear hA hB
      go_wp2_with fail
      refine (down_none H2.out x n (by omega) hxl HC.out).mono ?_
      rintro e w3 ⟨rfl, m, rfl⟩
      go_wp2_with fail
      refine (up_at (H2.out.drewN m) x n (by omega) hxl HUp.out (x : Int) rfl).mono ?_
      rintro e w4 ⟨V4, rfl, h4, p4, t4, s4, o4⟩
      have H4 : Hid (HalfAt w4 b o sd sv Bf V4) := h4
      have P4 : Hid (V4.Perm V1) := p4
      have T4 : Hid (HeapTo (fun j => keyOf' sd (V4.getD j 0)) n) := t4
      have S4 : Hid (∀ j, n ≤ j → V4.getD j 0 = V1.getD j 0) := s4
      have O4 : Hid (Only (fun k => sv.ownBlock = some k) w2 w4) := ((Only.refl _ w2).drewN m).trans o4
      clear h4 p4 t4 s4 o4
      go_wp2_with fail
      refine (FIN.out w4 V4 H4.out P4.out T4.out S4.out O4.out).mono ?_
      rintro e w5 ⟨v, sv5, V5, rfl, h5, q1, q2, g5, o5, k5⟩
      go_wp2
      go_ret
      exact ⟨_, sv5, V5, rfl, h5, q1, q2, g5, o5, k5⟩
end Go.Proofs.Ytbljokilfkodfaa
