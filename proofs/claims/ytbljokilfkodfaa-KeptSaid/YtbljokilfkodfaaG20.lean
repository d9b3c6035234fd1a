/-
  The levels of a side, as a heap behind container/heap's interface: Len, Less, Swap.
-/
import Derived.Test.YtbljokilfkodfaaG17
import Derived.Test.YtbljokilfkodfaaG18
import Derived.Deep.QuietTactic
import Derived.BigQuiet
import Derived.Deep.RegionWith
import Derived.BigRegion
import Derived.Laws.Tables
namespace Go.Proofs.Ytbljokilfkodfaa
open Go.RowKit

theorem own_some {w : World} {base n : Nat} {e : TypeId} {v : Value} {xs : List Value} (h : w.ownsRow base e 1 v n xs) (hn : 0 < n) :
    ∃ g cap, v = .slice (some ⟨g, 0, none⟩) n cap ∧ g < w.heap.size ∧ n ≤ cap ∧ (∀ i, i < n → w.cell? ⟨g, i, none⟩ = xs[i]?) ∧ ∀ i, w.frozen? ⟨g, i, none⟩ = false := by
  have hl := h.1
  obtain ⟨_, h2⟩ := id h
  rcases h2 with ⟨_, h0⟩ | ⟨g, cap, cur, hv, hg, hh, hc, r⟩
  · omega
  · have hown := h
    rw [hv] at hown
    refine ⟨g, cap, hv, ?_, hc, fun i hi => hown.cellAt i (by omega), fun i => hown.frozenAt i⟩
    rcases Nat.lt_or_ge g w.heap.size with hl | hl
    · exact hl
    · rw [Array.getElem?_eq_none hl] at hh; cases hh
theorem own_set {w : World} {base n g cap : Nat} {e : TypeId} {xs : List Value} (h : w.ownsRow base e 1 (.slice (some ⟨g, 0, none⟩) n cap) n xs) (i : Nat) (_hi : i < n) (u : Value) :
    (w.setCell ⟨g, i, none⟩ u).ownsRow base e 1 (.slice (some ⟨g, 0, none⟩) n cap) n (xs.set i u) := by
  obtain ⟨h1, h2⟩ := h
  refine ⟨by simpa using h1, ?_⟩
  rcases h2 with ⟨h0, _⟩ | ⟨g', cap', cur, hv, hg, hh, hc, hm, hs, ht⟩
  · cases h0
  · injection hv with ha hb hcp
    injection ha with ha
    injection ha with hgg _ _
    subst hgg
    subst hcp
    refine .inr ⟨g, cap, cur.setIfInBounds i u, rfl, hg, ?_, hc, hm, by simpa using hs, ?_⟩
    · rw [setCell_eq_setRow w g i cur e (0, 0) u hh]
      exact setRow_heap w g cur _ e _ hh
    · rw [Array.toList_setIfInBounds, List.take_set, ht]

theorem ret_bool {a b : Bool} (h : a = b) : Ending.returned (.bool a) = .returned (.bool b) := by rw [h]

def lvPtrs (Bf : Int → Nat) (V : List Int) : List Value := V.map fun p => .pointer (some ⟨Bf p, 0, none⟩)

structure HalfAt (w : World) (b o : Nat) (sd : Int) (sv : Value) (Bf : Int → Nat) (V : List Int) : Prop where
  lt : b < w.heap.size
  side : w.cell? ⟨b, o, none⟩ = some (.int .i64 sd)
  row : w.cell? ⟨b, o + 1, none⟩ = some sv
  soft : w.frozen? ⟨b, o + 1, none⟩ = false
  own : w.ownsRow 0 137 1 sv V.length (lvPtrs Bf V)
  ne : sv.ownBlock ≠ some b
  lv : ∀ p ∈ V, w.cell? ⟨Bf p, 0, none⟩ = some (.int .i64 p) ∧ Bf p < w.heap.size ∧ sv.ownBlock ≠ some (Bf p) ∧ Bf p ≠ b
  few : V.length ≤ 13

set_option maxRecDepth 100000 in
set_option maxHeartbeats 1000000 in
theorem hlen_any {w : World} {b o : Nat} {sd : Int} {sv : Value} {Bf : Int → Nat} {V : List Int} (h : HalfAt w b o sd sv Bf V) :
    Calls Try.prog 165 #[.pointer (some ⟨b, o, none⟩)] w fun e w' => e = .returned (.int .i64 (V.length : Int)) ∧ w' = w := by
  have hr := h.row
  obtain ⟨x, c, hsv⟩ := owned_form' h.own
  subst hsv
  clear h
  go_enter Try.func165, Try.ntmps165
  go_wp2
  go_ret
  exact ⟨rfl, rfl⟩

set_option maxRecDepth 100000 in
set_option maxHeartbeats 1000000 in
theorem hless_any {w : World} {b o : Nat} {sd : Int} {sv : Value} {Bf : Int → Nat} {V : List Int} (h : HalfAt w b o sd sv Bf V) (i j : Nat) (hi : i < V.length) (hj : j < V.length) :
    Calls Try.prog 166 #[.pointer (some ⟨b, o, none⟩), .int .i64 (i : Int), .int .i64 (j : Int)] w fun e w' => e = .returned (.bool (decide (keyOf' sd (V.getD i 0) < keyOf' sd (V.getD j 0)))) ∧ ∃ m, w' = w.drewN m := by
  have hr := h.row
  have hsd := h.side
  have hi' : V.getD i 0 = V[i] := by rw [List.getD_eq_getElem?_getD, List.getElem?_eq_getElem hi]; rfl
  have hj' : V.getD j 0 = V[j] := by rw [List.getD_eq_getElem?_getD, List.getElem?_eq_getElem hj]; rfl
  have ho := h.own
  have hlv := h.lv
  obtain ⟨g, c, hsv, hg, _, hcell, _⟩ := own_some ho (by omega)
  subst hsv
  have hpi := (hlv V[i] (List.getElem_mem _)).1
  have hpj := (hlv V[j] (List.getElem_mem _)).1
  have ci : w.cell? ⟨g, i, none⟩ = some (.pointer (some ⟨Bf V[i], 0, none⟩)) := (hcell i hi).trans (by simp [lvPtrs, hi])
  have cj : w.cell? ⟨g, j, none⟩ = some (.pointer (some ⟨Bf V[j], 0, none⟩)) := (hcell j hj).trans (by simp [lvPtrs, hj])
  rw [hi', hj']
  have ii : (i : Int) < (V.length : Int) := by omega
  have jj : (j : Int) < (V.length : Int) := by omega
  have few := h.few
  clear h ho hlv hcell hi' hj'
  go_enter Try.func166, Try.ntmps166
  go_wp2_with fail
  go_quiet ((go_at_call 66; exact Calls.quiet_of_same (hcompare_any _ _ sd _ _ _ hsd)))
  go_wp2
  go_ret
  refine ⟨?_, nq, rfl⟩
  exact ret_bool (by rw [decide_eq_decide]; exact cmpS_lt sd _ _)

theorem Only.drew1 {S : Nat → Prop} {w w' : World} (h : Only S w w') : Only S w w'.drew := ⟨h.os, h.tape, h.output, h.size, h.block⟩
theorem HalfAt.drew {w : World} {b o : Nat} {sd : Int} {sv : Value} {Bf : Int → Nat} {V : List Int} (h : HalfAt w b o sd sv Bf V) : HalfAt w.drew b o sd sv Bf V := ⟨h.lt, h.side, h.row, h.soft, h.own, h.ne, h.lv, h.few⟩
theorem HalfAt.drewN {w : World} {b o : Nat} {sd : Int} {sv : Value} {Bf : Int → Nat} {V : List Int} (h : HalfAt w b o sd sv Bf V) (n : Nat) : HalfAt (w.drewN n) b o sd sv Bf V := ⟨h.lt, h.side, h.row, h.soft, h.own, h.ne, h.lv, h.few⟩
theorem HalfAt.keep {w w' : World} {b o : Nat} {sd : Int} {sv : Value} {Bf : Int → Nat} {V : List Int} {T : Nat → Prop} (h : HalfAt w b o sd sv Bf V) (on : Only T w w') (hb : ¬ T b) (hr : ∀ k, sv.ownBlock = some k → ¬ T k) (hl : ∀ p ∈ V, ¬ T (Bf p)) : HalfAt w' b o sd sv Bf V :=
  ⟨Nat.lt_of_lt_of_le h.lt on.size, (on.cell h.lt hb).trans h.side, (on.cell h.lt hb).trans h.row, (on.frozen h.lt hb).trans h.soft, own_keep h.own on hr, h.ne, fun p hp => ⟨(on.cell (h.lv p hp).2.1 (hl p hp)).trans (h.lv p hp).1, Nat.lt_of_lt_of_le (h.lv p hp).2.1 on.size, (h.lv p hp).2.2⟩, h.few⟩
theorem HalfAt.set {w : World} {b o g c : Nat} {sd : Int} {Bf : Int → Nat} {V V' : List Int} (h : HalfAt w b o sd (.slice (some ⟨g, 0, none⟩) V.length c) Bf V) (i : Nat) (hi : i < V.length) (x : Int) (j : Nat) (hj : j < V.length) (y : Int) (hV : V' = (V.set i x).set j y) (hx : x ∈ V := by exact List.getElem_mem _) (hy : y ∈ V := by exact List.getElem_mem _) :
    HalfAt ((w.setCell ⟨g, i, none⟩ (.pointer (some ⟨Bf x, 0, none⟩))).setCell ⟨g, j, none⟩ (.pointer (some ⟨Bf y, 0, none⟩))) b o sd (.slice (some ⟨g, 0, none⟩) V.length c) Bf V' := by
  have on : Only (fun k => k = g) w ((w.setCell ⟨g, i, none⟩ (.pointer (some ⟨Bf x, 0, none⟩))).setCell ⟨g, j, none⟩ (.pointer (some ⟨Bf y, 0, none⟩))) := (only_set _ _ _ _).trans (only_set _ _ _ _)
  have hne : g ≠ b := fun e => h.ne (by rw [e]; rfl)
  have hlen : V'.length = V.length := by rw [hV]; simp
  have hmem : ∀ p ∈ V', p ∈ V := fun p hp => by
    rw [hV] at hp
    rcases List.mem_or_eq_of_mem_set hp with hp | hp
    · rcases List.mem_or_eq_of_mem_set hp with hp | hp
      · exact hp
      · rw [hp]; exact hx
    · rw [hp]; exact hy
  have hb : ¬ b = g := fun e => hne e.symm
  refine ⟨Nat.lt_of_lt_of_le h.lt on.size, (on.cell h.lt hb).trans h.side, (on.cell h.lt hb).trans h.row, (on.frozen h.lt hb).trans h.soft, ?_, h.ne, fun p hp => ?_, by have := h.few; omega⟩
  · rw [hlen]
    have e : lvPtrs Bf V' = ((lvPtrs Bf V).set i (.pointer (some ⟨Bf x, 0, none⟩))).set j (.pointer (some ⟨Bf y, 0, none⟩)) := by
      rw [hV]; unfold lvPtrs; rw [List.map_set, List.map_set]
    rw [e]
    exact own_set (own_set h.own i hi _) j hj _
  · have hl := h.lv p (hmem p hp)
    have hg : ¬ Bf p = g := fun e => hl.2.2.1 (by rw [e]; rfl)
    exact ⟨(on.cell hl.2.1 hg).trans hl.1, Nat.lt_of_lt_of_le hl.2.1 on.size, hl.2.2⟩

/-- Two change their places. -/
def swapL (V : List Int) (i j : Nat) : List Int := (V.set i (V.getD j 0)).set j (V.getD i 0)
theorem swapL_length (V : List Int) (i j : Nat) : (swapL V i j).length = V.length := by simp [swapL]

set_option maxRecDepth 100000 in
set_option maxHeartbeats 1000000 in
theorem hswap_any {w : World} {b o : Nat} {sd : Int} {sv : Value} {Bf : Int → Nat} {V : List Int} (h : HalfAt w b o sd sv Bf V) (i j : Nat) (hi : i < V.length) (hj : j < V.length) :
    Calls Try.prog 169 #[.pointer (some ⟨b, o, none⟩), .int .i64 (i : Int), .int .i64 (j : Int)] w fun e w' => e = .returned (.tuple #[]) ∧ HalfAt w' b o sd sv Bf (swapL V i j) ∧ Only (fun k => sv.ownBlock = some k) w w' := by
  have hr := h.row
  have H := (show Hid _ from h)
  have hi' : V.getD i 0 = V[i] := by rw [List.getD_eq_getElem?_getD, List.getElem?_eq_getElem hi]; rfl
  have hj' : V.getD j 0 = V[j] := by rw [List.getD_eq_getElem?_getD, List.getElem?_eq_getElem hj]; rfl
  obtain ⟨g, c, hsv, hg, _, hcell, hz⟩ := own_some h.own (by omega)
  subst hsv
  have ci : w.cell? ⟨g, i, none⟩ = some (.pointer (some ⟨Bf V[i], 0, none⟩)) := (hcell i hi).trans (by simp [lvPtrs, hi])
  have cj : w.cell? ⟨g, j, none⟩ = some (.pointer (some ⟨Bf V[j], 0, none⟩)) := (hcell j hj).trans (by simp [lvPtrs, hj])
  have ii : (i : Int) < (V.length : Int) := by omega
  have jj : (j : Int) < (V.length : Int) := by omega
  have few := h.few
  have hmid : (w.setCell ⟨g, i, none⟩ (.pointer (some ⟨Bf V[j], 0, none⟩))).cell? ⟨g, j, none⟩ = some (.pointer (some ⟨Bf V[j], 0, none⟩)) := by
    by_cases e : i = j
    · subst e; exact World.cell?_setCell_same _ _ _ ci
    · exact (World.cell?_setCell_other _ ⟨g, i, none⟩ ⟨g, j, none⟩ _ (by simp)).trans cj
  clear h hcell
  go_enter Try.func169, Try.ntmps169
  go_wp2_with fail
  go_region
  go_end0
  refine ⟨rfl, ?_, ?_⟩
  · exact ((H.out.set i hi _ j hj _ (by rw [swapL, hi', hj'])).drew)
  · exact ((only_set _ _ _ _).trans (only_set _ _ _ _)).drew1.mono (fun k _ hk => by rw [hk]; rfl)
end Go.Proofs.Ytbljokilfkodfaa
