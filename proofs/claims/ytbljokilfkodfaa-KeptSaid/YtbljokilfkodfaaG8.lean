/-
  The document's book in memory: one order less.
-/
import Derived.Test.YtbljokilfkodfaaG7
import Derived.Lib.SmallJoins
namespace Go.Proofs.Ytbljokilfkodfaa
open Go.RowKit

def bDropTo (L : List Od) (i : Int) : Nat → List Od
  | 0 => []
  | k + 1 => bDropTo L i k ++ (if (k : Int) = i then [] else [L.getD k od0])
theorem take_succ_od {L : List Od} {k : Nat} (hk : k < L.length) : L.take (k + 1) = L.take k ++ [L.getD k od0] := by
  rw [List.take_succ_eq_append_getElem hk, List.getD_eq_getElem?_getD, List.getElem?_eq_getElem hk]; rfl
theorem bDropTo_eq (L : List Od) (i : Nat) : ∀ k, k ≤ L.length → bDropTo L (i : Int) k = (L.take k).eraseIdx i
  | 0, _ => by simp [bDropTo]
  | k + 1, hk => by
    rw [bDropTo, bDropTo_eq L i k (by omega), take_succ_od (by omega), List.eraseIdx_append]
    have hl : (L.take k).length = k := by rw [List.length_take]; omega
    by_cases h : i < k
    · rw [if_neg (show ¬ ((k : Int) = (i : Int)) by omega), if_pos (show i < (L.take k).length by omega)]
    · rw [if_neg (show ¬ i < (L.take k).length by omega), hl, List.eraseIdx_of_length_le (show (L.take k).length ≤ i by omega)]
      by_cases he : i = k
      · subst he; rw [if_pos rfl, Nat.sub_self]; rfl
      · rw [if_neg (show ¬ ((k : Int) = (i : Int)) by omega), List.eraseIdx_of_length_le (by simp; omega)]
theorem bDropTo_all (L : List Od) (i : Nat) : bDropTo L (i : Int) L.length = L.eraseIdx i := by rw [bDropTo_eq L i _ (Nat.le_refl _), List.take_length]
theorem bDropTo_len (L : List Od) (i : Int) : ∀ k, (bDropTo L i k).length ≤ k
  | 0 => Nat.le_refl _
  | k + 1 => by
    have := bDropTo_len L i k
    unfold bDropTo
    split <;> simp <;> omega
theorem new5 (W : World) (g : Nat) (hg : g = W.heap.size) (T : TypeId) (v0 v1 v2 v3 v4 : Value) : ∀ (j : Nat) (u : Value), [v0, v1, v2, v3, v4][j]? = some u → (W.alloc (.cells #[v0, v1, v2, v3, v4] T)).cell? ((⟨g, 0, none⟩ : Addr).add j) = some u := by
  subst hg
  intro j u hj
  match j, hj with
  | 0, hj => simp at hj; subst hj; simp [Addr.add]
  | 1, hj => simp at hj; subst hj; simp [Addr.add]
  | 2, hj => simp at hj; subst hj; simp [Addr.add]
  | 3, hj => simp at hj; subst hj; simp [Addr.add]
  | 4, hj => simp at hj; subst hj; simp [Addr.add]
theorem one5 (m : Od) : ∀ u ∈ odCells m, u.oneCell' = true := by
  intro u hu
  simp [odCells] at hu
  rcases hu with rfl | rfl | rfl | rfl | rfl <;> rfl
theorem infoOd : (Try.prog.info? 90).map (fun i => (i.zero, i.size, i.bytes)) = some (some (.agg #[.int .i64 0, .int .i64 0, .int .i64 0, .int .i64 0, .int .i64 0]), 5, 40) := by kernel_rfl

theorem owned_form {w : World} {base : Nat} {e : TypeId} {size n : Nat} {v : Value} {xs : List Value} (h : w.ownsRow base e size v n xs) : ∃ x c, v = .slice x n c := by
  obtain ⟨_, h⟩ := h
  rcases h with ⟨rfl, rfl⟩ | ⟨g, cap, cur, rfl, _⟩
  · exact ⟨_, _, rfl⟩
  · exact ⟨_, _, rfl⟩
/-- A new list is stored into the book. -/
theorem RefAt.stored {w wl : World} {pb : Nat} {sv v : Value} {L M : List Od} (h : RefAt w pb sv L) (hb : Below w.heap.size w wl) (own : wl.ownsRow w.heap.size 90 5 v M.length (odRows M)) :
    RefAt (wl.setCell ⟨pb, 0, none⟩ v) pb v M ∧ Only (fun k => k = pb) w (wl.setCell ⟨pb, 0, none⟩ v) ∧ (∀ k, v.ownBlock = some k → w.heap.size ≤ k) := by
  have hlt := h.lt
  have hsz := hb.size
  have hc : wl.cell? ⟨pb, 0, none⟩ = some sv := ((bcell hb).1 pb 0 hlt).trans h.cell
  refine ⟨⟨by simp [World.setCell]; omega, World.cell?_setCell_same _ _ _ hc, ?_, ?_, ?_, ?_⟩, ⟨hb.os, hb.tape, hb.output, by simp [World.setCell]; omega, fun k hk hne => ?_⟩, fun k hk => (own.lt k hk).1⟩
  · have : wl.frozen? ⟨pb, 0, none⟩ = false := ((bcell hb).2 pb 0 hlt).trans h.free
    simp [this]
  · exact Joins.ownsRow_le (ownsRow_setCell_below own (show pb < w.heap.size from hlt) v) (Nat.zero_le _)
  · intro e
    have := (own.lt pb e).1
    omega
  · obtain ⟨c, fz, hk⟩ := h.kind
    rw [← hb.block pb hlt] at hk
    exact ⟨_, _, by simp [World.setCell, Array.getElem?_modify, hk]; exact ⟨rfl, rfl⟩⟩
  · rw [Below.heap_setCell _ _ _ _ (show k ≠ pb from hne)]
    exact hb.block k hk

set_option maxRecDepth 100000 in
set_option maxHeartbeats 1000000 in
theorem rdrop_any {w : World} {pb : Nat} {sv : Value} {L : List Od} (i : Nat) (h : RefAt w pb sv L) (hl : L.length ≤ 1000) (_hil : i < L.length) :
    Calls Try.prog 38 #[.pointer (some ⟨pb, 0, none⟩), .int .i64 (i : Int)] w fun e w' => e = .returned (.tuple #[]) ∧ ∃ v, RefAt w' pb v (L.eraseIdx i) ∧ Only (fun k => k = pb) w w' ∧ (∀ k, v.ownBlock = some k → w.heap.size ≤ k) := by
  obtain ⟨a, cap, hs⟩ := h.seen
  have HS : Hid (Seen w pb a cap L) := hs
  have HR : Hid (RefAt w pb sv L) := h
  have hfr : Hid (∀ W, Below w.heap.size w W → W.frozen? ⟨pb, 0, none⟩ = false) := fun W hW => ((bcell hW).2 pb 0 h.lt).trans h.free
  clear hs h
  obtain ⟨i0, hi, hz0, hz1, hz2⟩ := info_parts infoOd
  go_enter Try.func38, Try.ntmps38
  go_wp2_with fail
  go_loopw [4, 5] (fun v x wr => ∃ k : Nat, k ≤ L.length ∧ x = .int .i64 (k : Int) ∧ wr.ownsRow w.heap.size 90 5 v (bDropTo L i k).length (odRows (bDropTo L i k)) ∧ Below w.heap.size w wr) (fun _ x _ => L.length - (intOf x).toNat)
  case atStart => exact ⟨0, Nat.zero_le _, rfl, World.ownsRow_nil _ _ _ _, Below.refl _ _⟩
  case round =>
    obtain ⟨k, hk, rfl, hown, hB⟩ := hrel
    have hcl := HS.out.1 wr hB
    have hfz := hfr.out wr hB
    have HO : Hid (wr.ownsRow w.heap.size 90 5 u4 (bDropTo L i k).length (odRows (bDropTo L i k))) := hown
    clear hown
    have hdl := bDropTo_len L i k
    by_cases hlt : k < L.length
    · obtain ⟨g, m, ha, HM, HC⟩ := HS.out.at hlt
      obtain ⟨c0, c1, c2, c3, c4⟩ := HC.out wr hB
      have hlti : (k : Int) < (L.length : Int) := by omega
      by_cases hki : (k : Int) = (i : Int)
      · have hb1 : ((k : Int) != (i : Int)) = false := by simp; omega
        have hnx : Hid (bDropTo L i (k + 1) = bDropTo L i k) := by
          show bDropTo L i (k + 1) = bDropTo L i k
          rw [bDropTo, if_pos hki, List.append_nil]
        clear hki
        go_wp2
        exact ⟨⟨k + 1, by omega, by go_num, by rw [hnx.out]; exact HO.out, hB⟩, by simp [intOf]; omega⟩
      · have hb1 : ((k : Int) != (i : Int)) = true := by simp; omega
        have hnx : Hid (bDropTo L i (k + 1) = bDropTo L i k ++ [m]) := by
          show bDropTo L i (k + 1) = bDropTo L i k ++ [m]
          rw [bDropTo, if_neg hki, HM.out]
        clear hki
        go_wp2_with (at_builtin; refine wpList_append_own _ rfl _ _ 26 rfl w.heap.size 90 i0 _ 5 40 Try.underlying26 hi hz0 hz1 hz2 rfl (by decide) _ _ _ rfl (HO.out.alloc _) ⟨wr.heap.size, 0, none⟩ 1 1 (odCells m) rfl rfl ?c1 ?c2 ?c3 ?c4 ?c5 ?_)
        case c1 => exact new5 _ _ rfl _ _ _ _ _ _
        case c2 => exact one5 _
        case c3 => unfold maxLen; omega
        case c4 => omega
        case c5 => have := hB.size; simp; omega
        · intro v' w2 hown' hgrow _
          have B2 : Below w.heap.size w w2 := (hB.alloc hB.size _).grown hgrow (by have := hB.size; simp; omega) (fun g hg => (HO.out.lt g hg).1)
          have R : w2.ownsRow w.heap.size 90 5 v' (bDropTo L i (k + 1)).length (odRows (bDropTo L i (k + 1))) := by
            rw [hnx.out, odRows_append, List.length_append]; exact hown'
          clear hown' hgrow
          go_wp2
          exact ⟨⟨k + 1, by omega, by go_num, R, B2⟩, by simp [intOf]; omega⟩
    · have O1 := HO.out
      rw [show k = L.length by omega, bDropTo_all] at O1
      obtain ⟨x, c, hu⟩ := owned_form O1
      rw [hu] at O1
      have fin := HR.out.stored hB O1
      have FIN : Hid (RefAt (wr.setCell ⟨pb, 0, none⟩ (.slice x (L.eraseIdx i).length c)) pb (.slice x (L.eraseIdx i).length c) (L.eraseIdx i) ∧ Only (fun k => k = pb) w (wr.setCell ⟨pb, 0, none⟩ (.slice x (L.eraseIdx i).length c)) ∧ (∀ k, (Value.slice x (L.eraseIdx i).length c).ownBlock = some k → w.heap.size ≤ k)) := fin
      clear fin O1 HO hdl
      obtain ⟨nn, hnn⟩ : ∃ nn, nn = (L.eraseIdx i).length := ⟨_, rfl⟩
      rw [← hnn] at FIN hu
      clear hnn
      go_wp2
      go_end0
      exact ⟨rfl, _, FIN.out⟩
end Go.Proofs.Ytbljokilfkodfaa
