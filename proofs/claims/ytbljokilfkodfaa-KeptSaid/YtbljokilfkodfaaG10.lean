/-
  The document's add: two lists of events as one.
-/
import Derived.Test.YtbljokilfkodfaaG9
import Derived.Deep.AppendLies
namespace Go.Proofs.Ytbljokilfkodfaa
open Go.RowKit

theorem owned_ev {w : World} {base : Nat} {v : Value} {l : List Ev} (h : w.ownsRow base 87 6 v l.length (evRows l)) : ∃ a cap, v = .slice a l.length cap ∧ (0 < l.length → ∃ g, a = some ⟨g, 0, none⟩ ∧ v.ownBlock = some g ∧ g < w.heap.size ∧ ∀ j i, j < l.length → i < 6 → w.cell? ⟨g, j * 6 + i, none⟩ = some (.int .i64 (evZ l j i))) := by
  have hlt := h.lt
  have ho := h
  obtain ⟨_, ho2⟩ := ho
  rcases ho2 with ⟨hv, hn⟩ | ⟨g, cap, cur, hv, _⟩
  · exact ⟨none, 0, by rw [hv, hn], fun hp => by omega⟩
  · refine ⟨_, cap, hv, fun _ => ⟨g, rfl, by rw [hv]; rfl, (hlt g (by rw [hv]; rfl)).2, fun j i hj hi => ?_⟩⟩
    have hown := h
    rw [hv] at hown
    exact (hown.cellAt (j * 6 + i) (by omega)).trans (evRows_at l j i hj hi)
theorem take_succ_ev {l : List Ev} {k : Nat} (hk : k < l.length) : l.take (k + 1) = l.take k ++ [l.getD k ev0] := by
  rw [List.take_succ_eq_append_getElem hk, List.getD_eq_getElem?_getD, List.getElem?_eq_getElem hk]; rfl

set_option maxRecDepth 100000 in
set_option maxHeartbeats 400000 in
theorem radd_zero (v : Value) (a : Option Addr) (cap : Nat) (w : World) : Calls Try.prog 39 #[v, .slice a 0 cap] w fun e w' => e = .returned v ∧ w' = w := by
  go_enter Try.func39, Try.ntmps39
  go_wp2_with fail
  go_loop [0, 5] (fun x i => x = v ∧ i = .int .i64 0) (fun _ _ => 0)
  case atStart => exact ⟨rfl, rfl⟩
  case round =>
    obtain ⟨rfl, rfl⟩ := hrel
    go_wp2
    go_ret
    exact ⟨rfl, rfl⟩

set_option maxRecDepth 100000 in
set_option maxHeartbeats 1000000 in
theorem radd_any {w : World} {B : Nat} {v1 v2 : Value} {l1 l2 : List Ev} (hB : B ≤ w.heap.size) (h1 : w.ownsRow B 87 6 v1 l1.length (evRows l1)) (h2 : w.ownsRow B 87 6 v2 l2.length (evRows l2)) (hne : ∀ k, v1.ownBlock = some k → v2.ownBlock ≠ some k) (hl1 : l1.length ≤ 1000) (hl2 : l2.length ≤ 1000) :
    Calls Try.prog 39 #[v1, v2] w fun e w' => ∃ v, e = .returned v ∧ w'.ownsRow B 87 6 v (l1 ++ l2).length (evRows (l1 ++ l2)) ∧ Only (fun k => v1.ownBlock = some k) w w' ∧ (∀ k, v.ownBlock = some k → v1.ownBlock = some k ∨ w.heap.size ≤ k) := by
  obtain ⟨i0, hi, hz0, hz1, hz2⟩ := info_parts infoEv
  obtain ⟨a, cap, hv2, hg⟩ := owned_ev h2
  have HG : Hid (0 < l2.length → ∃ g, a = some ⟨g, 0, none⟩ ∧ v2.ownBlock = some g ∧ g < w.heap.size ∧ ∀ j i, j < l2.length → i < 6 → w.cell? ⟨g, j * 6 + i, none⟩ = some (.int .i64 (evZ l2 j i))) := hg
  have H1 : Hid (w.ownsRow B 87 6 v1 l1.length (evRows l1)) := h1
  have HNE : Hid (∀ k, v1.ownBlock = some k → v2.ownBlock ≠ some k) := hne
  have HV2 : Hid (v2 = .slice a l2.length cap) := hv2
  rw [hv2]
  clear hg h1 h2 hne hv2
  rcases Nat.eq_zero_or_pos l2.length with hz | hp
  · have hl2e : l2 = [] := List.length_eq_zero_iff.1 hz
    subst hl2e
    refine (radd_zero v1 a cap w).mono ?_
    rintro e w' ⟨rfl, rfl⟩
    exact ⟨_, rfl, by simpa using H1.out, Only.refl _ _, fun k hk => .inl hk⟩
  obtain ⟨g, ha, hvb, hgl, hc⟩ := HG.out hp
  subst ha
  have HC : Hid (∀ j i, j < l2.length → i < 6 → w.cell? ⟨g, j * 6 + i, none⟩ = some (.int .i64 (evZ l2 j i))) := hc
  have HGN : Hid (¬ v1.ownBlock = some g) := fun e => HNE.out g e hvb
  clear HG HNE HV2 hvb hc
  go_enter Try.func39, Try.ntmps39
  go_wp2_with fail
  go_loopw [0, 5] (fun v i wr => ∃ j : Nat, j ≤ l2.length ∧ i = .int .i64 (j : Int) ∧ wr.ownsRow B 87 6 v (l1 ++ l2.take j).length (evRows (l1 ++ l2.take j)) ∧ (∀ k, v.ownBlock = some k → v1.ownBlock = some k ∨ w.heap.size ≤ k) ∧ Only (fun k => v1.ownBlock = some k) w wr) (fun _ i _ => l2.length - (intOf i).toNat)
  case atStart => exact ⟨0, Nat.zero_le _, rfl, by simpa using H1.out, fun k hk => .inl hk, Only.refl _ _⟩
  case round =>
    obtain ⟨j, hj, rfl, own, nb, on⟩ := hrel
    have HO : Hid (wr.ownsRow B 87 6 u0 (l1 ++ l2.take j).length (evRows (l1 ++ l2.take j))) := own
    have HNB : Hid (∀ k, u0.ownBlock = some k → v1.ownBlock = some k ∨ w.heap.size ≤ k) := nb
    have HON : Hid (Only (fun k => v1.ownBlock = some k) w wr) := on
    have hsz := on.size
    have hlen : (l1 ++ l2.take j).length ≤ 2000 := by rw [List.length_append, List.length_take]; omega
    clear own nb on
    by_cases hlt : j < l2.length
    · have hgn := HGN.out
      have hc := HC.out
      obtain ⟨e, he⟩ : ∃ e, e = l2.getD j ev0 := ⟨_, rfl⟩
      have d0 : wr.cell? ⟨g, j * 6, none⟩ = some (.int .i64 e.k) := by rw [he]; exact (HON.out.cell hgl hgn).trans (hc j 0 hlt (by omega))
      have d1 : wr.cell? ⟨g, j * 6 + 1, none⟩ = some (.int .i64 e.cl) := by rw [he]; exact (HON.out.cell hgl hgn).trans (hc j 1 hlt (by omega))
      have d2 : wr.cell? ⟨g, j * 6 + 2, none⟩ = some (.int .i64 e.id) := by rw [he]; exact (HON.out.cell hgl hgn).trans (hc j 2 hlt (by omega))
      have d3 : wr.cell? ⟨g, j * 6 + 3, none⟩ = some (.int .i64 e.ot) := by rw [he]; exact (HON.out.cell hgl hgn).trans (hc j 3 hlt (by omega))
      have d4 : wr.cell? ⟨g, j * 6 + 4, none⟩ = some (.int .i64 e.pr) := by rw [he]; exact (HON.out.cell hgl hgn).trans (hc j 4 hlt (by omega))
      have d5 : wr.cell? ⟨g, j * 6 + 5, none⟩ = some (.int .i64 e.q) := by rw [he]; exact (HON.out.cell hgl hgn).trans (hc j 5 hlt (by omega))
      have HE : Hid (l1 ++ l2.take (j + 1) = (l1 ++ l2.take j) ++ [e]) := by
        show l1 ++ l2.take (j + 1) = (l1 ++ l2.take j) ++ [e]
        rw [take_succ_ev hlt, he, List.append_assoc]
      clear hc he hgn
      have hlti : (j : Int) < (l2.length : Int) := by omega
      obtain ⟨nn, hnn⟩ : ∃ nn, nn = (l1 ++ l2.take j).length := ⟨_, rfl⟩
      rw [← hnn] at HO hlen
      have HNN : Hid (nn = (l1 ++ l2.take j).length) := hnn
      clear hnn
      go_wp2_with (at_builtin; refine wpList_append_lies _ rfl (.tmp 12) (.tmp 17) 35 rfl B 87 i0 _ 6 48 Try.underlying35 hi hz0 hz1 hz2 rfl (by decide) _ _ _ rfl (HO.out.alloc _) ⟨wr.heap.size, 0, none⟩ 1 1 (evCells e) rfl rfl ?c1 ?c2 (by decide) ?c3 ?c4 ?c5 (wr.heap.size + 1) (by simp) ?_)
      case c1 => exact new6' _ _ rfl _ _ _ _ _ _ _
      case c2 => exact one6' _
      case c3 => unfold maxLen; omega
      case c4 => omega
      case c5 => simp; omega
      · intro g' cap' w2 own' grow' hg' _
        have R : w2.ownsRow B 87 6 (.slice (some ⟨g', 0, none⟩) (nn + 1) cap') (l1 ++ l2.take (j + 1)).length (evRows (l1 ++ l2.take (j + 1))) := by
          rw [HE.out, evRows_append, List.length_append, ← HNN.out]; exact own'
        have NB : ∀ k, (Value.slice (some ⟨g', 0, none⟩) (nn + 1) cap').ownBlock = some k → v1.ownBlock = some k ∨ w.heap.size ≤ k := by
          intro k hk
          simp [Value.ownBlock] at hk
          subst hk
          rcases hg' with h | h
          · exact HNB.out _ h
          · exact .inr (by omega)
        have ON : Only (fun k => v1.ownBlock = some k) w w2 := (HON.out.then (only_alloc wr _) (fun _ _ h => h.elim)).then (only_grown grow') (fun i hi h => by
          rcases HNB.out i h with h | h
          · exact h
          · omega)
        clear own' grow' hg'
        go_wp2
        go_roundw
        case rel => exact ⟨j + 1, by omega, by go_num, R, NB, ON⟩
        case measure => simp [intOf]; omega
    · go_wp2
      go_ret
      go_light
      have O := HO.out
      rw [List.take_of_length_le (show l2.length ≤ j by omega)] at O
      exact ⟨_, rfl, O, HON.out, HNB.out⟩
end Go.Proofs.Ytbljokilfkodfaa
