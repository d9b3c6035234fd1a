/-
  The law Turns, out of what is said of a book.
-/
import Derived.Test.YtbljokilfkodfaaG27
import Derived.Test.YtbljokilfkodfaaG6
import Derived.Test.YtbljokilfkodfaaG9
import Derived.Test.YtbljokilfkodfaaG18
import Derived.Deep.AppendLies
import Derived.Deep.QuietTactic
import Derived.BigQuiet
namespace Go.Proofs.Ytbljokilfkodfaa
open Go.RowKit

theorem infoI : (Try.prog.info? 3).map (fun i => (i.zero, i.size, i.bytes)) = some (some (.int .i64 0), 1, 8) := by kernel_rfl
def intCells (l : List Int) : List Value := l.map (Value.int .i64)

/-- What holds ahead of each round of the first loop. -/
def TuInv (Rep : World → Value → (Nat → Prop) → List Od → Prop) (w : World) (a : Addr) (p : Int) (l : List Int) (v : Value) (wr : World) : Prop :=
  ∃ S, Rep wr (.pointer (some a)) S (tBook p l) ∧ (∀ k, S k → w.heap.size ≤ k) ∧ (∀ k, v.ownBlock = some k → ¬ S k) ∧ wr.ownsRow w.heap.size 3 1 v l.length (intCells l) ∧ Below w.heap.size w wr ∧ BookOk (tBook p l) ∧ (∀ x ∈ l, 0 ≤ x ∧ x < 99)

/-- A call of the book's. -/
theorem TuInv.call {w wr w1 : World} {l : List Int} {v : Value} {S S1 : Nat → Prop} (hb : ∀ k, S k → w.heap.size ≤ k) (hv : ∀ k, v.ownBlock = some k → ¬ S k) (own : wr.ownsRow w.heap.size 3 1 v l.length (intCells l)) (B : Below w.heap.size w wr)
    (o1 : Only S wr w1) (s1 : ∀ k, S1 k → S k ∨ wr.heap.size ≤ k) : (∀ k, S1 k → w.heap.size ≤ k) ∧ (∀ k, v.ownBlock = some k → ¬ S1 k) ∧ w1.ownsRow w.heap.size 3 1 v l.length (intCells l) ∧ Below w.heap.size w w1 := by
  refine ⟨fun k hk => (s1 k hk).elim (hb k) (fun h => Nat.le_trans B.size h), fun k hk h => ?_, own_keep own o1 hv, B.trans (o1.below B.size hb)⟩
  rcases s1 k h with h | h
  · exact hv k hk h
  · have := (own.lt k hk).2; omega
theorem new1t (W : World) (g : Nat) (hg : g = W.heap.size) (T : TypeId) (v0 : Value) : ∀ (j : Nat) (u : Value), [v0][j]? = some u → (W.alloc (.cells #[v0] T)).cell? ((⟨g, 0, none⟩ : Addr).add j) = some u := by
  subst hg
  intro j u hj
  match j, hj with
  | 0, hj => simp at hj; subst hj; simp [Addr.add]
theorem one1t (a : Int) : ∀ u ∈ [Value.int .i64 a], u.oneCell' = true := by
  intro u hu
  simp at hu
  subst hu; rfl
theorem owned_int {w : World} {base : Nat} {l : List Int} {x : Option Addr} {c : Nat} (h : w.ownsRow base 3 1 (.slice x l.length c) l.length (intCells l)) {k : Nat} (hk : k < l.length) : ∃ g, x = some ⟨g, 0, none⟩ ∧ w.cell? ⟨g, k, none⟩ = some (.int .i64 (l.getD k 0)) := by
  have ho := h
  obtain ⟨_, ho2⟩ := ho
  rcases ho2 with ⟨hv, hn⟩ | ⟨g, cap, cur, hv, _⟩
  · omega
  · injection hv with h1 h2 h3
    subst h1
    refine ⟨g, rfl, (h.cellAt k (by omega)).trans ?_⟩
    unfold intCells
    rw [List.getElem?_map, List.getElem?_eq_getElem hk, List.getD_eq_getElem?_getD, List.getElem?_eq_getElem hk]; rfl
theorem bDo_pos (L : List Od) (c : Cm) : 0 < (bDo L c).1.length := by
  unfold bDo
  split
  · dsimp only
    split
    · simp
    · split
      · split <;> simp
      · simp
  · simp
theorem drop_int {l l' : List Int} {k : Nat} {x : Int} (h : l.drop k = x :: l') : k < l.length ∧ l.getD k 0 = x ∧ l.drop (k + 1) = l' := by
  have hk : k < l.length := by
    rcases Nat.lt_or_ge k l.length with hl | hl
    · exact hl
    · rw [List.drop_eq_nil_of_le hl] at h; cases h
  rw [List.drop_eq_getElem_cons hk] at h
  injection h with h1 h2
  exact ⟨hk, by rw [List.getD_eq_getElem?_getD, List.getElem?_eq_getElem hk, ← h1]; rfl, h2⟩

set_option maxRecDepth 100000 in
set_option maxHeartbeats 2000000 in
theorem turns_walk {Rep : World → Value → (Nat → Prop) → List Od → Prop} (hC : BookIs Rep 9 42 16) (hN : NewSaid Rep 8)
    (xa : Option Addr) (n cap : Nat) (Z : Nat → Int) (p q : Int) (w : World) (hn : n < 1152921504606846976) (hrg : ∀ j, j < n → -9223372036854775808 ≤ Z j ∧ Z j ≤ 9223372036854775807) (hp : 1 ≤ p ∧ p ≤ 99) (hq : 1 ≤ q ∧ q ≤ 99)
    (h0 : 0 < n → ∃ b off, xa = some ⟨b, off, none⟩ ∧ b < w.heap.size ∧ ∀ j, j < n → w.cell? ⟨b, off + j, none⟩ = some (.int .i64 (Z j))) :
    Calls Try.prog 5 #[.slice xa n cap, .int .i64 p, .int .i64 q] w fun e w' => e = .returned (.bool true) ∧ Below w.heap.size w w' := by
  obtain ⟨i0, hi, hz0, hz1, hz2⟩ := info_parts infoI
  obtain ⟨p1, p2⟩ := hp
  obtain ⟨q1, q2⟩ := hq
  have HRG : Hid (∀ j, j < n → -9223372036854775808 ≤ Z j ∧ Z j ≤ 9223372036854775807) := hrg
  clear hrg
  have H0 : Hid (0 < n → ∃ b off, xa = some ⟨b, off, none⟩ ∧ b < w.heap.size ∧ ∀ j, j < n → ∀ W, Below w.heap.size w W → W.cell? ⟨b, off + j, none⟩ = some (.int .i64 (Z j))) := fun hp => by
    obtain ⟨b, off, hx, hb, h⟩ := h0 hp
    exact ⟨b, off, hx, hb, fun j hj W hW => ((bcell hW).1 b _ hb).trans (h j hj)⟩
  clear h0
  go_enter Try.func5, Try.ntmps5
  go_wp2_with fail
  refine (hN _).mono ?_
  rintro e w1 ⟨a, S0, rfl, rC, B1, s0⟩
  have I0 : Hid (TuInv Rep w a p [] (.slice none 0 0) w1) := ⟨S0, rC, s0, fun k hk => by simp [Value.ownBlock] at hk, World.ownsRow_nil _ _ _ _, B1, BookOk.nil, fun x hx => (nomatch hx)⟩
  clear rC
  go_wp2_with fail
  go_loopw [8, 9] (fun v i wr => ∃ (k : Nat) (l : List Int), k ≤ n ∧ i = .int .i64 (k : Int) ∧ l.length ≤ 12 ∧ TuInv Rep w a p l v wr) (fun _ i _ => n - (intOf i).toNat)
  case atStart => exact ⟨0, [], Nat.zero_le _, rfl, Nat.zero_le _, I0.out⟩
  case round =>
    obtain ⟨k, l, hk, rfl, hl, S, rC, sb, sv, own, B, okL, hx⟩ := hrel
    obtain ⟨x8, c8, rfl⟩ := owned_form' own
    have HX : Hid (∀ x ∈ l, 0 ≤ x ∧ x < 99) := hx
    have HRC : Hid (Rep wr (.pointer (some a)) S (tBook p l)) := rC
    have HSB : Hid (∀ k, S k → w.heap.size ≤ k) := sb
    have HSV : Hid (∀ k, (Value.slice x8 l.length c8).ownBlock = some k → ¬ S k) := sv
    have HO : Hid (wr.ownsRow w.heap.size 3 1 (.slice x8 l.length c8) l.length (intCells l)) := own
    clear hx rC sb sv own I0
    by_cases hgo : k < n ∧ l.length < 12
    · obtain ⟨hkn, hl12⟩ := hgo
      obtain ⟨b, off, hxa, hb, h0⟩ := H0.out (by omega)
      subst hxa
      have c0 := h0 k hkn wr B
      clear h0
      have hki : (k : Int) < (n : Int) := by omega
      have hli : (l.length : Int) < 12 := by omega
      obtain ⟨id, hid⟩ : ∃ id, id = Z k := ⟨_, rfl⟩
      rw [← hid] at c0
      have hir := HRG.out k hkn
      rw [← hid] at hir
      clear hid
      go_wp2_with fail
      refine (hC.left id HRC.out okL hir.1 hir.2).mono ?_
      rintro e w2 ⟨S1, rfl, rC1, o1, t1⟩
      obtain ⟨sb1, sv1, own1, B2⟩ := TuInv.call HSB.out HSV.out HO.out B o1 t1
      clear o1 t1 HRC HSB HSV HO
      have HI : Hid (TuInv Rep w a p l (.slice x8 l.length c8) w2) := ⟨S1, rC1, sb1, sv1, own1, B2, okL, HX.out⟩
      obtain ⟨left, hleft⟩ : ∃ left, left = (bLeft (tBook p l) id).1 := ⟨_, rfl⟩
      rw [← hleft]
      have HLF : Hid (left = (bLeft (tBook p l) id).1) := hleft
      clear hleft
      by_cases hneg : id < 0
      · have hnd : decide (id < 0) = true := decide_eq_true hneg
        clear rC1 sb1 sv1 own1
        go_wp2
        exact ⟨⟨k + 1, l, by omega, by go_num, hl, HI.out⟩, by simp [intOf]; omega⟩
      · have hnd : decide (id < 0) = false := decide_eq_false hneg
        by_cases h99 : 99 ≤ id
        · clear rC1 sb1 sv1 own1
          go_wp2
          exact ⟨⟨k + 1, l, by omega, by go_num, hl, HI.out⟩, by simp [intOf]; omega⟩
        · by_cases hin : id ∈ l
          · have hpos : 0 < left := by rw [HLF.out]; exact tLeft_in hin (fun x hx => (HX.out x hx).1)
            clear rC1 sb1 sv1 own1
            go_wp2
            exact ⟨⟨k + 1, l, by omega, by go_num, hl, HI.out⟩, by simp [intOf]; omega⟩
          · have hz : left = 0 := by rw [HLF.out]; exact tLeft_out hin
            have i0' : 0 ≤ id := by omega
            have i99 : id < 99 := by omega
            clear HI
            have hmod : id % 7 = id.tmod 7 := by rw [Int.tmod_eq_emod_of_nonneg i0']
            obtain ⟨td1, td2⟩ := tDo_sell ⟨p1, p2⟩ ⟨i0', i99⟩ hin hl12
            have okL2 : Hid (BookOk (tBook p (l ++ [id]))) := by rw [← td2]; exact bDo_ok _ okL
            go_wp2_with fail
            have oA := only_alloc w2 (.cells #[.int .i64 1, .int .i64 1, .int .i64 id, .int .i64 2, .int .i64 p, .int .i64 (1 + id % 7)] 32)
            refine (hC.does (tCm p id) (hC.keep rC1 oA (fun _ _ h => h)) okL).mono ?_
            rintro e w3 ⟨ev, S2, rfl, row, rC2, o2, t2⟩
            rw [td2] at rC2
            rw [td1] at row
            obtain ⟨x3, c3, rfl, _⟩ := row
            obtain ⟨sb2, sv2, own2, B3⟩ := TuInv.call sb1 sv1 (own1.alloc _) (B2.alloc B2.size _) o2 t2
            clear o2 t2 rC1 sb1 sv1 own1 oA td1 td2
            have HO2 : Hid (w3.ownsRow w.heap.size 3 1 (.slice x8 l.length c8) l.length (intCells l)) := own2
            have HR2 : Hid (Rep w3 (.pointer (some a)) S2 (tBook p (l ++ [id]))) := rC2
            have HSB2 : Hid (∀ k, S2 k → w.heap.size ≤ k) := sb2
            have HSV2 : Hid (∀ k, (Value.slice x8 l.length c8).ownBlock = some k → ¬ S2 k) := sv2
            clear own2 rC2 sb2 sv2
            go_wp2_with (at_builtin; refine wpList_append_lies _ rfl (.tmp 81) (.tmp 83) 56 rfl w.heap.size 3 i0 _ 1 8 Try.underlying56 hi hz0 hz1 hz2 rfl (by decide) _ _ _ rfl (HO2.out.alloc _) ⟨w3.heap.size, 0, none⟩ 1 1 [.int .i64 id] rfl rfl ?c1 ?c2 (by decide) ?c3 ?c4 ?c5 (w3.heap.size + 1) (by simp) ?_)
            case c1 => exact new1t _ _ rfl _ _
            case c2 => exact one1t _
            case c3 => unfold maxLen; omega
            case c4 => omega
            case c5 => have := B3.size; simp; omega
            · intro g' cap' w4 own' grow' hg' _
              have NI : TuInv Rep w a p (l ++ [id]) (.slice (some ⟨g', 0, none⟩) (l.length + 1) cap') w4 := by
                refine ⟨S2, hC.keep (hC.keep HR2.out (only_alloc w3 _) (fun _ _ h => h)) (only_grown grow') (fun k hk h => HSV2.out k h hk), HSB2.out, ?_, ?_, ?_, okL2.out, ?_⟩
                · intro k hk hS
                  simp [Value.ownBlock] at hk
                  subst hk
                  rcases hg' with h | h
                  · exact HSV2.out _ h hS
                  · have := hC.lt HR2.out _ hS; omega
                · rw [List.length_append]
                  have : intCells (l ++ [id]) = intCells l ++ [.int .i64 id] := by unfold intCells; rw [List.map_append]; rfl
                  rw [this]; exact own'
                · exact (B3.alloc B3.size _).grown grow' (by have := B3.size; simp; omega) (fun g hg => (HO2.out.lt g hg).1)
                · intro x hx
                  rcases List.mem_append.1 hx with hx | hx
                  · exact HX.out x hx
                  · rw [List.mem_singleton] at hx; subst hx; exact ⟨i0', i99⟩
              have HN : Hid (TuInv Rep w a p (l ++ [id]) (.slice (some ⟨g', 0, none⟩) (l.length + 1) cap') w4) := NI
              clear NI own' grow' hg'
              go_wp2
              exact ⟨⟨k + 1, l ++ [id], by omega, by go_num, by simp; omega, HN.out⟩, by simp [intOf]; omega⟩
    · have hor : n ≤ k ∨ (k < n ∧ 12 ≤ l.length) := by omega
      have HG : Hid (tGood p (bDo (tBook p l) (tBuy q)).1 l q) := tDo_buy HX.out ⟨q1, q2⟩
      obtain ⟨E, hE⟩ : ∃ E, E = (bDo (tBook p l) (tBuy q)).1 := ⟨_, rfl⟩
      have hE1 : 0 < E.length := by rw [hE]; exact bDo_pos _ _
      have hE2 : E.length ≤ 100 := by rw [hE]; exact bDo_len _ okL
      rw [← hE] at HG
      have HE : Hid (E = (bDo (tBook p l) (tBuy q)).1) := hE
      clear hE
      rcases hor with hor | ⟨hor1, hor2⟩
      all_goals
        have hor3 : True := trivial
        go_wp2_with fail
        refine (hC.does (tBuy q) HRC.out okL).mono ?_
        rintro e w2 ⟨ev, S1, rfl, row, rC1, o1, t1⟩
        obtain ⟨sb1, sv1, own1, B2⟩ := TuInv.call HSB.out HSV.out HO.out B o1 t1
        rw [← HE.out] at row
        obtain ⟨x2, c2, rfl, row2⟩ := row
        obtain ⟨g, off2, hx2, _, _, _, hc⟩ := row2 hE1
        subst hx2
        have HC : Hid (∀ j i, j < E.length → i < 6 → w2.cell? ⟨g, off2 + j * 6 + i, none⟩ = some (.int .i64 (evZ E j i))) := fun j i hj hi => (hc j i hj hi).1
        have HO2 : Hid (w2.ownsRow w.heap.size 3 1 (.slice x8 l.length c8) l.length (intCells l)) := own1
        clear hc row2 own1 sb1 sv1 rC1 o1 t1 HSB HSV HO HRC
        have B2' : Hid (Below w.heap.size w w2) := B2
        clear B B2
        go_wp2_with fail
        go_loopw [16, 17, 18] (fun wt kk i wv => ∃ (j k' : Nat) (wnt : Int), j ≤ E.length ∧ k' ≤ l.length ∧ 0 ≤ wnt ∧ wnt ≤ 99 ∧ wt = .int .i64 wnt ∧ kk = .int .i64 (k' : Int) ∧ i = .int .i64 (j : Int) ∧ tGood p (E.drop j) (l.drop k') wnt ∧ ∃ m, wv = w2.drewN m) (fun _ _ i _ => E.length - (intOf i).toNat)
        case atStart => exact ⟨0, 0, q, Nat.zero_le _, Nat.zero_le _, by omega, q2, rfl, rfl, rfl, HG.out, 0, rfl⟩
        case round =>
          obtain ⟨j, k', wnt, hj, hk', wn0, wn1, rfl, rfl, rfl, hg, m, rfl⟩ := hrel
          by_cases hlt : j < E.length
          · have hlti : (j : Int) < (E.length : Int) := by omega
            rw [drop_ev hlt, tGood] at hg
            have c0 := HC.out j 0 hlt (by omega)
            have c2 := HC.out j 2 hlt (by omega)
            have c3 := HC.out j 3 hlt (by omega)
            have c4 := HC.out j 4 hlt (by omega)
            have c5 := HC.out j 5 hlt (by omega)
            rw [Nat.add_zero] at c0
            simp only [evZ] at c0 c2 c3 c4 c5
            obtain ⟨ee, hee⟩ : ∃ ee, ee = E.getD j ev0 := ⟨_, rfl⟩
            rw [← hee] at hg c0 c2 c3 c4 c5
            clear hee
            by_cases hT : ee.k = 3 ∧ ee.id = 99
            · rw [if_pos hT] at hg
              obtain ⟨x, l', h1, h2, h3, h4, h5⟩ := hg
              rw [hT.1] at c0
              rw [hT.2] at c2
              rw [h2] at c3
              rw [h3] at c5
              rw [h4] at c4
              clear h2 h3 h4 hT
              obtain ⟨hk2, hx, hl'⟩ := drop_int h1
              obtain ⟨g8, hx8, hcl⟩ := owned_int HO2.out hk2
              rw [hx] at hcl
              have xb : 0 ≤ x ∧ x < 99 := HX.out x (by rw [← hx, List.getD_eq_getElem?_getD, List.getElem?_eq_getElem hk2]; exact List.getElem_mem _)
              obtain ⟨xb0, xb1⟩ := xb
              have H5 : Hid (tGood p (E.drop (j + 1)) (l.drop (k' + 1)) (wnt - (if wnt < 1 + x % 7 then wnt else 1 + x % 7))) := by rw [hl']; exact h5
              clear h1 h5 hl' hx
              subst hx8
              have hki2 : (k' : Int) < (l.length : Int) := by omega
              have hkd : decide ((l.length : Int) ≤ (k' : Int)) = false := by simp; omega
              by_cases hw : wnt < 1 + x % 7
              · rw [if_pos hw] at H5 c5
                rw [Int.sub_self] at H5
                go_wp2
                go_quiet (fail)
                go_wp2
                exact ⟨⟨j + 1, k' + 1, 0, by omega, by omega, by omega, by omega, by go_num, by go_num, by go_num, H5.out, m + nq, rfl⟩, by simp [intOf]; omega⟩
              · rw [if_neg hw] at H5 c5
                go_wp2
                go_quiet (fail)
                go_wp2
                exact ⟨⟨j + 1, k' + 1, wnt - (1 + x % 7), by omega, by omega, by omega, by omega, by go_num, by go_num, by go_num, H5.out, m + nq, rfl⟩, by simp [intOf]; omega⟩
            · rw [if_neg hT] at hg
              have Hg : Hid (tGood p (E.drop (j + 1)) (l.drop k') wnt) := hg
              clear hg
              by_cases h3 : ee.k = 3
              · have hb3 : (ee.k == 3) = true := by simp [h3]
                have hb9 : (ee.id == 99) = false := by simp; exact fun h => hT ⟨h3, h⟩
                clear h3 hT
                go_wp2
                exact ⟨⟨j + 1, k', wnt, by omega, by omega, by omega, by omega, by go_num, by go_num, by go_num, Hg.out, m, rfl⟩, by simp [intOf]; omega⟩
              · have hb3 : (ee.k == 3) = false := by simp [h3]
                clear hT h3
                go_wp2
                exact ⟨⟨j + 1, k', wnt, by omega, by omega, by omega, by omega, by go_num, by go_num, by go_num, Hg.out, m, rfl⟩, by simp [intOf]; omega⟩
          · rw [List.drop_eq_nil_of_le (by omega), tGood] at hg
            by_cases hw : wnt = 0
            · have hb0 : (wnt == 0) = true := by simp [hw]
              clear hw hg
              go_wp2_with fail
              refine (alive_any hC hN _).mono ?_
              rintro e w3 ⟨rfl, b3⟩
              go_wp2
              go_ret
              go_light
              exact ⟨rfl, bstep (below_drewN B2'.out m) b3⟩
            · have hb0 : (wnt == 0) = false := by simp [hw]
              have hnil : l.drop k' = [] := hg.resolve_left hw
              have hkl : k' = l.length := by have := List.drop_eq_nil_iff.1 hnil; omega
              clear hw hg hnil
              go_wp2_with fail
              refine (alive_any hC hN _).mono ?_
              rintro e w3 ⟨rfl, b3⟩
              go_wp2
              go_ret
              go_light
              exact ⟨rfl, bstep (below_drewN B2'.out m) b3⟩

set_option maxRecDepth 100000 in
set_option maxHeartbeats 1000000 in
theorem turns_out {Rep : World → Value → (Nat → Prop) → List Od → Prop} (hC : BookIs Rep 9 42 16) (hN : NewSaid Rep 8)
    (xa : Option Addr) (n cap : Nat) (p q : Int) (w : World) (hpq : p < 1 ∨ 99 < p ∨ q < 1 ∨ 99 < q) :
    Calls Try.prog 5 #[.slice xa n cap, .int .i64 p, .int .i64 q] w fun e w' => e = .returned (.bool true) ∧ Below w.heap.size w w' := by
  have hd : (decide (p < 1) || decide (99 < p) || decide (q < 1) || decide (99 < q)) = true := by simp; omega
  clear hpq
  go_enter Try.func5, Try.ntmps5
  go_wp2_with fail
  refine (hN _).mono ?_
  rintro e w1 ⟨a, S0, rfl, rC, B1, s0⟩
  go_wp2_with fail
  all_goals
    refine (alive_any hC hN _).mono ?_
    rintro e w3 ⟨rfl, b3⟩
    go_wp2
    go_ret
    go_light
    exact ⟨rfl, bstep B1 b3⟩

/-- Turns, at whatever it is called with. -/
theorem turns_any {Rep : World → Value → (Nat → Prop) → List Od → Prop} (hC : BookIs Rep 9 42 16) (hN : NewSaid Rep 8)
    (xa : Option Addr) (n cap : Nat) (Z : Nat → Int) (p q : Int) (w : World) (hn : n < 1152921504606846976) (hrg : ∀ j, j < n → -9223372036854775808 ≤ Z j ∧ Z j ≤ 9223372036854775807)
    (h0 : 0 < n → ∃ b off, xa = some ⟨b, off, none⟩ ∧ b < w.heap.size ∧ ∀ j, j < n → w.cell? ⟨b, off + j, none⟩ = some (.int .i64 (Z j))) :
    Calls Try.prog 5 #[.slice xa n cap, .int .i64 p, .int .i64 q] w fun e w' => e = .returned (.bool true) ∧ Below w.heap.size w w' := by
  by_cases h : p < 1 ∨ 99 < p ∨ q < 1 ∨ 99 < q
  · exact turns_out hC hN xa n cap p q w h
  · exact turns_walk hC hN xa n cap Z p q w hn hrg (by omega) (by omega) h0
end Go.Proofs.Ytbljokilfkodfaa
