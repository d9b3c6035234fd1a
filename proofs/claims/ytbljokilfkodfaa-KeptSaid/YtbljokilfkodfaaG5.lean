/-
  The document's own answer: which commands are fair, a sum's four bytes, ten bytes.
-/
import Derived.Test.YtbljokilfkodfaaG4
import Derived.Deep.Light
import Derived.Laws.BytesArg
import Derived.Test.YtbljokilfkodfaaG3
namespace Go.Proofs.Ytbljokilfkodfaa
open Go.RowKit

theorem bcell {W w1 : World} (hb : Below W.heap.size W w1) : (∀ b o, b < W.heap.size → w1.cell? ⟨b, o, none⟩ = W.cell? ⟨b, o, none⟩) ∧ (∀ b o, b < W.heap.size → w1.frozen? ⟨b, o, none⟩ = W.frozen? ⟨b, o, none⟩) :=
  ⟨fun b o h => hb.cell (p := ⟨b, o, none⟩) h, fun b o h => hb.frozen (p := ⟨b, o, none⟩) h⟩

set_option maxHeartbeats 400000 in
theorem rwithin_any (n lo hi : Int) (w : World) :
    Calls Try.prog 46 #[.int .i64 n, .int .i64 lo, .int .i64 hi] w fun e w' => e = .returned (.bool (inB n lo hi)) ∧ w' = w := by
  unfold inB
  by_cases h1 : lo ≤ n
  · go_enter Try.func46, Try.ntmps46
    go_wp2
    go_ret
    simp [h1]
  · go_enter Try.func46, Try.ntmps46
    go_wp2
    go_ret
    exact ⟨by simp; omega, rfl⟩

set_option maxHeartbeats 1000000 in
theorem rfair_any (k c i s p q : Int) (w : World) :
    Calls Try.prog 19 #[.agg #[.int .i64 k, .int .i64 c, .int .i64 i, .int .i64 s, .int .i64 p, .int .i64 q]] w fun e w' => e = .returned (.bool (fairB k c i s p q)) ∧ Below w.heap.size w w' := by
  go_enter Try.func19, Try.ntmps19
  go_wp2_with (go_at_call 46; refine (rwithin_any _ _ _ _).mono ?_; rintro e w' ⟨rfl, rfl⟩)
  all_goals (go_ret; go_light; refine ⟨?_, (Below.refl _ _).alloc (Nat.le_refl _) _⟩)
  all_goals first | (simp_all [fairB]; done) | (simp_all [fairB]; rfl)

theorem conv4 (w0 : World) (a b c d : Int) :
    (convert 124 9 (.slice (some ⟨w0.heap.size, 0, none⟩) 4 4)).run Try.prog (w0.alloc (.cells #[.int .u8 a, .int .u8 b, .int .u8 c, .int .u8 d] 5)) = .ok (.string (strOfNums [a, b, c, d])) (w0.alloc (.cells #[.int .u8 a, .int .u8 b, .int .u8 c, .int .u8 d] 5)) :=
  run_convert_bytes_arg _ 124 5 Try.underlying124 Try.underlying5 _ 0 4 4 [a, b, c, d] rfl (fun i hi => by
    obtain rfl | rfl | rfl | rfl : i = 0 ∨ i = 1 ∨ i = 2 ∨ i = 3 := by omega
    all_goals simp [go_sem]) 9 Try.underlying9
theorem conv6 (w0 : World) (a b c d e f : Int) :
    (convert 124 9 (.slice (some ⟨w0.heap.size, 0, none⟩) 6 6)).run Try.prog (w0.alloc (.cells #[.int .u8 a, .int .u8 b, .int .u8 c, .int .u8 d, .int .u8 e, .int .u8 f] 5)) = .ok (.string (strOfNums [a, b, c, d, e, f])) (w0.alloc (.cells #[.int .u8 a, .int .u8 b, .int .u8 c, .int .u8 d, .int .u8 e, .int .u8 f] 5)) :=
  run_convert_bytes_arg _ 124 5 Try.underlying124 Try.underlying5 _ 0 6 6 [a, b, c, d, e, f] rfl (fun i hi => by
    obtain rfl | rfl | rfl | rfl | rfl | rfl : i = 0 ∨ i = 1 ∨ i = 2 ∨ i = 3 ∨ i = 4 ∨ i = 5 := by omega
    all_goals simp [go_sem]) 9 Try.underlying9

theorem and_255 (a : Nat) (h : a < 4294967296) : bits .and .u32 (a : Int) 255 % 256 = ((a % 256 : Nat) : Int) := by
  have e := u32_and_nat a 255 h (by omega)
  rw [show (255 : Nat) = 2 ^ 8 - 1 from rfl, Nat.and_two_pow_sub_one_eq_mod] at e
  have e2 : bits .and .u32 (a : Int) 255 = ((a % 2 ^ 8 : Nat) : Int) := e
  rw [e2]; omega
theorem four_bytes (n : Nat) (hn : n < 4294967296) :
    strOfNums [bits .and .u32 (n : Int) 255 % 256, bits .and .u32 ((n : Int) / 256) 255 % 256, bits .and .u32 ((n : Int) / 65536) 255 % 256, (n : Int) / 16777216] = ⟨(pFour n).toArray⟩ := by
  have e1 := and_255 n hn
  have e2 : bits .and .u32 ((n : Int) / 256) 255 % 256 = ((n / 256 % 256 : Nat) : Int) := and_255 (n / 256) (by omega)
  have e3 : bits .and .u32 ((n : Int) / 65536) 255 % 256 = ((n / 65536 % 256 : Nat) : Int) := and_255 (n / 65536) (by omega)
  have e4 : (n : Int) / 16777216 = ((n / 16777216 % 256 : Nat) : Int) := by omega
  rw [e1, e2, e3, e4]
  rfl
theorem ret_str {a b : ByteArray} (h : a = b) : Ending.returned (.string a) = .returned (.string b) := by rw [h]

set_option maxHeartbeats 400000 in
theorem rfour_any (n : Nat) (hn : n < 4294967296) (w : World) :
    Calls Try.prog 48 #[.int .u32 n] w fun e w' => e = .returned (.string ⟨(pFour n).toArray⟩) ∧ Below w.heap.size w w' := by
  have hcv := conv4
  go_enter Try.func48, Try.ntmps48
  go_wp2
  go_ret
  go_light
  exact ⟨ret_str (four_bytes n hn), (Below.refl _ _).alloc (Nat.le_refl _) _⟩

set_option maxHeartbeats 400000 in
theorem rencode_no (k c i s p q : Int) (w : World) (h : fairB k c i s p q = false) :
    Calls Try.prog 24 #[.agg #[.int .i64 k, .int .i64 c, .int .i64 i, .int .i64 s, .int .i64 p, .int .i64 q]] w fun e w' => e = .returned (.tuple #[.string ⟨#[]⟩, .int .i64 2]) ∧ Below w.heap.size w w' := by
  go_enter Try.func24, Try.ntmps24
  go_wp2_with (go_at_call 19; refine (rfair_any _ _ _ _ _ _ _).mono ?_; rintro e w' ⟨rfl, hb⟩)
  go_ret2
  exact ⟨rfl, ((Below.refl _ _).alloc (Nat.le_refl _) _).trans (hb.mono (by simp))⟩

def tenB (k c i s p q : Int) : ByteArray := ⟨(pTen k c i s p q).toArray⟩
theorem ten_eq (k c i s p q : Int) : strOfNums [k, c, i, s, p, q] ++ ⟨(pFour (pCrc (strOfNums [k, c, i, s, p, q]).data.toList)).toArray⟩ = tenB k c i s p q := by
  apply ByteArray.ext
  rw [ByteArray.data_append]
  rfl
theorem nums6_le (k c i s p q : Int) : (strOfNums [k, c, i, s, p, q]).size ≤ maxLen := by
  rw [strOfNums_size]; show 6 ≤ 2 ^ 63 - 1; decide
theorem ret_str2 {a b : ByteArray} {v : Value} (h : a = b) : Ending.returned (.tuple #[.string a, v]) = .returned (.tuple #[.string b, v]) := by rw [h]

set_option maxHeartbeats 400000 in
theorem rencode_yes (k c i s p q : Int) (w : World) (h : fairB k c i s p q = true) :
    Calls Try.prog 24 #[.agg #[.int .i64 k, .int .i64 c, .int .i64 i, .int .i64 s, .int .i64 p, .int .i64 q]] w fun e w' => e = .returned (.tuple #[.string (tenB k c i s p q), .int .i64 0]) ∧ Below w.heap.size w w' := by
  obtain ⟨⟨k1, k2⟩, ⟨c1, c2⟩, ⟨i1, i2⟩, ⟨s1, s2⟩, ⟨p1, p2⟩, q1, q2⟩ := fairB_bounds h
  have hcv := conv6
  go_enter Try.func24, Try.ntmps24
  go_wp2_with (go_at_call 19; refine (rfair_any _ _ _ _ _ _ _).mono ?_; rintro e w' ⟨rfl, hb⟩; obtain ⟨hc, hf⟩ := bcell hb)
  refine (crc_any _ _ (nums6_le _ _ _ _ _ _)).mono ?_
  rintro e w2 ⟨rfl, rfl⟩
  go_wp2_with fail
  refine (rfour_any _ (pCrc_lt _) _).mono ?_
  rintro e w3 ⟨rfl, hb3⟩
  go_wp2
  go_ret2
  go_light
  exact ⟨ret_str2 (ten_eq k c i s p q), (((Below.refl _ _).alloc (Nat.le_refl _) _).trans (hb.mono (by simp))).trans (((Below.refl _ _).alloc (Nat.le_refl _) _).trans (hb3.mono (by simp)) |>.mono (by have := hb.size; simp at this; omega))⟩
end Go.Proofs.Ytbljokilfkodfaa
/-
  What is said of Encode and Decode, whoever's: the contracts that the laws are proved out of.
-/
namespace Go.Proofs.Ytbljokilfkodfaa
open Go.RowKit

def encStr (k c i s p q : Int) : ByteArray := if fairB k c i s p q then tenB k c i s p q else ⟨#[]⟩
def encErr (k c i s p q : Int) : Int := if fairB k c i s p q then 0 else 2
def EncSaid (F : Nat) : Prop := ∀ (k c i s p q : Int) (w : World),
  Calls Try.prog F #[.agg #[.int .i64 k, .int .i64 c, .int .i64 i, .int .i64 s, .int .i64 p, .int .i64 q]] w fun e w' => e = .returned (.tuple #[.string (encStr k c i s p q), .int .i64 (encErr k c i s p q)]) ∧ Below w.heap.size w w'

def decOk (s : ByteArray) : Bool := decide (s.size = 10) && sumOk s && fairAt s
def decN (s : ByteArray) (j : Nat) : Int := if decOk s then byteAt s j else 0
def decErr (s : ByteArray) : Int := if decOk s then 0 else 6
def DecSaid (F : Nat) : Prop := ∀ (s : ByteArray) (w : World), s.size ≤ maxLen →
  Calls Try.prog F #[.string s] w fun e w' => e = .returned (.tuple #[.agg #[.int .i64 (decN s 0), .int .i64 (decN s 1), .int .i64 (decN s 2), .int .i64 (decN s 3), .int .i64 (decN s 4), .int .i64 (decN s 5)], .int .i64 (decErr s)]) ∧ Below w.heap.size w w'

theorem rencode_said : EncSaid 24 := by
  intro k c i s p q w
  unfold encStr encErr
  cases h : fairB k c i s p q
  · exact rencode_no k c i s p q w h
  · exact rencode_yes k c i s p q w h

theorem bstep {w wr w1 : World} (hB : Below w.heap.size w wr) (h : Below wr.heap.size wr w1) : Below w.heap.size w w1 := hB.trans (h.mono hB.size)

end Go.Proofs.Ytbljokilfkodfaa
/-
  Of the blocks that were there only some have turned.
-/
namespace Go.Proofs.Ytbljokilfkodfaa
open Go.RowKit

/-- Of the blocks that were there only those of S may have turned. -/
structure Only (S : Nat → Prop) (w w' : World) : Prop where
  os : w'.os = w.os
  tape : w'.tape = w.tape
  output : w'.output = w.output
  size : w.heap.size ≤ w'.heap.size
  block : ∀ k, k < w.heap.size → ¬ S k → w'.heap[k]? = w.heap[k]?

theorem Only.refl (S : Nat → Prop) (w : World) : Only S w w := ⟨rfl, rfl, rfl, Nat.le_refl _, fun _ _ _ => rfl⟩
theorem Only.of_below {S : Nat → Prop} {w w' : World} (h : Below w.heap.size w w') : Only S w w' := ⟨h.os, h.tape, h.output, h.size, fun k hk _ => h.block k hk⟩
theorem Only.trans {S : Nat → Prop} {a b c : World} (h : Only S a b) (k : Only S b c) : Only S a c :=
  ⟨k.os.trans h.os, k.tape.trans h.tape, k.output.trans h.output, Nat.le_trans h.size k.size, fun i hi hS => (k.block i (Nat.lt_of_lt_of_le hi h.size) hS).trans (h.block i hi hS)⟩
theorem Only.mono {S T : Nat → Prop} {w w' : World} (h : Only S w w') (hs : ∀ k, k < w.heap.size → S k → T k) : Only T w w' :=
  ⟨h.os, h.tape, h.output, h.size, fun k hk hT => h.block k hk fun hS => hT (hs k hk hS)⟩
/-- Two steps, the second of which may turn what the first has made. -/
theorem Only.then {S T : Nat → Prop} {a b c : World} (h : Only S a b) (k : Only T b c) (hT : ∀ i, i < a.heap.size → T i → S i) : Only S a c :=
  ⟨k.os.trans h.os, k.tape.trans h.tape, k.output.trans h.output, Nat.le_trans h.size k.size, fun i hi hS => (k.block i (Nat.lt_of_lt_of_le hi h.size) fun ht => hS (hT i hi ht)).trans (h.block i hi hS)⟩
theorem Only.below {S : Nat → Prop} {B : Nat} {w w' : World} (h : Only S w w') (hB : B ≤ w.heap.size) (hS : ∀ k, S k → B ≤ k) : Below B w w' :=
  ⟨h.os, h.tape, h.output, h.size, fun k hk => h.block k (Nat.lt_of_lt_of_le hk hB) fun hs => by have := hS k hs; omega⟩
theorem Only.cell {S : Nat → Prop} {w w' : World} (h : Only S w w') {b o : Nat} (hb : b < w.heap.size) (hS : ¬ S b) : w'.cell? ⟨b, o, none⟩ = w.cell? ⟨b, o, none⟩ := World.cell?_of_block (w := w) (h.block b hb hS)
theorem Only.frozen {S : Nat → Prop} {w w' : World} (h : Only S w w') {b o : Nat} (hb : b < w.heap.size) (hS : ¬ S b) : w'.frozen? ⟨b, o, none⟩ = w.frozen? ⟨b, o, none⟩ := World.frozen?_of_block (w := w) (h.block b hb hS)
theorem Only.drewN {S : Nat → Prop} {w w' : World} (h : Only S w w') (n : Nat) : Only S w (w'.drewN n) := ⟨h.os, h.tape, h.output, h.size, h.block⟩
end Go.Proofs.Ytbljokilfkodfaa
/-
  What is said of a book, whoever's: where it lies, what it does; the words that the laws over books are proved out of.
-/
namespace Go.Proofs.Ytbljokilfkodfaa
open Go.RowKit

/-- A list of n rows of 'size' numbers each, in memory that was made behind 'base' and is none of N's. -/
def IsRow (w : World) (base : Nat) (N : Nat → Prop) (size : Nat) (v : Value) (n : Nat) (Z : Nat → Nat → Int) : Prop :=
  ∃ a cap, v = .slice a n cap ∧ (0 < n → ∃ g off, a = some ⟨g, off, none⟩ ∧ base ≤ g ∧ g < w.heap.size ∧ ¬ N g ∧
    ∀ j i, j < n → i < size → w.cell? ⟨g, off + j * size + i, none⟩ = some (.int .i64 (Z j i)) ∧ w.frozen? ⟨g, off + j * size + i, none⟩ = false)

theorem IsRow.keep {w w' : World} {base : Nat} {N T : Nat → Prop} {size : Nat} {v : Value} {n : Nat} {Z : Nat → Nat → Int} (h : IsRow w base N size v n Z) (o : Only T w w') (hT : ∀ k, T k → base ≤ k → k < w.heap.size → N k) : IsRow w' base N size v n Z := by
  obtain ⟨a, cap, rfl, hg⟩ := h
  refine ⟨a, cap, rfl, fun hn => ?_⟩
  obtain ⟨g, off, rfl, hb, hl, hN, hc⟩ := hg hn
  have hTg : ¬ T g := fun ht => hN (hT g ht hb hl)
  exact ⟨g, off, rfl, hb, Nat.lt_of_lt_of_le hl o.size, hN, fun j i hj hi => ⟨(o.cell hl hTg).trans (hc j i hj hi).1, (o.frozen hl hTg).trans (hc j i hj hi).2⟩⟩
theorem IsRow.keepB {w w' : World} {base : Nat} {N : Nat → Prop} {size : Nat} {v : Value} {n : Nat} {Z : Nat → Nat → Int} (h : IsRow w base N size v n Z) (o : Below w.heap.size w w') : IsRow w' base N size v n Z :=
  h.keep (T := fun _ => False) (Only.of_below o) (fun _ hf => hf.elim)

def ev0 : Ev := ⟨0, 0, 0, 0, 0, 0⟩
def evZ (l : List Ev) (j : Nat) : Nat → Int
  | 0 => (l.getD j ev0).k
  | 1 => (l.getD j ev0).cl
  | 2 => (l.getD j ev0).id
  | 3 => (l.getD j ev0).ot
  | 4 => (l.getD j ev0).pr
  | _ => (l.getD j ev0).q
def lv0 : Lv := ⟨0, 0, 0⟩
def lvZ (l : List Lv) (j : Nat) : Nat → Int
  | 0 => (l.getD j lv0).pr
  | 1 => (l.getD j lv0).q
  | _ => (l.getD j lv0).n
def cmV (c : Cm) : Value := .agg #[.int .i64 c.k, .int .i64 c.cl, .int .i64 c.id, .int .i64 c.sd, .int .i64 c.pr, .int .i64 c.q]

/-- A book's keeping: 'Rep w v S L': behind the pointer v lies, in the blocks of S, the book L. -/
structure BookIs (Rep : World → Value → (Nat → Prop) → List Od → Prop) (fDo fDepth fLeft : Nat) : Prop where
  ptr : ∀ {w v S L}, Rep w v S L → ∃ a, v = .pointer (some a)
  lt : ∀ {w v S L}, Rep w v S L → ∀ k, S k → k < w.heap.size
  keep : ∀ {w w' v S L} {T : Nat → Prop}, Rep w v S L → Only T w w' → (∀ k, S k → ¬ T k) → Rep w' v S L
  does : ∀ {w v S L} (c : Cm), Rep w v S L → BookOk L →
    Calls Try.prog fDo #[v, .agg #[.int .i64 c.k, .int .i64 c.cl, .int .i64 c.id, .int .i64 c.sd, .int .i64 c.pr, .int .i64 c.q]] w fun e w' => ∃ ev S', e = .returned ev ∧ IsRow w' w.heap.size S' 6 ev (bDo L c).1.length (evZ (bDo L c).1) ∧
      Rep w' v S' (bDo L c).2 ∧ Only S w w' ∧ (∀ k, S' k → S k ∨ w.heap.size ≤ k)
  depth : ∀ {w v S L} (sd : Int), Rep w v S L → BookOk L → 0 ≤ sd → sd ≤ 3 →
    Calls Try.prog fDepth #[v, .int .i64 sd] w fun e w' => ∃ lv S', e = .returned lv ∧ IsRow w' w.heap.size S' 3 lv (bDepth L sd).length (lvZ (bDepth L sd)) ∧
      Rep w' v S' L ∧ Only S w w' ∧ (∀ k, S' k → S k ∨ w.heap.size ≤ k)
  left : ∀ {w v S L} (id : Int), Rep w v S L → BookOk L → -9223372036854775808 ≤ id → id ≤ 9223372036854775807 →
    Calls Try.prog fLeft #[v, .int .i64 id] w fun e w' => ∃ S', e = .returned (.tuple #[.int .i64 (bLeft L id).1, .int .i64 (bLeft L id).2]) ∧
      Rep w' v S' L ∧ Only S w w' ∧ (∀ k, S' k → S k ∨ w.heap.size ≤ k)
end Go.Proofs.Ytbljokilfkodfaa
/-
  The law's own small functions: a step as a command, a command as the document's, an error's number.
-/
namespace Go.Proofs.Ytbljokilfkodfaa
open Go.RowKit

set_option maxHeartbeats 400000 in
theorem command_any (k c i s p q : Int) (w : World) :
    Calls Try.prog 10 #[.agg #[.int .i64 k, .int .i64 c, .int .i64 i, .int .i64 s, .int .i64 p, .int .i64 q]] w fun e w' => e = .returned (.agg #[.int .i64 k, .int .i64 c, .int .i64 i, .int .i64 s, .int .i64 p, .int .i64 q]) ∧ Below w.heap.size w w' := by
  go_enter Try.func10, Try.ntmps10
  go_wp2
  refine bodyPost_ret (v := .agg #[.int .i64 k, .int .i64 c, .int .i64 i, .int .i64 s, .int .i64 p, .int .i64 q]) (by simp [results, Try.results10, go_sem]) rfl ⟨rfl, ?_⟩
  exact ((Below.refl _ _).alloc (Nat.le_refl _) _).alloc (by simp) _
set_option maxHeartbeats 400000 in
theorem plain_any (k c i s p q : Int) (w : World) :
    Calls Try.prog 12 #[.agg #[.int .i64 k, .int .i64 c, .int .i64 i, .int .i64 s, .int .i64 p, .int .i64 q]] w fun e w' => e = .returned (.agg #[.int .i64 k, .int .i64 c, .int .i64 i, .int .i64 s, .int .i64 p, .int .i64 q]) ∧ Below w.heap.size w w' := by
  go_enter Try.func12, Try.ntmps12
  go_wp2
  refine bodyPost_ret (v := .agg #[.int .i64 k, .int .i64 c, .int .i64 i, .int .i64 s, .int .i64 p, .int .i64 q]) (by simp [results, Try.results12, go_sem]) rfl ⟨rfl, ?_⟩
  exact ((Below.refl _ _).alloc (Nat.le_refl _) _).alloc (by simp) _
set_option maxHeartbeats 400000 in
theorem num_any (n : Int) (w : World) :
    Calls Try.prog 25 #[.int .i64 n] w fun e w' => e = .returned (.int .i64 n) ∧ w' = w := by
  go_enter Try.func25, Try.ntmps25
  go_wp2
  go_ret
  exact ⟨rfl, rfl⟩
end Go.Proofs.Ytbljokilfkodfaa
