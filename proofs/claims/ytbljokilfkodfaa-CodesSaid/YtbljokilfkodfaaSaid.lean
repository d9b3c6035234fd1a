/-
  What is said of Encode and Decode, whoever's: the contracts that the laws are proved out of.
-/
import Derived.Test.YtbljokilfkodfaaRef
import Derived.Test.YtbljokilfkodfaaDecDefs
namespace Go.Proofs.Ytbljokilfkodfaa
open Go.RowKit

def encStr (k c i s p q : Int) : ByteArray := if fairB k c i s p q then tenB k c i s p q else ⟨#[]⟩
def encErr (k c i s p q : Int) : Int := if fairB k c i s p q then 0 else 2
def EncSaid (F : Nat) : Prop := ∀ (k c i s p q : Int) (w : World),
  Calls Try.prog F #[.agg #[.int .i64 k, .int .i64 c, .int .i64 i, .int .i64 s, .int .i64 p, .int .i64 q]] w fun e w' => e = .returned (.tuple #[.string (encStr k c i s p q), .int .i64 (encErr k c i s p q)]) ∧ Below w.heap.size w w'

def decOk (s : ByteArray) : Bool := decide (s.size = 10) && sumOk s && fairAt s
def decN (s : ByteArray) (j : Nat) : Int := if decOk s then byteAt s j else 0
def decErr (s : ByteArray) : Int := if decOk s then 0 else 6
def DecSaid (F : Nat) : Prop := ∀ (s : ByteArray) (w : World), s.size ≤ maxLen →
  Calls Try.prog F #[.string s] w fun e w' => e = .returned (.tuple #[.agg #[.int .i64 (decN s 0), .int .i64 (decN s 1), .int .i64 (decN s 2), .int .i64 (decN s 3), .int .i64 (decN s 4), .int .i64 (decN s 5)], .int .i64 (decErr s)]) ∧ Below w.heap.size w w'

theorem rencode_said : EncSaid 24 := by
  intro k c i s p q w
  unfold encStr encErr
  cases h : fairB k c i s p q
  · exact rencode_no k c i s p q w h
  · exact rencode_yes k c i s p q w h

theorem bstep {w wr w1 : World} (hB : Below w.heap.size w wr) (h : Below wr.heap.size wr w1) : Below w.heap.size w w1 := hB.trans (h.mono hB.size)

end Go.Proofs.Ytbljokilfkodfaa
