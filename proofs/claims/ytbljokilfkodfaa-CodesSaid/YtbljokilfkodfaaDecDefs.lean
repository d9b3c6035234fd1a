/-
  Ten bytes as a command: the plain functions.
-/
import Derived.Test.YtbljokilfkodfaaPlain
namespace Go.Proofs.Ytbljokilfkodfaa

/-- The number of a byte. -/
def byteAt (s : ByteArray) (j : Nat) : Int := ((s.data.toList.getD j 0).toNat : Int)
def sumOk (s : ByteArray) : Bool := (s.extract 6 s.size).toList == pFour (pCrc (s.data.toList.take 6))
def fairAt (s : ByteArray) : Bool := fairB (byteAt s 0) (byteAt s 1) (byteAt s 2) (byteAt s 3) (byteAt s 4) (byteAt s 5)

end Go.Proofs.Ytbljokilfkodfaa
