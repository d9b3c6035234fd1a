/-
  What the rows' proofs share.
-/
import Derived.Test.YtbljokilfkodfaaRows
import Derived.Test.YtbljokilfkodfaaG1
import Derived.ShutString
import Derived.ChangeOld
import Derived.Below
import Derived.SizedLaws
namespace Go.Proofs.Ytbljokilfkodfaa
open Go.ChangeShapes Go.WideShapes Go.ChangeAt Go.RowKit
open Go.ChangeMaps (open_string shut_string)

theorem own : ownKnob Try.prog.godebug = none := by kernel_rfl
theorem laidOut : laidOutB Try.prog = true := by kernel_rfl
theorem bytesOp : Try.prog.bytesOf 34 = 48 := by kernel_rfl

theorem ops_bound {H : Type} {enc : TypeId × Value → H} {W : World} {a0 : Option Addr} {len0 cap0 : Nat} {d0 : DataW H} {p0 : List MemPlace} {ts : List TypeId} {ds : List (DataW H)}
    (h0 : DataW.Trod enc Try.prog W 0 (fun _ => true) true 22 (.slice a0 len0 cap0) d0 p0) {j : Nat} (hj : ts[j]? = some 22) (hd : ds[j]? = some d0) (hsz : (DataW.weightsEach Try.prog ts ds).all (· ≤ reachBytes) = true) : len0 * 48 ≤ 140737488351232 := by
  obtain ⟨fuel, hf⟩ := h0
  rcases Deep.open_slice Try.underlying22 (by simpa [Value.cells] using hf) with ⟨hcs, _⟩ | ⟨a', l, c, m, n, D, Pl, hcs, _, hl, hm, hmm, hx, _⟩
  · simp at hcs; omega
  · simp at hcs
    simp only [Prod.mk.injEq] at hx
    obtain ⟨rfl, _⟩ := hx
    have := sized_slice hsz (j := j) (t := 22) (e := 34) hj hd Try.underlying22
    rw [bytesOp] at this
    simp only [List.length_map, List.length_range, reachBytes] at this
    omega
end Go.Proofs.Ytbljokilfkodfaa
