/- Walks over nodes: which are the same, of the reference. -/
import Derived.Test.YtlnnnlpofocgpabFtE
namespace Go.Proofs.Ytlnnnlpofocgpab
open Go.RowKit Px Nx

theorem ne_of {a b : Int} {c : Bool} (h : (a == b) = c) : (a != b) = !c := by unfold bne; rw [h]
theorem names_end {l r : List ByteArray} {k : Nat} (hl : l.length = r.length) (hk : k = l.length) (h : l.take k = r.take k) : l = r := by
  subst hk
  rw [List.take_length, hl, List.take_length] at h
  exact h
theorem names_ne {l r : List ByteArray} {k : Nat} (h : l.getD k ByteArray.empty ≠ r.getD k ByteArray.empty) : l ≠ r := fun e => h (by rw [e])

end Go.Proofs.Ytlnnnlpofocgpab
