/- Walks over nodes: how heavy one is, of the law; where a name stands, and what stands at a place, of the reference. -/
import Derived.Test.YtlnnnlpofocgpabFtF
namespace Go.Proofs.Ytlnnnlpofocgpab
open Go.RowKit Px Nx

/-- Where a name stands in a list; -1: nowhere. -/
def findL (l : List ByteArray) (x : ByteArray) : Int := match l.findIdx? (fun y => decide (y = x)) with | some i => i | none => -1
theorem findIdx_take {l : List ByteArray} {k : Nat} {f : ByteArray → Bool} (hk : k < l.length) (hn : ∀ i, i < k → f (l.getD i ByteArray.empty) = false) (hx : f (l.getD k ByteArray.empty) = true) : l.findIdx? f = some k := by
  rw [List.findIdx?_eq_some_iff_getElem]
  refine ⟨hk, ?_, fun j hj => ?_⟩
  · rw [List.getD_eq_getElem?_getD, List.getElem?_eq_getElem hk] at hx
    exact hx
  · have := hn j hj
    rw [List.getD_eq_getElem?_getD, List.getElem?_eq_getElem (by omega)] at this
    simpa using this
theorem findL_at {l : List ByteArray} {k : Nat} {x : ByteArray} (hk : k < l.length) (hn : ∀ i, i < k → l.getD i ByteArray.empty ≠ x) (hx : l.getD k ByteArray.empty = x) : findL l x = k := by
  unfold findL
  rw [findIdx_take (f := fun y => decide (y = x)) hk (fun i hi => decide_eq_false (hn i hi)) (decide_eq_true hx)]
theorem findL_none {l : List ByteArray} {x : ByteArray} (hn : ∀ i, i < l.length → l.getD i ByteArray.empty ≠ x) : findL l x = -1 := by
  unfold findL
  rw [List.findIdx?_eq_none_iff.2 ?_]
  intro y hy
  obtain ⟨i, hi, rfl⟩ := List.getElem_of_mem hy
  have := hn i hi
  rw [List.getD_eq_getElem?_getD, List.getElem?_eq_getElem hi] at this
  exact decide_eq_false this

end Go.Proofs.Ytlnnnlpofocgpab
