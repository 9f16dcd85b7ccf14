/- Walks over nodes, of the reference: which are well formed. -/
import Derived.Test.YtlnnnlpofocgpabFtA
namespace Go.Proofs.Ytlnnnlpofocgpab
open Go.RowKit Px Nx

theorem cell_kept {w w2 : World} (hb : Below w.heap.size w w2) {a : Addr} {v : Value} (h : w.cell? a = some v) : w2.cell? a = some v := cell_grown hb h
theorem name_cell {W wr : World} {p : Option Addr} {names : List ByteArray} (h : Strs W p names) (hb : Below W.heap.size W wr) {k : Nat} (hk : k < names.length) :
    ∃ b o, p = some ⟨b, o, none⟩ ∧ wr.cell? ⟨b, o + k, none⟩ = some (.string (names.getD k ByteArray.empty)) := by
  obtain ⟨b, o, rfl, hc⟩ := h k hk
  exact ⟨b, o, rfl, cell_grown hb hc⟩
theorem name_prev {W wr : World} {b o : Nat} {names : List ByteArray} (h : Strs W (some ⟨b, o, none⟩) names) (hb : Below W.heap.size W wr) {k : Nat} (hk : k < names.length) :
    wr.cell? ⟨b, o + (k - 1), none⟩ = some (.string (names.getD (k - 1) ByteArray.empty)) := by
  obtain ⟨b', o', he, hc⟩ := h (k - 1) (by omega)
  obtain ⟨rfl, rfl⟩ : b = b' ∧ o = o' := by simpa using he
  exact cell_grown hb hc
theorem not_less {x y : ByteArray} (h : Op.bytesLess y.toList x.toList = false) : Op.bytesLess x.toList y.toList = true ∨ (Op.bytesLess x.toList y.toList = false ∧ (x.toList == y.toList) = true) := by
  rw [bl] at *
  have h1 : ¬ y.toList < x.toList := of_decide_eq_false h
  by_cases h2 : x.toList < y.toList
  · exact .inl (decide_eq_true h2)
  · exact .inr ⟨decide_eq_false h2, beq_iff_eq.2 (List.le_antisymm h1 h2)⟩
theorem is_less {x y : ByteArray} (h : Op.bytesLess y.toList x.toList = true) : Op.bytesLess x.toList y.toList = false ∧ (x.toList == y.toList) = false := by
  rw [bl] at *
  have h1 : y.toList < x.toList := of_decide_eq_true h
  exact ⟨decide_eq_false (fun h2 => List.lt_asymm h1 h2), beq_eq_false_iff_ne.2 (fun e => by rw [e] at h1; exact List.lt_irrefl _ h1)⟩
theorem wells_at {kids : List Nd} {k : Nat} {x : Nd} (h : kids[k]? = some x) (hw : x.well = false) : Nd.wells kids = false := by
  rw [Nd.wells_all, Bool.eq_false_iff]
  intro ha
  have := List.all_eq_true.1 ha x (List.mem_of_getElem? h)
  rw [hw] at this
  cases this
theorem all_snoc {kids : List Nd} {k : Nat} {x : Nd} (h : kids[k]? = some x) (f : Nd → Bool) : (kids.take (k + 1)).all f = ((kids.take k).all f && f x) := by
  obtain ⟨hk, hx⟩ := List.getElem?_eq_some_iff.1 h
  rw [List.take_succ_eq_append_getElem hk, List.all_append, hx]
  simp
theorem well_dir {text : ByteArray} {names : List ByteArray} {kids : List Nd} (ht : text.size = 0) (hl : kids.length = names.length) : Nd.well (.mk 2 text names kids) = (namesL names && Nd.wells kids) := by
  rw [Nd.well]
  simp [ht, hl]
theorem well_not {text : ByteArray} {names : List ByteArray} {kids : List Nd} (h : ¬ (text.size = 0 ∧ kids.length = names.length)) : Nd.well (.mk 2 text names kids) = false := by
  rw [Nd.well, Bool.eq_false_iff]
  intro hs
  simp at hs
  exact h ⟨by rw [hs.1.1.1]; rfl, hs.1.2⟩
theorem well_leaf1 {text : ByteArray} {names : List ByteArray} {kids : List Nd} : Nd.well (.mk 1 text names kids) = (textL text && decide (names.length = 0) && decide (kids.length = 0)) := by
  rw [Nd.well]; simp
theorem well_leaf3 {text : ByteArray} {names : List ByteArray} {kids : List Nd} : Nd.well (.mk 3 text names kids) = (!(text.size == 0) && textL text && decide (names.length = 0) && decide (kids.length = 0)) := by
  rw [Nd.well]; simp
theorem well_other {kind : UInt8} {text : ByteArray} {names : List ByteArray} {kids : List Nd} (h1 : kind ≠ 1) (h2 : kind ≠ 2) (h3 : kind ≠ 3) : Nd.well (.mk kind text names kids) = false := by
  rw [Nd.well]; simp [h1, h2, h3]

/-- The loop over a directory's names and kids. -/
def wellTail (_P : Program) : Prop := True
end Go.Proofs.Ytlnnnlpofocgpab
