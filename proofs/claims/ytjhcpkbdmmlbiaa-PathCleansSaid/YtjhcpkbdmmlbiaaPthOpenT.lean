/- Arguments that read as a text, or as a list of bytes. -/
import Derived.Test.YtjhcpkbdmmlbiaaPthOpen
import Derived.Test.YtjhcpkbdmmlbiaaPthT
import Derived.ChangeMaps
import Derived.ChangeSlices
namespace Go.Proofs.Ytjhcpkbdmmlbiaa
open Go.ChangeShapes Go.WideShapes Go.RowKit Px
variable {H : Type} {enc : TypeId × Value → H} {W : World}
theorem recBytes : Try.prog.readableRec 27 = true := by kernel_rfl
theorem rowBytes : 27 < Try.prog.types.size := of_decide_eq_true (by kernel_rfl)
theorem cellsU8 : Try.prog.cellsOf 5 = 1 := by kernel_rfl
theorem recText : Try.prog.readableRec 9 = true := by kernel_rfl
theorem rowText : 9 < Try.prog.types.size := of_decide_eq_true (by kernel_rfl)
/-- A value that is a text. -/
def TxR (v : Value) (s : ByteArray) : Prop := v = .string s
theorem open_text {base : Nat} {v : Value} {d : DataW H} {ps : List MemPlace} (hv : Value.okWide Try.prog W .any base 9 v) (h : DataW.Trod enc Try.prog W 0 (fun _ => true) true 9 v d ps) :
    ∃ s, TxR v s ∧ True := by
  obtain ⟨s, rfl, _⟩ := Go.ChangeMaps.open_string Try.underlying9 hv h
  exact ⟨s, rfl, trivial⟩
theorem text_after {v : Value} {d : DataW H} {ps : List MemPlace} {W' : World} (h : DataW.Trod enc Try.prog W 0 (fun _ => true) true 9 v d ps) (hb : Below W.heap.size W W') (hlt : ∀ x ∈ ps, x.block < W.heap.size) :
    DataW.Trod enc Try.prog W' 0 (fun b => decide (b < W.heap.size)) true 9 v d ps := Below.trod laidOut recText rowText h hb hlt
theorem open_ties {base : Nat} {v : Value} {d : DataW H} {ps : List MemPlace} (hv : Value.okWide Try.prog W .any base 27 v) (h : DataW.Trod enc Try.prog W 0 (fun _ => true) true 27 v d ps) :
    ∃ ts, ByR W v ts ∧ True := by
  obtain ⟨a0, len0, cap0, rfl⟩ := okWide_slice Try.underlying27 hv
  obtain ⟨fuel, hf⟩ := h
  rcases open_ints (cs := [.slice a0 len0 cap0]) Try.underlying27 Try.underlying5 cellsU8 hf with ⟨h1, _⟩ | ⟨a, len, cap, zs, h1, _, h2, h3, h4, _, h5, h6⟩
  · obtain ⟨rfl, rfl, rfl⟩ : a0 = none ∧ len0 = 0 ∧ cap0 = 0 := by simpa using h1
    exact ⟨[], ⟨none, 0, rfl, fun i hi => absurd hi (Nat.not_lt_zero _), Nat.le_refl _, Nat.zero_le _⟩, trivial⟩
  · rw [if_pos rfl] at h4
    obtain ⟨rfl, rfl, rfl⟩ : a0 = some a ∧ len0 = len ∧ cap0 = cap := by simpa using h1
    have hl : ((zs.take len0).map fun n => n.toNat.toUInt8).length = len0 := by
      rw [List.length_map, List.length_take]
      omega
    refine ⟨(zs.take len0).map fun n => n.toNat.toUInt8, ⟨some a, cap0, by rw [hl], ?_, by rw [hl]; exact h2, h3⟩, trivial⟩
    intro i hi
    rw [hl] at hi
    have hsp : a.spot = none := by
      have h0 := h5 0 (by omega)
      cases hs : a.spot with
      | none => rfl
      | some q =>
        exfalso
        have : W.cell? (a.add 0) = none := by
          show W.cell? a = none
          unfold World.cell?
          split
          · rw [hs]; rfl
          · rfl
        rw [this] at h0
        cases h0
    obtain ⟨b, o, sp⟩ := a
    obtain rfl : sp = none := hsp
    refine ⟨b, o, rfl, ?_⟩
    have h7 := h5 i (by omega)
    have e1 : (⟨b, o, none⟩ : Addr).add i = ⟨b, o + i, none⟩ := by
      unfold Addr.add
      by_cases h1 : i = 0 <;> simp [h1]
    rw [e1] at h7
    rw [h7]
    have hz : i < zs.length := by omega
    have h8 := h6 zs[i] (List.getElem_mem hz)
    have h9 : 0 ≤ zs[i] ∧ zs[i] ≤ 255 := by
      have := h8
      simp [Lit.wf] at this
      exact this
    have h10 : (((zs.take len0).map fun n => n.toNat.toUInt8).getD i 0) = zs[i].toNat.toUInt8 := by
      rw [List.getD_eq_getElem?_getD, List.getElem?_map, List.getElem?_take_of_lt hi, List.getElem?_eq_getElem hz]
      rfl
    rw [h10, List.getD_eq_getElem?_getD, List.getElem?_eq_getElem hz]
    have h11 : (zs[i].toNat.toUInt8).toNat = zs[i].toNat := by
      rw [UInt8.toNat_ofNat']
      omega
    rw [h11, show ((zs[i].toNat : Nat) : Int) = zs[i] by omega]
    rfl
theorem ties_after {v : Value} {d : DataW H} {ps : List MemPlace} {W' : World} (h : DataW.Trod enc Try.prog W 0 (fun _ => true) true 27 v d ps) (hb : Below W.heap.size W W') (hlt : ∀ x ∈ ps, x.block < W.heap.size) :
    DataW.Trod enc Try.prog W' 0 (fun b => decide (b < W.heap.size)) true 27 v d ps := Below.trod laidOut recBytes rowBytes h hb hlt
theorem law_cleans_at {W : World} {u r t : Value} {xs : List ByteArray} {s : ByteArray} {ts : List UInt8} (hx : PlR W u xs) (hs : TxR r s) (ht : ByR W t ts) :
    Calls Try.prog 4 #[u, r, t] W fun e w' => e = .returned (.bool true) ∧ Below W.heap.size W w' := by
  unfold TxR at hs
  subst hs
  exact law_cleans hx ht
end Go.Proofs.Ytjhcpkbdmmlbiaa
