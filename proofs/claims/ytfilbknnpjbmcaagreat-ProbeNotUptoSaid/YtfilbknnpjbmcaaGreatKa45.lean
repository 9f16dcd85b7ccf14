/- Walks: are a tree, and words, more than a statement of stage 14 runs? -/
import Derived.Test.YtfilbknnpjbmcaaGreatKa18
import Derived.Test.YtfilbknnpjbmcaaGreatKa40
namespace Go.Proofs.YtfilbknnpjbmcaaGreat
open Go.RowKit Px Nx
theorem lbox_at {w wx : World} {cs : Array Value} {t : TypeId} (hb : Below (w.heap.size + 1) (w.alloc (.cells cs t)) wx) (i : Nat) {v : Value} (h : cs[i]? = some v) : wx.cell? ⟨w.heap.size, i, none⟩ = some v := by
  rw [hb.cell (show w.heap.size < w.heap.size + 1 by omega), cell_of_row _ _ _ _ _ _ (heap_alloc_new w _)]
  exact h
theorem ltake_small {l : List ByteArray} {k m : Nat} (h : ∀ x ∈ l.take k, x.size ≤ m) (hk : k < l.length) (hs : (l.getD k ByteArray.empty).size ≤ m) : ∀ x ∈ l.take (k + 1), x.size ≤ m := by
  rw [take_snoc_d hk]
  intro x hx
  rcases List.mem_append.1 hx with h1 | h1
  · exact h x h1
  · rw [List.mem_singleton.1 h1]; exact hs

/-- What long answers. -/
def LongP (n : Nd) (xs : List ByteArray) (e : Ending) : Prop := ∃ b, e = .returned (.bool b) ∧ (b = false → n.may = true ∧ n.nodes ≤ 200 ∧ xs.length ≤ 100 ∧ ∀ x ∈ xs, x.size ≤ 600)
set_option maxRecDepth 100000 in
set_option maxHeartbeats 8000000 in
theorem long_any {W : World} {cs : List Value} {n : Nd} (h : NodeR W cs n) (hB : n.bulk ≤ 2000000) (w : World) (hb : Below W.heap.size W w) (v : Value) (xs : List ByteArray) (hx : PlR w v xs) :
    Calls Tryz.prog 5 #[.agg cs.toArray, v] w fun e w' =>
      LongP n xs e ∧ Below w.heap.size w w' := by
  have HN := Lib.hid h
  have HX : Hid (∀ wx, Below w.heap.size w wx → PlR wx v xs) := Lib.hid fun wx hb => hx.grown hb
  have HW := Lib.hid hb
  clear hb
  cases h with
  | mk kind text names kids p q cp d D h1 h2 h3 h5 h6 h7 h8 =>
  obtain ⟨pw, cw, rfl, hst, hlc, hlm⟩ := hx
  clear h1 h2 h3 h5 h6 h7 h8 hst
  unfold maxLen at hlm
  go_enter Tryz.func5, Tryz.ntmps5
  go_wp2_with fail
  have HB0 : Hid (Below (w.heap.size + 1) (w.alloc (.cells #[.int .u8 kind.toNat, .string text, .slice p names.length cp, .slice q kids.length d] 25)) (w.alloc (.cells #[.int .u8 kind.toNat, .string text, .slice p names.length cp, .slice q kids.length d] 25))) := Lib.hid (Below.refl _ _)
  have HS0 : Hid (Below w.heap.size w (w.alloc (.cells #[.int .u8 kind.toNat, .string text, .slice p names.length cp, .slice q kids.length d] 25))) := Lib.hid ((Below.refl _ _).alloc (Nat.le_refl _) _)
  have hsz0 : (w.alloc (.cells #[.int .u8 kind.toNat, .string text, .slice p names.length cp, .slice q kids.length d] 25)).heap.size = w.heap.size + 1 := by simp
  have hm := mayRef_any HN.out hB _ (HW.out.trans (HS0.out.mono HW.out.size))
  refine hm.mono ?_
  clear hm
  rintro e w1 ⟨rfl, hb⟩
  have HB1 := Lib.hid (HB0.out.trans (hb.mono (by rw [hsz0]; exact Nat.le_refl _)))
  have HS1 := Lib.hid (HS0.out.trans (hb.mono HS0.out.size))
  clear hb HB0 HS0 hsz0
  obtain ⟨b1, hb1⟩ : ∃ b, (Nd.mk kind text names kids).may = b := ⟨_, rfl⟩
  rw [hb1]
  cases b1 with
  | false =>
    go_wp2_with fail
    go_ret
    exact ⟨⟨true, rfl, fun h => by cases h⟩, HS1.out⟩
  | true =>
    have c0 := lbox_at HB1.out 0 rfl
    have c1 := lbox_at HB1.out 1 rfl
    have c2 := lbox_at HB1.out 2 rfl
    have c3 := lbox_at HB1.out 3 rfl
    have HM := Lib.hid hb1
    clear hb1
    go_wp2_with fail
    have hm := nodesRef_any HN.out w1 (HW.out.trans (HS1.out.mono HW.out.size)) hB
    refine hm.mono ?_
    clear hm
    rintro e w2 ⟨rfl, hb⟩
    have HS2 := Lib.hid (HS1.out.trans (hb.mono HS1.out.size))
    clear hb HS1 HB1 c0 c1 c2 c3
    obtain ⟨m, hm⟩ : ∃ m, (Nd.mk kind text names kids).nodes = m := ⟨_, rfl⟩
    rw [hm]
    have HNN := Lib.hid hm
    clear hm
    by_cases hm2 : 200 < m
    · go_wp2_with fail
      go_ret
      exact ⟨⟨true, rfl, fun h => by cases h⟩, HS2.out⟩
    by_cases hl40 : 100 < xs.length
    · go_wp2_with fail
      go_ret
      exact ⟨⟨true, rfl, fun h => by cases h⟩, HS2.out⟩
    · go_wp2_with fail
      go_loopw [5] (fun i wr => ∃ j : Nat, j ≤ xs.length ∧ i = .int .i64 j ∧ w2 = wr ∧ Hid (∀ x ∈ xs.take j, x.size ≤ 600)) (fun i _ => xs.length - (intOf i).toNat)
      case atStart => exact ⟨0, Nat.zero_le _, rfl, rfl, Lib.hid (fun x h => by simp at h)⟩
      case round =>
        obtain ⟨j, hj, rfl, rfl, HT⟩ := hrel
        by_cases hjt : j < xs.length
        · obtain ⟨p', c', he, hst, _, _⟩ := HX.out w2 HS2.out
          obtain ⟨rfl, _, _⟩ : pw = p' ∧ xs.length = xs.length ∧ cw = c' := by simpa using he
          obtain ⟨b, o, rfl, m0⟩ := hst j hjt
          have HTS := Lib.hid (ltake_small (m := 600) HT.out hjt)
          clear he hst
          generalize xs.getD j ByteArray.empty = x at *
          by_cases hx6 : 600 < x.size
          · go_wp2_with fail
            go_ret
            exact ⟨⟨true, rfl, fun h => by cases h⟩, HS2.out⟩
          · have HT2 := Lib.hid (HTS.out (by omega))
            go_wp2_with fail
            go_roundw
            case rel => exact ⟨j + 1, by omega, by go_num, trivial, HT2⟩
            case measure => simp [intOf]; omega
        · obtain rfl : j = xs.length := by omega
          have HT2 : Hid (∀ x ∈ xs, x.size ≤ 600) := Lib.hid (by have := HT.out; rwa [List.take_length] at this)
          go_wp2_with fail
          go_ret
          exact ⟨⟨false, rfl, fun _ => ⟨HM.out, by rw [HNN.out]; omega, by omega, HT2.out⟩⟩, HS2.out⟩
end Go.Proofs.YtfilbknnpjbmcaaGreat
