/- The statement on one step: what stands where behind it is what the document says. -/
import Derived.Test.YtcookbaedcjmjaaFtAC
import Derived.Test.YtcookbaedcjmjaaFtAD
import Derived.Test.YtcookbaedcjmjaaFtAE
import Derived.Test.YtcookbaedcjmjaaFtWorks
namespace Go.Proofs.Ytcookbaedcjmjaa
open Go.RowKit Px Nx

namespace Nx
/-- What the statement asks of a step's outcome R. -/
structure Asked (x R : Nd) (a : List ByteArray) (P : List ByteArray) (far : Bool) : Prop where
  well : R.well = true
  kind : ((R.kind.toNat : Int) != 2) = false
  bulk : R.bulk ≤ 2000000
  rest : far = true → (R.atW P).isSome = (x.atW P).isSome ∧ Nd.same ((R.atW P).getD absent) ((x.atW P).getD absent) = true
theorem atW_well {n : Nd} (h : n.well = true) (p : List ByteArray) : n.atW p = n.at_ p := by unfold Nd.atW; rw [if_pos h]
theorem atW_bulk {n : Nd} {l : List ByteArray} (h : n.bulk ≤ 2000000) : ((n.atW l).getD absent).bulk ≤ 2000000 := by
  unfold Nd.atW
  split
  · exact at_bulk h
  · decide
theorem ne_same {x y : Nd} (h : Nd.same x y = false) : x ≠ y := fun e => by rw [(Nd.same_iff x y).2 e] at h; cases h
theorem kind_two {R : Nd} (h : R.kind = 2) : ((R.kind.toNat : Int) != 2) = false := by rw [h]; rfl
theorem rest_of {x R : Nd} (hw : x.well = true) (hR : R.well = true) {P : List ByteArray} (h : R.at_ P = x.at_ P) : (R.atW P).isSome = (x.atW P).isSome ∧ Nd.same ((R.atW P).getD absent) ((x.atW P).getD absent) = true := by
  rw [atW_well hw, atW_well hR, h]
  exact ⟨rfl, Nd.same_self _⟩
theorem asked_put {x N : Nd} {a P : List ByteArray} (hm : x.may = true) (hb : x.bulk ≤ 330000) (hN : N.bulk + namesBulk a ≤ 1050000) :
    Asked x (putD x a N) a P (!underL a P && !underL P a) ∧ (Nd.same x (putD x a N) = true ∨ (Nd.same x (putD x a N) = false ∧ ((putD x a N).atW a).isSome = true ∧ Nd.same (((putD x a N).atW a).getD absent) N = true)) := by
  obtain ⟨hw, hk⟩ := may_well hm
  obtain ⟨h1, h2⟩ := put_well (N := N) (A := a) hw
  refine ⟨⟨h1, kind_two (h2.trans hk), ?_, fun hf => ?_⟩, ?_⟩
  · have := changed_bulk (y := N) a x (.inl hw)
    unfold putD
    split <;> omega
  · simp only [Bool.and_eq_true, Bool.not_eq_true'] at hf
    exact rest_of hw h1 (put_rest hw (under_not hf.1) (under_not hf.2))
  · cases hs : Nd.same x (putD x a N) with
    | true => exact .inl rfl
    | false =>
      have := put_there hw (ne_same hs)
      rw [atW_well h1, this]
      exact .inr ⟨rfl, rfl, Nd.same_self _⟩
theorem asked_del {x : Nd} {a P : List ByteArray} (hm : x.may = true) (hb : x.bulk ≤ 330000) (ha : namesBulk a ≤ 1050000) :
    Asked x (delD x a) a P (!underL a P && !underL P a) ∧ (a.length = 0 ∨ (0 < a.length ∧ ((delD x a).atW a).isSome = false)) := by
  obtain ⟨hw, hk⟩ := may_well hm
  obtain ⟨h1, h2⟩ := del_well (A := a) hw
  refine ⟨⟨h1, kind_two (h2.trans hk), ?_, fun hf => ?_⟩, ?_⟩
  · have := changed_bulk (y := absent) a x (.inl hw)
    have hab : (absent).bulk = 1 := by decide
    unfold delD
    split <;> omega
  · simp only [Bool.and_eq_true, Bool.not_eq_true'] at hf
    exact rest_of hw h1 (del_rest hw (under_not hf.1) (under_not hf.2))
  · by_cases hne : a = []
    · left; rw [hne]; rfl
    · right
      refine ⟨List.length_pos_iff.2 hne, ?_⟩
      rw [atW_well h1]
      unfold delD
      rw [if_neg hne, del_there hw hne]
      rfl
theorem asked_move {x : Nd} {a b P : List ByteArray} (hm : x.may = true) (hb : x.bulk ≤ 330000) (ha : namesBulk a + namesBulk b ≤ 1050000) :
    Asked x (moveD x a b) a P (!underL a P && !underL P a && (!underL b P && !underL P b)) ∧ (Nd.same x (moveD x a b) = true ∨ (Nd.same x (moveD x a b) = false ∧ ((moveD x a b).atW a).isSome = false ∧ ((moveD x a b).atW b).isSome = true ∧ Nd.same (((moveD x a b).atW b).getD absent) ((x.atW a).getD absent) = true ∧ (x.atW a).isSome = true)) := by
  obtain ⟨hw, hk⟩ := may_well hm
  obtain ⟨h1, h2⟩ := move_well (A := a) (B := b) hw
  refine ⟨⟨h1, kind_two (h2.trans hk), ?_, fun hf => ?_⟩, ?_⟩
  · unfold moveD
    split
    · rename_i hl
      have h3 := changed_bulk (y := absent) a x (.inl hw)
      have h4 := changed_bulk (y := (x.at_ a).getD absent) b (changedD (fun _ => absent) a x) (.inl (left_well hw hl).1)
      have hab : (absent).bulk = 1 := by decide
      have h5 : ((x.at_ a).getD absent).bulk ≤ x.bulk := by
        obtain ⟨k, e, _, e2, _⟩ := leads_parts hw hl
        rw [e2]
        exact bulk_at_all e
      omega
    · omega
  · simp only [Bool.and_eq_true, Bool.not_eq_true'] at hf
    exact rest_of hw h1 (move_rest hw (under_not hf.1.1) (under_not hf.1.2) (under_not hf.2.1) (under_not hf.2.2))
  · cases hs : Nd.same x (moveD x a b) with
    | true => exact .inl rfl
    | false =>
      obtain ⟨k, e1, e2, e3⟩ := move_there hw (ne_same hs)
      rw [atW_well h1, atW_well h1, atW_well hw, e1, e2, e3]
      exact .inr ⟨rfl, rfl, rfl, Nd.same_self _, rfl⟩
theorem asked_copy {x : Nd} {a b P : List ByteArray} (hm : x.may = true) (hb : x.bulk ≤ 330000) (hbb : namesBulk b ≤ 1050000) :
    Asked x (copyD x a b) a P (!underL a P && !underL P a && (!underL b P && !underL P b)) ∧ (Nd.same x (copyD x a b) = true ∨ (Nd.same x (copyD x a b) = false ∧ ((copyD x a b).atW a).isSome = true ∧ ((copyD x a b).atW b).isSome = true ∧ Nd.same (((copyD x a b).atW b).getD absent) ((x.atW a).getD absent) = true ∧ Nd.same (((copyD x a b).atW a).getD absent) ((x.atW a).getD absent) = true)) := by
  obtain ⟨hw, hk⟩ := may_well hm
  obtain ⟨h1, h2⟩ := copy_well (A := a) (B := b) hw
  refine ⟨⟨h1, kind_two (h2.trans hk), ?_, fun hf => ?_⟩, ?_⟩
  · unfold copyD
    split
    · rename_i hl
      have h4 := changed_bulk (y := (x.at_ a).getD absent) b x (.inl hw)
      have h5 : ((x.at_ a).getD absent).bulk ≤ x.bulk := by
        obtain ⟨k, e, _, e2, _⟩ := leads_parts hw hl
        rw [e2]
        exact bulk_at_all e
      omega
    · omega
  · simp only [Bool.and_eq_true, Bool.not_eq_true'] at hf
    exact rest_of hw h1 (copy_rest hw (under_not hf.2.1) (under_not hf.2.2))
  · cases hs : Nd.same x (copyD x a b) with
    | true => exact .inl rfl
    | false =>
      obtain ⟨k, e1, e2, e3⟩ := copy_there hw (ne_same hs)
      rw [atW_well h1, atW_well h1, atW_well hw, e1, e2, e3]
      exact .inr ⟨rfl, rfl, rfl, Nd.same_self _, Nd.same_self _⟩
end Nx
theorem Nx.StepR.grown {W w : World} (hb : Below W.heap.size W w) {cs : List Value} {s : Sp} (h : StepR W cs s) : StepR w cs s := by
  obtain ⟨pa, ca, pb, cb, v0, v1, v2, v3, h1, h2, h3, h4⟩ := h
  exact ⟨pa, ca, pb, cb, v0, v1, v2, v3, h1, h2.grown hb, h3.grown hb, h4.grown hb⟩
/-- A block of a step's cells. -/
def Seven (w : World) (g : Nat) (v0 v1 v2 v3 v4 v5 v6 : Value) : Prop := w.heap[g]? = some (.cells #[v0, v1, v2, v3, v4, v5, v6] 53 (0, 0))
theorem Seven.cell {w : World} {g : Nat} {v0 v1 v2 v3 v4 v5 v6 : Value} (h : Seven w g v0 v1 v2 v3 v4 v5 v6) : w.cell? ⟨g, 0, none⟩ = some v0 ∧ w.cell? ⟨g, 1, none⟩ = some v1 ∧ w.cell? ⟨g, 2, none⟩ = some v2 ∧ w.cell? ⟨g, 3, none⟩ = some v3 ∧ w.cell? ⟨g, 4, none⟩ = some v4 ∧ w.cell? ⟨g, 5, none⟩ = some v5 ∧ w.cell? ⟨g, 6, none⟩ = some v6 :=
  ⟨by rw [cell_of_row _ _ _ _ _ _ h]; rfl, by rw [cell_of_row _ _ _ _ _ _ h]; rfl, by rw [cell_of_row _ _ _ _ _ _ h]; rfl, by rw [cell_of_row _ _ _ _ _ _ h]; rfl, by rw [cell_of_row _ _ _ _ _ _ h]; rfl, by rw [cell_of_row _ _ _ _ _ _ h]; rfl, by rw [cell_of_row _ _ _ _ _ _ h]; rfl⟩
theorem Seven.lt {w : World} {g : Nat} {v0 v1 v2 v3 v4 v5 v6 : Value} (h : Seven w g v0 v1 v2 v3 v4 v5 v6) : g < w.heap.size := block_of_cell h.cell.1
theorem Seven.kept {w w' : World} {g : Nat} {v0 v1 v2 v3 v4 v5 v6 : Value} (h : Seven w g v0 v1 v2 v3 v4 v5 v6) (hb : Below w.heap.size w w') : Seven w' g v0 v1 v2 v3 v4 v5 v6 := by
  have := h.lt
  unfold Seven at *
  rw [hb.block _ this]
  exact h
theorem Seven.by {w w' : World} {g m : Nat} {v0 v1 v2 v3 v4 v5 v6 : Value} (h : Seven w g v0 v1 v2 v3 v4 v5 v6) (hg : w.grownBy w' (some m)) (hne : g ≠ m) : Seven w' g v0 v1 v2 v3 v4 v5 v6 := by
  have := h.lt
  unfold Seven at *
  rw [hg.block _ this (by simpa using hne)]
  exact h
/-- A variable's block that holds a node; all behind a tree's block. -/
def Vr (w : World) (b g : Nat) (d : Nd) : Prop := ∃ p q c e, Four w g (.int .u8 d.kind.toNat) (.string d.text) (.slice p d.names.length c) (.slice q d.kids.length e) ∧ NodeX w (fun k => b < k) [.int .u8 d.kind.toNat, .string d.text, .slice p d.names.length c, .slice q d.kids.length e] d ∧ b < g
theorem Vr.kept {w w' : World} {b g : Nat} {d : Nd} (h : Vr w b g d) (hb : Below w.heap.size w w') : Vr w' b g d := by
  obtain ⟨p, q, c, e, h1, h2, h3⟩ := h
  exact ⟨p, q, c, e, h1.kept hb, h2.grown hb, h3⟩
theorem Vr.by {w w' : World} {b g : Nat} {d : Nd} (h : Vr w b g d) (hb : w.grownBy w' (some b)) : Vr w' b g d := by
  obtain ⟨p, q, c, e, h1, h2, h3⟩ := h
  exact ⟨p, q, c, e, h1.by hb (by omega), h2.grownBy hb (by omega), h3⟩
/-- A call's answer stored in a variable of its own. -/
theorem stored_vr {w w' : World} {b : Nat} {d : Nd} {p q : Option Addr} {c e : Nat} (hn : NodeX w (fun k => b < k) [.int .u8 d.kind.toNat, .string d.text, .slice p d.names.length c, .slice q d.kids.length e] d) (hb : b < w.heap.size) (h : w.alloc (.cells #[.int .u8 d.kind.toNat, .string d.text, .slice p d.names.length c, .slice q d.kids.length e] 26) = w') :
    Below w.heap.size w w' ∧ Vr w' b w.heap.size d := by
  subst h
  have h1 : Below w.heap.size w (w.alloc (.cells #[.int .u8 d.kind.toNat, .string d.text, .slice p d.names.length c, .slice q d.kids.length e] 26)) := (Below.refl _ _).alloc (Nat.le_refl _) _
  exact ⟨h1, p, q, c, e, four_new w _ _ _ _, hn.grown h1, hb⟩

theorem row_one (w : World) (cs : List Value) (h : cs.length = 7 := by rfl) : Row (w.alloc (.cells cs.toArray 53)) 7 (some ⟨w.heap.size, 0, none⟩) 1 (fun _ => cs) := by
  intro i hi
  obtain rfl : i = 0 := by omega
  refine ⟨_, _, rfl, h, fun j v hj => ?_⟩
  have := heap_alloc_new w (.cells cs.toArray 53)
  simp only [World.cell?, this]
  simpa using hj
set_option maxRecDepth 100000 in
set_option maxHeartbeats 16000000 in
theorem law_there0 {W : World} {cs st : List Value} {x : Nd} {s : Sp} (hx : NodeR W cs x) (hxb2 : x.bulk ≤ 2000000) (hs : StepR W st s) (hsum : s.n.bulk + namesBulk s.a + namesBulk s.b ≤ 1050000) {pv : Value} {P : List ByteArray} (hp : PlR W pv P) (hj : s.kind.toNat % 4 = 0) :
    Calls Try.prog 5 #[.agg cs.toArray, .agg st.toArray, pv] W fun e w' => e = .returned (.bool true) ∧ Below W.heap.size W w' := by
  have HST := Lib.hid hs
  obtain ⟨p1, q1, c1, d1, rfl⟩ := hx.cells
  obtain ⟨pa, ca, pb, cb, v0, v1, v2, v3, rfl, ha, hb, hn⟩ := hs
  obtain ⟨p2, q2, c2, d2, hv⟩ := hn.cells
  obtain ⟨rfl, rfl, rfl, rfl⟩ : v0 = _ ∧ v1 = _ ∧ v2 = _ ∧ v3 = _ := by simpa using hv
  obtain ⟨pp, pc, hpv, _, _, _⟩ := id hp
  subst hpv
  have HX := Lib.hid hx
  have HA := Lib.hid ha
  have HB := Lib.hid hb
  have HN := Lib.hid hn
  have HP := Lib.hid hp
  have HSUM := Lib.hid hsum
  have HXB2 := Lib.hid hxb2
  have HWK := Lib.hid Works.works7
  have hla := pl_max ha
  have hlb := pl_max hb
  have HASK : Hid (∀ (hm : x.may = true), x.bulk ≤ 330000 → _) := Lib.hid fun hm HXB0 => (by have HXB := Lib.hid HXB0; exact asked_put hm HXB.out (by have := HSUM.out; omega) : Asked x (putD x s.a s.n) s.a P (!underL s.a P && !underL P s.a) ∧ _)
  have hj0 : ((s.kind.toNat : Int)).tmod 4 = 0 := by rw [Int.tmod_eq_emod_of_nonneg (by omega)]; omega
  have hk255 : s.kind.toNat ≤ 255 := by have := s.kind.toNat_lt; omega
  clear hx ha hb hn hv hp hsum hxb2 hj
  generalize x.kind.toNat = k1 at *
  generalize x.text = t1 at *
  generalize x.names.length = n1 at *
  generalize x.kids.length = m1 at *
  generalize s.n.kind.toNat = k2 at *
  generalize s.n.text = t2 at *
  generalize s.n.names.length = n2 at *
  generalize s.n.kids.length = m2 at *
  generalize hkj : s.kind.toNat = kj at *
  generalize hlaE : s.a.length = la at *
  generalize hlbE : s.b.length = lb at *
  generalize hlpE : P.length = lp at *
  clear hkj
  have HLA := Lib.hid hlaE
  clear hlaE hlbE hlpE
  go_enter Try.func5, Try.ntmps5
  go_wp2_with fail
  refine (HWK.out _).mono ?_
  rintro e w1 ⟨rfl, hb1⟩
  have HB1 : Hid (Below (W.heap.size + 2) ((W.alloc (.cells #[.int .u8 k1, .string t1, .slice p1 n1 c1, .slice q1 m1 d1] 26)).alloc (.cells #[.int .u8 kj, .slice pa la ca, .slice pb lb cb, .int .u8 k2, .string t2, .slice p2 n2 c2, .slice q2 m2 d2] 53)) w1) := Lib.hid (hb1.mono (by simp))
  have HBW := Lib.hid (box2_self HB1.out)
  have H3 : Hid (Four w1 W.heap.size (.int .u8 k1) (.string t1) (.slice p1 n1 c1) (.slice q1 m1 d1)) := Lib.hid (Four.kept (four_first W _ _ _ _ _) hb1)
  have H4 : Hid (Seven w1 (W.heap.size + 1) (.int .u8 kj) (.slice pa la ca) (.slice pb lb cb) (.int .u8 k2) (.string t2) (.slice p2 n2 c2) (.slice q2 m2 d2)) := Lib.hid (Seven.kept (w := ((W.alloc (.cells #[.int .u8 k1, .string t1, .slice p1 n1 c1, .slice q1 m1 d1] 26)).alloc (.cells #[.int .u8 kj, .slice pa la ca, .slice pb lb cb, .int .u8 k2, .string t2, .slice p2 n2 c2, .slice q2 m2 d2] 53))) (by have := heap_alloc_new (W.alloc (.cells #[.int .u8 k1, .string t1, .slice p1 n1 c1, .slice q1 m1 d1] 26)) (.cells #[.int .u8 kj, .slice pa la ca, .slice pb lb cb, .int .u8 k2, .string t2, .slice p2 n2 c2, .slice q2 m2 d2] 53); simpa [Seven] using this) hb1)
  clear hb1 HB1
  obtain ⟨a0, a1, a2, a3⟩ := H3.out.cell
  obtain ⟨s0, s1, s2, s3, s4, s5, s6⟩ := H4.out.cell
  go_wp2_with fail
  refine (weight_any HX.out w1 HBW.out).mono ?_
  rintro e w2 ⟨⟨i1, rfl⟩, hb2⟩
  have HBW2 := Lib.hid (HBW.out.trans (hb2.mono HBW.out.size))
  have H32 := Lib.hid (H3.out.kept hb2)
  have H42 := Lib.hid (H4.out.kept hb2)
  clear hb2 a0 a1 a2 a3 s0 s1 s2 s3 s4 s5 s6 H3 H4 HBW
  obtain ⟨s0, s1, s2, s3, s4, s5, s6⟩ := H42.out.cell
  by_cases h1 : 3000 ≤ i1
  · go_wp2_with fail
    refine (HWK.out _).mono ?_
    rintro e wz ⟨rfl, hbz⟩
    have HZ := Lib.hid (HBW2.out.trans (hbz.mono HBW2.out.size))
    clear hbz
    go_wp2_with fail
    go_ret
    exact ⟨rfl, HZ.out⟩
  · go_wp2_with fail
    have HAL : Hid (Below w2.heap.size w2 (w2.alloc (.cells #[.int .u8 kj, .slice pa la ca, .slice pb lb cb, .int .u8 k2, .string t2, .slice p2 n2 c2, .slice q2 m2 d2] 53))) := Lib.hid ((Below.refl _ _).alloc (Nat.le_refl _) _)
    have HLG : Hid (Calls Try.prog 28 #[.slice (some ⟨w2.heap.size, 0, none⟩) 1 1] (w2.alloc (.cells #[.int .u8 kj, .slice pa la ca, .slice pb lb cb, .int .u8 k2, .string t2, .slice p2 n2 c2, .slice q2 m2 d2] 53)) fun e w' => IsB e ∧ Below (w2.alloc (.cells #[.int .u8 kj, .slice pa la ca, .slice pb lb cb, .int .u8 k2, .string t2, .slice p2 n2 c2, .slice q2 m2 d2] 53)).heap.size (w2.alloc (.cells #[.int .u8 kj, .slice pa la ca, .slice pb lb cb, .int .u8 k2, .string t2, .slice p2 n2 c2, .slice q2 m2 d2] 53)) w') := Lib.hid (large_any (l := [s]) (C := fun _ => [.int .u8 kj, .slice pa la ca, .slice pb lb cb, .int .u8 k2, .string t2, .slice p2 n2 c2, .slice q2 m2 d2]) (row_one _ _) (fun i z hz => by
      obtain ⟨rfl, rfl⟩ : i = 0 ∧ z = s := by
        cases i with
        | zero => simpa using hz.symm
        | succ i => simp at hz
      exact HST.out.grown (HBW2.out.trans (HAL.out.mono HBW2.out.size))) (by show 1 ≤ _; omega) _ (Below.refl _ _))
    refine HLG.out.mono ?_
    rintro e w3 ⟨⟨lb1, rfl⟩, hb3⟩
    have hb3 := HAL.out.trans (hb3.mono HAL.out.size)
    have HBW := Lib.hid (HBW2.out.trans (hb3.mono HBW2.out.size))
    have H3 := Lib.hid (H32.out.kept hb3)
    have H4 := Lib.hid (H42.out.kept hb3)
    clear hb3 s0 s1 s2 s3 s4 s5 s6 HAL HLG H32 H42 HBW2
    obtain ⟨a0, a1, a2, a3⟩ := H3.out.cell
    obtain ⟨s0, s1, s2, s3, s4, s5, s6⟩ := H4.out.cell
    cases lb1
    case' true =>
      go_wp2_with fail
      refine (HWK.out _).mono ?_
      rintro e wz ⟨rfl, hbz⟩
      have HZ := Lib.hid (HBW.out.trans (hbz.mono HBW.out.size))
      clear hbz
      go_wp2_with fail
      go_ret
      exact ⟨rfl, HZ.out⟩
    by_cases h2 : 60 < lp
    · go_wp2_with fail
      refine (HWK.out _).mono ?_
      rintro e wz ⟨rfl, hbz⟩
      have HZ := Lib.hid (HBW.out.trans (hbz.mono HBW.out.size))
      clear hbz
      go_wp2_with fail
      go_ret
      exact ⟨rfl, HZ.out⟩
    go_wp2_with fail
    have HNW := Lib.hid (fnew_any HX.out HXB2.out w3 HBW.out)
    have h4l := H4.out.lt
    refine HNW.out.mono ?_
    rintro e w4 ⟨hnw, hb4⟩
    have HBW4 := Lib.hid (HBW.out.trans (hb4.mono HBW.out.size))
    have H44 := Lib.hid (H4.out.kept hb4)
    clear hb4 a0 a1 a2 a3 s0 s1 s2 s3 s4 s5 s6 H3 H4 HBW HNW
    cases hmy : x.may with
    | false =>
      rw [hmy, if_neg (by decide)] at hnw
      subst hnw
      go_wp2_with fail
      go_ret
      exact ⟨rfl, HBW4.out⟩
    | true =>
      rw [hmy, if_pos rfl] at hnw
      obtain ⟨b, y0, y1, y2, y3, rfl, hbb, ht, _⟩ := hnw
      have hb0 : W.heap.size + 1 < b := by omega
      have HXB := Lib.hid (may_bulk hmy)
      have HXW := Lib.hid (may_well hmy).1
      obtain ⟨hask, hway⟩ := HASK.out hmy HXB.out
      have HASK2 := Lib.hid hask
      have HWAY := Lib.hid hway
      have HT := Lib.hid ht
      have hbl := ht.lt
      clear hask hway ht hbb hmy HASK
      go_wp2_with fail
      have H4 := H44
      have HBW := HBW4
      clear H44 HBW4
      refine (froot_any HT.out HXW.out (by have := HXB.out; omega)).mono ?_
      rintro e w5 ⟨⟨vs, rfl, hvs⟩, hbr⟩
      obtain ⟨p5, q5, c5, d5, rfl⟩ := nodeX_cells hvs
      have HV : Hid (NodeX w5 (fun k => b < k) [.int .u8 (x).kind.toNat, .string (x).text, .slice p5 (x).names.length c5, .slice q5 (x).kids.length d5] (x)) := Lib.hid (hvs.same fun k hk => ⟨rfl, by have := hk.1; omega⟩)
      have HR := Lib.hid hbr
      clear hvs hbr
      go_upto_region 7 with fail
      have hsz : b < w5.heap.size := by have := HR.out.size; omega
      have HSV := Lib.hid fun (wn : World) hw => stored_vr (w' := wn) HV.out hsz hw
      generalize hws : (w5.alloc (.cells #[.int .u8 (x).kind.toNat, .string (x).text, .slice p5 (x).names.length c5, .slice q5 (x).kids.length d5] 26)) = w5s at *
      obtain ⟨hb1, hv1⟩ := HSV.out _ rfl
      clear HSV hws hsz HV
      have HWAS := Lib.hid hv1
      have HK := Lib.hid (HR.out.trans (hb1.mono HR.out.size))
      generalize hg : w5.heap.size = gw at *
      clear hb1 hv1 hg HR
      have H4' := Lib.hid (H4.out.kept HK.out)
      have HT' := Lib.hid (HT.out.kept HK.out)
      have HBW' := Lib.hid (HBW.out.trans (HK.out.mono HBW.out.size))
      clear H4 HT HBW
      have H4 := H4'
      clear H4'
      have HT := HT'
      clear HT'
      have HBW := HBW'
      clear HBW'
      clear HK
      obtain ⟨pv, qv, cv, dv, hF, hX, _⟩ := HWAS.out
      obtain ⟨c0, c1x, c2x, c3⟩ := hF.cell
      have HVX := Lib.hid hX
      clear hF hX
      obtain ⟨s0, s1, s2, s3, s4, s5, s6⟩ := H4.out.cell
      go_wp2_with fail
      refine (at_x HVX.out.to (by have := HXB.out; omega) (HA.out.grown HBW.out) w5s (Below.refl _ _)).mono ?_
      rintro e w6 ⟨⟨vs, ib, rfl, hvs, rfl⟩, hbr⟩
      obtain ⟨p5, q5, c5, d5, rfl⟩ := nodeX_cells hvs
      have hbf : b < w5s.heap.size := HT.out.lt
      have HV : Hid (NodeX w6 (fun k => b < k) _ ((x.atW s.a).getD absent)) := Lib.hid (hvs.same fun k hk => ⟨rfl, by omega⟩)
      have HR := Lib.hid hbr
      clear hvs hbr HVX c0 c1x c2x c3 hbf s0 s1 s2 s3 s4 s5 s6
      have hbf : b < w5s.heap.size := HT.out.lt
      go_upto_region 8 with fail
      have hsz : b < w6.heap.size := by have := HR.out.size; omega
      have HSV := Lib.hid fun (wn : World) hw => stored_vr (w' := wn) HV.out hsz hw
      generalize hws : (w6.alloc (.cells #[.int .u8 ((x.atW s.a).getD absent).kind.toNat, .string ((x.atW s.a).getD absent).text, .slice p5 ((x.atW s.a).getD absent).names.length c5, .slice q5 ((x.atW s.a).getD absent).kids.length d5] 26)) = w6s at *
      obtain ⟨hb1, hv1⟩ := HSV.out _ rfl
      clear HSV hws hsz HV
      have HVX1 := Lib.hid hv1
      have HK := Lib.hid (HR.out.trans (hb1.mono HR.out.size))
      generalize hg : w6.heap.size = gx at *
      clear hb1 hv1 hg HR
      have H4' := Lib.hid (H4.out.kept HK.out)
      have HT' := Lib.hid (HT.out.kept HK.out)
      have HBW' := Lib.hid (HBW.out.trans (HK.out.mono HBW.out.size))
      have HWAS' := Lib.hid (HWAS.out.kept HK.out)
      clear H4 HT HBW HWAS
      have H4 := H4'
      clear H4'
      have HT := HT'
      clear HT'
      have HBW := HBW'
      clear HBW'
      have HWAS := HWAS'
      clear HWAS'
      clear HK hbf
      obtain ⟨pv, qv, cv, dv, hF, hX, _⟩ := HWAS.out
      obtain ⟨c0, c1x, c2x, c3⟩ := hF.cell
      have HVX := Lib.hid hX
      clear hF hX
      go_wp2_with fail
      refine (at_x HVX.out.to (by have := HXB.out; omega) (HP.out.grown HBW.out) w6s (Below.refl _ _)).mono ?_
      rintro e w7 ⟨⟨vs, ib, rfl, hvs, rfl⟩, hbr⟩
      obtain ⟨p5, q5, c5, d5, rfl⟩ := nodeX_cells hvs
      have hbf : b < w6s.heap.size := HT.out.lt
      have HV : Hid (NodeX w7 (fun k => b < k) _ ((x.atW P).getD absent)) := Lib.hid (hvs.same fun k hk => ⟨rfl, by omega⟩)
      have HR := Lib.hid hbr
      clear hvs hbr HVX c0 c1x c2x c3 hbf
      have hbf : b < w6s.heap.size := HT.out.lt
      go_upto_region 9 with fail
      have hsz : b < w7.heap.size := by have := HR.out.size; omega
      have HSV := Lib.hid fun (wn : World) hw => stored_vr (w' := wn) HV.out hsz hw
      generalize hws : (w7.alloc (.cells #[.int .u8 ((x.atW P).getD absent).kind.toNat, .string ((x.atW P).getD absent).text, .slice p5 ((x.atW P).getD absent).names.length c5, .slice q5 ((x.atW P).getD absent).kids.length d5] 26)) = w7s at *
      obtain ⟨hb1, hv1⟩ := HSV.out _ rfl
      clear HSV hws hsz HV
      have HVY := Lib.hid hv1
      have HK := Lib.hid (HR.out.trans (hb1.mono HR.out.size))
      generalize hg : w7.heap.size = gy at *
      clear hb1 hv1 hg HR
      have H4' := Lib.hid (H4.out.kept HK.out)
      have HT' := Lib.hid (HT.out.kept HK.out)
      have HBW' := Lib.hid (HBW.out.trans (HK.out.mono HBW.out.size))
      have HWAS' := Lib.hid (HWAS.out.kept HK.out)
      have HVX1' := Lib.hid (HVX1.out.kept HK.out)
      clear H4 HT HBW HWAS HVX1
      have H4 := H4'
      clear H4'
      have HT := HT'
      clear HT'
      have HBW := HBW'
      clear HBW'
      have HWAS := HWAS'
      clear HWAS'
      have HVX1 := HVX1'
      clear HVX1'
      clear HK hbf
      obtain ⟨s0, s1, s2, s3, s4, s5, s6⟩ := H4.out.cell
      go_wp2_with fail
      refine (put_any HT.out HXW.out (by have := HXB.out; omega) (HA.out.grown HBW.out) (by have := HSUM.out; omega) (HN.out.grown HBW.out) (by have := HSUM.out; omega)).mono ?_
      rintro e w8 ⟨rfl, ⟨x0, x1, x2, x3, ht⟩, hg⟩
      have HBW' := Lib.hid (HBW.out.trans (below_by hg (by omega) HBW.out.size))
      have H4' := Lib.hid (H4.out.by hg (by omega))
      have HWAS' := Lib.hid (HWAS.out.by hg)
      have HVX1' := Lib.hid (HVX1.out.by hg)
      have HVY' := Lib.hid (HVY.out.by hg)
      clear HBW H4 HWAS HVX1 HVY HT s0 s1 s2 s3 s4 s5 s6 hg
      have HBW := HBW'
      clear HBW'
      have H4 := H4'
      clear H4'
      have HWAS := HWAS'
      clear HWAS'
      have HVX1 := HVX1'
      clear HVX1'
      have HVY := HVY'
      clear HVY'
      have HT := Lib.hid ht
      have hbl := ht.lt
      clear ht
      generalize putD x s.a s.n = R at *
      have hkn := HASK2.out.kind
      go_wp2_with fail
      refine (froot_any HT.out HASK2.out.well HASK2.out.bulk).mono ?_
      rintro e w9 ⟨⟨vs, rfl, hvs⟩, hbr⟩
      obtain ⟨p5, q5, c5, d5, rfl⟩ := nodeX_cells hvs
      have HV : Hid (NodeX w9 (fun k => b < k) [.int .u8 (R).kind.toNat, .string (R).text, .slice p5 (R).names.length c5, .slice q5 (R).kids.length d5] (R)) := Lib.hid (hvs.same fun k hk => ⟨rfl, by have := hk.1; omega⟩)
      have HR := Lib.hid hbr
      clear hvs hbr
      go_upto_region 18 with fail
      have hsz : b < w9.heap.size := by have := HR.out.size; omega
      have HSV := Lib.hid fun (wn : World) hw => stored_vr (w' := wn) HV.out hsz hw
      generalize hws : (w9.alloc (.cells #[.int .u8 (R).kind.toNat, .string (R).text, .slice p5 (R).names.length c5, .slice q5 (R).kids.length d5] 26)) = w9s at *
      obtain ⟨hb1, hv1⟩ := HSV.out _ rfl
      clear HSV hws hsz HV
      have HNOW := Lib.hid hv1
      have HK := Lib.hid (HR.out.trans (hb1.mono HR.out.size))
      generalize hg : w9.heap.size = gn at *
      clear hb1 hv1 hg HR
      have H4' := Lib.hid (H4.out.kept HK.out)
      have HT' := Lib.hid (HT.out.kept HK.out)
      have HBW' := Lib.hid (HBW.out.trans (HK.out.mono HBW.out.size))
      have HWAS' := Lib.hid (HWAS.out.kept HK.out)
      have HVX1' := Lib.hid (HVX1.out.kept HK.out)
      have HVY' := Lib.hid (HVY.out.kept HK.out)
      clear H4 HT HBW HWAS HVX1 HVY
      have H4 := H4'
      clear H4'
      have HT := HT'
      clear HT'
      have HBW := HBW'
      clear HBW'
      have HWAS := HWAS'
      clear HWAS'
      have HVX1 := HVX1'
      clear HVX1'
      have HVY := HVY'
      clear HVY'
      clear HK
      obtain ⟨pv, qv, cv, dv, hF, hX, _⟩ := HNOW.out
      obtain ⟨c0, c1x, c2x, c3⟩ := hF.cell
      have HVX := Lib.hid hX
      clear hF hX
      go_wp2_with fail
      refine (well_any HVX.out.to w9s (Below.refl _ _)).mono ?_
      rintro e w10 ⟨he, hbr⟩
      rw [HASK2.out.well] at he
      subst he
      have HK := Lib.hid hbr
      clear hbr HVX c0 c1x c2x c3
      have H4' := Lib.hid (H4.out.kept HK.out)
      have HT' := Lib.hid (HT.out.kept HK.out)
      have HBW' := Lib.hid (HBW.out.trans (HK.out.mono HBW.out.size))
      have HWAS' := Lib.hid (HWAS.out.kept HK.out)
      have HVX1' := Lib.hid (HVX1.out.kept HK.out)
      have HVY' := Lib.hid (HVY.out.kept HK.out)
      have HNOW' := Lib.hid (HNOW.out.kept HK.out)
      clear H4 HT HBW HWAS HVX1 HVY HNOW
      have H4 := H4'
      clear H4'
      have HT := HT'
      clear HT'
      have HBW := HBW'
      clear HBW'
      have HWAS := HWAS'
      clear HWAS'
      have HVX1 := HVX1'
      clear HVX1'
      have HVY := HVY'
      clear HVY'
      have HNOW := HNOW'
      clear HNOW'
      clear HK
      obtain ⟨pv, qv, cv, dv, hF, hX, _⟩ := HNOW.out
      obtain ⟨c0, c1x, c2x, c3⟩ := hF.cell
      have HVX := Lib.hid hX
      clear hF hX
      obtain ⟨s0, s1, s2, s3, s4, s5, s6⟩ := H4.out.cell
      go_wp2_with fail
      refine (at_x HVX.out.to HASK2.out.bulk (HA.out.grown HBW.out) w10 (Below.refl _ _)).mono ?_
      rintro e w11 ⟨⟨vs, ib, rfl, hvs, rfl⟩, hbr⟩
      obtain ⟨p5, q5, c5, d5, rfl⟩ := nodeX_cells hvs
      have hbf : b < w10.heap.size := HT.out.lt
      have HV : Hid (NodeX w11 (fun k => b < k) _ ((R.atW s.a).getD absent)) := Lib.hid (hvs.same fun k hk => ⟨rfl, by omega⟩)
      have HR := Lib.hid hbr
      clear hvs hbr HVX c0 c1x c2x c3 hbf s0 s1 s2 s3 s4 s5 s6
      have hbf : b < w10.heap.size := HT.out.lt
      go_upto_region 21 with fail
      have hsz : b < w11.heap.size := by have := HR.out.size; omega
      have HSV := Lib.hid fun (wn : World) hw => stored_vr (w' := wn) HV.out hsz hw
      generalize hws : (w11.alloc (.cells #[.int .u8 ((R.atW s.a).getD absent).kind.toNat, .string ((R.atW s.a).getD absent).text, .slice p5 ((R.atW s.a).getD absent).names.length c5, .slice q5 ((R.atW s.a).getD absent).kids.length d5] 26)) = w11s at *
      obtain ⟨hb1, hv1⟩ := HSV.out _ rfl
      clear HSV hws hsz HV
      have HVA := Lib.hid hv1
      have HK := Lib.hid (HR.out.trans (hb1.mono HR.out.size))
      generalize hg : w11.heap.size = ga at *
      clear hb1 hv1 hg HR
      have H4' := Lib.hid (H4.out.kept HK.out)
      have HT' := Lib.hid (HT.out.kept HK.out)
      have HBW' := Lib.hid (HBW.out.trans (HK.out.mono HBW.out.size))
      have HWAS' := Lib.hid (HWAS.out.kept HK.out)
      have HVX1' := Lib.hid (HVX1.out.kept HK.out)
      have HVY' := Lib.hid (HVY.out.kept HK.out)
      have HNOW' := Lib.hid (HNOW.out.kept HK.out)
      clear H4 HT HBW HWAS HVX1 HVY HNOW
      have H4 := H4'
      clear H4'
      have HT := HT'
      clear HT'
      have HBW := HBW'
      clear HBW'
      have HWAS := HWAS'
      clear HWAS'
      have HVX1 := HVX1'
      clear HVX1'
      have HVY := HVY'
      clear HVY'
      have HNOW := HNOW'
      clear HNOW'
      clear HK hbf hkn
      obtain ⟨pv, qv, cv, dv, hF, hX, _⟩ := HNOW.out
      obtain ⟨c0, c1x, c2x, c3⟩ := hF.cell
      have HVX := Lib.hid hX
      clear hF hX
      obtain ⟨s0, s1, s2, s3, s4, s5, s6⟩ := H4.out.cell
      go_wp2_with fail
      refine (at_x HVX.out.to HASK2.out.bulk (HB.out.grown HBW.out) w11s (Below.refl _ _)).mono ?_
      rintro e w12 ⟨⟨vs, ib, rfl, hvs, rfl⟩, hbr⟩
      obtain ⟨p5, q5, c5, d5, rfl⟩ := nodeX_cells hvs
      have hbf : b < w11s.heap.size := HT.out.lt
      have HV : Hid (NodeX w12 (fun k => b < k) _ ((R.atW s.b).getD absent)) := Lib.hid (hvs.same fun k hk => ⟨rfl, by omega⟩)
      have HR := Lib.hid hbr
      clear hvs hbr HVX c0 c1x c2x c3 hbf s0 s1 s2 s3 s4 s5 s6
      have hbf : b < w11s.heap.size := HT.out.lt
      go_upto_region 22 with fail
      have hsz : b < w12.heap.size := by have := HR.out.size; omega
      have HSV := Lib.hid fun (wn : World) hw => stored_vr (w' := wn) HV.out hsz hw
      generalize hws : (w12.alloc (.cells #[.int .u8 ((R.atW s.b).getD absent).kind.toNat, .string ((R.atW s.b).getD absent).text, .slice p5 ((R.atW s.b).getD absent).names.length c5, .slice q5 ((R.atW s.b).getD absent).kids.length d5] 26)) = w12s at *
      obtain ⟨hb1, hv1⟩ := HSV.out _ rfl
      clear HSV hws hsz HV
      have HVB := Lib.hid hv1
      have HK := Lib.hid (HR.out.trans (hb1.mono HR.out.size))
      generalize hg : w12.heap.size = gb at *
      clear hb1 hv1 hg HR
      have H4' := Lib.hid (H4.out.kept HK.out)
      have HT' := Lib.hid (HT.out.kept HK.out)
      have HBW' := Lib.hid (HBW.out.trans (HK.out.mono HBW.out.size))
      have HWAS' := Lib.hid (HWAS.out.kept HK.out)
      have HVX1' := Lib.hid (HVX1.out.kept HK.out)
      have HVY' := Lib.hid (HVY.out.kept HK.out)
      have HNOW' := Lib.hid (HNOW.out.kept HK.out)
      have HVA' := Lib.hid (HVA.out.kept HK.out)
      clear H4 HT HBW HWAS HVX1 HVY HNOW HVA
      have H4 := H4'
      clear H4'
      have HT := HT'
      clear HT'
      have HBW := HBW'
      clear HBW'
      have HWAS := HWAS'
      clear HWAS'
      have HVX1 := HVX1'
      clear HVX1'
      have HVY := HVY'
      clear HVY'
      have HNOW := HNOW'
      clear HNOW'
      have HVA := HVA'
      clear HVA'
      clear HK hbf
      obtain ⟨pv, qv, cv, dv, hF, hX, _⟩ := HWAS.out
      obtain ⟨c0, c1x, c2x, c3⟩ := hF.cell
      have HVX := Lib.hid hX
      clear hF hX
      obtain ⟨pw, qw, cw, dw, hF, hX, _⟩ := HNOW.out
      obtain ⟨e0, e1, e2, e3⟩ := hF.cell
      have HVW := Lib.hid hX.to
      clear hF hX
      obtain ⟨s0, s1, s2, s3, s4, s5, s6⟩ := H4.out.cell
      go_wp2_with fail
      refine (sameNd_any HVX.out.to HVW.out (by have := HXB.out; omega) w12s (Below.refl _ _)).mono ?_
      rintro e w13 ⟨he, hbr⟩
      have HK := Lib.hid hbr
      clear hbr HVX HVW c0 c1x c2x c3 e0 e1 e2 e3 s0 s1 s2 s3 s4 s5 s6
      have H4' := Lib.hid (H4.out.kept HK.out)
      have HT' := Lib.hid (HT.out.kept HK.out)
      have HBW' := Lib.hid (HBW.out.trans (HK.out.mono HBW.out.size))
      have HWAS' := Lib.hid (HWAS.out.kept HK.out)
      have HVX1' := Lib.hid (HVX1.out.kept HK.out)
      have HVY' := Lib.hid (HVY.out.kept HK.out)
      have HNOW' := Lib.hid (HNOW.out.kept HK.out)
      have HVA' := Lib.hid (HVA.out.kept HK.out)
      have HVB' := Lib.hid (HVB.out.kept HK.out)
      clear HK H4 HT HBW HWAS HVX1 HVY HNOW HVA HVB
      have H4 := H4'
      clear H4'
      have HT := HT'
      clear HT'
      have HBW := HBW'
      clear HBW'
      have HWAS := HWAS'
      clear HWAS'
      have HVX1 := HVX1'
      clear HVX1'
      have HVY := HVY'
      clear HVY'
      have HNOW := HNOW'
      clear HNOW'
      have HVA := HVA'
      clear HVA'
      have HVB := HVB'
      clear HVB'
      rcases HWAY.out with hsm | ⟨hsm, hia, hs1⟩
      · rw [hsm] at he
        subst he
        clear hsm
        obtain ⟨s0, s1, s2, s3, s4, s5, s6⟩ := H4.out.cell
        go_wp2_with fail
        clear s0 s1 s2 s3 s4 s5 s6
        go_loopw [20, 21] (fun i _ wr => ∃ (k : Nat), k ≤ 1 ∧ i = .int .i64 k ∧ Hid (Below w13.heap.size w13 wr) ∧ Hid (1 ≤ k → underL s.a P = false ∧ underL P s.a = false) ∧ Hid (2 ≤ k → underL s.b P = false ∧ underL P s.b = false)) (fun i _ _ => 2 - (intOf i).toNat)
        case atStart => exact ⟨0, by omega, rfl, Lib.hid (Below.refl _ _), Lib.hid (fun h => by omega), Lib.hid (fun h => by omega)⟩
        case round =>
          obtain ⟨k, hk, rfl, HK, HC1, HC2⟩ := hrel
          have HKK := Lib.hid HK.out
          have H4' := Lib.hid (H4.out.kept HK.out)
          have HT' := Lib.hid (HT.out.kept HK.out)
          have HBW' := Lib.hid (HBW.out.trans (HK.out.mono HBW.out.size))
          have HVY' := Lib.hid (HVY.out.kept HK.out)
          have HNOW' := Lib.hid (HNOW.out.kept HK.out)
          clear HK H4 HT HBW HVY HNOW
          have H4 := H4'
          clear H4'
          have HT := HT'
          clear HT'
          have HBW := HBW'
          clear HBW'
          have HVY := HVY'
          clear HVY'
          have HNOW := HNOW'
          clear HNOW'
          obtain ⟨s0, s1, s2, s3, s4, s5, s6⟩ := H4.out.cell
          obtain rfl | rfl : k = 0 ∨ k = 1 := by omega
          · go_wp2_with fail
            refine (underRef_at (Below.refl _ _) (HA.out.grown HBW.out) (HP.out.grown HBW.out)).mono ?_
            rintro e wu ⟨he, hbu⟩
            have HU := Lib.hid hbu
            clear hbu
            have HBU := Lib.hid (HBW.out.trans (HU.out.mono HBW.out.size))
            cases hu : underL s.a P with
            | true =>
              rw [hu] at he
              subst he
              go_wp2_with fail
              go_ret
              exact ⟨rfl, HBU.out⟩
            | false =>
              rw [hu] at he
              subst he
              go_wp2_with fail
              refine (underRef_at (Below.refl _ _) (HP.out.grown HBU.out) (HA.out.grown HBU.out)).mono ?_
              rintro e wv ⟨he, hbv⟩
              have HV2 := Lib.hid hbv
              clear hbv
              cases hu2 : underL P s.a with
              | true =>
                rw [hu2] at he
                subst he
                go_wp2_with fail
                go_ret
                exact ⟨rfl, HBU.out.trans (HV2.out.mono HBU.out.size)⟩
              | false =>
                rw [hu2] at he
                subst he
                have HU1 := Lib.hid hu
                have HU2 := Lib.hid hu2
                clear hu hu2
                go_wp2_with fail
                go_roundw
                case rel => exact ⟨1, by omega, by go_num, Lib.hid ((HKK.out.trans (HU.out.mono HKK.out.size)).trans (HV2.out.mono (Nat.le_trans HKK.out.size HU.out.size))), Lib.hid (fun _ => ⟨HU1.out, HU2.out⟩), Lib.hid (fun h => by omega)⟩
                case measure => simp [intOf]
          · obtain ⟨hu1, hu2⟩ := HC1.out (by omega)
            obtain ⟨hz1, hz2⟩ := HASK2.out.rest (by simp [hu1, hu2])
            have HZ1 := Lib.hid hz1
            have HZ2 := Lib.hid hz2
            clear hu1 hu2 hz1 hz2
            obtain ⟨pv, qv, cv, dv, hF, hX, _⟩ := HNOW.out
            obtain ⟨c0, c1x, c2x, c3⟩ := hF.cell
            have HVX := Lib.hid hX
            clear hF hX
            have hbf : b < wr.heap.size := HT.out.lt
            go_wp2_with fail
            refine (at_x HVX.out.to HASK2.out.bulk (HP.out.grown HBW.out) wr (Below.refl _ _)).mono ?_
            rintro e wx ⟨⟨vs, ib, rfl, hvs, rfl⟩, hbr⟩
            obtain ⟨p5, q5, c5, d5, rfl⟩ := nodeX_cells hvs
            have HV : Hid (NodeX wx (fun k => b < k) _ ((R.atW P).getD absent)) := Lib.hid (hvs.same fun k hk => ⟨rfl, by omega⟩)
            have HR := Lib.hid hbr
            rw [HZ1.out]
            clear hvs hbr HVX c0 c1x c2x c3 s0 s1 s2 s3 s4 s5 s6
            go_upto_region 45 with fail
            have hsz : b < wx.heap.size := by have := HR.out.size; omega
            have HSV := Lib.hid fun (wn : World) hw => stored_vr (w' := wn) HV.out hsz hw
            generalize hws : (wx.alloc (.cells #[.int .u8 ((R.atW P).getD absent).kind.toNat, .string ((R.atW P).getD absent).text, .slice p5 ((R.atW P).getD absent).names.length c5, .slice q5 ((R.atW P).getD absent).kids.length d5] 26)) = wxs at *
            obtain ⟨hb1, hv1⟩ := HSV.out _ rfl
            clear HSV hws hsz HV hbf
            have HVZ := Lib.hid hv1
            have HK := Lib.hid (HR.out.trans (hb1.mono HR.out.size))
            generalize hg : wx.heap.size = gz at *
            clear hb1 hv1 hg HR
            have HBW' := Lib.hid (HBW.out.trans (HK.out.mono HBW.out.size))
            have HVY' := Lib.hid (HVY.out.kept HK.out)
            clear HK HBW HVY
            have HBW := HBW'
            clear HBW'
            have HVY := HVY'
            clear HVY'
            generalize (x.atW P).isSome = iy at *
            obtain ⟨pv, qv, cv, dv, hF, hX, _⟩ := HVZ.out
            obtain ⟨c0, c1x, c2x, c3⟩ := hF.cell
            have HVX := Lib.hid hX
            clear hF hX
            obtain ⟨pw, qw, cw, dw, hF, hX, _⟩ := HVY.out
            obtain ⟨e0, e1, e2, e3⟩ := hF.cell
            have HVW := Lib.hid hX.to
            clear hF hX
            go_wp2_with fail
            refine (sameNd_any HVX.out.to HVW.out (atW_bulk HASK2.out.bulk) wxs (Below.refl _ _)).mono ?_
            rintro e wq ⟨he, hbr⟩
            rw [HZ2.out] at he
            subst he
            have HQ := Lib.hid (HBW.out.trans (hbr.mono HBW.out.size))
            clear hbr
            go_wp2_with fail
            go_ret
            exact ⟨rfl, HQ.out⟩
      · rw [hsm] at he
        subst he
        rw [hia]
        have HS1 := Lib.hid hs1
        clear hsm hia hs1
        obtain ⟨pv, qv, cv, dv, hF, hX, _⟩ := HVA.out
        obtain ⟨c0, c1x, c2x, c3⟩ := hF.cell
        have HVX := Lib.hid hX
        clear hF hX
        have HVW := Lib.hid (HN.out.grown HBW.out)
        have e0 := trivial
        have e1 := trivial
        have e2 := trivial
        have e3 := trivial
        obtain ⟨s0, s1, s2, s3, s4, s5, s6⟩ := H4.out.cell
        go_wp2_with fail
        refine (sameNd_any HVX.out.to HVW.out (atW_bulk HASK2.out.bulk) w13 (Below.refl _ _)).mono ?_
        rintro e w14 ⟨he, hbr⟩
        rw [HS1.out] at he
        subst he
        have HK := Lib.hid hbr
        clear hbr HVX HVW c0 c1x c2x c3 e0 e1 e2 e3 s0 s1 s2 s3 s4 s5 s6
        have H4' := Lib.hid (H4.out.kept HK.out)
        have HT' := Lib.hid (HT.out.kept HK.out)
        have HBW' := Lib.hid (HBW.out.trans (HK.out.mono HBW.out.size))
        have HWAS' := Lib.hid (HWAS.out.kept HK.out)
        have HVX1' := Lib.hid (HVX1.out.kept HK.out)
        have HVY' := Lib.hid (HVY.out.kept HK.out)
        have HNOW' := Lib.hid (HNOW.out.kept HK.out)
        have HVA' := Lib.hid (HVA.out.kept HK.out)
        have HVB' := Lib.hid (HVB.out.kept HK.out)
        clear HK H4 HT HBW HWAS HVX1 HVY HNOW HVA HVB
        have H4 := H4'
        clear H4'
        have HT := HT'
        clear HT'
        have HBW := HBW'
        clear HBW'
        have HWAS := HWAS'
        clear HWAS'
        have HVX1 := HVX1'
        clear HVX1'
        have HVY := HVY'
        clear HVY'
        have HNOW := HNOW'
        clear HNOW'
        have HVA := HVA'
        clear HVA'
        have HVB := HVB'
        clear HVB'
        obtain ⟨s0, s1, s2, s3, s4, s5, s6⟩ := H4.out.cell
        go_wp2_with fail
        clear s0 s1 s2 s3 s4 s5 s6
        go_loopw [20, 21] (fun i _ wr => ∃ (k : Nat), k ≤ 1 ∧ i = .int .i64 k ∧ Hid (Below w14.heap.size w14 wr) ∧ Hid (1 ≤ k → underL s.a P = false ∧ underL P s.a = false) ∧ Hid (2 ≤ k → underL s.b P = false ∧ underL P s.b = false)) (fun i _ _ => 2 - (intOf i).toNat)
        case atStart => exact ⟨0, by omega, rfl, Lib.hid (Below.refl _ _), Lib.hid (fun h => by omega), Lib.hid (fun h => by omega)⟩
        case round =>
          obtain ⟨k, hk, rfl, HK, HC1, HC2⟩ := hrel
          have HKK := Lib.hid HK.out
          have H4' := Lib.hid (H4.out.kept HK.out)
          have HT' := Lib.hid (HT.out.kept HK.out)
          have HBW' := Lib.hid (HBW.out.trans (HK.out.mono HBW.out.size))
          have HVY' := Lib.hid (HVY.out.kept HK.out)
          have HNOW' := Lib.hid (HNOW.out.kept HK.out)
          clear HK H4 HT HBW HVY HNOW
          have H4 := H4'
          clear H4'
          have HT := HT'
          clear HT'
          have HBW := HBW'
          clear HBW'
          have HVY := HVY'
          clear HVY'
          have HNOW := HNOW'
          clear HNOW'
          obtain ⟨s0, s1, s2, s3, s4, s5, s6⟩ := H4.out.cell
          obtain rfl | rfl : k = 0 ∨ k = 1 := by omega
          · go_wp2_with fail
            refine (underRef_at (Below.refl _ _) (HA.out.grown HBW.out) (HP.out.grown HBW.out)).mono ?_
            rintro e wu ⟨he, hbu⟩
            have HU := Lib.hid hbu
            clear hbu
            have HBU := Lib.hid (HBW.out.trans (HU.out.mono HBW.out.size))
            cases hu : underL s.a P with
            | true =>
              rw [hu] at he
              subst he
              go_wp2_with fail
              go_ret
              exact ⟨rfl, HBU.out⟩
            | false =>
              rw [hu] at he
              subst he
              go_wp2_with fail
              refine (underRef_at (Below.refl _ _) (HP.out.grown HBU.out) (HA.out.grown HBU.out)).mono ?_
              rintro e wv ⟨he, hbv⟩
              have HV2 := Lib.hid hbv
              clear hbv
              cases hu2 : underL P s.a with
              | true =>
                rw [hu2] at he
                subst he
                go_wp2_with fail
                go_ret
                exact ⟨rfl, HBU.out.trans (HV2.out.mono HBU.out.size)⟩
              | false =>
                rw [hu2] at he
                subst he
                have HU1 := Lib.hid hu
                have HU2 := Lib.hid hu2
                clear hu hu2
                go_wp2_with fail
                go_roundw
                case rel => exact ⟨1, by omega, by go_num, Lib.hid ((HKK.out.trans (HU.out.mono HKK.out.size)).trans (HV2.out.mono (Nat.le_trans HKK.out.size HU.out.size))), Lib.hid (fun _ => ⟨HU1.out, HU2.out⟩), Lib.hid (fun h => by omega)⟩
                case measure => simp [intOf]
          · obtain ⟨hu1, hu2⟩ := HC1.out (by omega)
            obtain ⟨hz1, hz2⟩ := HASK2.out.rest (by simp [hu1, hu2])
            have HZ1 := Lib.hid hz1
            have HZ2 := Lib.hid hz2
            clear hu1 hu2 hz1 hz2
            obtain ⟨pv, qv, cv, dv, hF, hX, _⟩ := HNOW.out
            obtain ⟨c0, c1x, c2x, c3⟩ := hF.cell
            have HVX := Lib.hid hX
            clear hF hX
            have hbf : b < wr.heap.size := HT.out.lt
            go_wp2_with fail
            refine (at_x HVX.out.to HASK2.out.bulk (HP.out.grown HBW.out) wr (Below.refl _ _)).mono ?_
            rintro e wx ⟨⟨vs, ib, rfl, hvs, rfl⟩, hbr⟩
            obtain ⟨p5, q5, c5, d5, rfl⟩ := nodeX_cells hvs
            have HV : Hid (NodeX wx (fun k => b < k) _ ((R.atW P).getD absent)) := Lib.hid (hvs.same fun k hk => ⟨rfl, by omega⟩)
            have HR := Lib.hid hbr
            rw [HZ1.out]
            clear hvs hbr HVX c0 c1x c2x c3 s0 s1 s2 s3 s4 s5 s6
            go_upto_region 45 with fail
            have hsz : b < wx.heap.size := by have := HR.out.size; omega
            have HSV := Lib.hid fun (wn : World) hw => stored_vr (w' := wn) HV.out hsz hw
            generalize hws : (wx.alloc (.cells #[.int .u8 ((R.atW P).getD absent).kind.toNat, .string ((R.atW P).getD absent).text, .slice p5 ((R.atW P).getD absent).names.length c5, .slice q5 ((R.atW P).getD absent).kids.length d5] 26)) = wxs at *
            obtain ⟨hb1, hv1⟩ := HSV.out _ rfl
            clear HSV hws hsz HV hbf
            have HVZ := Lib.hid hv1
            have HK := Lib.hid (HR.out.trans (hb1.mono HR.out.size))
            generalize hg : wx.heap.size = gz at *
            clear hb1 hv1 hg HR
            have HBW' := Lib.hid (HBW.out.trans (HK.out.mono HBW.out.size))
            have HVY' := Lib.hid (HVY.out.kept HK.out)
            clear HK HBW HVY
            have HBW := HBW'
            clear HBW'
            have HVY := HVY'
            clear HVY'
            generalize (x.atW P).isSome = iy at *
            obtain ⟨pv, qv, cv, dv, hF, hX, _⟩ := HVZ.out
            obtain ⟨c0, c1x, c2x, c3⟩ := hF.cell
            have HVX := Lib.hid hX
            clear hF hX
            obtain ⟨pw, qw, cw, dw, hF, hX, _⟩ := HVY.out
            obtain ⟨e0, e1, e2, e3⟩ := hF.cell
            have HVW := Lib.hid hX.to
            clear hF hX
            go_wp2_with fail
            refine (sameNd_any HVX.out.to HVW.out (atW_bulk HASK2.out.bulk) wxs (Below.refl _ _)).mono ?_
            rintro e wq ⟨he, hbr⟩
            rw [HZ2.out] at he
            subst he
            have HQ := Lib.hid (HBW.out.trans (hbr.mono HBW.out.size))
            clear hbr
            go_wp2_with fail
            go_ret
            exact ⟨rfl, HQ.out⟩

set_option maxRecDepth 100000 in
set_option maxHeartbeats 16000000 in
theorem law_there1 {W : World} {cs st : List Value} {x : Nd} {s : Sp} (hx : NodeR W cs x) (hxb2 : x.bulk ≤ 2000000) (hs : StepR W st s) (hsum : s.n.bulk + namesBulk s.a + namesBulk s.b ≤ 1050000) {pv : Value} {P : List ByteArray} (hp : PlR W pv P) (hj : s.kind.toNat % 4 = 1) :
    Calls Try.prog 5 #[.agg cs.toArray, .agg st.toArray, pv] W fun e w' => e = .returned (.bool true) ∧ Below W.heap.size W w' := by
  have HST := Lib.hid hs
  obtain ⟨p1, q1, c1, d1, rfl⟩ := hx.cells
  obtain ⟨pa, ca, pb, cb, v0, v1, v2, v3, rfl, ha, hb, hn⟩ := hs
  obtain ⟨p2, q2, c2, d2, hv⟩ := hn.cells
  obtain ⟨rfl, rfl, rfl, rfl⟩ : v0 = _ ∧ v1 = _ ∧ v2 = _ ∧ v3 = _ := by simpa using hv
  obtain ⟨pp, pc, hpv, _, _, _⟩ := id hp
  subst hpv
  have HX := Lib.hid hx
  have HA := Lib.hid ha
  have HB := Lib.hid hb
  have HN := Lib.hid hn
  have HP := Lib.hid hp
  have HSUM := Lib.hid hsum
  have HXB2 := Lib.hid hxb2
  have HWK := Lib.hid Works.works7
  have hla := pl_max ha
  have hlb := pl_max hb
  have HASK : Hid (∀ (hm : x.may = true), x.bulk ≤ 330000 → _) := Lib.hid fun hm HXB0 => (by have HXB := Lib.hid HXB0; exact asked_del hm HXB.out (by have := HSUM.out; omega) : Asked x (delD x s.a) s.a P (!underL s.a P && !underL P s.a) ∧ _)
  have hj0 : ((s.kind.toNat : Int)).tmod 4 = 1 := by rw [Int.tmod_eq_emod_of_nonneg (by omega)]; omega
  have hk255 : s.kind.toNat ≤ 255 := by have := s.kind.toNat_lt; omega
  clear hx ha hb hn hv hp hsum hxb2 hj
  generalize x.kind.toNat = k1 at *
  generalize x.text = t1 at *
  generalize x.names.length = n1 at *
  generalize x.kids.length = m1 at *
  generalize s.n.kind.toNat = k2 at *
  generalize s.n.text = t2 at *
  generalize s.n.names.length = n2 at *
  generalize s.n.kids.length = m2 at *
  generalize hkj : s.kind.toNat = kj at *
  generalize hlaE : s.a.length = la at *
  generalize hlbE : s.b.length = lb at *
  generalize hlpE : P.length = lp at *
  clear hkj
  have HLA := Lib.hid hlaE
  clear hlaE hlbE hlpE
  go_enter Try.func5, Try.ntmps5
  go_wp2_with fail
  refine (HWK.out _).mono ?_
  rintro e w1 ⟨rfl, hb1⟩
  have HB1 : Hid (Below (W.heap.size + 2) ((W.alloc (.cells #[.int .u8 k1, .string t1, .slice p1 n1 c1, .slice q1 m1 d1] 26)).alloc (.cells #[.int .u8 kj, .slice pa la ca, .slice pb lb cb, .int .u8 k2, .string t2, .slice p2 n2 c2, .slice q2 m2 d2] 53)) w1) := Lib.hid (hb1.mono (by simp))
  have HBW := Lib.hid (box2_self HB1.out)
  have H3 : Hid (Four w1 W.heap.size (.int .u8 k1) (.string t1) (.slice p1 n1 c1) (.slice q1 m1 d1)) := Lib.hid (Four.kept (four_first W _ _ _ _ _) hb1)
  have H4 : Hid (Seven w1 (W.heap.size + 1) (.int .u8 kj) (.slice pa la ca) (.slice pb lb cb) (.int .u8 k2) (.string t2) (.slice p2 n2 c2) (.slice q2 m2 d2)) := Lib.hid (Seven.kept (w := ((W.alloc (.cells #[.int .u8 k1, .string t1, .slice p1 n1 c1, .slice q1 m1 d1] 26)).alloc (.cells #[.int .u8 kj, .slice pa la ca, .slice pb lb cb, .int .u8 k2, .string t2, .slice p2 n2 c2, .slice q2 m2 d2] 53))) (by have := heap_alloc_new (W.alloc (.cells #[.int .u8 k1, .string t1, .slice p1 n1 c1, .slice q1 m1 d1] 26)) (.cells #[.int .u8 kj, .slice pa la ca, .slice pb lb cb, .int .u8 k2, .string t2, .slice p2 n2 c2, .slice q2 m2 d2] 53); simpa [Seven] using this) hb1)
  clear hb1 HB1
  obtain ⟨a0, a1, a2, a3⟩ := H3.out.cell
  obtain ⟨s0, s1, s2, s3, s4, s5, s6⟩ := H4.out.cell
  go_wp2_with fail
  refine (weight_any HX.out w1 HBW.out).mono ?_
  rintro e w2 ⟨⟨i1, rfl⟩, hb2⟩
  have HBW2 := Lib.hid (HBW.out.trans (hb2.mono HBW.out.size))
  have H32 := Lib.hid (H3.out.kept hb2)
  have H42 := Lib.hid (H4.out.kept hb2)
  clear hb2 a0 a1 a2 a3 s0 s1 s2 s3 s4 s5 s6 H3 H4 HBW
  obtain ⟨s0, s1, s2, s3, s4, s5, s6⟩ := H42.out.cell
  by_cases h1 : 3000 ≤ i1
  · go_wp2_with fail
    refine (HWK.out _).mono ?_
    rintro e wz ⟨rfl, hbz⟩
    have HZ := Lib.hid (HBW2.out.trans (hbz.mono HBW2.out.size))
    clear hbz
    go_wp2_with fail
    go_ret
    exact ⟨rfl, HZ.out⟩
  · go_wp2_with fail
    have HAL : Hid (Below w2.heap.size w2 (w2.alloc (.cells #[.int .u8 kj, .slice pa la ca, .slice pb lb cb, .int .u8 k2, .string t2, .slice p2 n2 c2, .slice q2 m2 d2] 53))) := Lib.hid ((Below.refl _ _).alloc (Nat.le_refl _) _)
    have HLG : Hid (Calls Try.prog 28 #[.slice (some ⟨w2.heap.size, 0, none⟩) 1 1] (w2.alloc (.cells #[.int .u8 kj, .slice pa la ca, .slice pb lb cb, .int .u8 k2, .string t2, .slice p2 n2 c2, .slice q2 m2 d2] 53)) fun e w' => IsB e ∧ Below (w2.alloc (.cells #[.int .u8 kj, .slice pa la ca, .slice pb lb cb, .int .u8 k2, .string t2, .slice p2 n2 c2, .slice q2 m2 d2] 53)).heap.size (w2.alloc (.cells #[.int .u8 kj, .slice pa la ca, .slice pb lb cb, .int .u8 k2, .string t2, .slice p2 n2 c2, .slice q2 m2 d2] 53)) w') := Lib.hid (large_any (l := [s]) (C := fun _ => [.int .u8 kj, .slice pa la ca, .slice pb lb cb, .int .u8 k2, .string t2, .slice p2 n2 c2, .slice q2 m2 d2]) (row_one _ _) (fun i z hz => by
      obtain ⟨rfl, rfl⟩ : i = 0 ∧ z = s := by
        cases i with
        | zero => simpa using hz.symm
        | succ i => simp at hz
      exact HST.out.grown (HBW2.out.trans (HAL.out.mono HBW2.out.size))) (by show 1 ≤ _; omega) _ (Below.refl _ _))
    refine HLG.out.mono ?_
    rintro e w3 ⟨⟨lb1, rfl⟩, hb3⟩
    have hb3 := HAL.out.trans (hb3.mono HAL.out.size)
    have HBW := Lib.hid (HBW2.out.trans (hb3.mono HBW2.out.size))
    have H3 := Lib.hid (H32.out.kept hb3)
    have H4 := Lib.hid (H42.out.kept hb3)
    clear hb3 s0 s1 s2 s3 s4 s5 s6 HAL HLG H32 H42 HBW2
    obtain ⟨a0, a1, a2, a3⟩ := H3.out.cell
    obtain ⟨s0, s1, s2, s3, s4, s5, s6⟩ := H4.out.cell
    cases lb1
    case' true =>
      go_wp2_with fail
      refine (HWK.out _).mono ?_
      rintro e wz ⟨rfl, hbz⟩
      have HZ := Lib.hid (HBW.out.trans (hbz.mono HBW.out.size))
      clear hbz
      go_wp2_with fail
      go_ret
      exact ⟨rfl, HZ.out⟩
    by_cases h2 : 60 < lp
    · go_wp2_with fail
      refine (HWK.out _).mono ?_
      rintro e wz ⟨rfl, hbz⟩
      have HZ := Lib.hid (HBW.out.trans (hbz.mono HBW.out.size))
      clear hbz
      go_wp2_with fail
      go_ret
      exact ⟨rfl, HZ.out⟩
    go_wp2_with fail
    have HNW := Lib.hid (fnew_any HX.out HXB2.out w3 HBW.out)
    have h4l := H4.out.lt
    refine HNW.out.mono ?_
    rintro e w4 ⟨hnw, hb4⟩
    have HBW4 := Lib.hid (HBW.out.trans (hb4.mono HBW.out.size))
    have H44 := Lib.hid (H4.out.kept hb4)
    clear hb4 a0 a1 a2 a3 s0 s1 s2 s3 s4 s5 s6 H3 H4 HBW HNW
    cases hmy : x.may with
    | false =>
      rw [hmy, if_neg (by decide)] at hnw
      subst hnw
      go_wp2_with fail
      go_ret
      exact ⟨rfl, HBW4.out⟩
    | true =>
      rw [hmy, if_pos rfl] at hnw
      obtain ⟨b, y0, y1, y2, y3, rfl, hbb, ht, _⟩ := hnw
      have hb0 : W.heap.size + 1 < b := by omega
      have HXB := Lib.hid (may_bulk hmy)
      have HXW := Lib.hid (may_well hmy).1
      obtain ⟨hask, hway⟩ := HASK.out hmy HXB.out
      have HASK2 := Lib.hid hask
      have HWAY := Lib.hid hway
      have HT := Lib.hid ht
      have hbl := ht.lt
      clear hask hway ht hbb hmy HASK
      go_wp2_with fail
      have H4 := H44
      have HBW := HBW4
      clear H44 HBW4
      refine (froot_any HT.out HXW.out (by have := HXB.out; omega)).mono ?_
      rintro e w5 ⟨⟨vs, rfl, hvs⟩, hbr⟩
      obtain ⟨p5, q5, c5, d5, rfl⟩ := nodeX_cells hvs
      have HV : Hid (NodeX w5 (fun k => b < k) [.int .u8 (x).kind.toNat, .string (x).text, .slice p5 (x).names.length c5, .slice q5 (x).kids.length d5] (x)) := Lib.hid (hvs.same fun k hk => ⟨rfl, by have := hk.1; omega⟩)
      have HR := Lib.hid hbr
      clear hvs hbr
      go_upto_region 7 with fail
      have hsz : b < w5.heap.size := by have := HR.out.size; omega
      have HSV := Lib.hid fun (wn : World) hw => stored_vr (w' := wn) HV.out hsz hw
      generalize hws : (w5.alloc (.cells #[.int .u8 (x).kind.toNat, .string (x).text, .slice p5 (x).names.length c5, .slice q5 (x).kids.length d5] 26)) = w5s at *
      obtain ⟨hb1, hv1⟩ := HSV.out _ rfl
      clear HSV hws hsz HV
      have HWAS := Lib.hid hv1
      have HK := Lib.hid (HR.out.trans (hb1.mono HR.out.size))
      generalize hg : w5.heap.size = gw at *
      clear hb1 hv1 hg HR
      have H4' := Lib.hid (H4.out.kept HK.out)
      have HT' := Lib.hid (HT.out.kept HK.out)
      have HBW' := Lib.hid (HBW.out.trans (HK.out.mono HBW.out.size))
      clear H4 HT HBW
      have H4 := H4'
      clear H4'
      have HT := HT'
      clear HT'
      have HBW := HBW'
      clear HBW'
      clear HK
      obtain ⟨pv, qv, cv, dv, hF, hX, _⟩ := HWAS.out
      obtain ⟨c0, c1x, c2x, c3⟩ := hF.cell
      have HVX := Lib.hid hX
      clear hF hX
      obtain ⟨s0, s1, s2, s3, s4, s5, s6⟩ := H4.out.cell
      go_wp2_with fail
      refine (at_x HVX.out.to (by have := HXB.out; omega) (HA.out.grown HBW.out) w5s (Below.refl _ _)).mono ?_
      rintro e w6 ⟨⟨vs, ib, rfl, hvs, rfl⟩, hbr⟩
      obtain ⟨p5, q5, c5, d5, rfl⟩ := nodeX_cells hvs
      have hbf : b < w5s.heap.size := HT.out.lt
      have HV : Hid (NodeX w6 (fun k => b < k) _ ((x.atW s.a).getD absent)) := Lib.hid (hvs.same fun k hk => ⟨rfl, by omega⟩)
      have HR := Lib.hid hbr
      clear hvs hbr HVX c0 c1x c2x c3 hbf s0 s1 s2 s3 s4 s5 s6
      have hbf : b < w5s.heap.size := HT.out.lt
      go_upto_region 8 with fail
      have hsz : b < w6.heap.size := by have := HR.out.size; omega
      have HSV := Lib.hid fun (wn : World) hw => stored_vr (w' := wn) HV.out hsz hw
      generalize hws : (w6.alloc (.cells #[.int .u8 ((x.atW s.a).getD absent).kind.toNat, .string ((x.atW s.a).getD absent).text, .slice p5 ((x.atW s.a).getD absent).names.length c5, .slice q5 ((x.atW s.a).getD absent).kids.length d5] 26)) = w6s at *
      obtain ⟨hb1, hv1⟩ := HSV.out _ rfl
      clear HSV hws hsz HV
      have HVX1 := Lib.hid hv1
      have HK := Lib.hid (HR.out.trans (hb1.mono HR.out.size))
      generalize hg : w6.heap.size = gx at *
      clear hb1 hv1 hg HR
      have H4' := Lib.hid (H4.out.kept HK.out)
      have HT' := Lib.hid (HT.out.kept HK.out)
      have HBW' := Lib.hid (HBW.out.trans (HK.out.mono HBW.out.size))
      have HWAS' := Lib.hid (HWAS.out.kept HK.out)
      clear H4 HT HBW HWAS
      have H4 := H4'
      clear H4'
      have HT := HT'
      clear HT'
      have HBW := HBW'
      clear HBW'
      have HWAS := HWAS'
      clear HWAS'
      clear HK hbf
      obtain ⟨pv, qv, cv, dv, hF, hX, _⟩ := HWAS.out
      obtain ⟨c0, c1x, c2x, c3⟩ := hF.cell
      have HVX := Lib.hid hX
      clear hF hX
      go_wp2_with fail
      refine (at_x HVX.out.to (by have := HXB.out; omega) (HP.out.grown HBW.out) w6s (Below.refl _ _)).mono ?_
      rintro e w7 ⟨⟨vs, ib, rfl, hvs, rfl⟩, hbr⟩
      obtain ⟨p5, q5, c5, d5, rfl⟩ := nodeX_cells hvs
      have hbf : b < w6s.heap.size := HT.out.lt
      have HV : Hid (NodeX w7 (fun k => b < k) _ ((x.atW P).getD absent)) := Lib.hid (hvs.same fun k hk => ⟨rfl, by omega⟩)
      have HR := Lib.hid hbr
      clear hvs hbr HVX c0 c1x c2x c3 hbf
      have hbf : b < w6s.heap.size := HT.out.lt
      go_upto_region 9 with fail
      have hsz : b < w7.heap.size := by have := HR.out.size; omega
      have HSV := Lib.hid fun (wn : World) hw => stored_vr (w' := wn) HV.out hsz hw
      generalize hws : (w7.alloc (.cells #[.int .u8 ((x.atW P).getD absent).kind.toNat, .string ((x.atW P).getD absent).text, .slice p5 ((x.atW P).getD absent).names.length c5, .slice q5 ((x.atW P).getD absent).kids.length d5] 26)) = w7s at *
      obtain ⟨hb1, hv1⟩ := HSV.out _ rfl
      clear HSV hws hsz HV
      have HVY := Lib.hid hv1
      have HK := Lib.hid (HR.out.trans (hb1.mono HR.out.size))
      generalize hg : w7.heap.size = gy at *
      clear hb1 hv1 hg HR
      have H4' := Lib.hid (H4.out.kept HK.out)
      have HT' := Lib.hid (HT.out.kept HK.out)
      have HBW' := Lib.hid (HBW.out.trans (HK.out.mono HBW.out.size))
      have HWAS' := Lib.hid (HWAS.out.kept HK.out)
      have HVX1' := Lib.hid (HVX1.out.kept HK.out)
      clear H4 HT HBW HWAS HVX1
      have H4 := H4'
      clear H4'
      have HT := HT'
      clear HT'
      have HBW := HBW'
      clear HBW'
      have HWAS := HWAS'
      clear HWAS'
      have HVX1 := HVX1'
      clear HVX1'
      clear HK hbf
      obtain ⟨s0, s1, s2, s3, s4, s5, s6⟩ := H4.out.cell
      go_wp2_with fail
      refine (del_any HT.out HXW.out (by have := HXB.out; omega) (HA.out.grown HBW.out) (by have := HSUM.out; omega)).mono ?_
      rintro e w8 ⟨rfl, ⟨x0, x1, x2, x3, ht⟩, hg⟩
      have HBW' := Lib.hid (HBW.out.trans (below_by hg (by omega) HBW.out.size))
      have H4' := Lib.hid (H4.out.by hg (by omega))
      have HWAS' := Lib.hid (HWAS.out.by hg)
      have HVX1' := Lib.hid (HVX1.out.by hg)
      have HVY' := Lib.hid (HVY.out.by hg)
      clear HBW H4 HWAS HVX1 HVY HT s0 s1 s2 s3 s4 s5 s6 hg
      have HBW := HBW'
      clear HBW'
      have H4 := H4'
      clear H4'
      have HWAS := HWAS'
      clear HWAS'
      have HVX1 := HVX1'
      clear HVX1'
      have HVY := HVY'
      clear HVY'
      have HT := Lib.hid ht
      have hbl := ht.lt
      clear ht
      generalize delD x s.a = R at *
      have hkn := HASK2.out.kind
      go_wp2_with fail
      refine (froot_any HT.out HASK2.out.well HASK2.out.bulk).mono ?_
      rintro e w9 ⟨⟨vs, rfl, hvs⟩, hbr⟩
      obtain ⟨p5, q5, c5, d5, rfl⟩ := nodeX_cells hvs
      have HV : Hid (NodeX w9 (fun k => b < k) [.int .u8 (R).kind.toNat, .string (R).text, .slice p5 (R).names.length c5, .slice q5 (R).kids.length d5] (R)) := Lib.hid (hvs.same fun k hk => ⟨rfl, by have := hk.1; omega⟩)
      have HR := Lib.hid hbr
      clear hvs hbr
      go_upto_region 18 with fail
      have hsz : b < w9.heap.size := by have := HR.out.size; omega
      have HSV := Lib.hid fun (wn : World) hw => stored_vr (w' := wn) HV.out hsz hw
      generalize hws : (w9.alloc (.cells #[.int .u8 (R).kind.toNat, .string (R).text, .slice p5 (R).names.length c5, .slice q5 (R).kids.length d5] 26)) = w9s at *
      obtain ⟨hb1, hv1⟩ := HSV.out _ rfl
      clear HSV hws hsz HV
      have HNOW := Lib.hid hv1
      have HK := Lib.hid (HR.out.trans (hb1.mono HR.out.size))
      generalize hg : w9.heap.size = gn at *
      clear hb1 hv1 hg HR
      have H4' := Lib.hid (H4.out.kept HK.out)
      have HT' := Lib.hid (HT.out.kept HK.out)
      have HBW' := Lib.hid (HBW.out.trans (HK.out.mono HBW.out.size))
      have HWAS' := Lib.hid (HWAS.out.kept HK.out)
      have HVX1' := Lib.hid (HVX1.out.kept HK.out)
      have HVY' := Lib.hid (HVY.out.kept HK.out)
      clear H4 HT HBW HWAS HVX1 HVY
      have H4 := H4'
      clear H4'
      have HT := HT'
      clear HT'
      have HBW := HBW'
      clear HBW'
      have HWAS := HWAS'
      clear HWAS'
      have HVX1 := HVX1'
      clear HVX1'
      have HVY := HVY'
      clear HVY'
      clear HK
      obtain ⟨pv, qv, cv, dv, hF, hX, _⟩ := HNOW.out
      obtain ⟨c0, c1x, c2x, c3⟩ := hF.cell
      have HVX := Lib.hid hX
      clear hF hX
      go_wp2_with fail
      refine (well_any HVX.out.to w9s (Below.refl _ _)).mono ?_
      rintro e w10 ⟨he, hbr⟩
      rw [HASK2.out.well] at he
      subst he
      have HK := Lib.hid hbr
      clear hbr HVX c0 c1x c2x c3
      have H4' := Lib.hid (H4.out.kept HK.out)
      have HT' := Lib.hid (HT.out.kept HK.out)
      have HBW' := Lib.hid (HBW.out.trans (HK.out.mono HBW.out.size))
      have HWAS' := Lib.hid (HWAS.out.kept HK.out)
      have HVX1' := Lib.hid (HVX1.out.kept HK.out)
      have HVY' := Lib.hid (HVY.out.kept HK.out)
      have HNOW' := Lib.hid (HNOW.out.kept HK.out)
      clear H4 HT HBW HWAS HVX1 HVY HNOW
      have H4 := H4'
      clear H4'
      have HT := HT'
      clear HT'
      have HBW := HBW'
      clear HBW'
      have HWAS := HWAS'
      clear HWAS'
      have HVX1 := HVX1'
      clear HVX1'
      have HVY := HVY'
      clear HVY'
      have HNOW := HNOW'
      clear HNOW'
      clear HK
      obtain ⟨pv, qv, cv, dv, hF, hX, _⟩ := HNOW.out
      obtain ⟨c0, c1x, c2x, c3⟩ := hF.cell
      have HVX := Lib.hid hX
      clear hF hX
      obtain ⟨s0, s1, s2, s3, s4, s5, s6⟩ := H4.out.cell
      go_wp2_with fail
      refine (at_x HVX.out.to HASK2.out.bulk (HA.out.grown HBW.out) w10 (Below.refl _ _)).mono ?_
      rintro e w11 ⟨⟨vs, ib, rfl, hvs, rfl⟩, hbr⟩
      obtain ⟨p5, q5, c5, d5, rfl⟩ := nodeX_cells hvs
      have hbf : b < w10.heap.size := HT.out.lt
      have HV : Hid (NodeX w11 (fun k => b < k) _ ((R.atW s.a).getD absent)) := Lib.hid (hvs.same fun k hk => ⟨rfl, by omega⟩)
      have HR := Lib.hid hbr
      clear hvs hbr HVX c0 c1x c2x c3 hbf s0 s1 s2 s3 s4 s5 s6
      have hbf : b < w10.heap.size := HT.out.lt
      go_upto_region 21 with fail
      have hsz : b < w11.heap.size := by have := HR.out.size; omega
      have HSV := Lib.hid fun (wn : World) hw => stored_vr (w' := wn) HV.out hsz hw
      generalize hws : (w11.alloc (.cells #[.int .u8 ((R.atW s.a).getD absent).kind.toNat, .string ((R.atW s.a).getD absent).text, .slice p5 ((R.atW s.a).getD absent).names.length c5, .slice q5 ((R.atW s.a).getD absent).kids.length d5] 26)) = w11s at *
      obtain ⟨hb1, hv1⟩ := HSV.out _ rfl
      clear HSV hws hsz HV
      have HVA := Lib.hid hv1
      have HK := Lib.hid (HR.out.trans (hb1.mono HR.out.size))
      generalize hg : w11.heap.size = ga at *
      clear hb1 hv1 hg HR
      have H4' := Lib.hid (H4.out.kept HK.out)
      have HT' := Lib.hid (HT.out.kept HK.out)
      have HBW' := Lib.hid (HBW.out.trans (HK.out.mono HBW.out.size))
      have HWAS' := Lib.hid (HWAS.out.kept HK.out)
      have HVX1' := Lib.hid (HVX1.out.kept HK.out)
      have HVY' := Lib.hid (HVY.out.kept HK.out)
      have HNOW' := Lib.hid (HNOW.out.kept HK.out)
      clear H4 HT HBW HWAS HVX1 HVY HNOW
      have H4 := H4'
      clear H4'
      have HT := HT'
      clear HT'
      have HBW := HBW'
      clear HBW'
      have HWAS := HWAS'
      clear HWAS'
      have HVX1 := HVX1'
      clear HVX1'
      have HVY := HVY'
      clear HVY'
      have HNOW := HNOW'
      clear HNOW'
      clear HK hbf hkn
      obtain ⟨pv, qv, cv, dv, hF, hX, _⟩ := HNOW.out
      obtain ⟨c0, c1x, c2x, c3⟩ := hF.cell
      have HVX := Lib.hid hX
      clear hF hX
      obtain ⟨s0, s1, s2, s3, s4, s5, s6⟩ := H4.out.cell
      go_wp2_with fail
      refine (at_x HVX.out.to HASK2.out.bulk (HB.out.grown HBW.out) w11s (Below.refl _ _)).mono ?_
      rintro e w12 ⟨⟨vs, ib, rfl, hvs, rfl⟩, hbr⟩
      obtain ⟨p5, q5, c5, d5, rfl⟩ := nodeX_cells hvs
      have hbf : b < w11s.heap.size := HT.out.lt
      have HV : Hid (NodeX w12 (fun k => b < k) _ ((R.atW s.b).getD absent)) := Lib.hid (hvs.same fun k hk => ⟨rfl, by omega⟩)
      have HR := Lib.hid hbr
      clear hvs hbr HVX c0 c1x c2x c3 hbf s0 s1 s2 s3 s4 s5 s6
      have hbf : b < w11s.heap.size := HT.out.lt
      go_upto_region 22 with fail
      have hsz : b < w12.heap.size := by have := HR.out.size; omega
      have HSV := Lib.hid fun (wn : World) hw => stored_vr (w' := wn) HV.out hsz hw
      generalize hws : (w12.alloc (.cells #[.int .u8 ((R.atW s.b).getD absent).kind.toNat, .string ((R.atW s.b).getD absent).text, .slice p5 ((R.atW s.b).getD absent).names.length c5, .slice q5 ((R.atW s.b).getD absent).kids.length d5] 26)) = w12s at *
      obtain ⟨hb1, hv1⟩ := HSV.out _ rfl
      clear HSV hws hsz HV
      have HVB := Lib.hid hv1
      have HK := Lib.hid (HR.out.trans (hb1.mono HR.out.size))
      generalize hg : w12.heap.size = gb at *
      clear hb1 hv1 hg HR
      have H4' := Lib.hid (H4.out.kept HK.out)
      have HT' := Lib.hid (HT.out.kept HK.out)
      have HBW' := Lib.hid (HBW.out.trans (HK.out.mono HBW.out.size))
      have HWAS' := Lib.hid (HWAS.out.kept HK.out)
      have HVX1' := Lib.hid (HVX1.out.kept HK.out)
      have HVY' := Lib.hid (HVY.out.kept HK.out)
      have HNOW' := Lib.hid (HNOW.out.kept HK.out)
      have HVA' := Lib.hid (HVA.out.kept HK.out)
      clear H4 HT HBW HWAS HVX1 HVY HNOW HVA
      have H4 := H4'
      clear H4'
      have HT := HT'
      clear HT'
      have HBW := HBW'
      clear HBW'
      have HWAS := HWAS'
      clear HWAS'
      have HVX1 := HVX1'
      clear HVX1'
      have HVY := HVY'
      clear HVY'
      have HNOW := HNOW'
      clear HNOW'
      have HVA := HVA'
      clear HVA'
      clear HK hbf
      obtain ⟨pv, qv, cv, dv, hF, hX, _⟩ := HWAS.out
      obtain ⟨c0, c1x, c2x, c3⟩ := hF.cell
      have HVX := Lib.hid hX
      clear hF hX
      obtain ⟨pw, qw, cw, dw, hF, hX, _⟩ := HNOW.out
      obtain ⟨e0, e1, e2, e3⟩ := hF.cell
      have HVW := Lib.hid hX.to
      clear hF hX
      obtain ⟨s0, s1, s2, s3, s4, s5, s6⟩ := H4.out.cell
      go_wp2_with fail
      refine (sameNd_any HVX.out.to HVW.out (by have := HXB.out; omega) w12s (Below.refl _ _)).mono ?_
      rintro e w13 ⟨he, hbr⟩
      subst he
      have HK := Lib.hid hbr
      clear hbr HVX HVW c0 c1x c2x c3 e0 e1 e2 e3 s0 s1 s2 s3 s4 s5 s6
      have H4' := Lib.hid (H4.out.kept HK.out)
      have HT' := Lib.hid (HT.out.kept HK.out)
      have HBW' := Lib.hid (HBW.out.trans (HK.out.mono HBW.out.size))
      have HWAS' := Lib.hid (HWAS.out.kept HK.out)
      have HVX1' := Lib.hid (HVX1.out.kept HK.out)
      have HVY' := Lib.hid (HVY.out.kept HK.out)
      have HNOW' := Lib.hid (HNOW.out.kept HK.out)
      have HVA' := Lib.hid (HVA.out.kept HK.out)
      have HVB' := Lib.hid (HVB.out.kept HK.out)
      clear HK H4 HT HBW HWAS HVX1 HVY HNOW HVA HVB
      have H4 := H4'
      clear H4'
      have HT := HT'
      clear HT'
      have HBW := HBW'
      clear HBW'
      have HWAS := HWAS'
      clear HWAS'
      have HVX1 := HVX1'
      clear HVX1'
      have HVY := HVY'
      clear HVY'
      have HNOW := HNOW'
      clear HNOW'
      have HVA := HVA'
      clear HVA'
      have HVB := HVB'
      clear HVB'
      generalize Nd.same x R = sm at *
      rcases HWAY.out with h0 | ⟨h0, h1⟩
      · subst h0
        obtain ⟨s0, s1, s2, s3, s4, s5, s6⟩ := H4.out.cell
        go_wp2_with fail
        clear s0 s1 s2 s3 s4 s5 s6
        go_loopw [20, 21] (fun i _ wr => ∃ (k : Nat), k ≤ 1 ∧ i = .int .i64 k ∧ Hid (Below w13.heap.size w13 wr) ∧ Hid (1 ≤ k → underL s.a P = false ∧ underL P s.a = false) ∧ Hid (2 ≤ k → underL s.b P = false ∧ underL P s.b = false)) (fun i _ _ => 2 - (intOf i).toNat)
        case atStart => exact ⟨0, by omega, rfl, Lib.hid (Below.refl _ _), Lib.hid (fun h => by omega), Lib.hid (fun h => by omega)⟩
        case round =>
          obtain ⟨k, hk, rfl, HK, HC1, HC2⟩ := hrel
          have HKK := Lib.hid HK.out
          have H4' := Lib.hid (H4.out.kept HK.out)
          have HT' := Lib.hid (HT.out.kept HK.out)
          have HBW' := Lib.hid (HBW.out.trans (HK.out.mono HBW.out.size))
          have HVY' := Lib.hid (HVY.out.kept HK.out)
          have HNOW' := Lib.hid (HNOW.out.kept HK.out)
          clear HK H4 HT HBW HVY HNOW
          have H4 := H4'
          clear H4'
          have HT := HT'
          clear HT'
          have HBW := HBW'
          clear HBW'
          have HVY := HVY'
          clear HVY'
          have HNOW := HNOW'
          clear HNOW'
          obtain ⟨s0, s1, s2, s3, s4, s5, s6⟩ := H4.out.cell
          obtain rfl | rfl : k = 0 ∨ k = 1 := by omega
          · go_wp2_with fail
            refine (underRef_at (Below.refl _ _) (HA.out.grown HBW.out) (HP.out.grown HBW.out)).mono ?_
            rintro e wu ⟨he, hbu⟩
            have HU := Lib.hid hbu
            clear hbu
            have HBU := Lib.hid (HBW.out.trans (HU.out.mono HBW.out.size))
            cases hu : underL s.a P with
            | true =>
              rw [hu] at he
              subst he
              go_wp2_with fail
              go_ret
              exact ⟨rfl, HBU.out⟩
            | false =>
              rw [hu] at he
              subst he
              go_wp2_with fail
              refine (underRef_at (Below.refl _ _) (HP.out.grown HBU.out) (HA.out.grown HBU.out)).mono ?_
              rintro e wv ⟨he, hbv⟩
              have HV2 := Lib.hid hbv
              clear hbv
              cases hu2 : underL P s.a with
              | true =>
                rw [hu2] at he
                subst he
                go_wp2_with fail
                go_ret
                exact ⟨rfl, HBU.out.trans (HV2.out.mono HBU.out.size)⟩
              | false =>
                rw [hu2] at he
                subst he
                have HU1 := Lib.hid hu
                have HU2 := Lib.hid hu2
                clear hu hu2
                go_wp2_with fail
                go_roundw
                case rel => exact ⟨1, by omega, by go_num, Lib.hid ((HKK.out.trans (HU.out.mono HKK.out.size)).trans (HV2.out.mono (Nat.le_trans HKK.out.size HU.out.size))), Lib.hid (fun _ => ⟨HU1.out, HU2.out⟩), Lib.hid (fun h => by omega)⟩
                case measure => simp [intOf]
          · obtain ⟨hu1, hu2⟩ := HC1.out (by omega)
            obtain ⟨hz1, hz2⟩ := HASK2.out.rest (by simp [hu1, hu2])
            have HZ1 := Lib.hid hz1
            have HZ2 := Lib.hid hz2
            clear hu1 hu2 hz1 hz2
            obtain ⟨pv, qv, cv, dv, hF, hX, _⟩ := HNOW.out
            obtain ⟨c0, c1x, c2x, c3⟩ := hF.cell
            have HVX := Lib.hid hX
            clear hF hX
            have hbf : b < wr.heap.size := HT.out.lt
            go_wp2_with fail
            refine (at_x HVX.out.to HASK2.out.bulk (HP.out.grown HBW.out) wr (Below.refl _ _)).mono ?_
            rintro e wx ⟨⟨vs, ib, rfl, hvs, rfl⟩, hbr⟩
            obtain ⟨p5, q5, c5, d5, rfl⟩ := nodeX_cells hvs
            have HV : Hid (NodeX wx (fun k => b < k) _ ((R.atW P).getD absent)) := Lib.hid (hvs.same fun k hk => ⟨rfl, by omega⟩)
            have HR := Lib.hid hbr
            rw [HZ1.out]
            clear hvs hbr HVX c0 c1x c2x c3 s0 s1 s2 s3 s4 s5 s6
            go_upto_region 45 with fail
            have hsz : b < wx.heap.size := by have := HR.out.size; omega
            have HSV := Lib.hid fun (wn : World) hw => stored_vr (w' := wn) HV.out hsz hw
            generalize hws : (wx.alloc (.cells #[.int .u8 ((R.atW P).getD absent).kind.toNat, .string ((R.atW P).getD absent).text, .slice p5 ((R.atW P).getD absent).names.length c5, .slice q5 ((R.atW P).getD absent).kids.length d5] 26)) = wxs at *
            obtain ⟨hb1, hv1⟩ := HSV.out _ rfl
            clear HSV hws hsz HV hbf
            have HVZ := Lib.hid hv1
            have HK := Lib.hid (HR.out.trans (hb1.mono HR.out.size))
            generalize hg : wx.heap.size = gz at *
            clear hb1 hv1 hg HR
            have HBW' := Lib.hid (HBW.out.trans (HK.out.mono HBW.out.size))
            have HVY' := Lib.hid (HVY.out.kept HK.out)
            clear HK HBW HVY
            have HBW := HBW'
            clear HBW'
            have HVY := HVY'
            clear HVY'
            generalize (x.atW P).isSome = iy at *
            obtain ⟨pv, qv, cv, dv, hF, hX, _⟩ := HVZ.out
            obtain ⟨c0, c1x, c2x, c3⟩ := hF.cell
            have HVX := Lib.hid hX
            clear hF hX
            obtain ⟨pw, qw, cw, dw, hF, hX, _⟩ := HVY.out
            obtain ⟨e0, e1, e2, e3⟩ := hF.cell
            have HVW := Lib.hid hX.to
            clear hF hX
            go_wp2_with fail
            refine (sameNd_any HVX.out.to HVW.out (atW_bulk HASK2.out.bulk) wxs (Below.refl _ _)).mono ?_
            rintro e wq ⟨he, hbr⟩
            rw [HZ2.out] at he
            subst he
            have HQ := Lib.hid (HBW.out.trans (hbr.mono HBW.out.size))
            clear hbr
            go_wp2_with fail
            go_ret
            exact ⟨rfl, HQ.out⟩
      · rw [h1]
        clear h1
        obtain ⟨s0, s1, s2, s3, s4, s5, s6⟩ := H4.out.cell
        go_wp2_with fail
        clear s0 s1 s2 s3 s4 s5 s6
        go_loopw [20, 21] (fun i _ wr => ∃ (k : Nat), k ≤ 1 ∧ i = .int .i64 k ∧ Hid (Below w13.heap.size w13 wr) ∧ Hid (1 ≤ k → underL s.a P = false ∧ underL P s.a = false) ∧ Hid (2 ≤ k → underL s.b P = false ∧ underL P s.b = false)) (fun i _ _ => 2 - (intOf i).toNat)
        case atStart => exact ⟨0, by omega, rfl, Lib.hid (Below.refl _ _), Lib.hid (fun h => by omega), Lib.hid (fun h => by omega)⟩
        case round =>
          obtain ⟨k, hk, rfl, HK, HC1, HC2⟩ := hrel
          have HKK := Lib.hid HK.out
          have H4' := Lib.hid (H4.out.kept HK.out)
          have HT' := Lib.hid (HT.out.kept HK.out)
          have HBW' := Lib.hid (HBW.out.trans (HK.out.mono HBW.out.size))
          have HVY' := Lib.hid (HVY.out.kept HK.out)
          have HNOW' := Lib.hid (HNOW.out.kept HK.out)
          clear HK H4 HT HBW HVY HNOW
          have H4 := H4'
          clear H4'
          have HT := HT'
          clear HT'
          have HBW := HBW'
          clear HBW'
          have HVY := HVY'
          clear HVY'
          have HNOW := HNOW'
          clear HNOW'
          obtain ⟨s0, s1, s2, s3, s4, s5, s6⟩ := H4.out.cell
          obtain rfl | rfl : k = 0 ∨ k = 1 := by omega
          · go_wp2_with fail
            refine (underRef_at (Below.refl _ _) (HA.out.grown HBW.out) (HP.out.grown HBW.out)).mono ?_
            rintro e wu ⟨he, hbu⟩
            have HU := Lib.hid hbu
            clear hbu
            have HBU := Lib.hid (HBW.out.trans (HU.out.mono HBW.out.size))
            cases hu : underL s.a P with
            | true =>
              rw [hu] at he
              subst he
              go_wp2_with fail
              go_ret
              exact ⟨rfl, HBU.out⟩
            | false =>
              rw [hu] at he
              subst he
              go_wp2_with fail
              refine (underRef_at (Below.refl _ _) (HP.out.grown HBU.out) (HA.out.grown HBU.out)).mono ?_
              rintro e wv ⟨he, hbv⟩
              have HV2 := Lib.hid hbv
              clear hbv
              cases hu2 : underL P s.a with
              | true =>
                rw [hu2] at he
                subst he
                go_wp2_with fail
                go_ret
                exact ⟨rfl, HBU.out.trans (HV2.out.mono HBU.out.size)⟩
              | false =>
                rw [hu2] at he
                subst he
                have HU1 := Lib.hid hu
                have HU2 := Lib.hid hu2
                clear hu hu2
                go_wp2_with fail
                go_roundw
                case rel => exact ⟨1, by omega, by go_num, Lib.hid ((HKK.out.trans (HU.out.mono HKK.out.size)).trans (HV2.out.mono (Nat.le_trans HKK.out.size HU.out.size))), Lib.hid (fun _ => ⟨HU1.out, HU2.out⟩), Lib.hid (fun h => by omega)⟩
                case measure => simp [intOf]
          · obtain ⟨hu1, hu2⟩ := HC1.out (by omega)
            obtain ⟨hz1, hz2⟩ := HASK2.out.rest (by simp [hu1, hu2])
            have HZ1 := Lib.hid hz1
            have HZ2 := Lib.hid hz2
            clear hu1 hu2 hz1 hz2
            obtain ⟨pv, qv, cv, dv, hF, hX, _⟩ := HNOW.out
            obtain ⟨c0, c1x, c2x, c3⟩ := hF.cell
            have HVX := Lib.hid hX
            clear hF hX
            have hbf : b < wr.heap.size := HT.out.lt
            go_wp2_with fail
            refine (at_x HVX.out.to HASK2.out.bulk (HP.out.grown HBW.out) wr (Below.refl _ _)).mono ?_
            rintro e wx ⟨⟨vs, ib, rfl, hvs, rfl⟩, hbr⟩
            obtain ⟨p5, q5, c5, d5, rfl⟩ := nodeX_cells hvs
            have HV : Hid (NodeX wx (fun k => b < k) _ ((R.atW P).getD absent)) := Lib.hid (hvs.same fun k hk => ⟨rfl, by omega⟩)
            have HR := Lib.hid hbr
            rw [HZ1.out]
            clear hvs hbr HVX c0 c1x c2x c3 s0 s1 s2 s3 s4 s5 s6
            go_upto_region 45 with fail
            have hsz : b < wx.heap.size := by have := HR.out.size; omega
            have HSV := Lib.hid fun (wn : World) hw => stored_vr (w' := wn) HV.out hsz hw
            generalize hws : (wx.alloc (.cells #[.int .u8 ((R.atW P).getD absent).kind.toNat, .string ((R.atW P).getD absent).text, .slice p5 ((R.atW P).getD absent).names.length c5, .slice q5 ((R.atW P).getD absent).kids.length d5] 26)) = wxs at *
            obtain ⟨hb1, hv1⟩ := HSV.out _ rfl
            clear HSV hws hsz HV hbf
            have HVZ := Lib.hid hv1
            have HK := Lib.hid (HR.out.trans (hb1.mono HR.out.size))
            generalize hg : wx.heap.size = gz at *
            clear hb1 hv1 hg HR
            have HBW' := Lib.hid (HBW.out.trans (HK.out.mono HBW.out.size))
            have HVY' := Lib.hid (HVY.out.kept HK.out)
            clear HK HBW HVY
            have HBW := HBW'
            clear HBW'
            have HVY := HVY'
            clear HVY'
            generalize (x.atW P).isSome = iy at *
            obtain ⟨pv, qv, cv, dv, hF, hX, _⟩ := HVZ.out
            obtain ⟨c0, c1x, c2x, c3⟩ := hF.cell
            have HVX := Lib.hid hX
            clear hF hX
            obtain ⟨pw, qw, cw, dw, hF, hX, _⟩ := HVY.out
            obtain ⟨e0, e1, e2, e3⟩ := hF.cell
            have HVW := Lib.hid hX.to
            clear hF hX
            go_wp2_with fail
            refine (sameNd_any HVX.out.to HVW.out (atW_bulk HASK2.out.bulk) wxs (Below.refl _ _)).mono ?_
            rintro e wq ⟨he, hbr⟩
            rw [HZ2.out] at he
            subst he
            have HQ := Lib.hid (HBW.out.trans (hbr.mono HBW.out.size))
            clear hbr
            go_wp2_with fail
            go_ret
            exact ⟨rfl, HQ.out⟩

set_option maxRecDepth 100000 in
set_option maxHeartbeats 16000000 in
theorem law_there2 {W : World} {cs st : List Value} {x : Nd} {s : Sp} (hx : NodeR W cs x) (hxb2 : x.bulk ≤ 2000000) (hs : StepR W st s) (hsum : s.n.bulk + namesBulk s.a + namesBulk s.b ≤ 1050000) {pv : Value} {P : List ByteArray} (hp : PlR W pv P) (hj : s.kind.toNat % 4 = 2) :
    Calls Try.prog 5 #[.agg cs.toArray, .agg st.toArray, pv] W fun e w' => e = .returned (.bool true) ∧ Below W.heap.size W w' := by
  have HST := Lib.hid hs
  obtain ⟨p1, q1, c1, d1, rfl⟩ := hx.cells
  obtain ⟨pa, ca, pb, cb, v0, v1, v2, v3, rfl, ha, hb, hn⟩ := hs
  obtain ⟨p2, q2, c2, d2, hv⟩ := hn.cells
  obtain ⟨rfl, rfl, rfl, rfl⟩ : v0 = _ ∧ v1 = _ ∧ v2 = _ ∧ v3 = _ := by simpa using hv
  obtain ⟨pp, pc, hpv, _, _, _⟩ := id hp
  subst hpv
  have HX := Lib.hid hx
  have HA := Lib.hid ha
  have HB := Lib.hid hb
  have HN := Lib.hid hn
  have HP := Lib.hid hp
  have HSUM := Lib.hid hsum
  have HXB2 := Lib.hid hxb2
  have HWK := Lib.hid Works.works7
  have hla := pl_max ha
  have hlb := pl_max hb
  have HASK : Hid (∀ (hm : x.may = true), x.bulk ≤ 330000 → _) := Lib.hid fun hm HXB0 => (by have HXB := Lib.hid HXB0; exact asked_move hm HXB.out (by have := HSUM.out; omega) : Asked x (moveD x s.a s.b) s.a P (!underL s.a P && !underL P s.a && (!underL s.b P && !underL P s.b)) ∧ _)
  have hj0 : ((s.kind.toNat : Int)).tmod 4 = 2 := by rw [Int.tmod_eq_emod_of_nonneg (by omega)]; omega
  have hk255 : s.kind.toNat ≤ 255 := by have := s.kind.toNat_lt; omega
  clear hx ha hb hn hv hp hsum hxb2 hj
  generalize x.kind.toNat = k1 at *
  generalize x.text = t1 at *
  generalize x.names.length = n1 at *
  generalize x.kids.length = m1 at *
  generalize s.n.kind.toNat = k2 at *
  generalize s.n.text = t2 at *
  generalize s.n.names.length = n2 at *
  generalize s.n.kids.length = m2 at *
  generalize hkj : s.kind.toNat = kj at *
  generalize hlaE : s.a.length = la at *
  generalize hlbE : s.b.length = lb at *
  generalize hlpE : P.length = lp at *
  clear hkj
  have HLA := Lib.hid hlaE
  clear hlaE hlbE hlpE
  go_enter Try.func5, Try.ntmps5
  go_wp2_with fail
  refine (HWK.out _).mono ?_
  rintro e w1 ⟨rfl, hb1⟩
  have HB1 : Hid (Below (W.heap.size + 2) ((W.alloc (.cells #[.int .u8 k1, .string t1, .slice p1 n1 c1, .slice q1 m1 d1] 26)).alloc (.cells #[.int .u8 kj, .slice pa la ca, .slice pb lb cb, .int .u8 k2, .string t2, .slice p2 n2 c2, .slice q2 m2 d2] 53)) w1) := Lib.hid (hb1.mono (by simp))
  have HBW := Lib.hid (box2_self HB1.out)
  have H3 : Hid (Four w1 W.heap.size (.int .u8 k1) (.string t1) (.slice p1 n1 c1) (.slice q1 m1 d1)) := Lib.hid (Four.kept (four_first W _ _ _ _ _) hb1)
  have H4 : Hid (Seven w1 (W.heap.size + 1) (.int .u8 kj) (.slice pa la ca) (.slice pb lb cb) (.int .u8 k2) (.string t2) (.slice p2 n2 c2) (.slice q2 m2 d2)) := Lib.hid (Seven.kept (w := ((W.alloc (.cells #[.int .u8 k1, .string t1, .slice p1 n1 c1, .slice q1 m1 d1] 26)).alloc (.cells #[.int .u8 kj, .slice pa la ca, .slice pb lb cb, .int .u8 k2, .string t2, .slice p2 n2 c2, .slice q2 m2 d2] 53))) (by have := heap_alloc_new (W.alloc (.cells #[.int .u8 k1, .string t1, .slice p1 n1 c1, .slice q1 m1 d1] 26)) (.cells #[.int .u8 kj, .slice pa la ca, .slice pb lb cb, .int .u8 k2, .string t2, .slice p2 n2 c2, .slice q2 m2 d2] 53); simpa [Seven] using this) hb1)
  clear hb1 HB1
  obtain ⟨a0, a1, a2, a3⟩ := H3.out.cell
  obtain ⟨s0, s1, s2, s3, s4, s5, s6⟩ := H4.out.cell
  go_wp2_with fail
  refine (weight_any HX.out w1 HBW.out).mono ?_
  rintro e w2 ⟨⟨i1, rfl⟩, hb2⟩
  have HBW2 := Lib.hid (HBW.out.trans (hb2.mono HBW.out.size))
  have H32 := Lib.hid (H3.out.kept hb2)
  have H42 := Lib.hid (H4.out.kept hb2)
  clear hb2 a0 a1 a2 a3 s0 s1 s2 s3 s4 s5 s6 H3 H4 HBW
  obtain ⟨s0, s1, s2, s3, s4, s5, s6⟩ := H42.out.cell
  by_cases h1 : 3000 ≤ i1
  · go_wp2_with fail
    refine (HWK.out _).mono ?_
    rintro e wz ⟨rfl, hbz⟩
    have HZ := Lib.hid (HBW2.out.trans (hbz.mono HBW2.out.size))
    clear hbz
    go_wp2_with fail
    go_ret
    exact ⟨rfl, HZ.out⟩
  · go_wp2_with fail
    have HAL : Hid (Below w2.heap.size w2 (w2.alloc (.cells #[.int .u8 kj, .slice pa la ca, .slice pb lb cb, .int .u8 k2, .string t2, .slice p2 n2 c2, .slice q2 m2 d2] 53))) := Lib.hid ((Below.refl _ _).alloc (Nat.le_refl _) _)
    have HLG : Hid (Calls Try.prog 28 #[.slice (some ⟨w2.heap.size, 0, none⟩) 1 1] (w2.alloc (.cells #[.int .u8 kj, .slice pa la ca, .slice pb lb cb, .int .u8 k2, .string t2, .slice p2 n2 c2, .slice q2 m2 d2] 53)) fun e w' => IsB e ∧ Below (w2.alloc (.cells #[.int .u8 kj, .slice pa la ca, .slice pb lb cb, .int .u8 k2, .string t2, .slice p2 n2 c2, .slice q2 m2 d2] 53)).heap.size (w2.alloc (.cells #[.int .u8 kj, .slice pa la ca, .slice pb lb cb, .int .u8 k2, .string t2, .slice p2 n2 c2, .slice q2 m2 d2] 53)) w') := Lib.hid (large_any (l := [s]) (C := fun _ => [.int .u8 kj, .slice pa la ca, .slice pb lb cb, .int .u8 k2, .string t2, .slice p2 n2 c2, .slice q2 m2 d2]) (row_one _ _) (fun i z hz => by
      obtain ⟨rfl, rfl⟩ : i = 0 ∧ z = s := by
        cases i with
        | zero => simpa using hz.symm
        | succ i => simp at hz
      exact HST.out.grown (HBW2.out.trans (HAL.out.mono HBW2.out.size))) (by show 1 ≤ _; omega) _ (Below.refl _ _))
    refine HLG.out.mono ?_
    rintro e w3 ⟨⟨lb1, rfl⟩, hb3⟩
    have hb3 := HAL.out.trans (hb3.mono HAL.out.size)
    have HBW := Lib.hid (HBW2.out.trans (hb3.mono HBW2.out.size))
    have H3 := Lib.hid (H32.out.kept hb3)
    have H4 := Lib.hid (H42.out.kept hb3)
    clear hb3 s0 s1 s2 s3 s4 s5 s6 HAL HLG H32 H42 HBW2
    obtain ⟨a0, a1, a2, a3⟩ := H3.out.cell
    obtain ⟨s0, s1, s2, s3, s4, s5, s6⟩ := H4.out.cell
    cases lb1
    case' true =>
      go_wp2_with fail
      refine (HWK.out _).mono ?_
      rintro e wz ⟨rfl, hbz⟩
      have HZ := Lib.hid (HBW.out.trans (hbz.mono HBW.out.size))
      clear hbz
      go_wp2_with fail
      go_ret
      exact ⟨rfl, HZ.out⟩
    by_cases h2 : 60 < lp
    · go_wp2_with fail
      refine (HWK.out _).mono ?_
      rintro e wz ⟨rfl, hbz⟩
      have HZ := Lib.hid (HBW.out.trans (hbz.mono HBW.out.size))
      clear hbz
      go_wp2_with fail
      go_ret
      exact ⟨rfl, HZ.out⟩
    go_wp2_with fail
    have HNW := Lib.hid (fnew_any HX.out HXB2.out w3 HBW.out)
    have h4l := H4.out.lt
    refine HNW.out.mono ?_
    rintro e w4 ⟨hnw, hb4⟩
    have HBW4 := Lib.hid (HBW.out.trans (hb4.mono HBW.out.size))
    have H44 := Lib.hid (H4.out.kept hb4)
    clear hb4 a0 a1 a2 a3 s0 s1 s2 s3 s4 s5 s6 H3 H4 HBW HNW
    cases hmy : x.may with
    | false =>
      rw [hmy, if_neg (by decide)] at hnw
      subst hnw
      go_wp2_with fail
      go_ret
      exact ⟨rfl, HBW4.out⟩
    | true =>
      rw [hmy, if_pos rfl] at hnw
      obtain ⟨b, y0, y1, y2, y3, rfl, hbb, ht, _⟩ := hnw
      have hb0 : W.heap.size + 1 < b := by omega
      have HXB := Lib.hid (may_bulk hmy)
      have HXW := Lib.hid (may_well hmy).1
      obtain ⟨hask, hway⟩ := HASK.out hmy HXB.out
      have HASK2 := Lib.hid hask
      have HWAY := Lib.hid hway
      have HT := Lib.hid ht
      have hbl := ht.lt
      clear hask hway ht hbb hmy HASK
      go_wp2_with fail
      have H4 := H44
      have HBW := HBW4
      clear H44 HBW4
      refine (froot_any HT.out HXW.out (by have := HXB.out; omega)).mono ?_
      rintro e w5 ⟨⟨vs, rfl, hvs⟩, hbr⟩
      obtain ⟨p5, q5, c5, d5, rfl⟩ := nodeX_cells hvs
      have HV : Hid (NodeX w5 (fun k => b < k) [.int .u8 (x).kind.toNat, .string (x).text, .slice p5 (x).names.length c5, .slice q5 (x).kids.length d5] (x)) := Lib.hid (hvs.same fun k hk => ⟨rfl, by have := hk.1; omega⟩)
      have HR := Lib.hid hbr
      clear hvs hbr
      go_upto_region 7 with fail
      have hsz : b < w5.heap.size := by have := HR.out.size; omega
      have HSV := Lib.hid fun (wn : World) hw => stored_vr (w' := wn) HV.out hsz hw
      generalize hws : (w5.alloc (.cells #[.int .u8 (x).kind.toNat, .string (x).text, .slice p5 (x).names.length c5, .slice q5 (x).kids.length d5] 26)) = w5s at *
      obtain ⟨hb1, hv1⟩ := HSV.out _ rfl
      clear HSV hws hsz HV
      have HWAS := Lib.hid hv1
      have HK := Lib.hid (HR.out.trans (hb1.mono HR.out.size))
      generalize hg : w5.heap.size = gw at *
      clear hb1 hv1 hg HR
      have H4' := Lib.hid (H4.out.kept HK.out)
      have HT' := Lib.hid (HT.out.kept HK.out)
      have HBW' := Lib.hid (HBW.out.trans (HK.out.mono HBW.out.size))
      clear H4 HT HBW
      have H4 := H4'
      clear H4'
      have HT := HT'
      clear HT'
      have HBW := HBW'
      clear HBW'
      clear HK
      obtain ⟨pv, qv, cv, dv, hF, hX, _⟩ := HWAS.out
      obtain ⟨c0, c1x, c2x, c3⟩ := hF.cell
      have HVX := Lib.hid hX
      clear hF hX
      obtain ⟨s0, s1, s2, s3, s4, s5, s6⟩ := H4.out.cell
      go_wp2_with fail
      refine (at_x HVX.out.to (by have := HXB.out; omega) (HA.out.grown HBW.out) w5s (Below.refl _ _)).mono ?_
      rintro e w6 ⟨⟨vs, ib, rfl, hvs, rfl⟩, hbr⟩
      obtain ⟨p5, q5, c5, d5, rfl⟩ := nodeX_cells hvs
      have hbf : b < w5s.heap.size := HT.out.lt
      have HV : Hid (NodeX w6 (fun k => b < k) _ ((x.atW s.a).getD absent)) := Lib.hid (hvs.same fun k hk => ⟨rfl, by omega⟩)
      have HR := Lib.hid hbr
      clear hvs hbr HVX c0 c1x c2x c3 hbf s0 s1 s2 s3 s4 s5 s6
      have hbf : b < w5s.heap.size := HT.out.lt
      go_upto_region 8 with fail
      have hsz : b < w6.heap.size := by have := HR.out.size; omega
      have HSV := Lib.hid fun (wn : World) hw => stored_vr (w' := wn) HV.out hsz hw
      generalize hws : (w6.alloc (.cells #[.int .u8 ((x.atW s.a).getD absent).kind.toNat, .string ((x.atW s.a).getD absent).text, .slice p5 ((x.atW s.a).getD absent).names.length c5, .slice q5 ((x.atW s.a).getD absent).kids.length d5] 26)) = w6s at *
      obtain ⟨hb1, hv1⟩ := HSV.out _ rfl
      clear HSV hws hsz HV
      have HVX1 := Lib.hid hv1
      have HK := Lib.hid (HR.out.trans (hb1.mono HR.out.size))
      generalize hg : w6.heap.size = gx at *
      clear hb1 hv1 hg HR
      have H4' := Lib.hid (H4.out.kept HK.out)
      have HT' := Lib.hid (HT.out.kept HK.out)
      have HBW' := Lib.hid (HBW.out.trans (HK.out.mono HBW.out.size))
      have HWAS' := Lib.hid (HWAS.out.kept HK.out)
      clear H4 HT HBW HWAS
      have H4 := H4'
      clear H4'
      have HT := HT'
      clear HT'
      have HBW := HBW'
      clear HBW'
      have HWAS := HWAS'
      clear HWAS'
      clear HK hbf
      obtain ⟨pv, qv, cv, dv, hF, hX, _⟩ := HWAS.out
      obtain ⟨c0, c1x, c2x, c3⟩ := hF.cell
      have HVX := Lib.hid hX
      clear hF hX
      go_wp2_with fail
      refine (at_x HVX.out.to (by have := HXB.out; omega) (HP.out.grown HBW.out) w6s (Below.refl _ _)).mono ?_
      rintro e w7 ⟨⟨vs, ib, rfl, hvs, rfl⟩, hbr⟩
      obtain ⟨p5, q5, c5, d5, rfl⟩ := nodeX_cells hvs
      have hbf : b < w6s.heap.size := HT.out.lt
      have HV : Hid (NodeX w7 (fun k => b < k) _ ((x.atW P).getD absent)) := Lib.hid (hvs.same fun k hk => ⟨rfl, by omega⟩)
      have HR := Lib.hid hbr
      clear hvs hbr HVX c0 c1x c2x c3 hbf
      have hbf : b < w6s.heap.size := HT.out.lt
      go_upto_region 9 with fail
      have hsz : b < w7.heap.size := by have := HR.out.size; omega
      have HSV := Lib.hid fun (wn : World) hw => stored_vr (w' := wn) HV.out hsz hw
      generalize hws : (w7.alloc (.cells #[.int .u8 ((x.atW P).getD absent).kind.toNat, .string ((x.atW P).getD absent).text, .slice p5 ((x.atW P).getD absent).names.length c5, .slice q5 ((x.atW P).getD absent).kids.length d5] 26)) = w7s at *
      obtain ⟨hb1, hv1⟩ := HSV.out _ rfl
      clear HSV hws hsz HV
      have HVY := Lib.hid hv1
      have HK := Lib.hid (HR.out.trans (hb1.mono HR.out.size))
      generalize hg : w7.heap.size = gy at *
      clear hb1 hv1 hg HR
      have H4' := Lib.hid (H4.out.kept HK.out)
      have HT' := Lib.hid (HT.out.kept HK.out)
      have HBW' := Lib.hid (HBW.out.trans (HK.out.mono HBW.out.size))
      have HWAS' := Lib.hid (HWAS.out.kept HK.out)
      have HVX1' := Lib.hid (HVX1.out.kept HK.out)
      clear H4 HT HBW HWAS HVX1
      have H4 := H4'
      clear H4'
      have HT := HT'
      clear HT'
      have HBW := HBW'
      clear HBW'
      have HWAS := HWAS'
      clear HWAS'
      have HVX1 := HVX1'
      clear HVX1'
      clear HK hbf
      obtain ⟨s0, s1, s2, s3, s4, s5, s6⟩ := H4.out.cell
      go_wp2_with fail
      refine (move_any HT.out HXW.out (by have := HXB.out; omega) (HA.out.grown HBW.out) (fun w' hw' => HB.out.grown (HBW.out.trans (below_by hw' (by omega) HBW.out.size))) (by have := HSUM.out; omega) (by have := HSUM.out; omega) (by have := changed_bulk (y := absent) s.a x (.inl HXW.out); have := HXB.out; have := HSUM.out; have hab : (absent).bulk = 1 := (by decide); omega)).mono ?_
      rintro e w8 ⟨rfl, ⟨x0, x1, x2, x3, ht⟩, hg⟩
      have HBW' := Lib.hid (HBW.out.trans (below_by hg (by omega) HBW.out.size))
      have H4' := Lib.hid (H4.out.by hg (by omega))
      have HWAS' := Lib.hid (HWAS.out.by hg)
      have HVX1' := Lib.hid (HVX1.out.by hg)
      have HVY' := Lib.hid (HVY.out.by hg)
      clear HBW H4 HWAS HVX1 HVY HT s0 s1 s2 s3 s4 s5 s6 hg
      have HBW := HBW'
      clear HBW'
      have H4 := H4'
      clear H4'
      have HWAS := HWAS'
      clear HWAS'
      have HVX1 := HVX1'
      clear HVX1'
      have HVY := HVY'
      clear HVY'
      have HT := Lib.hid ht
      have hbl := ht.lt
      clear ht
      generalize moveD x s.a s.b = R at *
      have hkn := HASK2.out.kind
      go_wp2_with fail
      refine (froot_any HT.out HASK2.out.well HASK2.out.bulk).mono ?_
      rintro e w9 ⟨⟨vs, rfl, hvs⟩, hbr⟩
      obtain ⟨p5, q5, c5, d5, rfl⟩ := nodeX_cells hvs
      have HV : Hid (NodeX w9 (fun k => b < k) [.int .u8 (R).kind.toNat, .string (R).text, .slice p5 (R).names.length c5, .slice q5 (R).kids.length d5] (R)) := Lib.hid (hvs.same fun k hk => ⟨rfl, by have := hk.1; omega⟩)
      have HR := Lib.hid hbr
      clear hvs hbr
      go_upto_region 18 with fail
      have hsz : b < w9.heap.size := by have := HR.out.size; omega
      have HSV := Lib.hid fun (wn : World) hw => stored_vr (w' := wn) HV.out hsz hw
      generalize hws : (w9.alloc (.cells #[.int .u8 (R).kind.toNat, .string (R).text, .slice p5 (R).names.length c5, .slice q5 (R).kids.length d5] 26)) = w9s at *
      obtain ⟨hb1, hv1⟩ := HSV.out _ rfl
      clear HSV hws hsz HV
      have HNOW := Lib.hid hv1
      have HK := Lib.hid (HR.out.trans (hb1.mono HR.out.size))
      generalize hg : w9.heap.size = gn at *
      clear hb1 hv1 hg HR
      have H4' := Lib.hid (H4.out.kept HK.out)
      have HT' := Lib.hid (HT.out.kept HK.out)
      have HBW' := Lib.hid (HBW.out.trans (HK.out.mono HBW.out.size))
      have HWAS' := Lib.hid (HWAS.out.kept HK.out)
      have HVX1' := Lib.hid (HVX1.out.kept HK.out)
      have HVY' := Lib.hid (HVY.out.kept HK.out)
      clear H4 HT HBW HWAS HVX1 HVY
      have H4 := H4'
      clear H4'
      have HT := HT'
      clear HT'
      have HBW := HBW'
      clear HBW'
      have HWAS := HWAS'
      clear HWAS'
      have HVX1 := HVX1'
      clear HVX1'
      have HVY := HVY'
      clear HVY'
      clear HK
      obtain ⟨pv, qv, cv, dv, hF, hX, _⟩ := HNOW.out
      obtain ⟨c0, c1x, c2x, c3⟩ := hF.cell
      have HVX := Lib.hid hX
      clear hF hX
      go_wp2_with fail
      refine (well_any HVX.out.to w9s (Below.refl _ _)).mono ?_
      rintro e w10 ⟨he, hbr⟩
      rw [HASK2.out.well] at he
      subst he
      have HK := Lib.hid hbr
      clear hbr HVX c0 c1x c2x c3
      have H4' := Lib.hid (H4.out.kept HK.out)
      have HT' := Lib.hid (HT.out.kept HK.out)
      have HBW' := Lib.hid (HBW.out.trans (HK.out.mono HBW.out.size))
      have HWAS' := Lib.hid (HWAS.out.kept HK.out)
      have HVX1' := Lib.hid (HVX1.out.kept HK.out)
      have HVY' := Lib.hid (HVY.out.kept HK.out)
      have HNOW' := Lib.hid (HNOW.out.kept HK.out)
      clear H4 HT HBW HWAS HVX1 HVY HNOW
      have H4 := H4'
      clear H4'
      have HT := HT'
      clear HT'
      have HBW := HBW'
      clear HBW'
      have HWAS := HWAS'
      clear HWAS'
      have HVX1 := HVX1'
      clear HVX1'
      have HVY := HVY'
      clear HVY'
      have HNOW := HNOW'
      clear HNOW'
      clear HK
      obtain ⟨pv, qv, cv, dv, hF, hX, _⟩ := HNOW.out
      obtain ⟨c0, c1x, c2x, c3⟩ := hF.cell
      have HVX := Lib.hid hX
      clear hF hX
      obtain ⟨s0, s1, s2, s3, s4, s5, s6⟩ := H4.out.cell
      go_wp2_with fail
      refine (at_x HVX.out.to HASK2.out.bulk (HA.out.grown HBW.out) w10 (Below.refl _ _)).mono ?_
      rintro e w11 ⟨⟨vs, ib, rfl, hvs, rfl⟩, hbr⟩
      obtain ⟨p5, q5, c5, d5, rfl⟩ := nodeX_cells hvs
      have hbf : b < w10.heap.size := HT.out.lt
      have HV : Hid (NodeX w11 (fun k => b < k) _ ((R.atW s.a).getD absent)) := Lib.hid (hvs.same fun k hk => ⟨rfl, by omega⟩)
      have HR := Lib.hid hbr
      clear hvs hbr HVX c0 c1x c2x c3 hbf s0 s1 s2 s3 s4 s5 s6
      have hbf : b < w10.heap.size := HT.out.lt
      go_upto_region 21 with fail
      have hsz : b < w11.heap.size := by have := HR.out.size; omega
      have HSV := Lib.hid fun (wn : World) hw => stored_vr (w' := wn) HV.out hsz hw
      generalize hws : (w11.alloc (.cells #[.int .u8 ((R.atW s.a).getD absent).kind.toNat, .string ((R.atW s.a).getD absent).text, .slice p5 ((R.atW s.a).getD absent).names.length c5, .slice q5 ((R.atW s.a).getD absent).kids.length d5] 26)) = w11s at *
      obtain ⟨hb1, hv1⟩ := HSV.out _ rfl
      clear HSV hws hsz HV
      have HVA := Lib.hid hv1
      have HK := Lib.hid (HR.out.trans (hb1.mono HR.out.size))
      generalize hg : w11.heap.size = ga at *
      clear hb1 hv1 hg HR
      have H4' := Lib.hid (H4.out.kept HK.out)
      have HT' := Lib.hid (HT.out.kept HK.out)
      have HBW' := Lib.hid (HBW.out.trans (HK.out.mono HBW.out.size))
      have HWAS' := Lib.hid (HWAS.out.kept HK.out)
      have HVX1' := Lib.hid (HVX1.out.kept HK.out)
      have HVY' := Lib.hid (HVY.out.kept HK.out)
      have HNOW' := Lib.hid (HNOW.out.kept HK.out)
      clear H4 HT HBW HWAS HVX1 HVY HNOW
      have H4 := H4'
      clear H4'
      have HT := HT'
      clear HT'
      have HBW := HBW'
      clear HBW'
      have HWAS := HWAS'
      clear HWAS'
      have HVX1 := HVX1'
      clear HVX1'
      have HVY := HVY'
      clear HVY'
      have HNOW := HNOW'
      clear HNOW'
      clear HK hbf hkn
      obtain ⟨pv, qv, cv, dv, hF, hX, _⟩ := HNOW.out
      obtain ⟨c0, c1x, c2x, c3⟩ := hF.cell
      have HVX := Lib.hid hX
      clear hF hX
      obtain ⟨s0, s1, s2, s3, s4, s5, s6⟩ := H4.out.cell
      go_wp2_with fail
      refine (at_x HVX.out.to HASK2.out.bulk (HB.out.grown HBW.out) w11s (Below.refl _ _)).mono ?_
      rintro e w12 ⟨⟨vs, ib, rfl, hvs, rfl⟩, hbr⟩
      obtain ⟨p5, q5, c5, d5, rfl⟩ := nodeX_cells hvs
      have hbf : b < w11s.heap.size := HT.out.lt
      have HV : Hid (NodeX w12 (fun k => b < k) _ ((R.atW s.b).getD absent)) := Lib.hid (hvs.same fun k hk => ⟨rfl, by omega⟩)
      have HR := Lib.hid hbr
      clear hvs hbr HVX c0 c1x c2x c3 hbf s0 s1 s2 s3 s4 s5 s6
      have hbf : b < w11s.heap.size := HT.out.lt
      go_upto_region 22 with fail
      have hsz : b < w12.heap.size := by have := HR.out.size; omega
      have HSV := Lib.hid fun (wn : World) hw => stored_vr (w' := wn) HV.out hsz hw
      generalize hws : (w12.alloc (.cells #[.int .u8 ((R.atW s.b).getD absent).kind.toNat, .string ((R.atW s.b).getD absent).text, .slice p5 ((R.atW s.b).getD absent).names.length c5, .slice q5 ((R.atW s.b).getD absent).kids.length d5] 26)) = w12s at *
      obtain ⟨hb1, hv1⟩ := HSV.out _ rfl
      clear HSV hws hsz HV
      have HVB := Lib.hid hv1
      have HK := Lib.hid (HR.out.trans (hb1.mono HR.out.size))
      generalize hg : w12.heap.size = gb at *
      clear hb1 hv1 hg HR
      have H4' := Lib.hid (H4.out.kept HK.out)
      have HT' := Lib.hid (HT.out.kept HK.out)
      have HBW' := Lib.hid (HBW.out.trans (HK.out.mono HBW.out.size))
      have HWAS' := Lib.hid (HWAS.out.kept HK.out)
      have HVX1' := Lib.hid (HVX1.out.kept HK.out)
      have HVY' := Lib.hid (HVY.out.kept HK.out)
      have HNOW' := Lib.hid (HNOW.out.kept HK.out)
      have HVA' := Lib.hid (HVA.out.kept HK.out)
      clear H4 HT HBW HWAS HVX1 HVY HNOW HVA
      have H4 := H4'
      clear H4'
      have HT := HT'
      clear HT'
      have HBW := HBW'
      clear HBW'
      have HWAS := HWAS'
      clear HWAS'
      have HVX1 := HVX1'
      clear HVX1'
      have HVY := HVY'
      clear HVY'
      have HNOW := HNOW'
      clear HNOW'
      have HVA := HVA'
      clear HVA'
      clear HK hbf
      obtain ⟨pv, qv, cv, dv, hF, hX, _⟩ := HWAS.out
      obtain ⟨c0, c1x, c2x, c3⟩ := hF.cell
      have HVX := Lib.hid hX
      clear hF hX
      obtain ⟨pw, qw, cw, dw, hF, hX, _⟩ := HNOW.out
      obtain ⟨e0, e1, e2, e3⟩ := hF.cell
      have HVW := Lib.hid hX.to
      clear hF hX
      obtain ⟨s0, s1, s2, s3, s4, s5, s6⟩ := H4.out.cell
      go_wp2_with fail
      refine (sameNd_any HVX.out.to HVW.out (by have := HXB.out; omega) w12s (Below.refl _ _)).mono ?_
      rintro e w13 ⟨he, hbr⟩
      have HK := Lib.hid hbr
      clear hbr HVX HVW c0 c1x c2x c3 e0 e1 e2 e3 s0 s1 s2 s3 s4 s5 s6
      have H4' := Lib.hid (H4.out.kept HK.out)
      have HT' := Lib.hid (HT.out.kept HK.out)
      have HBW' := Lib.hid (HBW.out.trans (HK.out.mono HBW.out.size))
      have HWAS' := Lib.hid (HWAS.out.kept HK.out)
      have HVX1' := Lib.hid (HVX1.out.kept HK.out)
      have HVY' := Lib.hid (HVY.out.kept HK.out)
      have HNOW' := Lib.hid (HNOW.out.kept HK.out)
      have HVA' := Lib.hid (HVA.out.kept HK.out)
      have HVB' := Lib.hid (HVB.out.kept HK.out)
      clear HK H4 HT HBW HWAS HVX1 HVY HNOW HVA HVB
      have H4 := H4'
      clear H4'
      have HT := HT'
      clear HT'
      have HBW := HBW'
      clear HBW'
      have HWAS := HWAS'
      clear HWAS'
      have HVX1 := HVX1'
      clear HVX1'
      have HVY := HVY'
      clear HVY'
      have HNOW := HNOW'
      clear HNOW'
      have HVA := HVA'
      clear HVA'
      have HVB := HVB'
      clear HVB'
      rcases HWAY.out with hsm | ⟨hsm, hia, hib, hs1, hix⟩
      · rw [hsm] at he
        subst he
        clear hsm
        obtain ⟨s0, s1, s2, s3, s4, s5, s6⟩ := H4.out.cell
        go_wp2_with fail
        clear s0 s1 s2 s3 s4 s5 s6
        go_loopw [20, 21] (fun i _ wr => ∃ (k : Nat), k ≤ 2 ∧ i = .int .i64 k ∧ Hid (Below w13.heap.size w13 wr) ∧ Hid (1 ≤ k → underL s.a P = false ∧ underL P s.a = false) ∧ Hid (2 ≤ k → underL s.b P = false ∧ underL P s.b = false)) (fun i _ _ => 2 - (intOf i).toNat)
        case atStart => exact ⟨0, by omega, rfl, Lib.hid (Below.refl _ _), Lib.hid (fun h => by omega), Lib.hid (fun h => by omega)⟩
        case round =>
          obtain ⟨k, hk, rfl, HK, HC1, HC2⟩ := hrel
          have HKK := Lib.hid HK.out
          have H4' := Lib.hid (H4.out.kept HK.out)
          have HT' := Lib.hid (HT.out.kept HK.out)
          have HBW' := Lib.hid (HBW.out.trans (HK.out.mono HBW.out.size))
          have HVY' := Lib.hid (HVY.out.kept HK.out)
          have HNOW' := Lib.hid (HNOW.out.kept HK.out)
          clear HK H4 HT HBW HVY HNOW
          have H4 := H4'
          clear H4'
          have HT := HT'
          clear HT'
          have HBW := HBW'
          clear HBW'
          have HVY := HVY'
          clear HVY'
          have HNOW := HNOW'
          clear HNOW'
          obtain ⟨s0, s1, s2, s3, s4, s5, s6⟩ := H4.out.cell
          obtain rfl | rfl | rfl : k = 0 ∨ k = 1 ∨ k = 2 := by omega
          · go_wp2_with fail
            refine (underRef_at (Below.refl _ _) (HA.out.grown HBW.out) (HP.out.grown HBW.out)).mono ?_
            rintro e wu ⟨he, hbu⟩
            have HU := Lib.hid hbu
            clear hbu
            have HBU := Lib.hid (HBW.out.trans (HU.out.mono HBW.out.size))
            cases hu : underL s.a P with
            | true =>
              rw [hu] at he
              subst he
              go_wp2_with fail
              go_ret
              exact ⟨rfl, HBU.out⟩
            | false =>
              rw [hu] at he
              subst he
              go_wp2_with fail
              refine (underRef_at (Below.refl _ _) (HP.out.grown HBU.out) (HA.out.grown HBU.out)).mono ?_
              rintro e wv ⟨he, hbv⟩
              have HV2 := Lib.hid hbv
              clear hbv
              cases hu2 : underL P s.a with
              | true =>
                rw [hu2] at he
                subst he
                go_wp2_with fail
                go_ret
                exact ⟨rfl, HBU.out.trans (HV2.out.mono HBU.out.size)⟩
              | false =>
                rw [hu2] at he
                subst he
                have HU1 := Lib.hid hu
                have HU2 := Lib.hid hu2
                clear hu hu2
                go_wp2_with fail
                go_roundw
                case rel => exact ⟨1, by omega, by go_num, Lib.hid ((HKK.out.trans (HU.out.mono HKK.out.size)).trans (HV2.out.mono (Nat.le_trans HKK.out.size HU.out.size))), Lib.hid (fun _ => ⟨HU1.out, HU2.out⟩), Lib.hid (fun h => by omega)⟩
                case measure => simp [intOf]
          · go_wp2_with fail
            refine (underRef_at (Below.refl _ _) (HB.out.grown HBW.out) (HP.out.grown HBW.out)).mono ?_
            rintro e wu ⟨he, hbu⟩
            have HU := Lib.hid hbu
            clear hbu
            have HBU := Lib.hid (HBW.out.trans (HU.out.mono HBW.out.size))
            cases hu : underL s.b P with
            | true =>
              rw [hu] at he
              subst he
              go_wp2_with fail
              go_ret
              exact ⟨rfl, HBU.out⟩
            | false =>
              rw [hu] at he
              subst he
              go_wp2_with fail
              refine (underRef_at (Below.refl _ _) (HP.out.grown HBU.out) (HB.out.grown HBU.out)).mono ?_
              rintro e wv ⟨he, hbv⟩
              have HV2 := Lib.hid hbv
              clear hbv
              cases hu2 : underL P s.b with
              | true =>
                rw [hu2] at he
                subst he
                go_wp2_with fail
                go_ret
                exact ⟨rfl, HBU.out.trans (HV2.out.mono HBU.out.size)⟩
              | false =>
                rw [hu2] at he
                subst he
                have HU1 := Lib.hid hu
                have HU2 := Lib.hid hu2
                clear hu hu2
                go_wp2_with fail
                go_roundw
                case rel => exact ⟨2, by omega, by go_num, Lib.hid ((HKK.out.trans (HU.out.mono HKK.out.size)).trans (HV2.out.mono (Nat.le_trans HKK.out.size HU.out.size))), Lib.hid (fun _ => HC1.out (by omega)), Lib.hid (fun _ => ⟨HU1.out, HU2.out⟩)⟩
                case measure => simp [intOf]
          · obtain ⟨hu1, hu2⟩ := HC1.out (by omega)
            obtain ⟨hu3, hu4⟩ := HC2.out (by omega)
            obtain ⟨hz1, hz2⟩ := HASK2.out.rest (by simp [hu1, hu2, hu3, hu4])
            have HZ1 := Lib.hid hz1
            have HZ2 := Lib.hid hz2
            clear hu1 hu2 hu3 hu4 hz1 hz2
            obtain ⟨pv, qv, cv, dv, hF, hX, _⟩ := HNOW.out
            obtain ⟨c0, c1x, c2x, c3⟩ := hF.cell
            have HVX := Lib.hid hX
            clear hF hX
            have hbf : b < wr.heap.size := HT.out.lt
            go_wp2_with fail
            refine (at_x HVX.out.to HASK2.out.bulk (HP.out.grown HBW.out) wr (Below.refl _ _)).mono ?_
            rintro e wx ⟨⟨vs, ib, rfl, hvs, rfl⟩, hbr⟩
            obtain ⟨p5, q5, c5, d5, rfl⟩ := nodeX_cells hvs
            have HV : Hid (NodeX wx (fun k => b < k) _ ((R.atW P).getD absent)) := Lib.hid (hvs.same fun k hk => ⟨rfl, by omega⟩)
            have HR := Lib.hid hbr
            rw [HZ1.out]
            clear hvs hbr HVX c0 c1x c2x c3 s0 s1 s2 s3 s4 s5 s6
            go_upto_region 45 with fail
            have hsz : b < wx.heap.size := by have := HR.out.size; omega
            have HSV := Lib.hid fun (wn : World) hw => stored_vr (w' := wn) HV.out hsz hw
            generalize hws : (wx.alloc (.cells #[.int .u8 ((R.atW P).getD absent).kind.toNat, .string ((R.atW P).getD absent).text, .slice p5 ((R.atW P).getD absent).names.length c5, .slice q5 ((R.atW P).getD absent).kids.length d5] 26)) = wxs at *
            obtain ⟨hb1, hv1⟩ := HSV.out _ rfl
            clear HSV hws hsz HV hbf
            have HVZ := Lib.hid hv1
            have HK := Lib.hid (HR.out.trans (hb1.mono HR.out.size))
            generalize hg : wx.heap.size = gz at *
            clear hb1 hv1 hg HR
            have HBW' := Lib.hid (HBW.out.trans (HK.out.mono HBW.out.size))
            have HVY' := Lib.hid (HVY.out.kept HK.out)
            clear HK HBW HVY
            have HBW := HBW'
            clear HBW'
            have HVY := HVY'
            clear HVY'
            generalize (x.atW P).isSome = iy at *
            obtain ⟨pv, qv, cv, dv, hF, hX, _⟩ := HVZ.out
            obtain ⟨c0, c1x, c2x, c3⟩ := hF.cell
            have HVX := Lib.hid hX
            clear hF hX
            obtain ⟨pw, qw, cw, dw, hF, hX, _⟩ := HVY.out
            obtain ⟨e0, e1, e2, e3⟩ := hF.cell
            have HVW := Lib.hid hX.to
            clear hF hX
            go_wp2_with fail
            refine (sameNd_any HVX.out.to HVW.out (atW_bulk HASK2.out.bulk) wxs (Below.refl _ _)).mono ?_
            rintro e wq ⟨he, hbr⟩
            rw [HZ2.out] at he
            subst he
            have HQ := Lib.hid (HBW.out.trans (hbr.mono HBW.out.size))
            clear hbr
            go_wp2_with fail
            go_ret
            exact ⟨rfl, HQ.out⟩
      · rw [hsm] at he
        subst he
        rw [hia, hib, hix]
        have HS1 := Lib.hid hs1
        clear hsm hia hs1 hib hix
        obtain ⟨pv, qv, cv, dv, hF, hX, _⟩ := HVB.out
        obtain ⟨c0, c1x, c2x, c3⟩ := hF.cell
        have HVX := Lib.hid hX
        clear hF hX
        obtain ⟨pw, qw, cw, dw, hF, hX, _⟩ := HVX1.out
        obtain ⟨e0, e1, e2, e3⟩ := hF.cell
        have HVW := Lib.hid hX.to
        clear hF hX
        obtain ⟨s0, s1, s2, s3, s4, s5, s6⟩ := H4.out.cell
        go_wp2_with fail
        refine (sameNd_any HVX.out.to HVW.out (atW_bulk HASK2.out.bulk) w13 (Below.refl _ _)).mono ?_
        rintro e w14 ⟨he, hbr⟩
        rw [HS1.out] at he
        subst he
        have HK := Lib.hid hbr
        clear hbr HVX HVW c0 c1x c2x c3 e0 e1 e2 e3 s0 s1 s2 s3 s4 s5 s6
        have H4' := Lib.hid (H4.out.kept HK.out)
        have HT' := Lib.hid (HT.out.kept HK.out)
        have HBW' := Lib.hid (HBW.out.trans (HK.out.mono HBW.out.size))
        have HWAS' := Lib.hid (HWAS.out.kept HK.out)
        have HVX1' := Lib.hid (HVX1.out.kept HK.out)
        have HVY' := Lib.hid (HVY.out.kept HK.out)
        have HNOW' := Lib.hid (HNOW.out.kept HK.out)
        have HVA' := Lib.hid (HVA.out.kept HK.out)
        have HVB' := Lib.hid (HVB.out.kept HK.out)
        clear HK H4 HT HBW HWAS HVX1 HVY HNOW HVA HVB
        have H4 := H4'
        clear H4'
        have HT := HT'
        clear HT'
        have HBW := HBW'
        clear HBW'
        have HWAS := HWAS'
        clear HWAS'
        have HVX1 := HVX1'
        clear HVX1'
        have HVY := HVY'
        clear HVY'
        have HNOW := HNOW'
        clear HNOW'
        have HVA := HVA'
        clear HVA'
        have HVB := HVB'
        clear HVB'
        obtain ⟨s0, s1, s2, s3, s4, s5, s6⟩ := H4.out.cell
        go_wp2_with fail
        clear s0 s1 s2 s3 s4 s5 s6
        go_loopw [20, 21] (fun i _ wr => ∃ (k : Nat), k ≤ 2 ∧ i = .int .i64 k ∧ Hid (Below w14.heap.size w14 wr) ∧ Hid (1 ≤ k → underL s.a P = false ∧ underL P s.a = false) ∧ Hid (2 ≤ k → underL s.b P = false ∧ underL P s.b = false)) (fun i _ _ => 2 - (intOf i).toNat)
        case atStart => exact ⟨0, by omega, rfl, Lib.hid (Below.refl _ _), Lib.hid (fun h => by omega), Lib.hid (fun h => by omega)⟩
        case round =>
          obtain ⟨k, hk, rfl, HK, HC1, HC2⟩ := hrel
          have HKK := Lib.hid HK.out
          have H4' := Lib.hid (H4.out.kept HK.out)
          have HT' := Lib.hid (HT.out.kept HK.out)
          have HBW' := Lib.hid (HBW.out.trans (HK.out.mono HBW.out.size))
          have HVY' := Lib.hid (HVY.out.kept HK.out)
          have HNOW' := Lib.hid (HNOW.out.kept HK.out)
          clear HK H4 HT HBW HVY HNOW
          have H4 := H4'
          clear H4'
          have HT := HT'
          clear HT'
          have HBW := HBW'
          clear HBW'
          have HVY := HVY'
          clear HVY'
          have HNOW := HNOW'
          clear HNOW'
          obtain ⟨s0, s1, s2, s3, s4, s5, s6⟩ := H4.out.cell
          obtain rfl | rfl | rfl : k = 0 ∨ k = 1 ∨ k = 2 := by omega
          · go_wp2_with fail
            refine (underRef_at (Below.refl _ _) (HA.out.grown HBW.out) (HP.out.grown HBW.out)).mono ?_
            rintro e wu ⟨he, hbu⟩
            have HU := Lib.hid hbu
            clear hbu
            have HBU := Lib.hid (HBW.out.trans (HU.out.mono HBW.out.size))
            cases hu : underL s.a P with
            | true =>
              rw [hu] at he
              subst he
              go_wp2_with fail
              go_ret
              exact ⟨rfl, HBU.out⟩
            | false =>
              rw [hu] at he
              subst he
              go_wp2_with fail
              refine (underRef_at (Below.refl _ _) (HP.out.grown HBU.out) (HA.out.grown HBU.out)).mono ?_
              rintro e wv ⟨he, hbv⟩
              have HV2 := Lib.hid hbv
              clear hbv
              cases hu2 : underL P s.a with
              | true =>
                rw [hu2] at he
                subst he
                go_wp2_with fail
                go_ret
                exact ⟨rfl, HBU.out.trans (HV2.out.mono HBU.out.size)⟩
              | false =>
                rw [hu2] at he
                subst he
                have HU1 := Lib.hid hu
                have HU2 := Lib.hid hu2
                clear hu hu2
                go_wp2_with fail
                go_roundw
                case rel => exact ⟨1, by omega, by go_num, Lib.hid ((HKK.out.trans (HU.out.mono HKK.out.size)).trans (HV2.out.mono (Nat.le_trans HKK.out.size HU.out.size))), Lib.hid (fun _ => ⟨HU1.out, HU2.out⟩), Lib.hid (fun h => by omega)⟩
                case measure => simp [intOf]
          · go_wp2_with fail
            refine (underRef_at (Below.refl _ _) (HB.out.grown HBW.out) (HP.out.grown HBW.out)).mono ?_
            rintro e wu ⟨he, hbu⟩
            have HU := Lib.hid hbu
            clear hbu
            have HBU := Lib.hid (HBW.out.trans (HU.out.mono HBW.out.size))
            cases hu : underL s.b P with
            | true =>
              rw [hu] at he
              subst he
              go_wp2_with fail
              go_ret
              exact ⟨rfl, HBU.out⟩
            | false =>
              rw [hu] at he
              subst he
              go_wp2_with fail
              refine (underRef_at (Below.refl _ _) (HP.out.grown HBU.out) (HB.out.grown HBU.out)).mono ?_
              rintro e wv ⟨he, hbv⟩
              have HV2 := Lib.hid hbv
              clear hbv
              cases hu2 : underL P s.b with
              | true =>
                rw [hu2] at he
                subst he
                go_wp2_with fail
                go_ret
                exact ⟨rfl, HBU.out.trans (HV2.out.mono HBU.out.size)⟩
              | false =>
                rw [hu2] at he
                subst he
                have HU1 := Lib.hid hu
                have HU2 := Lib.hid hu2
                clear hu hu2
                go_wp2_with fail
                go_roundw
                case rel => exact ⟨2, by omega, by go_num, Lib.hid ((HKK.out.trans (HU.out.mono HKK.out.size)).trans (HV2.out.mono (Nat.le_trans HKK.out.size HU.out.size))), Lib.hid (fun _ => HC1.out (by omega)), Lib.hid (fun _ => ⟨HU1.out, HU2.out⟩)⟩
                case measure => simp [intOf]
          · obtain ⟨hu1, hu2⟩ := HC1.out (by omega)
            obtain ⟨hu3, hu4⟩ := HC2.out (by omega)
            obtain ⟨hz1, hz2⟩ := HASK2.out.rest (by simp [hu1, hu2, hu3, hu4])
            have HZ1 := Lib.hid hz1
            have HZ2 := Lib.hid hz2
            clear hu1 hu2 hu3 hu4 hz1 hz2
            obtain ⟨pv, qv, cv, dv, hF, hX, _⟩ := HNOW.out
            obtain ⟨c0, c1x, c2x, c3⟩ := hF.cell
            have HVX := Lib.hid hX
            clear hF hX
            have hbf : b < wr.heap.size := HT.out.lt
            go_wp2_with fail
            refine (at_x HVX.out.to HASK2.out.bulk (HP.out.grown HBW.out) wr (Below.refl _ _)).mono ?_
            rintro e wx ⟨⟨vs, ib, rfl, hvs, rfl⟩, hbr⟩
            obtain ⟨p5, q5, c5, d5, rfl⟩ := nodeX_cells hvs
            have HV : Hid (NodeX wx (fun k => b < k) _ ((R.atW P).getD absent)) := Lib.hid (hvs.same fun k hk => ⟨rfl, by omega⟩)
            have HR := Lib.hid hbr
            rw [HZ1.out]
            clear hvs hbr HVX c0 c1x c2x c3 s0 s1 s2 s3 s4 s5 s6
            go_upto_region 45 with fail
            have hsz : b < wx.heap.size := by have := HR.out.size; omega
            have HSV := Lib.hid fun (wn : World) hw => stored_vr (w' := wn) HV.out hsz hw
            generalize hws : (wx.alloc (.cells #[.int .u8 ((R.atW P).getD absent).kind.toNat, .string ((R.atW P).getD absent).text, .slice p5 ((R.atW P).getD absent).names.length c5, .slice q5 ((R.atW P).getD absent).kids.length d5] 26)) = wxs at *
            obtain ⟨hb1, hv1⟩ := HSV.out _ rfl
            clear HSV hws hsz HV hbf
            have HVZ := Lib.hid hv1
            have HK := Lib.hid (HR.out.trans (hb1.mono HR.out.size))
            generalize hg : wx.heap.size = gz at *
            clear hb1 hv1 hg HR
            have HBW' := Lib.hid (HBW.out.trans (HK.out.mono HBW.out.size))
            have HVY' := Lib.hid (HVY.out.kept HK.out)
            clear HK HBW HVY
            have HBW := HBW'
            clear HBW'
            have HVY := HVY'
            clear HVY'
            generalize (x.atW P).isSome = iy at *
            obtain ⟨pv, qv, cv, dv, hF, hX, _⟩ := HVZ.out
            obtain ⟨c0, c1x, c2x, c3⟩ := hF.cell
            have HVX := Lib.hid hX
            clear hF hX
            obtain ⟨pw, qw, cw, dw, hF, hX, _⟩ := HVY.out
            obtain ⟨e0, e1, e2, e3⟩ := hF.cell
            have HVW := Lib.hid hX.to
            clear hF hX
            go_wp2_with fail
            refine (sameNd_any HVX.out.to HVW.out (atW_bulk HASK2.out.bulk) wxs (Below.refl _ _)).mono ?_
            rintro e wq ⟨he, hbr⟩
            rw [HZ2.out] at he
            subst he
            have HQ := Lib.hid (HBW.out.trans (hbr.mono HBW.out.size))
            clear hbr
            go_wp2_with fail
            go_ret
            exact ⟨rfl, HQ.out⟩

set_option maxRecDepth 100000 in
set_option maxHeartbeats 16000000 in
theorem law_there3 {W : World} {cs st : List Value} {x : Nd} {s : Sp} (hx : NodeR W cs x) (hxb2 : x.bulk ≤ 2000000) (hs : StepR W st s) (hsum : s.n.bulk + namesBulk s.a + namesBulk s.b ≤ 1050000) {pv : Value} {P : List ByteArray} (hp : PlR W pv P) (hj : s.kind.toNat % 4 = 3) :
    Calls Try.prog 5 #[.agg cs.toArray, .agg st.toArray, pv] W fun e w' => e = .returned (.bool true) ∧ Below W.heap.size W w' := by
  have HST := Lib.hid hs
  obtain ⟨p1, q1, c1, d1, rfl⟩ := hx.cells
  obtain ⟨pa, ca, pb, cb, v0, v1, v2, v3, rfl, ha, hb, hn⟩ := hs
  obtain ⟨p2, q2, c2, d2, hv⟩ := hn.cells
  obtain ⟨rfl, rfl, rfl, rfl⟩ : v0 = _ ∧ v1 = _ ∧ v2 = _ ∧ v3 = _ := by simpa using hv
  obtain ⟨pp, pc, hpv, _, _, _⟩ := id hp
  subst hpv
  have HX := Lib.hid hx
  have HA := Lib.hid ha
  have HB := Lib.hid hb
  have HN := Lib.hid hn
  have HP := Lib.hid hp
  have HSUM := Lib.hid hsum
  have HXB2 := Lib.hid hxb2
  have HWK := Lib.hid Works.works7
  have hla := pl_max ha
  have hlb := pl_max hb
  have HASK : Hid (∀ (hm : x.may = true), x.bulk ≤ 330000 → _) := Lib.hid fun hm HXB0 => (by have HXB := Lib.hid HXB0; exact asked_copy hm HXB.out (by have := HSUM.out; omega) : Asked x (copyD x s.a s.b) s.a P (!underL s.a P && !underL P s.a && (!underL s.b P && !underL P s.b)) ∧ _)
  have hj0 : ((s.kind.toNat : Int)).tmod 4 = 3 := by rw [Int.tmod_eq_emod_of_nonneg (by omega)]; omega
  have hk255 : s.kind.toNat ≤ 255 := by have := s.kind.toNat_lt; omega
  clear hx ha hb hn hv hp hsum hxb2 hj
  generalize x.kind.toNat = k1 at *
  generalize x.text = t1 at *
  generalize x.names.length = n1 at *
  generalize x.kids.length = m1 at *
  generalize s.n.kind.toNat = k2 at *
  generalize s.n.text = t2 at *
  generalize s.n.names.length = n2 at *
  generalize s.n.kids.length = m2 at *
  generalize hkj : s.kind.toNat = kj at *
  generalize hlaE : s.a.length = la at *
  generalize hlbE : s.b.length = lb at *
  generalize hlpE : P.length = lp at *
  clear hkj
  have HLA := Lib.hid hlaE
  clear hlaE hlbE hlpE
  go_enter Try.func5, Try.ntmps5
  go_wp2_with fail
  refine (HWK.out _).mono ?_
  rintro e w1 ⟨rfl, hb1⟩
  have HB1 : Hid (Below (W.heap.size + 2) ((W.alloc (.cells #[.int .u8 k1, .string t1, .slice p1 n1 c1, .slice q1 m1 d1] 26)).alloc (.cells #[.int .u8 kj, .slice pa la ca, .slice pb lb cb, .int .u8 k2, .string t2, .slice p2 n2 c2, .slice q2 m2 d2] 53)) w1) := Lib.hid (hb1.mono (by simp))
  have HBW := Lib.hid (box2_self HB1.out)
  have H3 : Hid (Four w1 W.heap.size (.int .u8 k1) (.string t1) (.slice p1 n1 c1) (.slice q1 m1 d1)) := Lib.hid (Four.kept (four_first W _ _ _ _ _) hb1)
  have H4 : Hid (Seven w1 (W.heap.size + 1) (.int .u8 kj) (.slice pa la ca) (.slice pb lb cb) (.int .u8 k2) (.string t2) (.slice p2 n2 c2) (.slice q2 m2 d2)) := Lib.hid (Seven.kept (w := ((W.alloc (.cells #[.int .u8 k1, .string t1, .slice p1 n1 c1, .slice q1 m1 d1] 26)).alloc (.cells #[.int .u8 kj, .slice pa la ca, .slice pb lb cb, .int .u8 k2, .string t2, .slice p2 n2 c2, .slice q2 m2 d2] 53))) (by have := heap_alloc_new (W.alloc (.cells #[.int .u8 k1, .string t1, .slice p1 n1 c1, .slice q1 m1 d1] 26)) (.cells #[.int .u8 kj, .slice pa la ca, .slice pb lb cb, .int .u8 k2, .string t2, .slice p2 n2 c2, .slice q2 m2 d2] 53); simpa [Seven] using this) hb1)
  clear hb1 HB1
  obtain ⟨a0, a1, a2, a3⟩ := H3.out.cell
  obtain ⟨s0, s1, s2, s3, s4, s5, s6⟩ := H4.out.cell
  go_wp2_with fail
  refine (weight_any HX.out w1 HBW.out).mono ?_
  rintro e w2 ⟨⟨i1, rfl⟩, hb2⟩
  have HBW2 := Lib.hid (HBW.out.trans (hb2.mono HBW.out.size))
  have H32 := Lib.hid (H3.out.kept hb2)
  have H42 := Lib.hid (H4.out.kept hb2)
  clear hb2 a0 a1 a2 a3 s0 s1 s2 s3 s4 s5 s6 H3 H4 HBW
  obtain ⟨s0, s1, s2, s3, s4, s5, s6⟩ := H42.out.cell
  by_cases h1 : 3000 ≤ i1
  · go_wp2_with fail
    refine (HWK.out _).mono ?_
    rintro e wz ⟨rfl, hbz⟩
    have HZ := Lib.hid (HBW2.out.trans (hbz.mono HBW2.out.size))
    clear hbz
    go_wp2_with fail
    go_ret
    exact ⟨rfl, HZ.out⟩
  · go_wp2_with fail
    have HAL : Hid (Below w2.heap.size w2 (w2.alloc (.cells #[.int .u8 kj, .slice pa la ca, .slice pb lb cb, .int .u8 k2, .string t2, .slice p2 n2 c2, .slice q2 m2 d2] 53))) := Lib.hid ((Below.refl _ _).alloc (Nat.le_refl _) _)
    have HLG : Hid (Calls Try.prog 28 #[.slice (some ⟨w2.heap.size, 0, none⟩) 1 1] (w2.alloc (.cells #[.int .u8 kj, .slice pa la ca, .slice pb lb cb, .int .u8 k2, .string t2, .slice p2 n2 c2, .slice q2 m2 d2] 53)) fun e w' => IsB e ∧ Below (w2.alloc (.cells #[.int .u8 kj, .slice pa la ca, .slice pb lb cb, .int .u8 k2, .string t2, .slice p2 n2 c2, .slice q2 m2 d2] 53)).heap.size (w2.alloc (.cells #[.int .u8 kj, .slice pa la ca, .slice pb lb cb, .int .u8 k2, .string t2, .slice p2 n2 c2, .slice q2 m2 d2] 53)) w') := Lib.hid (large_any (l := [s]) (C := fun _ => [.int .u8 kj, .slice pa la ca, .slice pb lb cb, .int .u8 k2, .string t2, .slice p2 n2 c2, .slice q2 m2 d2]) (row_one _ _) (fun i z hz => by
      obtain ⟨rfl, rfl⟩ : i = 0 ∧ z = s := by
        cases i with
        | zero => simpa using hz.symm
        | succ i => simp at hz
      exact HST.out.grown (HBW2.out.trans (HAL.out.mono HBW2.out.size))) (by show 1 ≤ _; omega) _ (Below.refl _ _))
    refine HLG.out.mono ?_
    rintro e w3 ⟨⟨lb1, rfl⟩, hb3⟩
    have hb3 := HAL.out.trans (hb3.mono HAL.out.size)
    have HBW := Lib.hid (HBW2.out.trans (hb3.mono HBW2.out.size))
    have H3 := Lib.hid (H32.out.kept hb3)
    have H4 := Lib.hid (H42.out.kept hb3)
    clear hb3 s0 s1 s2 s3 s4 s5 s6 HAL HLG H32 H42 HBW2
    obtain ⟨a0, a1, a2, a3⟩ := H3.out.cell
    obtain ⟨s0, s1, s2, s3, s4, s5, s6⟩ := H4.out.cell
    cases lb1
    case' true =>
      go_wp2_with fail
      refine (HWK.out _).mono ?_
      rintro e wz ⟨rfl, hbz⟩
      have HZ := Lib.hid (HBW.out.trans (hbz.mono HBW.out.size))
      clear hbz
      go_wp2_with fail
      go_ret
      exact ⟨rfl, HZ.out⟩
    by_cases h2 : 60 < lp
    · go_wp2_with fail
      refine (HWK.out _).mono ?_
      rintro e wz ⟨rfl, hbz⟩
      have HZ := Lib.hid (HBW.out.trans (hbz.mono HBW.out.size))
      clear hbz
      go_wp2_with fail
      go_ret
      exact ⟨rfl, HZ.out⟩
    go_wp2_with fail
    have HNW := Lib.hid (fnew_any HX.out HXB2.out w3 HBW.out)
    have h4l := H4.out.lt
    refine HNW.out.mono ?_
    rintro e w4 ⟨hnw, hb4⟩
    have HBW4 := Lib.hid (HBW.out.trans (hb4.mono HBW.out.size))
    have H44 := Lib.hid (H4.out.kept hb4)
    clear hb4 a0 a1 a2 a3 s0 s1 s2 s3 s4 s5 s6 H3 H4 HBW HNW
    cases hmy : x.may with
    | false =>
      rw [hmy, if_neg (by decide)] at hnw
      subst hnw
      go_wp2_with fail
      go_ret
      exact ⟨rfl, HBW4.out⟩
    | true =>
      rw [hmy, if_pos rfl] at hnw
      obtain ⟨b, y0, y1, y2, y3, rfl, hbb, ht, _⟩ := hnw
      have hb0 : W.heap.size + 1 < b := by omega
      have HXB := Lib.hid (may_bulk hmy)
      have HXW := Lib.hid (may_well hmy).1
      obtain ⟨hask, hway⟩ := HASK.out hmy HXB.out
      have HASK2 := Lib.hid hask
      have HWAY := Lib.hid hway
      have HT := Lib.hid ht
      have hbl := ht.lt
      clear hask hway ht hbb hmy HASK
      go_wp2_with fail
      have H4 := H44
      have HBW := HBW4
      clear H44 HBW4
      refine (froot_any HT.out HXW.out (by have := HXB.out; omega)).mono ?_
      rintro e w5 ⟨⟨vs, rfl, hvs⟩, hbr⟩
      obtain ⟨p5, q5, c5, d5, rfl⟩ := nodeX_cells hvs
      have HV : Hid (NodeX w5 (fun k => b < k) [.int .u8 (x).kind.toNat, .string (x).text, .slice p5 (x).names.length c5, .slice q5 (x).kids.length d5] (x)) := Lib.hid (hvs.same fun k hk => ⟨rfl, by have := hk.1; omega⟩)
      have HR := Lib.hid hbr
      clear hvs hbr
      go_upto_region 7 with fail
      have hsz : b < w5.heap.size := by have := HR.out.size; omega
      have HSV := Lib.hid fun (wn : World) hw => stored_vr (w' := wn) HV.out hsz hw
      generalize hws : (w5.alloc (.cells #[.int .u8 (x).kind.toNat, .string (x).text, .slice p5 (x).names.length c5, .slice q5 (x).kids.length d5] 26)) = w5s at *
      obtain ⟨hb1, hv1⟩ := HSV.out _ rfl
      clear HSV hws hsz HV
      have HWAS := Lib.hid hv1
      have HK := Lib.hid (HR.out.trans (hb1.mono HR.out.size))
      generalize hg : w5.heap.size = gw at *
      clear hb1 hv1 hg HR
      have H4' := Lib.hid (H4.out.kept HK.out)
      have HT' := Lib.hid (HT.out.kept HK.out)
      have HBW' := Lib.hid (HBW.out.trans (HK.out.mono HBW.out.size))
      clear H4 HT HBW
      have H4 := H4'
      clear H4'
      have HT := HT'
      clear HT'
      have HBW := HBW'
      clear HBW'
      clear HK
      obtain ⟨pv, qv, cv, dv, hF, hX, _⟩ := HWAS.out
      obtain ⟨c0, c1x, c2x, c3⟩ := hF.cell
      have HVX := Lib.hid hX
      clear hF hX
      obtain ⟨s0, s1, s2, s3, s4, s5, s6⟩ := H4.out.cell
      go_wp2_with fail
      refine (at_x HVX.out.to (by have := HXB.out; omega) (HA.out.grown HBW.out) w5s (Below.refl _ _)).mono ?_
      rintro e w6 ⟨⟨vs, ib, rfl, hvs, rfl⟩, hbr⟩
      obtain ⟨p5, q5, c5, d5, rfl⟩ := nodeX_cells hvs
      have hbf : b < w5s.heap.size := HT.out.lt
      have HV : Hid (NodeX w6 (fun k => b < k) _ ((x.atW s.a).getD absent)) := Lib.hid (hvs.same fun k hk => ⟨rfl, by omega⟩)
      have HR := Lib.hid hbr
      clear hvs hbr HVX c0 c1x c2x c3 hbf s0 s1 s2 s3 s4 s5 s6
      have hbf : b < w5s.heap.size := HT.out.lt
      go_upto_region 8 with fail
      have hsz : b < w6.heap.size := by have := HR.out.size; omega
      have HSV := Lib.hid fun (wn : World) hw => stored_vr (w' := wn) HV.out hsz hw
      generalize hws : (w6.alloc (.cells #[.int .u8 ((x.atW s.a).getD absent).kind.toNat, .string ((x.atW s.a).getD absent).text, .slice p5 ((x.atW s.a).getD absent).names.length c5, .slice q5 ((x.atW s.a).getD absent).kids.length d5] 26)) = w6s at *
      obtain ⟨hb1, hv1⟩ := HSV.out _ rfl
      clear HSV hws hsz HV
      have HVX1 := Lib.hid hv1
      have HK := Lib.hid (HR.out.trans (hb1.mono HR.out.size))
      generalize hg : w6.heap.size = gx at *
      clear hb1 hv1 hg HR
      have H4' := Lib.hid (H4.out.kept HK.out)
      have HT' := Lib.hid (HT.out.kept HK.out)
      have HBW' := Lib.hid (HBW.out.trans (HK.out.mono HBW.out.size))
      have HWAS' := Lib.hid (HWAS.out.kept HK.out)
      clear H4 HT HBW HWAS
      have H4 := H4'
      clear H4'
      have HT := HT'
      clear HT'
      have HBW := HBW'
      clear HBW'
      have HWAS := HWAS'
      clear HWAS'
      clear HK hbf
      obtain ⟨pv, qv, cv, dv, hF, hX, _⟩ := HWAS.out
      obtain ⟨c0, c1x, c2x, c3⟩ := hF.cell
      have HVX := Lib.hid hX
      clear hF hX
      go_wp2_with fail
      refine (at_x HVX.out.to (by have := HXB.out; omega) (HP.out.grown HBW.out) w6s (Below.refl _ _)).mono ?_
      rintro e w7 ⟨⟨vs, ib, rfl, hvs, rfl⟩, hbr⟩
      obtain ⟨p5, q5, c5, d5, rfl⟩ := nodeX_cells hvs
      have hbf : b < w6s.heap.size := HT.out.lt
      have HV : Hid (NodeX w7 (fun k => b < k) _ ((x.atW P).getD absent)) := Lib.hid (hvs.same fun k hk => ⟨rfl, by omega⟩)
      have HR := Lib.hid hbr
      clear hvs hbr HVX c0 c1x c2x c3 hbf
      have hbf : b < w6s.heap.size := HT.out.lt
      go_upto_region 9 with fail
      have hsz : b < w7.heap.size := by have := HR.out.size; omega
      have HSV := Lib.hid fun (wn : World) hw => stored_vr (w' := wn) HV.out hsz hw
      generalize hws : (w7.alloc (.cells #[.int .u8 ((x.atW P).getD absent).kind.toNat, .string ((x.atW P).getD absent).text, .slice p5 ((x.atW P).getD absent).names.length c5, .slice q5 ((x.atW P).getD absent).kids.length d5] 26)) = w7s at *
      obtain ⟨hb1, hv1⟩ := HSV.out _ rfl
      clear HSV hws hsz HV
      have HVY := Lib.hid hv1
      have HK := Lib.hid (HR.out.trans (hb1.mono HR.out.size))
      generalize hg : w7.heap.size = gy at *
      clear hb1 hv1 hg HR
      have H4' := Lib.hid (H4.out.kept HK.out)
      have HT' := Lib.hid (HT.out.kept HK.out)
      have HBW' := Lib.hid (HBW.out.trans (HK.out.mono HBW.out.size))
      have HWAS' := Lib.hid (HWAS.out.kept HK.out)
      have HVX1' := Lib.hid (HVX1.out.kept HK.out)
      clear H4 HT HBW HWAS HVX1
      have H4 := H4'
      clear H4'
      have HT := HT'
      clear HT'
      have HBW := HBW'
      clear HBW'
      have HWAS := HWAS'
      clear HWAS'
      have HVX1 := HVX1'
      clear HVX1'
      clear HK hbf
      obtain ⟨s0, s1, s2, s3, s4, s5, s6⟩ := H4.out.cell
      go_wp2_with fail
      refine (copy_any HT.out HXW.out (by have := HXB.out; omega) (HA.out.grown HBW.out) (HB.out.grown HBW.out) (by have := HSUM.out; omega)).mono ?_
      rintro e w8 ⟨rfl, ⟨x0, x1, x2, x3, ht⟩, hg⟩
      have HBW' := Lib.hid (HBW.out.trans (below_by hg (by omega) HBW.out.size))
      have H4' := Lib.hid (H4.out.by hg (by omega))
      have HWAS' := Lib.hid (HWAS.out.by hg)
      have HVX1' := Lib.hid (HVX1.out.by hg)
      have HVY' := Lib.hid (HVY.out.by hg)
      clear HBW H4 HWAS HVX1 HVY HT s0 s1 s2 s3 s4 s5 s6 hg
      have HBW := HBW'
      clear HBW'
      have H4 := H4'
      clear H4'
      have HWAS := HWAS'
      clear HWAS'
      have HVX1 := HVX1'
      clear HVX1'
      have HVY := HVY'
      clear HVY'
      have HT := Lib.hid ht
      have hbl := ht.lt
      clear ht
      generalize copyD x s.a s.b = R at *
      have hkn := HASK2.out.kind
      go_wp2_with fail
      refine (froot_any HT.out HASK2.out.well HASK2.out.bulk).mono ?_
      rintro e w9 ⟨⟨vs, rfl, hvs⟩, hbr⟩
      obtain ⟨p5, q5, c5, d5, rfl⟩ := nodeX_cells hvs
      have HV : Hid (NodeX w9 (fun k => b < k) [.int .u8 (R).kind.toNat, .string (R).text, .slice p5 (R).names.length c5, .slice q5 (R).kids.length d5] (R)) := Lib.hid (hvs.same fun k hk => ⟨rfl, by have := hk.1; omega⟩)
      have HR := Lib.hid hbr
      clear hvs hbr
      go_upto_region 18 with fail
      have hsz : b < w9.heap.size := by have := HR.out.size; omega
      have HSV := Lib.hid fun (wn : World) hw => stored_vr (w' := wn) HV.out hsz hw
      generalize hws : (w9.alloc (.cells #[.int .u8 (R).kind.toNat, .string (R).text, .slice p5 (R).names.length c5, .slice q5 (R).kids.length d5] 26)) = w9s at *
      obtain ⟨hb1, hv1⟩ := HSV.out _ rfl
      clear HSV hws hsz HV
      have HNOW := Lib.hid hv1
      have HK := Lib.hid (HR.out.trans (hb1.mono HR.out.size))
      generalize hg : w9.heap.size = gn at *
      clear hb1 hv1 hg HR
      have H4' := Lib.hid (H4.out.kept HK.out)
      have HT' := Lib.hid (HT.out.kept HK.out)
      have HBW' := Lib.hid (HBW.out.trans (HK.out.mono HBW.out.size))
      have HWAS' := Lib.hid (HWAS.out.kept HK.out)
      have HVX1' := Lib.hid (HVX1.out.kept HK.out)
      have HVY' := Lib.hid (HVY.out.kept HK.out)
      clear H4 HT HBW HWAS HVX1 HVY
      have H4 := H4'
      clear H4'
      have HT := HT'
      clear HT'
      have HBW := HBW'
      clear HBW'
      have HWAS := HWAS'
      clear HWAS'
      have HVX1 := HVX1'
      clear HVX1'
      have HVY := HVY'
      clear HVY'
      clear HK
      obtain ⟨pv, qv, cv, dv, hF, hX, _⟩ := HNOW.out
      obtain ⟨c0, c1x, c2x, c3⟩ := hF.cell
      have HVX := Lib.hid hX
      clear hF hX
      go_wp2_with fail
      refine (well_any HVX.out.to w9s (Below.refl _ _)).mono ?_
      rintro e w10 ⟨he, hbr⟩
      rw [HASK2.out.well] at he
      subst he
      have HK := Lib.hid hbr
      clear hbr HVX c0 c1x c2x c3
      have H4' := Lib.hid (H4.out.kept HK.out)
      have HT' := Lib.hid (HT.out.kept HK.out)
      have HBW' := Lib.hid (HBW.out.trans (HK.out.mono HBW.out.size))
      have HWAS' := Lib.hid (HWAS.out.kept HK.out)
      have HVX1' := Lib.hid (HVX1.out.kept HK.out)
      have HVY' := Lib.hid (HVY.out.kept HK.out)
      have HNOW' := Lib.hid (HNOW.out.kept HK.out)
      clear H4 HT HBW HWAS HVX1 HVY HNOW
      have H4 := H4'
      clear H4'
      have HT := HT'
      clear HT'
      have HBW := HBW'
      clear HBW'
      have HWAS := HWAS'
      clear HWAS'
      have HVX1 := HVX1'
      clear HVX1'
      have HVY := HVY'
      clear HVY'
      have HNOW := HNOW'
      clear HNOW'
      clear HK
      obtain ⟨pv, qv, cv, dv, hF, hX, _⟩ := HNOW.out
      obtain ⟨c0, c1x, c2x, c3⟩ := hF.cell
      have HVX := Lib.hid hX
      clear hF hX
      obtain ⟨s0, s1, s2, s3, s4, s5, s6⟩ := H4.out.cell
      go_wp2_with fail
      refine (at_x HVX.out.to HASK2.out.bulk (HA.out.grown HBW.out) w10 (Below.refl _ _)).mono ?_
      rintro e w11 ⟨⟨vs, ib, rfl, hvs, rfl⟩, hbr⟩
      obtain ⟨p5, q5, c5, d5, rfl⟩ := nodeX_cells hvs
      have hbf : b < w10.heap.size := HT.out.lt
      have HV : Hid (NodeX w11 (fun k => b < k) _ ((R.atW s.a).getD absent)) := Lib.hid (hvs.same fun k hk => ⟨rfl, by omega⟩)
      have HR := Lib.hid hbr
      clear hvs hbr HVX c0 c1x c2x c3 hbf s0 s1 s2 s3 s4 s5 s6
      have hbf : b < w10.heap.size := HT.out.lt
      go_upto_region 21 with fail
      have hsz : b < w11.heap.size := by have := HR.out.size; omega
      have HSV := Lib.hid fun (wn : World) hw => stored_vr (w' := wn) HV.out hsz hw
      generalize hws : (w11.alloc (.cells #[.int .u8 ((R.atW s.a).getD absent).kind.toNat, .string ((R.atW s.a).getD absent).text, .slice p5 ((R.atW s.a).getD absent).names.length c5, .slice q5 ((R.atW s.a).getD absent).kids.length d5] 26)) = w11s at *
      obtain ⟨hb1, hv1⟩ := HSV.out _ rfl
      clear HSV hws hsz HV
      have HVA := Lib.hid hv1
      have HK := Lib.hid (HR.out.trans (hb1.mono HR.out.size))
      generalize hg : w11.heap.size = ga at *
      clear hb1 hv1 hg HR
      have H4' := Lib.hid (H4.out.kept HK.out)
      have HT' := Lib.hid (HT.out.kept HK.out)
      have HBW' := Lib.hid (HBW.out.trans (HK.out.mono HBW.out.size))
      have HWAS' := Lib.hid (HWAS.out.kept HK.out)
      have HVX1' := Lib.hid (HVX1.out.kept HK.out)
      have HVY' := Lib.hid (HVY.out.kept HK.out)
      have HNOW' := Lib.hid (HNOW.out.kept HK.out)
      clear H4 HT HBW HWAS HVX1 HVY HNOW
      have H4 := H4'
      clear H4'
      have HT := HT'
      clear HT'
      have HBW := HBW'
      clear HBW'
      have HWAS := HWAS'
      clear HWAS'
      have HVX1 := HVX1'
      clear HVX1'
      have HVY := HVY'
      clear HVY'
      have HNOW := HNOW'
      clear HNOW'
      clear HK hbf hkn
      obtain ⟨pv, qv, cv, dv, hF, hX, _⟩ := HNOW.out
      obtain ⟨c0, c1x, c2x, c3⟩ := hF.cell
      have HVX := Lib.hid hX
      clear hF hX
      obtain ⟨s0, s1, s2, s3, s4, s5, s6⟩ := H4.out.cell
      go_wp2_with fail
      refine (at_x HVX.out.to HASK2.out.bulk (HB.out.grown HBW.out) w11s (Below.refl _ _)).mono ?_
      rintro e w12 ⟨⟨vs, ib, rfl, hvs, rfl⟩, hbr⟩
      obtain ⟨p5, q5, c5, d5, rfl⟩ := nodeX_cells hvs
      have hbf : b < w11s.heap.size := HT.out.lt
      have HV : Hid (NodeX w12 (fun k => b < k) _ ((R.atW s.b).getD absent)) := Lib.hid (hvs.same fun k hk => ⟨rfl, by omega⟩)
      have HR := Lib.hid hbr
      clear hvs hbr HVX c0 c1x c2x c3 hbf s0 s1 s2 s3 s4 s5 s6
      have hbf : b < w11s.heap.size := HT.out.lt
      go_upto_region 22 with fail
      have hsz : b < w12.heap.size := by have := HR.out.size; omega
      have HSV := Lib.hid fun (wn : World) hw => stored_vr (w' := wn) HV.out hsz hw
      generalize hws : (w12.alloc (.cells #[.int .u8 ((R.atW s.b).getD absent).kind.toNat, .string ((R.atW s.b).getD absent).text, .slice p5 ((R.atW s.b).getD absent).names.length c5, .slice q5 ((R.atW s.b).getD absent).kids.length d5] 26)) = w12s at *
      obtain ⟨hb1, hv1⟩ := HSV.out _ rfl
      clear HSV hws hsz HV
      have HVB := Lib.hid hv1
      have HK := Lib.hid (HR.out.trans (hb1.mono HR.out.size))
      generalize hg : w12.heap.size = gb at *
      clear hb1 hv1 hg HR
      have H4' := Lib.hid (H4.out.kept HK.out)
      have HT' := Lib.hid (HT.out.kept HK.out)
      have HBW' := Lib.hid (HBW.out.trans (HK.out.mono HBW.out.size))
      have HWAS' := Lib.hid (HWAS.out.kept HK.out)
      have HVX1' := Lib.hid (HVX1.out.kept HK.out)
      have HVY' := Lib.hid (HVY.out.kept HK.out)
      have HNOW' := Lib.hid (HNOW.out.kept HK.out)
      have HVA' := Lib.hid (HVA.out.kept HK.out)
      clear H4 HT HBW HWAS HVX1 HVY HNOW HVA
      have H4 := H4'
      clear H4'
      have HT := HT'
      clear HT'
      have HBW := HBW'
      clear HBW'
      have HWAS := HWAS'
      clear HWAS'
      have HVX1 := HVX1'
      clear HVX1'
      have HVY := HVY'
      clear HVY'
      have HNOW := HNOW'
      clear HNOW'
      have HVA := HVA'
      clear HVA'
      clear HK hbf
      obtain ⟨pv, qv, cv, dv, hF, hX, _⟩ := HWAS.out
      obtain ⟨c0, c1x, c2x, c3⟩ := hF.cell
      have HVX := Lib.hid hX
      clear hF hX
      obtain ⟨pw, qw, cw, dw, hF, hX, _⟩ := HNOW.out
      obtain ⟨e0, e1, e2, e3⟩ := hF.cell
      have HVW := Lib.hid hX.to
      clear hF hX
      obtain ⟨s0, s1, s2, s3, s4, s5, s6⟩ := H4.out.cell
      go_wp2_with fail
      refine (sameNd_any HVX.out.to HVW.out (by have := HXB.out; omega) w12s (Below.refl _ _)).mono ?_
      rintro e w13 ⟨he, hbr⟩
      have HK := Lib.hid hbr
      clear hbr HVX HVW c0 c1x c2x c3 e0 e1 e2 e3 s0 s1 s2 s3 s4 s5 s6
      have H4' := Lib.hid (H4.out.kept HK.out)
      have HT' := Lib.hid (HT.out.kept HK.out)
      have HBW' := Lib.hid (HBW.out.trans (HK.out.mono HBW.out.size))
      have HWAS' := Lib.hid (HWAS.out.kept HK.out)
      have HVX1' := Lib.hid (HVX1.out.kept HK.out)
      have HVY' := Lib.hid (HVY.out.kept HK.out)
      have HNOW' := Lib.hid (HNOW.out.kept HK.out)
      have HVA' := Lib.hid (HVA.out.kept HK.out)
      have HVB' := Lib.hid (HVB.out.kept HK.out)
      clear HK H4 HT HBW HWAS HVX1 HVY HNOW HVA HVB
      have H4 := H4'
      clear H4'
      have HT := HT'
      clear HT'
      have HBW := HBW'
      clear HBW'
      have HWAS := HWAS'
      clear HWAS'
      have HVX1 := HVX1'
      clear HVX1'
      have HVY := HVY'
      clear HVY'
      have HNOW := HNOW'
      clear HNOW'
      have HVA := HVA'
      clear HVA'
      have HVB := HVB'
      clear HVB'
      rcases HWAY.out with hsm | ⟨hsm, hia, hib, hs1, hs2⟩
      · rw [hsm] at he
        subst he
        clear hsm
        obtain ⟨s0, s1, s2, s3, s4, s5, s6⟩ := H4.out.cell
        go_wp2_with fail
        clear s0 s1 s2 s3 s4 s5 s6
        go_loopw [20, 21] (fun i _ wr => ∃ (k : Nat), k ≤ 2 ∧ i = .int .i64 k ∧ Hid (Below w13.heap.size w13 wr) ∧ Hid (1 ≤ k → underL s.a P = false ∧ underL P s.a = false) ∧ Hid (2 ≤ k → underL s.b P = false ∧ underL P s.b = false)) (fun i _ _ => 2 - (intOf i).toNat)
        case atStart => exact ⟨0, by omega, rfl, Lib.hid (Below.refl _ _), Lib.hid (fun h => by omega), Lib.hid (fun h => by omega)⟩
        case round =>
          obtain ⟨k, hk, rfl, HK, HC1, HC2⟩ := hrel
          have HKK := Lib.hid HK.out
          have H4' := Lib.hid (H4.out.kept HK.out)
          have HT' := Lib.hid (HT.out.kept HK.out)
          have HBW' := Lib.hid (HBW.out.trans (HK.out.mono HBW.out.size))
          have HVY' := Lib.hid (HVY.out.kept HK.out)
          have HNOW' := Lib.hid (HNOW.out.kept HK.out)
          clear HK H4 HT HBW HVY HNOW
          have H4 := H4'
          clear H4'
          have HT := HT'
          clear HT'
          have HBW := HBW'
          clear HBW'
          have HVY := HVY'
          clear HVY'
          have HNOW := HNOW'
          clear HNOW'
          obtain ⟨s0, s1, s2, s3, s4, s5, s6⟩ := H4.out.cell
          obtain rfl | rfl | rfl : k = 0 ∨ k = 1 ∨ k = 2 := by omega
          · go_wp2_with fail
            refine (underRef_at (Below.refl _ _) (HA.out.grown HBW.out) (HP.out.grown HBW.out)).mono ?_
            rintro e wu ⟨he, hbu⟩
            have HU := Lib.hid hbu
            clear hbu
            have HBU := Lib.hid (HBW.out.trans (HU.out.mono HBW.out.size))
            cases hu : underL s.a P with
            | true =>
              rw [hu] at he
              subst he
              go_wp2_with fail
              go_ret
              exact ⟨rfl, HBU.out⟩
            | false =>
              rw [hu] at he
              subst he
              go_wp2_with fail
              refine (underRef_at (Below.refl _ _) (HP.out.grown HBU.out) (HA.out.grown HBU.out)).mono ?_
              rintro e wv ⟨he, hbv⟩
              have HV2 := Lib.hid hbv
              clear hbv
              cases hu2 : underL P s.a with
              | true =>
                rw [hu2] at he
                subst he
                go_wp2_with fail
                go_ret
                exact ⟨rfl, HBU.out.trans (HV2.out.mono HBU.out.size)⟩
              | false =>
                rw [hu2] at he
                subst he
                have HU1 := Lib.hid hu
                have HU2 := Lib.hid hu2
                clear hu hu2
                go_wp2_with fail
                go_roundw
                case rel => exact ⟨1, by omega, by go_num, Lib.hid ((HKK.out.trans (HU.out.mono HKK.out.size)).trans (HV2.out.mono (Nat.le_trans HKK.out.size HU.out.size))), Lib.hid (fun _ => ⟨HU1.out, HU2.out⟩), Lib.hid (fun h => by omega)⟩
                case measure => simp [intOf]
          · go_wp2_with fail
            refine (underRef_at (Below.refl _ _) (HB.out.grown HBW.out) (HP.out.grown HBW.out)).mono ?_
            rintro e wu ⟨he, hbu⟩
            have HU := Lib.hid hbu
            clear hbu
            have HBU := Lib.hid (HBW.out.trans (HU.out.mono HBW.out.size))
            cases hu : underL s.b P with
            | true =>
              rw [hu] at he
              subst he
              go_wp2_with fail
              go_ret
              exact ⟨rfl, HBU.out⟩
            | false =>
              rw [hu] at he
              subst he
              go_wp2_with fail
              refine (underRef_at (Below.refl _ _) (HP.out.grown HBU.out) (HB.out.grown HBU.out)).mono ?_
              rintro e wv ⟨he, hbv⟩
              have HV2 := Lib.hid hbv
              clear hbv
              cases hu2 : underL P s.b with
              | true =>
                rw [hu2] at he
                subst he
                go_wp2_with fail
                go_ret
                exact ⟨rfl, HBU.out.trans (HV2.out.mono HBU.out.size)⟩
              | false =>
                rw [hu2] at he
                subst he
                have HU1 := Lib.hid hu
                have HU2 := Lib.hid hu2
                clear hu hu2
                go_wp2_with fail
                go_roundw
                case rel => exact ⟨2, by omega, by go_num, Lib.hid ((HKK.out.trans (HU.out.mono HKK.out.size)).trans (HV2.out.mono (Nat.le_trans HKK.out.size HU.out.size))), Lib.hid (fun _ => HC1.out (by omega)), Lib.hid (fun _ => ⟨HU1.out, HU2.out⟩)⟩
                case measure => simp [intOf]
          · obtain ⟨hu1, hu2⟩ := HC1.out (by omega)
            obtain ⟨hu3, hu4⟩ := HC2.out (by omega)
            obtain ⟨hz1, hz2⟩ := HASK2.out.rest (by simp [hu1, hu2, hu3, hu4])
            have HZ1 := Lib.hid hz1
            have HZ2 := Lib.hid hz2
            clear hu1 hu2 hu3 hu4 hz1 hz2
            obtain ⟨pv, qv, cv, dv, hF, hX, _⟩ := HNOW.out
            obtain ⟨c0, c1x, c2x, c3⟩ := hF.cell
            have HVX := Lib.hid hX
            clear hF hX
            have hbf : b < wr.heap.size := HT.out.lt
            go_wp2_with fail
            refine (at_x HVX.out.to HASK2.out.bulk (HP.out.grown HBW.out) wr (Below.refl _ _)).mono ?_
            rintro e wx ⟨⟨vs, ib, rfl, hvs, rfl⟩, hbr⟩
            obtain ⟨p5, q5, c5, d5, rfl⟩ := nodeX_cells hvs
            have HV : Hid (NodeX wx (fun k => b < k) _ ((R.atW P).getD absent)) := Lib.hid (hvs.same fun k hk => ⟨rfl, by omega⟩)
            have HR := Lib.hid hbr
            rw [HZ1.out]
            clear hvs hbr HVX c0 c1x c2x c3 s0 s1 s2 s3 s4 s5 s6
            go_upto_region 45 with fail
            have hsz : b < wx.heap.size := by have := HR.out.size; omega
            have HSV := Lib.hid fun (wn : World) hw => stored_vr (w' := wn) HV.out hsz hw
            generalize hws : (wx.alloc (.cells #[.int .u8 ((R.atW P).getD absent).kind.toNat, .string ((R.atW P).getD absent).text, .slice p5 ((R.atW P).getD absent).names.length c5, .slice q5 ((R.atW P).getD absent).kids.length d5] 26)) = wxs at *
            obtain ⟨hb1, hv1⟩ := HSV.out _ rfl
            clear HSV hws hsz HV hbf
            have HVZ := Lib.hid hv1
            have HK := Lib.hid (HR.out.trans (hb1.mono HR.out.size))
            generalize hg : wx.heap.size = gz at *
            clear hb1 hv1 hg HR
            have HBW' := Lib.hid (HBW.out.trans (HK.out.mono HBW.out.size))
            have HVY' := Lib.hid (HVY.out.kept HK.out)
            clear HK HBW HVY
            have HBW := HBW'
            clear HBW'
            have HVY := HVY'
            clear HVY'
            generalize (x.atW P).isSome = iy at *
            obtain ⟨pv, qv, cv, dv, hF, hX, _⟩ := HVZ.out
            obtain ⟨c0, c1x, c2x, c3⟩ := hF.cell
            have HVX := Lib.hid hX
            clear hF hX
            obtain ⟨pw, qw, cw, dw, hF, hX, _⟩ := HVY.out
            obtain ⟨e0, e1, e2, e3⟩ := hF.cell
            have HVW := Lib.hid hX.to
            clear hF hX
            go_wp2_with fail
            refine (sameNd_any HVX.out.to HVW.out (atW_bulk HASK2.out.bulk) wxs (Below.refl _ _)).mono ?_
            rintro e wq ⟨he, hbr⟩
            rw [HZ2.out] at he
            subst he
            have HQ := Lib.hid (HBW.out.trans (hbr.mono HBW.out.size))
            clear hbr
            go_wp2_with fail
            go_ret
            exact ⟨rfl, HQ.out⟩
      · rw [hsm] at he
        subst he
        rw [hia, hib]
        have HS1 := Lib.hid hs1
        have HS2 := Lib.hid hs2
        clear hsm hia hs1 hib hs2
        obtain ⟨pv, qv, cv, dv, hF, hX, _⟩ := HVB.out
        obtain ⟨c0, c1x, c2x, c3⟩ := hF.cell
        have HVX := Lib.hid hX
        clear hF hX
        obtain ⟨pw, qw, cw, dw, hF, hX, _⟩ := HVX1.out
        obtain ⟨e0, e1, e2, e3⟩ := hF.cell
        have HVW := Lib.hid hX.to
        clear hF hX
        obtain ⟨s0, s1, s2, s3, s4, s5, s6⟩ := H4.out.cell
        go_wp2_with fail
        refine (sameNd_any HVX.out.to HVW.out (atW_bulk HASK2.out.bulk) w13 (Below.refl _ _)).mono ?_
        rintro e w14 ⟨he, hbr⟩
        rw [HS1.out] at he
        subst he
        have HK := Lib.hid hbr
        clear hbr HVX HVW c0 c1x c2x c3 e0 e1 e2 e3 s0 s1 s2 s3 s4 s5 s6
        have H4' := Lib.hid (H4.out.kept HK.out)
        have HT' := Lib.hid (HT.out.kept HK.out)
        have HBW' := Lib.hid (HBW.out.trans (HK.out.mono HBW.out.size))
        have HWAS' := Lib.hid (HWAS.out.kept HK.out)
        have HVX1' := Lib.hid (HVX1.out.kept HK.out)
        have HVY' := Lib.hid (HVY.out.kept HK.out)
        have HNOW' := Lib.hid (HNOW.out.kept HK.out)
        have HVA' := Lib.hid (HVA.out.kept HK.out)
        have HVB' := Lib.hid (HVB.out.kept HK.out)
        clear HK H4 HT HBW HWAS HVX1 HVY HNOW HVA HVB
        have H4 := H4'
        clear H4'
        have HT := HT'
        clear HT'
        have HBW := HBW'
        clear HBW'
        have HWAS := HWAS'
        clear HWAS'
        have HVX1 := HVX1'
        clear HVX1'
        have HVY := HVY'
        clear HVY'
        have HNOW := HNOW'
        clear HNOW'
        have HVA := HVA'
        clear HVA'
        have HVB := HVB'
        clear HVB'
        obtain ⟨pv, qv, cv, dv, hF, hX, _⟩ := HVA.out
        obtain ⟨c0, c1x, c2x, c3⟩ := hF.cell
        have HVX := Lib.hid hX
        clear hF hX
        obtain ⟨pw, qw, cw, dw, hF, hX, _⟩ := HVX1.out
        obtain ⟨e0, e1, e2, e3⟩ := hF.cell
        have HVW := Lib.hid hX.to
        clear hF hX
        obtain ⟨s0, s1, s2, s3, s4, s5, s6⟩ := H4.out.cell
        go_wp2_with fail
        refine (sameNd_any HVX.out.to HVW.out (atW_bulk HASK2.out.bulk) w14 (Below.refl _ _)).mono ?_
        rintro e w15 ⟨he, hbr⟩
        rw [HS2.out] at he
        subst he
        have HK := Lib.hid hbr
        clear hbr HVX HVW c0 c1x c2x c3 e0 e1 e2 e3 s0 s1 s2 s3 s4 s5 s6
        have H4' := Lib.hid (H4.out.kept HK.out)
        have HT' := Lib.hid (HT.out.kept HK.out)
        have HBW' := Lib.hid (HBW.out.trans (HK.out.mono HBW.out.size))
        have HWAS' := Lib.hid (HWAS.out.kept HK.out)
        have HVX1' := Lib.hid (HVX1.out.kept HK.out)
        have HVY' := Lib.hid (HVY.out.kept HK.out)
        have HNOW' := Lib.hid (HNOW.out.kept HK.out)
        have HVA' := Lib.hid (HVA.out.kept HK.out)
        have HVB' := Lib.hid (HVB.out.kept HK.out)
        clear HK H4 HT HBW HWAS HVX1 HVY HNOW HVA HVB
        have H4 := H4'
        clear H4'
        have HT := HT'
        clear HT'
        have HBW := HBW'
        clear HBW'
        have HWAS := HWAS'
        clear HWAS'
        have HVX1 := HVX1'
        clear HVX1'
        have HVY := HVY'
        clear HVY'
        have HNOW := HNOW'
        clear HNOW'
        have HVA := HVA'
        clear HVA'
        have HVB := HVB'
        clear HVB'
        obtain ⟨s0, s1, s2, s3, s4, s5, s6⟩ := H4.out.cell
        go_wp2_with fail
        clear s0 s1 s2 s3 s4 s5 s6
        go_loopw [20, 21] (fun i _ wr => ∃ (k : Nat), k ≤ 2 ∧ i = .int .i64 k ∧ Hid (Below w15.heap.size w15 wr) ∧ Hid (1 ≤ k → underL s.a P = false ∧ underL P s.a = false) ∧ Hid (2 ≤ k → underL s.b P = false ∧ underL P s.b = false)) (fun i _ _ => 2 - (intOf i).toNat)
        case atStart => exact ⟨0, by omega, rfl, Lib.hid (Below.refl _ _), Lib.hid (fun h => by omega), Lib.hid (fun h => by omega)⟩
        case round =>
          obtain ⟨k, hk, rfl, HK, HC1, HC2⟩ := hrel
          have HKK := Lib.hid HK.out
          have H4' := Lib.hid (H4.out.kept HK.out)
          have HT' := Lib.hid (HT.out.kept HK.out)
          have HBW' := Lib.hid (HBW.out.trans (HK.out.mono HBW.out.size))
          have HVY' := Lib.hid (HVY.out.kept HK.out)
          have HNOW' := Lib.hid (HNOW.out.kept HK.out)
          clear HK H4 HT HBW HVY HNOW
          have H4 := H4'
          clear H4'
          have HT := HT'
          clear HT'
          have HBW := HBW'
          clear HBW'
          have HVY := HVY'
          clear HVY'
          have HNOW := HNOW'
          clear HNOW'
          obtain ⟨s0, s1, s2, s3, s4, s5, s6⟩ := H4.out.cell
          obtain rfl | rfl | rfl : k = 0 ∨ k = 1 ∨ k = 2 := by omega
          · go_wp2_with fail
            refine (underRef_at (Below.refl _ _) (HA.out.grown HBW.out) (HP.out.grown HBW.out)).mono ?_
            rintro e wu ⟨he, hbu⟩
            have HU := Lib.hid hbu
            clear hbu
            have HBU := Lib.hid (HBW.out.trans (HU.out.mono HBW.out.size))
            cases hu : underL s.a P with
            | true =>
              rw [hu] at he
              subst he
              go_wp2_with fail
              go_ret
              exact ⟨rfl, HBU.out⟩
            | false =>
              rw [hu] at he
              subst he
              go_wp2_with fail
              refine (underRef_at (Below.refl _ _) (HP.out.grown HBU.out) (HA.out.grown HBU.out)).mono ?_
              rintro e wv ⟨he, hbv⟩
              have HV2 := Lib.hid hbv
              clear hbv
              cases hu2 : underL P s.a with
              | true =>
                rw [hu2] at he
                subst he
                go_wp2_with fail
                go_ret
                exact ⟨rfl, HBU.out.trans (HV2.out.mono HBU.out.size)⟩
              | false =>
                rw [hu2] at he
                subst he
                have HU1 := Lib.hid hu
                have HU2 := Lib.hid hu2
                clear hu hu2
                go_wp2_with fail
                go_roundw
                case rel => exact ⟨1, by omega, by go_num, Lib.hid ((HKK.out.trans (HU.out.mono HKK.out.size)).trans (HV2.out.mono (Nat.le_trans HKK.out.size HU.out.size))), Lib.hid (fun _ => ⟨HU1.out, HU2.out⟩), Lib.hid (fun h => by omega)⟩
                case measure => simp [intOf]
          · go_wp2_with fail
            refine (underRef_at (Below.refl _ _) (HB.out.grown HBW.out) (HP.out.grown HBW.out)).mono ?_
            rintro e wu ⟨he, hbu⟩
            have HU := Lib.hid hbu
            clear hbu
            have HBU := Lib.hid (HBW.out.trans (HU.out.mono HBW.out.size))
            cases hu : underL s.b P with
            | true =>
              rw [hu] at he
              subst he
              go_wp2_with fail
              go_ret
              exact ⟨rfl, HBU.out⟩
            | false =>
              rw [hu] at he
              subst he
              go_wp2_with fail
              refine (underRef_at (Below.refl _ _) (HP.out.grown HBU.out) (HB.out.grown HBU.out)).mono ?_
              rintro e wv ⟨he, hbv⟩
              have HV2 := Lib.hid hbv
              clear hbv
              cases hu2 : underL P s.b with
              | true =>
                rw [hu2] at he
                subst he
                go_wp2_with fail
                go_ret
                exact ⟨rfl, HBU.out.trans (HV2.out.mono HBU.out.size)⟩
              | false =>
                rw [hu2] at he
                subst he
                have HU1 := Lib.hid hu
                have HU2 := Lib.hid hu2
                clear hu hu2
                go_wp2_with fail
                go_roundw
                case rel => exact ⟨2, by omega, by go_num, Lib.hid ((HKK.out.trans (HU.out.mono HKK.out.size)).trans (HV2.out.mono (Nat.le_trans HKK.out.size HU.out.size))), Lib.hid (fun _ => HC1.out (by omega)), Lib.hid (fun _ => ⟨HU1.out, HU2.out⟩)⟩
                case measure => simp [intOf]
          · obtain ⟨hu1, hu2⟩ := HC1.out (by omega)
            obtain ⟨hu3, hu4⟩ := HC2.out (by omega)
            obtain ⟨hz1, hz2⟩ := HASK2.out.rest (by simp [hu1, hu2, hu3, hu4])
            have HZ1 := Lib.hid hz1
            have HZ2 := Lib.hid hz2
            clear hu1 hu2 hu3 hu4 hz1 hz2
            obtain ⟨pv, qv, cv, dv, hF, hX, _⟩ := HNOW.out
            obtain ⟨c0, c1x, c2x, c3⟩ := hF.cell
            have HVX := Lib.hid hX
            clear hF hX
            have hbf : b < wr.heap.size := HT.out.lt
            go_wp2_with fail
            refine (at_x HVX.out.to HASK2.out.bulk (HP.out.grown HBW.out) wr (Below.refl _ _)).mono ?_
            rintro e wx ⟨⟨vs, ib, rfl, hvs, rfl⟩, hbr⟩
            obtain ⟨p5, q5, c5, d5, rfl⟩ := nodeX_cells hvs
            have HV : Hid (NodeX wx (fun k => b < k) _ ((R.atW P).getD absent)) := Lib.hid (hvs.same fun k hk => ⟨rfl, by omega⟩)
            have HR := Lib.hid hbr
            rw [HZ1.out]
            clear hvs hbr HVX c0 c1x c2x c3 s0 s1 s2 s3 s4 s5 s6
            go_upto_region 45 with fail
            have hsz : b < wx.heap.size := by have := HR.out.size; omega
            have HSV := Lib.hid fun (wn : World) hw => stored_vr (w' := wn) HV.out hsz hw
            generalize hws : (wx.alloc (.cells #[.int .u8 ((R.atW P).getD absent).kind.toNat, .string ((R.atW P).getD absent).text, .slice p5 ((R.atW P).getD absent).names.length c5, .slice q5 ((R.atW P).getD absent).kids.length d5] 26)) = wxs at *
            obtain ⟨hb1, hv1⟩ := HSV.out _ rfl
            clear HSV hws hsz HV hbf
            have HVZ := Lib.hid hv1
            have HK := Lib.hid (HR.out.trans (hb1.mono HR.out.size))
            generalize hg : wx.heap.size = gz at *
            clear hb1 hv1 hg HR
            have HBW' := Lib.hid (HBW.out.trans (HK.out.mono HBW.out.size))
            have HVY' := Lib.hid (HVY.out.kept HK.out)
            clear HK HBW HVY
            have HBW := HBW'
            clear HBW'
            have HVY := HVY'
            clear HVY'
            generalize (x.atW P).isSome = iy at *
            obtain ⟨pv, qv, cv, dv, hF, hX, _⟩ := HVZ.out
            obtain ⟨c0, c1x, c2x, c3⟩ := hF.cell
            have HVX := Lib.hid hX
            clear hF hX
            obtain ⟨pw, qw, cw, dw, hF, hX, _⟩ := HVY.out
            obtain ⟨e0, e1, e2, e3⟩ := hF.cell
            have HVW := Lib.hid hX.to
            clear hF hX
            go_wp2_with fail
            refine (sameNd_any HVX.out.to HVW.out (atW_bulk HASK2.out.bulk) wxs (Below.refl _ _)).mono ?_
            rintro e wq ⟨he, hbr⟩
            rw [HZ2.out] at he
            subst he
            have HQ := Lib.hid (HBW.out.trans (hbr.mono HBW.out.size))
            clear hbr
            go_wp2_with fail
            go_ret
            exact ⟨rfl, HQ.out⟩

theorem law_there {W : World} {cs st : List Value} {x : Nd} {s : Sp} (hx : NodeR W cs x) (hxb2 : x.bulk ≤ 2000000) (hs : StepR W st s) (hsum : s.n.bulk + namesBulk s.a + namesBulk s.b ≤ 1050000) {pv : Value} {P : List ByteArray} (hp : PlR W pv P) :
    Calls Try.prog 5 #[.agg cs.toArray, .agg st.toArray, pv] W fun e w' => e = .returned (.bool true) ∧ Below W.heap.size W w' := by
  have h4 : s.kind.toNat % 4 = 0 ∨ s.kind.toNat % 4 = 1 ∨ s.kind.toNat % 4 = 2 ∨ s.kind.toNat % 4 = 3 := by omega
  rcases h4 with h | h | h | h
  · exact law_there0 hx hxb2 hs hsum hp h
  · exact law_there1 hx hxb2 hs hsum hp h
  · exact law_there2 hx hxb2 hs hsum hp h
  · exact law_there3 hx hxb2 hs hsum hp h
end Go.Proofs.Ytcookbaedcjmjaa
