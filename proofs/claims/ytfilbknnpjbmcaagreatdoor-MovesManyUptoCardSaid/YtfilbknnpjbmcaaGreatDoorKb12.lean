/- Walks over nodes, of the reference: which are well formed. -/
import Derived.Test.YtfilbknnpjbmcaaGreatDoorKb03
namespace Go.Proofs.YtfilbknnpjbmcaaGreatDoor
open Go.RowKit Px Nx

theorem cell_kept {w w2 : World} (hb : Below w.heap.size w w2) {a : Addr} {v : Value} (h : w.cell? a = some v) : w2.cell? a = some v := cell_grown hb h
theorem name_cell {W wr : World} {p : Option Addr} {names : List ByteArray} (h : Strs W p names) (hb : Below W.heap.size W wr) {k : Nat} (hk : k < names.length) :
  ∃ b o, p = some ⟨b, o, none⟩ ∧ wr.cell? ⟨b, o + k, none⟩ = some (.string (names.getD k ByteArray.empty)) := by
 obtain ⟨b, o, rfl, hc⟩ := h k hk
 exact ⟨b, o, rfl, cell_grown hb hc⟩
theorem name_prev {W wr : World} {b o : Nat} {names : List ByteArray} (h : Strs W (some ⟨b, o, none⟩) names) (hb : Below W.heap.size W wr) {k : Nat} (hk : k < names.length) :
  wr.cell? ⟨b, o + (k - 1), none⟩ = some (.string (names.getD (k - 1) ByteArray.empty)) := by
 obtain ⟨b', o', he, hc⟩ := h (k - 1) (by omega)
 obtain ⟨rfl, rfl⟩ : b = b' ∧ o = o' := by simpa using he
 exact cell_grown hb hc
theorem wells_at {kids : List Nd} {k : Nat} {x : Nd} (h : kids[k]? = some x) (hw : x.well = false) : Nd.wells kids = false := by
 rw [Nd.wells_all, Bool.eq_false_iff]
 intro ha
 have := List.all_eq_true.1 ha x (List.mem_of_getElem? h)
 rw [hw] at this
 cases this
theorem all_snoc {kids : List Nd} {k : Nat} {x : Nd} (h : kids[k]? = some x) (f : Nd → Bool) : (kids.take (k + 1)).all f = ((kids.take k).all f && f x) := by
 obtain ⟨hk, hx⟩ := List.getElem?_eq_some_iff.1 h
 rw [List.take_succ_eq_append_getElem hk, List.all_append, hx]
 simp
theorem well_leaf1 {text : ByteArray} {names : List ByteArray} {kids : List Nd} : Nd.well (.mk 1 text names kids) = (textL text && decide (names.length = 0) && decide (kids.length = 0)) := by
 rw [Nd.well]; simp
theorem well_leaf3 {text : ByteArray} {names : List ByteArray} {kids : List Nd} : Nd.well (.mk 3 text names kids) = (!(text.size == 0) && textL text && decide (names.length = 0) && decide (kids.length = 0)) := by
 rw [Nd.well]; simp
theorem well_other {kind : UInt8} {text : ByteArray} {names : List ByteArray} {kids : List Nd} (h1 : kind ≠ 1) (h2 : kind ≠ 2) (h3 : kind ≠ 3) : Nd.well (.mk kind text names kids) = false := by
 rw [Nd.well]; simp [h1, h2, h3]

end Go.Proofs.YtfilbknnpjbmcaaGreatDoor
/- Walks over nodes, of the program: which are well formed. -/
namespace Go.Proofs.YtfilbknnpjbmcaaGreatDoor
open Go.RowKit Px Nx

theorem indexByte_none : ∀ (l : List UInt8) (c : UInt8), decide (0 ≤ Lib.indexByte l c) = !(l.all fun b => !(b == c))
 | [], c => rfl
 | b :: l, c => by
  have ih := indexByte_none l c
  have hge := Lib.indexByte_ge l c
  rw [Lib.indexByte, List.all_cons]
  by_cases hb : (b == c) = true
  ·rw [if_pos hb, hb]; rfl
  ·rw [if_neg hb, Bool.eq_false_iff.2 hb]
   simp only [Bool.not_false, Bool.true_and]
   rw [← ih]
   by_cases h1 : (Lib.indexByte l c == -1) = true
   ·rw [if_pos h1]
    have := beq_iff_eq.1 h1
    rw [this]
   ·rw [if_neg h1]
    have : Lib.indexByte l c ≠ -1 := fun e => h1 (beq_iff_eq.2 e)
    rw [decide_eq_true (by omega), decide_eq_true (by omega)]

set_option maxRecDepth 100000 in
theorem isText_any (s : ByteArray) (w : World) : Calls Tryz.prog 43 #[.string s] w fun e w' => e = .returned (.bool (textL s)) ∧ Below w.heap.size w w' := by
 have HC := Lib.hid (Tryz.strings_Contains_one s 0 w)
 rw [indexByte_none] at HC
 by_cases h : s.size ≤ 256
 ·have HT : Hid (textL s = s.data.toList.all fun b => !(b == 0)) := Lib.hid (by unfold textL; rw [decide_eq_true h]; rfl)
  generalize (s.data.toList.all fun b => !(b == 0)) = R at HC HT
  go_enter Tryz.func43, Tryz.ntmps43
  go_wp2_with (go_at_call 32; refine HC.out.mono ?_; rintro e w' ⟨rfl, rfl⟩)
  go_ret
  exact ⟨ret_bool (by rw [HT.out]), Below.refl _ _⟩
 ·have HT : Hid (textL s = false) := Lib.hid (by unfold textL; rw [decide_eq_false h]; rfl)
  clear HC
  go_enter Tryz.func43, Tryz.ntmps43
  go_wp2_with fail
  go_ret
  exact ⟨ret_bool HT.out.symm, Below.refl _ _⟩

set_option maxRecDepth 100000 in
set_option maxHeartbeats 2000000 in
theorem areNames_any {W : World} {p : Option Addr} {names : List ByteArray} (c : Nat) (h3 : Strs W p names) (hl : names.length ≤ maxLen) : ∀ w, Below W.heap.size W w →
  Calls Tryz.prog 44 #[.slice p names.length c] w fun e w' => e = .returned (.bool (namesL names)) ∧ Below w.heap.size w w' := by
 intro w hb
 have hl' : names.length ≤ 9223372036854775807 := by unfold maxLen at hl; omega
 have HS := Lib.hid h3
 have HW := Lib.hid hb
 clear h3 hb hl
 generalize hn : names.length = n at *
 have HN := Lib.hid hn
 clear hn
 go_enter Tryz.func44, Tryz.ntmps44
 go_wp2_with fail
 go_loopw [7] (fun i wr => ∃ k : Nat, k ≤ n ∧ i = .int .i64 k ∧ Hid (okTo names k = true) ∧ Hid (Below w.heap.size w wr)) (fun i _ => n - (intOf i).toNat)
 case atStart => exact ⟨0, Nat.zero_le _, rfl, Lib.hid rfl, Lib.hid (Below.refl _ _)⟩
 case round =>
  obtain ⟨k, hk, rfl, HA, HB⟩ := hrel
  by_cases hlt : k < n
  ·have HOLD : Hid (Below W.heap.size W wr) := Lib.hid (HW.out.trans (HB.out.mono HW.out.size))
   obtain ⟨b, o, rfl, n0⟩ := name_cell HS.out HOLD.out (by rw [HN.out]; exact hlt : k < names.length)
   have n1 := name_prev HS.out HOLD.out (by rw [HN.out]; exact hlt : k < names.length)
   have HNM : Hid (∀ wx, Below wr.heap.size wr wx → Calls Tryz.prog 34 #[.string (names.getD k ByteArray.empty)] wx fun e w' => e = .returned (.bool (nameL (names.getD k ByteArray.empty).data.toList)) ∧ Below wx.heap.size wx w') := Lib.hid fun wx _ => name_any _ wx
   have HOK := Lib.hid (okTo_succ names k)
   have HNOT := Lib.hid (namesL_not (show k < names.length by rw [HN.out]; exact hlt))
   have HAT : Hid (okAt names k = (nameL (names.getD k ByteArray.empty).data.toList && (k == 0 || Op.bytesLess (names.getD (k - 1) ByteArray.empty).toList (names.getD k ByteArray.empty).toList))) := Lib.hid rfl
   have hk2 : k - 1 < n := by omega
   have hk1 : ((k : Int) - 1) = ((k - 1 : Nat) : Int) ∨ k = 0 := by omega
   generalize okAt names k = ok at *
   generalize names.getD (k - 1) ByteArray.empty = y at *
   generalize names.getD k ByteArray.empty = x at *
   generalize nameL x.data.toList = nm at *
   generalize k - 1 = j at *
   cases nm with
   | false =>
    have HVF : Hid (namesL names = false) := Lib.hid (HNOT.out (by rw [HAT.out]; rfl))
    clear HNOT HAT HOK hk1
    go_wp2_with fail
    refine (HNM.out _ (Below.refl _ _)).mono ?_
    rintro e w2 ⟨rfl, hb2⟩
    have HB2 := Lib.hid hb2
    clear hb2
    go_wp2_with fail
    go_ret
    exact ⟨ret_bool HVF.out.symm, HB.out.trans (HB2.out.mono HB.out.size)⟩
   | true =>
    by_cases h0 : k = 0
    ·have hg2 : decide (0 < k) = false := decide_eq_false (by omega)
     have HAT2 : Hid (ok = true) := Lib.hid (by rw [HAT.out, h0]; rfl)
     clear hk1 h0
     go_wp2_with fail
     refine (HNM.out _ (Below.refl _ _)).mono ?_
     rintro e w2 ⟨rfl, hb2⟩
     have HB2 := Lib.hid hb2
     clear hb2
     go_wp2_with fail
     go_roundw
     case rel => exact ⟨k + 1, by omega, by go_num, Lib.hid (by rw [HOK.out, HA.out, HAT2.out]; rfl), Lib.hid (HB.out.trans (HB2.out.mono HB.out.size))⟩
     case measure => simp [intOf]; omega
    ·have hg2 : decide (0 < k) = true := decide_eq_true (by omega)
     have hk1 : ((k : Int) - 1) = (j : Int) := by omega
     have hwj : IntKind.i64.wrap (j : Int) = (j : Int) := Go.IntWalk.i64_in _ (by omega)
     have HNE := Lib.hid h0
     clear h0
     cases hlty : Op.bytesLess y.toList x.toList with
     | false =>
      have HVF : Hid (namesL names = false) := Lib.hid (HNOT.out (by rw [HAT.out, hlty, beq_eq_false_iff_ne.2 HNE.out]; rfl))
      clear HNOT HAT HOK
      go_wp2_with fail
      refine (HNM.out _ (Below.refl _ _)).mono ?_
      rintro e w2 ⟨rfl, hb2⟩
      have HB2 := Lib.hid hb2
      have n2 := cell_grown hb2 n1
      clear hb2
      go_wp2_with fail
      go_ret
      exact ⟨ret_bool HVF.out.symm, HB.out.trans (HB2.out.mono HB.out.size)⟩
     | true =>
      have HAT2 : Hid (ok = true) := Lib.hid (by rw [HAT.out, hlty, Bool.or_true]; rfl)
      go_wp2_with fail
      refine (HNM.out _ (Below.refl _ _)).mono ?_
      rintro e w2 ⟨rfl, hb2⟩
      have HB2 := Lib.hid hb2
      have n2 := cell_grown hb2 n1
      clear hb2
      go_wp2_with fail
      clear hlty hg2 hk1 hwj
      go_roundw
      case rel => exact ⟨k + 1, by omega, by go_num, Lib.hid (by rw [HOK.out, HA.out, HAT2.out]; rfl), Lib.hid (HB.out.trans (HB2.out.mono HB.out.size))⟩
      case measure => simp [intOf]; omega
  ·have HE : Hid (k = n) := Lib.hid (by omega)
   go_wp2_with fail
   go_ret
   exact ⟨ret_bool (by rw [namesL, HN.out, ← HE.out, HA.out]), HB.out⟩
set_option maxRecDepth 100000 in
theorem isIll_any {w : World} {cs : List Value} {x : Nd} (hx : NodeR w cs x) (HW : Hid (∀ wx, Below w.heap.size w wx → Calls Tryz.prog 27 #[.agg cs.toArray] wx fun e w' => e = .returned (.bool x.well) ∧ Below wx.heap.size wx w')) :
  Calls Tryz.prog 46 #[.agg cs.toArray] w fun e w' => e = .returned (.bool (!x.well)) ∧ Below w.heap.size w w' := by
 obtain ⟨p, q, c, d, rfl⟩ := hx.cells
 clear hx
 generalize x.well = wx at *
 go_enter Tryz.func46, Tryz.ntmps46
 go_wp2_with fail
 refine (HW.out _ (box_self (Below.refl _ _))).mono ?_
 rintro e w2 ⟨rfl, hb2⟩
 have HB2 := Lib.hid hb2
 clear hb2
 go_wp2_with fail
 go_ret
 exact ⟨rfl, box_self (HB2.out.mono (by simp))⟩

set_option maxRecDepth 100000 in
set_option maxHeartbeats 2000000 in
theorem indexIll_any {W : World} {kids : List Nd} {q : Option Addr} {d : Nat} {D : Nat → List Value} (h7 : Row W 4 q kids.length D) (h8 : ∀ (i : Nat) x, kids[i]? = some x → NodeR W (D i) x) (hl : kids.length ≤ maxLen)
  (ih : ∀ (i : Nat) x, kids[i]? = some x → ∀ w, Below W.heap.size W w → Calls Tryz.prog 27 #[.agg (D i).toArray] w fun e w' => e = .returned (.bool x.well) ∧ Below w.heap.size w w') : ∀ w, Below W.heap.size W w →
  Calls Tryz.prog 75 #[.slice q kids.length d, .func (.func 46) #[] #[]] w fun e w' => (∃ r : Int, e = .returned (.int .i64 r) ∧ decide (0 ≤ r) = !(Nd.wells kids)) ∧ Below w.heap.size w w' := by
 intro w hb
 have hl' : kids.length ≤ 9223372036854775807 := by unfold maxLen at hl; omega
 have IH := Lib.hid ih
 have HK := Lib.hid h8
 have HR := Lib.hid h7
 have HW := Lib.hid hb
 clear ih h8 h7 hb hl
 generalize hn : kids.length = n at *
 have HN := Lib.hid hn
 clear hn
 go_enter Tryz.func75, Tryz.ntmps75
 go_wp2_with fail
 go_loopw [8] (fun i wr => ∃ k : Nat, k ≤ n ∧ i = .int .i64 k ∧ Hid ((kids.take k).all Nd.well = true) ∧ Hid (Below w.heap.size w wr)) (fun i _ => n - (intOf i).toNat)
 case atStart => exact ⟨0, Nat.zero_le _, rfl, Lib.hid rfl, Lib.hid (Below.refl _ _)⟩
 case round =>
  obtain ⟨k, hk, rfl, HA, HB⟩ := hrel
  by_cases hlt : k < n
  ·have HOLD : Hid (Below W.heap.size W wr) := Lib.hid (HW.out.trans (HB.out.mono HW.out.size))
   obtain ⟨bq, oq, v0, v1, v2, v3, rfl, hD, e0, e1, e2, e3⟩ := kid_at HR.out HOLD.out hlt
   have HX := Lib.hid (List.getElem?_eq_getElem (show k < kids.length by rw [HN.out]; exact hlt))
   generalize kids[k]'_ = kd at HX
   have HC : Hid (Calls Tryz.prog 46 #[.agg #[v0, v1, v2, v3]] wr fun e w' => e = .returned (.bool (!kd.well)) ∧ Below wr.heap.size wr w') := Lib.hid (by
    have h1 := (HK.out k kd HX.out).grown HOLD.out
    rw [hD] at h1
    refine isIll_any h1 (Lib.hid fun wx hb => ?_)
    have := IH.out k kd HX.out wx (HOLD.out.trans (hb.mono HOLD.out.size))
    rwa [hD] at this)
   have HWN := Lib.hid (wells_at HX.out)
   have HSN := Lib.hid (all_snoc HX.out Nd.well)
   clear hD
   generalize kd.well = wk at *
   go_wp2_with fail
   refine HC.out.mono ?_
   rintro e w2 ⟨rfl, hb2⟩
   have HB2 := Lib.hid hb2
   clear hb2
   go_wp2_with fail
   ·have hwk : wk = false := by cases wk <;> simp_all
    go_ret
    refine ⟨⟨k, rfl, ?_⟩, HB.out.trans (HB2.out.mono HB.out.size)⟩
    rw [HWN.out hwk, decide_eq_true (by omega)]
    rfl
   ·have hwk : wk = true := by cases wk <;> simp_all
    go_roundw
    case rel => exact ⟨k + 1, by omega, by go_num, Lib.hid (by rw [HSN.out, HA.out, hwk]; rfl), Lib.hid (HB.out.trans (HB2.out.mono HB.out.size))⟩
    case measure => simp [intOf]; omega
  ·have HE : Hid (k = n) := Lib.hid (by omega)
   go_wp2_with fail
   go_ret
   refine ⟨⟨-1, rfl, ?_⟩, HB.out⟩
   have : Nd.wells kids = true := by
    rw [Nd.wells_all, ← List.take_length (l := kids), HN.out, ← HE.out, HA.out]
   rw [this]
   rfl

set_option maxRecDepth 100000 in
theorem anyIll_any {W : World} {kids : List Nd} {q : Option Addr} {d : Nat} {D : Nat → List Value} (h7 : Row W 4 q kids.length D) (h8 : ∀ (i : Nat) x, kids[i]? = some x → NodeR W (D i) x) (hl : kids.length ≤ maxLen)
  (ih : ∀ (i : Nat) x, kids[i]? = some x → ∀ w, Below W.heap.size W w → Calls Tryz.prog 27 #[.agg (D i).toArray] w fun e w' => e = .returned (.bool x.well) ∧ Below w.heap.size w w') : ∀ w, Below W.heap.size W w →
  Calls Tryz.prog 45 #[.slice q kids.length d, .func (.func 46) #[] #[]] w fun e w' => e = .returned (.bool (!(Nd.wells kids))) ∧ Below w.heap.size w w' := by
 intro w hb
 have HC := Lib.hid (indexIll_any (d := d) h7 h8 hl ih w hb)
 clear h7 h8 hl ih hb
 generalize Nd.wells kids = R at *
 generalize kids.length = n at *
 go_enter Tryz.func45, Tryz.ntmps45
 go_wp2_with fail
 refine HC.out.mono ?_
 rintro e w2 ⟨⟨r, rfl, hr⟩, hb2⟩
 have HR := Lib.hid hr
 have HB2 := Lib.hid hb2
 clear hb2 hr
 go_wp2_with fail
 go_ret
 exact ⟨ret_bool HR.out, HB2.out⟩

set_option maxRecDepth 100000 in
set_option maxHeartbeats 2000000 in
theorem well_any {W : World} {cs : List Value} {c : Nd} (h : NodeR W cs c) : ∀ w, Below W.heap.size W w →
  Calls Tryz.prog 27 #[.agg cs.toArray] w fun e w' => e = .returned (.bool c.well) ∧ Below w.heap.size w w' := by
 induction h with
 | mk kind text names kids p q cp d D h1 h2 h3 h5 h6 h7 h8 ih =>
  intro w hb
  have HAN : Hid (∀ wx, Below w.heap.size w wx → Calls Tryz.prog 44 #[.slice p names.length cp] wx fun e w' => e = .returned (.bool (namesL names)) ∧ Below wx.heap.size wx w') :=
   Lib.hid fun wx hx => areNames_any cp h3 (Nat.le_trans h1 h2) wx (hb.trans (hx.mono hb.size))
  have HIL : Hid (∀ wx, Below w.heap.size w wx → Calls Tryz.prog 45 #[.slice q kids.length d, .func (.func 46) #[] #[]] wx fun e w' => e = .returned (.bool (!(Nd.wells kids))) ∧ Below wx.heap.size wx w') :=
   Lib.hid fun wx hx => anyIll_any h7 h8 (Nat.le_trans h5 h6) ih wx (hb.trans (hx.mono hb.size))
  have HTX := Lib.hid (isText_any text)
  have hzn : ∀ n : Nat, ∃ b, ((n : Int) == 0) = b ∧ decide (n = 0) = b := fun n => by
   by_cases h : n = 0
   ·subst h; exact ⟨true, rfl, rfl⟩
   ·exact ⟨false, beq_eq_false_iff_ne.2 (by omega), decide_eq_false h⟩
  by_cases k1 : kind = 1
  ·subst k1
   have HV := Lib.hid (well_leaf1 (text := text) (names := names) (kids := kids))
   clear ih h8 h7 h3 hb h1 h2 h5 h6 HAN HIL
   generalize Nd.well (.mk 1 text names kids) = R at *
   generalize textL text = tl at *
   generalize names.length = nn at *
   generalize kids.length = kn at *
   obtain ⟨bn, hbn, hbn'⟩ := hzn nn
   obtain ⟨bk, hbk, hbk'⟩ := hzn kn
   rw [hbn', hbk'] at HV
   clear hzn hbn' hbk'
   cases tl <;> cases bn <;> cases bk
   all_goals
    go_enter Tryz.func27, Tryz.ntmps27
    go_wp2_with fail
    refine (HTX.out _).mono ?_
    rintro e w2 ⟨rfl, hb2⟩
    have HB2 : Hid (Below (w.heap.size + 1) (w.alloc (.cells #[.int .u8 1, .string text, .slice p nn cp, .slice q kn d] 25)) w2) := Lib.hid (hb2.mono (by simp))
    clear hb2
    have c2 : w2.cell? ⟨w.heap.size, 2, none⟩ = some (.slice p nn cp) := box_cell HB2.out 2 rfl
    have c3 : w2.cell? ⟨w.heap.size, 3, none⟩ = some (.slice q kn d) := box_cell HB2.out 3 rfl
    go_wp2_with fail
    go_ret
    exact ⟨ret_bool (by rw [HV.out]; rfl), box_self HB2.out⟩
  ·by_cases k3 : kind = 3
   ·subst k3
    have HV := Lib.hid (well_leaf3 (text := text) (names := names) (kids := kids))
    clear ih h8 h7 h3 hb h1 h2 h5 h6 HAN HIL k1
    generalize Nd.well (.mk 3 text names kids) = R at *
    generalize textL text = tl at *
    generalize names.length = nn at *
    generalize kids.length = kn at *
    obtain ⟨bn, hbn, hbn'⟩ := hzn nn
    obtain ⟨bk, hbk, hbk'⟩ := hzn kn
    rw [hbn', hbk'] at HV
    clear hzn hbn' hbk'
    by_cases ht : text.toList = []
    ·have HZ : Hid ((text.size == 0) = true) := Lib.hid (by rw [size_of_list ht]; rfl)
     rw [HZ.out] at HV
     go_enter Tryz.func27, Tryz.ntmps27
     go_wp2_with fail
     go_ret
     exact ⟨ret_bool (by rw [HV.out]; rfl), box_self (Below.refl _ _)⟩
    ·have HZ : Hid ((text.size == 0) = false) := Lib.hid (by
      rw [beq_eq_false_iff_ne]
      intro e
      exact ht (List.length_eq_zero_iff.1 (by rw [Lib.toList_data, ← Lib.size_eq, e])))
     rw [HZ.out] at HV
     have ht2 := full_list ht
     cases tl <;> cases bn <;> cases bk
     all_goals
      go_enter Tryz.func27, Tryz.ntmps27
      go_wp2_with fail
      refine (HTX.out _).mono ?_
      rintro e w2 ⟨rfl, hb2⟩
      have HB2 : Hid (Below (w.heap.size + 1) (w.alloc (.cells #[.int .u8 3, .string text, .slice p nn cp, .slice q kn d] 25)) w2) := Lib.hid (hb2.mono (by simp))
      clear hb2
      have c2 : w2.cell? ⟨w.heap.size, 2, none⟩ = some (.slice p nn cp) := box_cell HB2.out 2 rfl
      have c3 : w2.cell? ⟨w.heap.size, 3, none⟩ = some (.slice q kn d) := box_cell HB2.out 3 rfl
      go_wp2_with fail
      go_ret
      exact ⟨ret_bool (by rw [HV.out]; rfl), box_self HB2.out⟩
   ·by_cases k2 : kind = 2
    ·subst k2
     have HV : Hid (Nd.well (.mk 2 text names kids) = ((text.size == 0) && namesL names && decide (kids.length = names.length) && Nd.wells kids)) := Lib.hid (by rw [Nd.well]; simp)
     clear ih h8 h7 h3 hb h1 h2 h5 h6 HTX k1 k3 hzn
     generalize Nd.well (.mk 2 text names kids) = R at *
     generalize namesL names = nl at *
     generalize Nd.wells kids = wl at *
     obtain ⟨nn, hnn⟩ : ∃ nn, names.length = nn := ⟨_, rfl⟩
     obtain ⟨kn, hkn⟩ : ∃ kn, kids.length = kn := ⟨_, rfl⟩
     rw [hnn] at HAN HV
     rw [hkn] at HIL HV
     rw [hnn, hkn]
     clear hnn hkn
     obtain ⟨be, hbe, hbe'⟩ : ∃ b, ((kn : Int) == (nn : Int)) = b ∧ decide (kn = nn) = b := by
      by_cases h : kn = nn
      ·subst h; exact ⟨true, by simp, by simp⟩
      ·exact ⟨false, beq_eq_false_iff_ne.2 (by omega), decide_eq_false h⟩
     rw [hbe'] at HV
     clear hbe'
     by_cases ht : text.toList = []
     ·have HZ : Hid ((text.size == 0) = true) := Lib.hid (by rw [size_of_list ht]; rfl)
      rw [HZ.out] at HV
      cases nl
      ·go_enter Tryz.func27, Tryz.ntmps27
       go_wp2_with fail
       refine (HAN.out _ (box_self (Below.refl _ _))).mono ?_
       rintro e w2 ⟨rfl, hb2⟩
       have HB2 := Lib.hid hb2
       clear hb2
       go_wp2_with fail
       go_ret
       exact ⟨ret_bool (by rw [HV.out]; rfl), box_self (HB2.out.mono (by simp))⟩
      ·cases be
       ·go_enter Tryz.func27, Tryz.ntmps27
        go_wp2_with fail
        refine (HAN.out _ (box_self (Below.refl _ _))).mono ?_
        rintro e w2 ⟨rfl, hb2⟩
        have HB2 : Hid (Below (w.heap.size + 1) (w.alloc (.cells #[.int .u8 2, .string text, .slice p nn cp, .slice q kn d] 25)) w2) := Lib.hid (hb2.mono (by simp))
        clear hb2
        have c2 : w2.cell? ⟨w.heap.size, 2, none⟩ = some (.slice p nn cp) := box_cell HB2.out 2 rfl
        have c3 : w2.cell? ⟨w.heap.size, 3, none⟩ = some (.slice q kn d) := box_cell HB2.out 3 rfl
        go_wp2_with fail
        go_ret
        exact ⟨ret_bool (by rw [HV.out]; rfl), box_self HB2.out⟩
       ·go_enter Tryz.func27, Tryz.ntmps27
        go_wp2_with fail
        refine (HAN.out _ (box_self (Below.refl _ _))).mono ?_
        rintro e w2 ⟨rfl, hb2⟩
        have HB2 : Hid (Below (w.heap.size + 1) (w.alloc (.cells #[.int .u8 2, .string text, .slice p nn cp, .slice q kn d] 25)) w2) := Lib.hid (hb2.mono (by simp))
        clear hb2
        have c2 : w2.cell? ⟨w.heap.size, 2, none⟩ = some (.slice p nn cp) := box_cell HB2.out 2 rfl
        have c3 : w2.cell? ⟨w.heap.size, 3, none⟩ = some (.slice q kn d) := box_cell HB2.out 3 rfl
        go_wp2_with fail
        refine (HIL.out _ (box_self HB2.out)).mono ?_
        rintro e w3 ⟨rfl, hb3⟩
        have HB3 := Lib.hid hb3
        clear hb3
        go_wp2_with fail
        go_ret
        exact ⟨ret_bool (by rw [HV.out]; cases wl <;> rfl), (box_self HB2.out).trans (HB3.out.mono (box_self HB2.out).size)⟩
     ·have HZ : Hid ((text.size == 0) = false) := Lib.hid (by
       rw [beq_eq_false_iff_ne]
       intro e
       exact ht (List.length_eq_zero_iff.1 (by rw [Lib.toList_data, ← Lib.size_eq, e])))
      rw [HZ.out] at HV
      have ht2 := full_list ht
      go_enter Tryz.func27, Tryz.ntmps27
      go_wp2_with fail
      go_ret
      exact ⟨ret_bool (by rw [HV.out]; rfl), box_self (Below.refl _ _)⟩
    ·have HV := Lib.hid (well_other (text := text) (names := names) (kids := kids) k1 k2 k3)
     have e1 := beq_int kind 1
     have e2 := beq_int kind 2
     have e3 := beq_int kind 3
     rw [show ((1 : UInt8).toNat : Int) = 1 from rfl, beq_eq_false_iff_ne.2 k1] at e1
     rw [show ((2 : UInt8).toNat : Int) = 2 from rfl, beq_eq_false_iff_ne.2 k2] at e2
     rw [show ((3 : UInt8).toNat : Int) = 3 from rfl, beq_eq_false_iff_ne.2 k3] at e3
     clear ih h8 h7 h3 hb h1 h2 h5 h6 HTX HAN HIL k1 k3 k2 hzn
     go_enter Tryz.func27, Tryz.ntmps27
     go_wp2_with fail
     go_ret
     exact ⟨ret_bool HV.out.symm, box_self (Below.refl _ _)⟩
end Go.Proofs.YtfilbknnpjbmcaaGreatDoor
/- Walks over nodes, of the reference: Well of every kind, May. -/
namespace Go.Proofs.YtfilbknnpjbmcaaGreatDoor
open Go.RowKit Px Nx

theorem zero_ways : ∀ n : Nat, ∃ b, ((n : Int) == 0) = b ∧ decide (n = 0) = b := fun n => by
 by_cases h : n = 0
 ·subst h; exact ⟨true, rfl, rfl⟩
 ·exact ⟨false, beq_eq_false_iff_ne.2 (by omega), decide_eq_false h⟩
theorem eq_ways : ∀ k n : Nat, ∃ b, ((k : Int) == (n : Int)) = b ∧ decide (k = n) = b := fun k n => by
 by_cases h : k = n
 ·subst h; exact ⟨true, by simp, by simp⟩
 ·exact ⟨false, beq_eq_false_iff_ne.2 (by omega), decide_eq_false h⟩

end Go.Proofs.YtfilbknnpjbmcaaGreatDoor
