/- Walks over nodes, of the reference: Well of every kind, May. -/
import Derived.Test.YtfilbknnpjbmcaaGreatKa17
namespace Go.Proofs.YtfilbknnpjbmcaaGreat
open Go.RowKit Px Nx

theorem empty_list {s : ByteArray} (h : s.toList = []) : s.size = 0 := size_of_list h
theorem nonempty_size {s : ByteArray} (h : ¬ s.toList = []) : ¬ s.size = 0 := fun e => h (List.length_eq_zero_iff.1 (by rw [Lib.toList_data, ← Lib.size_eq, e]))
theorem zero_ways : ∀ n : Nat, ∃ b, ((n : Int) == 0) = b ∧ decide (n = 0) = b := fun n => by
  by_cases h : n = 0
  · subst h; exact ⟨true, rfl, rfl⟩
  · exact ⟨false, beq_eq_false_iff_ne.2 (by omega), decide_eq_false h⟩
theorem eq_ways : ∀ k n : Nat, ∃ b, ((k : Int) == (n : Int)) = b ∧ decide (k = n) = b := fun k n => by
  by_cases h : k = n
  · subst h; exact ⟨true, by simp, by simp⟩
  · exact ⟨false, beq_eq_false_iff_ne.2 (by omega), decide_eq_false h⟩

set_option maxRecDepth 100000 in
set_option maxHeartbeats 2000000 in
theorem wellRef_any {W : World} {cs : List Value} {c : Nd} (h : NodeR W cs c) : ∀ w, Below W.heap.size W w → c.bulk ≤ 2000000 →
    Calls Tryz.prog 22 #[.agg cs.toArray] w fun e w' => e = .returned (.bool c.well) ∧ Below w.heap.size w w' := by
  induction h with
  | mk kind text names kids p q cp d D h1 h2 h3 h5 h6 h7 h8 ih =>
    intro w hb hB
    have hts : text.size ≤ 2000000 := by unfold Nd.bulk at hB; omega
    have HTX : Hid (∀ wx, Calls Tryz.prog 34 #[.string text] wx fun e w' => e = .returned (.bool (textL text)) ∧ wx = w') := Lib.hid fun wx => textRef_any text wx hts
    by_cases k2 : kind = 2
    · subst k2
      by_cases ht : text.toList = []
      · by_cases hl : kids.length = names.length
        · exact wellRef_dir h3 h7 ih hl (empty_list ht) hB w hb
        · have HV : Hid (Nd.well (.mk 2 text names kids) = false) := Lib.hid (well_not fun h => hl h.2)
          obtain ⟨nn, hnn⟩ : ∃ nn, names.length = nn := ⟨_, rfl⟩
          obtain ⟨kn, hkn⟩ : ∃ kn, kids.length = kn := ⟨_, rfl⟩
          rw [hnn, hkn] at hl
          rw [hnn, hkn]
          have hne : ((nn : Int) == (kn : Int)) = false := beq_eq_false_iff_ne.2 (by omega)
          clear ih h8 h7 h3 hb h1 h2 h5 h6 HTX hB hts hl hnn hkn
          go_enter Tryz.func22, Tryz.ntmps22
          go_wp2_with fail
          go_ret
          exact ⟨ret_bool HV.out.symm, box_self (Below.refl _ _)⟩
      · have HV : Hid (Nd.well (.mk 2 text names kids) = false) := Lib.hid (well_not fun h => nonempty_size ht h.1)
        have ht2 := full_list ht
        clear ih h8 h7 h3 hb h1 h2 h5 h6 HTX hB hts
        go_enter Tryz.func22, Tryz.ntmps22
        go_wp2_with fail
        go_ret
        exact ⟨ret_bool HV.out.symm, box_self (Below.refl _ _)⟩
    · by_cases k1 : kind = 1
      · subst k1
        have HV := Lib.hid (well_leaf1 (text := text) (names := names) (kids := kids))
        clear ih h8 h7 h3 hb h1 h2 h5 h6 k2 hB hts
        generalize Nd.well (.mk 1 text names kids) = R at *
        generalize textL text = tl at *
        generalize names.length = nn at *
        generalize kids.length = kn at *
        obtain ⟨bn, hbn, hbn'⟩ := zero_ways nn
        obtain ⟨bk, hbk, hbk'⟩ := zero_ways kn
        rw [hbn', hbk'] at HV
        clear hbn' hbk'
        cases bn
        · go_enter Tryz.func22, Tryz.ntmps22
          go_wp2_with fail
          go_ret
          exact ⟨ret_bool (by rw [HV.out]; cases tl <;> rfl), box_self (Below.refl _ _)⟩
        · cases bk
          · go_enter Tryz.func22, Tryz.ntmps22
            go_wp2_with fail
            go_ret
            exact ⟨ret_bool (by rw [HV.out]; cases tl <;> rfl), box_self (Below.refl _ _)⟩
          · cases tl
            all_goals
              go_enter Tryz.func22, Tryz.ntmps22
              go_wp2_with fail
              refine (HTX.out _).mono ?_
              rintro e w2 ⟨rfl, rfl⟩
              go_wp2_with fail
              go_ret
              exact ⟨ret_bool (by rw [HV.out]; rfl), box_self (Below.refl _ _)⟩
      · by_cases k3 : kind = 3
        · subst k3
          have HV := Lib.hid (well_leaf3 (text := text) (names := names) (kids := kids))
          have HS : Hid (decide (0 < text.size) = !(text.size == 0)) := Lib.hid (by
            by_cases h : text.size = 0
            · rw [h]; rfl
            · rw [decide_eq_true (by omega), beq_eq_false_iff_ne.2 h]; rfl)
          clear ih h8 h7 h3 hb h1 h2 h5 h6 k2 hB k1
          generalize Nd.well (.mk 3 text names kids) = R at *
          generalize textL text = tl at *
          generalize names.length = nn at *
          generalize kids.length = kn at *
          obtain ⟨bn, hbn, hbn'⟩ := zero_ways nn
          obtain ⟨bk, hbk, hbk'⟩ := zero_ways kn
          rw [hbn', hbk', ← HS.out] at HV
          clear hbn' hbk'
          cases bn
          · go_enter Tryz.func22, Tryz.ntmps22
            go_wp2_with fail
            go_ret
            exact ⟨ret_bool (by rw [HV.out]; simp), box_self (Below.refl _ _)⟩
          · cases bk
            · go_enter Tryz.func22, Tryz.ntmps22
              go_wp2_with fail
              go_ret
              exact ⟨ret_bool (by rw [HV.out]; simp), box_self (Below.refl _ _)⟩
            · obtain ⟨bz, hbz⟩ : ∃ b, decide (0 < text.size) = b := ⟨_, rfl⟩
              rw [hbz] at HV
              cases tl <;> cases bz
              all_goals
                go_enter Tryz.func22, Tryz.ntmps22
                go_wp2_with fail
                refine (HTX.out _).mono ?_
                rintro e w2 ⟨rfl, rfl⟩
                go_wp2_with fail
                go_ret
                refine ⟨ret_bool ?_, box_self (Below.refl _ _)⟩
                rw [HV.out]
                first | rfl | (simp at hbz ⊢; omega)
        · have HV := Lib.hid (well_other (text := text) (names := names) (kids := kids) k1 k2 k3)
          have e1 := beq_int kind 1
          have e2 := beq_int kind 2
          have e3 := beq_int kind 3
          rw [show ((1 : UInt8).toNat : Int) = 1 from rfl, beq_eq_false_iff_ne.2 k1] at e1
          rw [show ((2 : UInt8).toNat : Int) = 2 from rfl, beq_eq_false_iff_ne.2 k2] at e2
          rw [show ((3 : UInt8).toNat : Int) = 3 from rfl, beq_eq_false_iff_ne.2 k3] at e3
          clear ih h8 h7 h3 hb h1 h2 h5 h6 HTX k1 k3 k2
          go_enter Tryz.func22, Tryz.ntmps22
          go_wp2_with fail
          all_goals
            go_ret
            exact ⟨ret_bool HV.out.symm, box_self (Below.refl _ _)⟩

set_option maxRecDepth 100000 in
set_option maxHeartbeats 2000000 in
theorem mayRef_any {W : World} {cs : List Value} {c : Nd} (h : NodeR W cs c) (hB : c.bulk ≤ 2000000) : ∀ w, Below W.heap.size W w →
    Calls Tryz.prog 12 #[.agg cs.toArray] w fun e w' => e = .returned (.bool c.may) ∧ Below w.heap.size w w' := by
  intro w hb
  have HW : Hid (∀ wx, Below w.heap.size w wx → Calls Tryz.prog 22 #[.agg cs.toArray] wx fun e w' => e = .returned (.bool c.well) ∧ Below wx.heap.size wx w') := Lib.hid fun wx hx => wellRef_any h wx (hb.trans (hx.mono hb.size)) hB
  have HN : Hid (∀ wx, Below w.heap.size w wx → Calls Tryz.prog 13 #[.agg cs.toArray] wx fun e w' => e = .returned (.int .i64 c.nodes) ∧ Below wx.heap.size wx w') := Lib.hid fun wx hx => nodesRef_any h wx (hb.trans (hx.mono hb.size)) hB
  have HD : Hid (∀ wx, Below w.heap.size w wx → Calls Tryz.prog 23 #[.agg cs.toArray] wx fun e w' => e = .returned (.int .i64 c.deep) ∧ Below wx.heap.size wx w') := Lib.hid fun wx hx => deepRef_any h wx (hb.trans (hx.mono hb.size)) hB
  have HV : Hid (c.may = (decide (c.kind = 2) && c.well && decide (c.nodes ≤ 1024) && decide (c.deep ≤ 24))) := Lib.hid rfl
  have e2 := beq_int c.kind 2
  rw [show ((2 : UInt8).toNat : Int) = 2 from rfl] at e2
  have hk : decide (c.kind = 2) = (c.kind == 2) := by rw [Bool.eq_iff_iff]; simp
  rw [hk] at HV
  clear hk
  obtain ⟨p, q, cp, d, rfl⟩ := h.cells
  clear h hb hB
  generalize c.well = wl at *
  generalize c.nodes = nd at *
  generalize c.deep = dp at *
  generalize (c.kind == 2) = kb at *
  generalize c.kind.toNat = kn at *
  generalize c.names.length = nn at *
  generalize c.kids.length = kk at *
  generalize c.text = tx at *
  generalize c.may = R at *
  cases kb
  · go_enter Tryz.func12, Tryz.ntmps12
    go_wp2_with fail
    go_ret
    exact ⟨ret_bool (by rw [HV.out]; rfl), box_self (Below.refl _ _)⟩
  · cases wl
    · go_enter Tryz.func12, Tryz.ntmps12
      go_wp2_with fail
      refine (HW.out _ (box_self (Below.refl _ _))).mono ?_
      rintro e w2 ⟨rfl, hb2⟩
      have HB2 := Lib.hid hb2
      clear hb2
      go_wp2_with fail
      go_ret
      exact ⟨ret_bool (by rw [HV.out]; rfl), box_self (HB2.out.mono (by simp))⟩
    · skip
      all_goals
        go_enter Tryz.func12, Tryz.ntmps12
        go_wp2_with fail
        refine (HW.out _ (box_self (Below.refl _ _))).mono ?_
        rintro e w2 ⟨rfl, hb2⟩
        have HB2 : Hid (Below (w.heap.size + 1) (w.alloc (.cells #[.int .u8 kn, .string tx, .slice p nn cp, .slice q kk d] 25)) w2) := Lib.hid (hb2.mono (by simp))
        clear hb2
        have c0 : w2.cell? ⟨w.heap.size, 0, none⟩ = some (.int .u8 kn) := box_cell HB2.out 0 rfl
        have c1 : w2.cell? ⟨w.heap.size, 1, none⟩ = some (.string tx) := box_cell HB2.out 1 rfl
        have c2 : w2.cell? ⟨w.heap.size, 2, none⟩ = some (.slice p nn cp) := box_cell HB2.out 2 rfl
        have c3 : w2.cell? ⟨w.heap.size, 3, none⟩ = some (.slice q kk d) := box_cell HB2.out 3 rfl
        go_wp2_with fail
        refine (HN.out _ (box_self HB2.out)).mono ?_
        rintro e w3 ⟨rfl, hb3⟩
        have HB3 : Hid (Below (w.heap.size + 1) (w.alloc (.cells #[.int .u8 kn, .string tx, .slice p nn cp, .slice q kk d] 25)) w3) := Lib.hid (HB2.out.trans (hb3.mono (by have := HB2.out.size; simp at this; omega)))
        clear hb3 c0 c1 c2 c3
        have c0 : w3.cell? ⟨w.heap.size, 0, none⟩ = some (.int .u8 kn) := box_cell HB3.out 0 rfl
        have c1 : w3.cell? ⟨w.heap.size, 1, none⟩ = some (.string tx) := box_cell HB3.out 1 rfl
        have c2 : w3.cell? ⟨w.heap.size, 2, none⟩ = some (.slice p nn cp) := box_cell HB3.out 2 rfl
        have c3 : w3.cell? ⟨w.heap.size, 3, none⟩ = some (.slice q kk d) := box_cell HB3.out 3 rfl
        go_wp2_with fail
        · have hnd : nd ≤ 1024 := by omega
          refine (HD.out _ (box_self HB3.out)).mono ?_
          rintro e w4 ⟨rfl, hb4⟩
          have HB4 := Lib.hid hb4
          clear hb4
          go_wp2_with fail
          go_ret
          refine ⟨ret_bool ?_, (box_self HB3.out).trans (HB4.out.mono (box_self HB3.out).size)⟩
          rw [HV.out, decide_eq_true hnd]
          simp only [Bool.true_and]
          exact decide_eq_decide.2 (by omega)
        · have hnd : ¬ nd ≤ 1024 := by omega
          go_ret
          exact ⟨ret_bool (by rw [HV.out, decide_eq_false hnd]; rfl), box_self HB3.out⟩
end Go.Proofs.YtfilbknnpjbmcaaGreat
/- Walks over nodes: how many there are, of the program; which are the same, of both. -/
namespace Go.Proofs.YtfilbknnpjbmcaaGreat
open Go.RowKit Px Nx

/-- What a kid's cells are, their shapes too, and where they lie. -/
theorem kid_cells {W wr : World} {q : Option Addr} {n : Nat} {D : Nat → List Value} {x : Nd} (h : Row W 4 q n D) (hb : Below W.heap.size W wr) {k : Nat} (hk : k < n) (hx : NodeR W (D k) x) :
    ∃ b o kk tx p2 n2 c2 q2 m2 d2, q = some ⟨b, o, none⟩ ∧ D k = [.int .u8 kk, .string tx, .slice p2 n2 c2, .slice q2 m2 d2] ∧ wr.cell? ⟨b, o + k * 4, none⟩ = some (.int .u8 kk) ∧ wr.cell? ⟨b, o + k * 4 + 1, none⟩ = some (.string tx) ∧ wr.cell? ⟨b, o + k * 4 + 2, none⟩ = some (.slice p2 n2 c2) ∧ wr.cell? ⟨b, o + k * 4 + 3, none⟩ = some (.slice q2 m2 d2) := by
  obtain ⟨b, o, v0, v1, v2, v3, rfl, hD, e0, e1, e2, e3⟩ := kid_at h hb hk
  obtain ⟨p2, q2, c2, d2, hc⟩ := hx.cells
  rw [hD] at hc
  obtain ⟨rfl, rfl, rfl, rfl⟩ : v0 = _ ∧ v1 = _ ∧ v2 = _ ∧ v3 = _ := by simpa using hc
  exact ⟨b, o, _, _, _, _, _, _, _, _, rfl, hD, e0, e1, e2, e3⟩

theorem part_at {C : List Nd} {k : Nat} (h : k < C.length) : C[k]? = some C[k] := List.getElem?_eq_getElem h
theorem box2_fst {w wr : World} {cs ds : Array Value} {t u : TypeId} (hb : Below (w.heap.size + 2) ((w.alloc (.cells cs t)).alloc (.cells ds u)) wr) (i : Nat) {v : Value} (h : cs[i]? = some v) : wr.cell? ⟨w.heap.size, i, none⟩ = some v := by
  rw [hb.cell (show w.heap.size < w.heap.size + 2 by omega)]
  rw [(Below.refl (w.heap.size + 1) (w.alloc (.cells cs t))).alloc (by simp) (.cells ds u) |>.cell (show w.heap.size < w.heap.size + 1 by omega)]
  rw [cell_of_row _ _ _ _ _ _ (heap_alloc_new w _)]
  exact h
theorem box2_snd {w wr : World} {cs ds : Array Value} {t u : TypeId} (hb : Below (w.heap.size + 2) ((w.alloc (.cells cs t)).alloc (.cells ds u)) wr) (i : Nat) {v : Value} (h : ds[i]? = some v) : wr.cell? ⟨w.heap.size + 1, i, none⟩ = some v := by
  rw [hb.cell (show w.heap.size + 1 < w.heap.size + 2 by omega)]
  rw [show w.heap.size + 1 = (w.alloc (.cells cs t)).heap.size by simp]
  rw [cell_of_row _ _ _ _ _ _ (heap_alloc_new _ _)]
  exact h
theorem box2_self {w wr : World} {o o' : Obj} (hb : Below (w.heap.size + 2) ((w.alloc o).alloc o') wr) : Below w.heap.size w wr :=
  (((Below.refl w.heap.size w).alloc (Nat.le_refl _) o).alloc (by simp) o').trans (hb.mono (by omega))
theorem byte_eq (a b : UInt8) : (a == b) = decide (a.toNat = b.toNat) := by
  rw [Bool.eq_iff_iff]
  simp [UInt8.toNat_inj]
theorem text_ways (s t : ByteArray) : ∃ b, decide (s = t) = b ∧ (s.toList == t.toList) = b := by
  by_cases h : s = t
  · subst h; exact ⟨true, by simp, by simp⟩
  · exact ⟨false, decide_eq_false h, (Lib.bytes_beq_false_iff _ _).2 h⟩

end Go.Proofs.YtfilbknnpjbmcaaGreat
