/- Walks over nodes: is all that one has in another one? (of the statement). -/
import Derived.Test.YtmofodaecakkfaaGreatKa02
import Derived.Test.YtmofodaecakkfaaGreatKa15
import Derived.Test.YtmofodaecakkfaaGreatKa04
import Derived.Deep.Cut
import Derived.Deep.RegionHeld3
namespace Go.Proofs.YtmofodaecakkfaaGreat
open Go.RowKit Px Nx
abbrev qWnW_0 : Oper := { dst := some 34, op := Op.move (Operand.tmp 6), type := 4, pos := "outright.go:41", after := #[], guard := none }
abbrev qWnW_1 : Oper := { dst := some 35, op := Op.move (Operand.tmp 34), type := 4, pos := "outright.go:41", after := #[{ on := 0, ground := Ground.data }], guard := none }
abbrev qWnW_2 : Oper := { dst := some 36, op := Op.fieldAddr 25 (Operand.tmp 2) 2, type := 0, pos := "outright.go:41", after := #[{ on := 1, ground := Ground.guard }], guard := some (1, false) }
abbrev qWnW_3 : Oper := { dst := some 37, op := Op.load 22 (Operand.tmp 36), type := 22, pos := "outright.go:41", after := #[{ on := 2, ground := Ground.data }, { on := 1, ground := Ground.guard }], guard := some (1, false) }
abbrev qWnW_4 : Oper := { dst := some 38, op := Op.move (Operand.tmp 5), type := 3, pos := "outright.go:41", after := #[{ on := 1, ground := Ground.guard }], guard := some (1, false) }
abbrev qWnW_5 : Oper := { dst := some 39, op := Op.indexAddr 22 (Operand.tmp 37) (Operand.tmp 38), type := 0, pos := "outright.go:41", after := #[{ on := 3, ground := Ground.data }, { on := 4, ground := Ground.data }, { on := 1, ground := Ground.guard }], guard := some (1, false) }
abbrev qWnW_6 : Oper := { dst := some 40, op := Op.load 9 (Operand.tmp 39), type := 9, pos := "outright.go:41", after := #[{ on := 5, ground := Ground.data }, { on := 1, ground := Ground.guard }], guard := some (1, false) }
abbrev qWnW_7 : Oper := { dst := some 41, op := Op.fieldAddr 25 (Operand.tmp 3) 2, type := 0, pos := "outright.go:41", after := #[{ on := 1, ground := Ground.guard }], guard := some (1, false) }
abbrev qWnW_8 : Oper := { dst := some 42, op := Op.load 22 (Operand.tmp 41), type := 22, pos := "outright.go:41", after := #[{ on := 7, ground := Ground.data }, { on := 1, ground := Ground.guard }], guard := some (1, false) }
abbrev qWnW_9 : Oper := { dst := some 43, op := Op.move (Operand.tmp 7), type := 3, pos := "outright.go:41", after := #[{ on := 1, ground := Ground.guard }], guard := some (1, false) }
abbrev qWnW_10 : Oper := { dst := some 44, op := Op.indexAddr 22 (Operand.tmp 42) (Operand.tmp 43), type := 0, pos := "outright.go:41", after := #[{ on := 8, ground := Ground.data }, { on := 9, ground := Ground.data }, { on := 1, ground := Ground.guard }], guard := some (1, false) }
abbrev qWnW_11 : Oper := { dst := some 45, op := Op.load 9 (Operand.tmp 44), type := 9, pos := "outright.go:41", after := #[{ on := 10, ground := Ground.data }, { on := 1, ground := Ground.guard }], guard := some (1, false) }
abbrev qWnW_12 : Oper := { dst := some 46, op := Op.binOp BinOp.eql 9 (Operand.tmp 40) (Operand.tmp 45) 9, type := 4, pos := "outright.go:41", after := #[{ on := 6, ground := Ground.data }, { on := 11, ground := Ground.data }, { on := 1, ground := Ground.guard }], guard := some (1, false) }
abbrev qWnW_13 : Oper := { dst := some 47, op := Op.move (Operand.tmp 46), type := 4, pos := "outright.go:41", after := #[{ on := 12, ground := Ground.data }, { on := 1, ground := Ground.chain }, { on := 1, ground := Ground.guard }], guard := some (1, false) }
abbrev qWnW_14 : Oper := { dst := some 48, op := Op.fieldAddr 25 (Operand.tmp 2) 3, type := 0, pos := "outright.go:41", after := #[{ on := 13, ground := Ground.guard }], guard := some (13, true) }
abbrev qWnW_15 : Oper := { dst := some 49, op := Op.load 23 (Operand.tmp 48), type := 23, pos := "outright.go:41", after := #[{ on := 14, ground := Ground.data }, { on := 13, ground := Ground.guard }], guard := some (13, true) }
abbrev qWnW_16 : Oper := { dst := some 50, op := Op.move (Operand.tmp 5), type := 3, pos := "outright.go:41", after := #[{ on := 13, ground := Ground.guard }], guard := some (13, true) }
abbrev qWnW_17 : Oper := { dst := some 51, op := Op.indexAddr 23 (Operand.tmp 49) (Operand.tmp 50), type := 0, pos := "outright.go:41", after := #[{ on := 15, ground := Ground.data }, { on := 16, ground := Ground.data }, { on := 13, ground := Ground.guard }], guard := some (13, true) }
abbrev qWnW_18 : Oper := { dst := some 52, op := Op.load 25 (Operand.tmp 51), type := 25, pos := "outright.go:41", after := #[{ on := 17, ground := Ground.data }, { on := 13, ground := Ground.guard }], guard := some (13, true) }
abbrev qWnW_19 : Oper := { dst := some 53, op := Op.fieldAddr 25 (Operand.tmp 3) 3, type := 0, pos := "outright.go:41", after := #[{ on := 13, ground := Ground.guard }], guard := some (13, true) }
abbrev qWnW_20 : Oper := { dst := some 54, op := Op.load 23 (Operand.tmp 53), type := 23, pos := "outright.go:41", after := #[{ on := 19, ground := Ground.data }, { on := 13, ground := Ground.guard }], guard := some (13, true) }
abbrev qWnW_21 : Oper := { dst := some 55, op := Op.move (Operand.tmp 7), type := 3, pos := "outright.go:41", after := #[{ on := 13, ground := Ground.guard }], guard := some (13, true) }
abbrev qWnW_22 : Oper := { dst := some 56, op := Op.indexAddr 23 (Operand.tmp 54) (Operand.tmp 55), type := 0, pos := "outright.go:41", after := #[{ on := 20, ground := Ground.data }, { on := 21, ground := Ground.data }, { on := 13, ground := Ground.guard }], guard := some (13, true) }
abbrev qWnW_23 : Oper := { dst := some 57, op := Op.load 25 (Operand.tmp 56), type := 25, pos := "outright.go:41", after := #[{ on := 22, ground := Ground.data }, { on := 13, ground := Ground.guard }], guard := some (13, true) }
abbrev qWnW_24 : Oper := { dst := some 58, op := Op.call { callee := Callee.value (Operand.func 12), args := #[Operand.tmp 52, Operand.tmp 57], argTypes := #[25, 25] }, type := 4, pos := "outright.go:41", after := #[{ on := 18, ground := Ground.data }, { on := 23, ground := Ground.data }, { on := 13, ground := Ground.chain }, { on := 13, ground := Ground.guard }], guard := some (13, true) }
abbrev qWnW_25 : Oper := { dst := some 59, op := Op.pick (Operand.tmp 47) (Operand.tmp 58) (Operand.const (Value.bool false)), type := 4, pos := "outright.go:41", after := #[{ on := 13, ground := Ground.data }, { on := 24, ground := Ground.data }, { on := 1, ground := Ground.guard }], guard := some (1, false) }
abbrev qWnW_26 : Oper := { dst := some 60, op := Op.pick (Operand.tmp 35) (Operand.const (Value.bool true)) (Operand.tmp 59), type := 4, pos := "outright.go:41", after := #[{ on := 1, ground := Ground.data }, { on := 25, ground := Ground.data }], guard := none }
abbrev qWnW_27 : Oper := { dst := some 6, op := Op.assign (Operand.tmp 60), type := 4, pos := "outright.go:41", after := #[{ on := 26, ground := Ground.data }, { on := 24, ground := Ground.chain }, { on := 0, ground := Ground.phase }, { on := 1, ground := Ground.phase }, { on := 2, ground := Ground.phase }, { on := 3, ground := Ground.phase }, { on := 4, ground := Ground.phase }, { on := 5, ground := Ground.phase }, { on := 6, ground := Ground.phase }, { on := 7, ground := Ground.phase }, { on := 8, ground := Ground.phase }, { on := 9, ground := Ground.phase }, { on := 10, ground := Ground.phase }, { on := 11, ground := Ground.phase }, { on := 12, ground := Ground.phase }, { on := 13, ground := Ground.phase }, { on := 14, ground := Ground.phase }, { on := 15, ground := Ground.phase }, { on := 16, ground := Ground.phase }, { on := 17, ground := Ground.phase }, { on := 18, ground := Ground.phase }, { on := 19, ground := Ground.phase }, { on := 20, ground := Ground.phase }, { on := 21, ground := Ground.phase }, { on := 22, ground := Ground.phase }, { on := 23, ground := Ground.phase }, { on := 24, ground := Ground.phase }, { on := 25, ground := Ground.phase }, { on := 26, ground := Ground.phase }], guard := none }

theorem ne_of' {a b : Int} {c : Bool} (h : (a == b) = c) : (a != b) = !c := by unfold bne; rw [h]
theorem well_len' {n : Nd} (h : n.well = true) : n.kids.length = n.names.length ∧ namesL n.names = true ∧ ∀ x ∈ n.kids, x.well = true := by
  cases n with
  | mk kind text names kids =>
    show kids.length = names.length ∧ namesL names = true ∧ ∀ x ∈ kids, x.well = true
    rw [Nd.well] at h
    by_cases k1 : kind = 1
    · rw [if_pos k1] at h
      simp at h
      rw [h.1.2, h.2]
      exact ⟨rfl, rfl, fun x hx => by cases hx⟩
    · rw [if_neg k1] at h
      by_cases k3 : kind = 3
      · rw [if_pos k3] at h
        simp at h
        rw [h.1.2, h.2]
        exact ⟨rfl, rfl, fun x hx => by cases hx⟩
      · rw [if_neg k3] at h
        by_cases k2 : kind = 2
        · rw [if_pos k2, Bool.and_eq_true, Bool.and_eq_true, Bool.and_eq_true, Nd.wells_all] at h
          exact ⟨of_decide_eq_true h.1.2, h.1.1.2, fun x hx => List.all_eq_true.1 h.2 x hx⟩
        · rw [if_neg k2] at h
          cases h
theorem any_take {α : Type} {f : α → Bool} {l : List α} {k : Nat} (h : k < l.length) : (l.take (k + 1)).any f = ((l.take k).any f || f l[k]) := by
  rw [List.take_succ_eq_append_getElem h, List.any_append]
  simp
theorem zip_at {l : List ByteArray} {r : List Nd} {k : Nat} (h1 : k < l.length) (h2 : k < r.length) : (l.zip r)[k]'(by rw [List.length_zip]; omega) = (l.getD k ByteArray.empty, r[k]) := by
  rw [List.getElem_zip, List.getD_eq_getElem?_getD, List.getElem?_eq_getElem h1]
  rfl

set_option maxRecDepth 100000 in
set_option maxHeartbeats 8000000 in
theorem within_any {W : World} {cs : List Value} {x : Nd} (h : NodeR W cs x) : ∀ {ds : List Value} {y : Nd}, NodeR W ds y → x.well = true → y.well = true → ∀ w, Below W.heap.size W w →
    Calls Tryz.prog 12 #[.agg cs.toArray, .agg ds.toArray] w fun e w' => e = .returned (.bool (withinD x y)) ∧ Below w.heap.size w w' := by
  induction h with
  | mk kind text names kids p q cp d D h1 h2 h3 h5 h6 h7 h8 ih =>
    intro ds y hy hxw hyw w hb
    cases hy with
    | mk kind' text' names' kids' p' q' cp' d' D' g1 g2 g3 g5 g6 g7 g8 =>
    obtain ⟨hl1, _, hl3⟩ := well_len' hxw
    obtain ⟨hm1, _, hm3⟩ := well_len' hyw
    replace hl1 : kids.length = names.length := hl1
    replace hl3 : ∀ x ∈ kids, x.well = true := hl3
    replace hm1 : kids'.length = names'.length := hm1
    replace hm3 : ∀ x ∈ kids', x.well = true := hm3
    have HR : Hid (withinD (.mk kind text names kids) (.mk kind' text' names' kids') = (decide (kind.toNat = kind'.toNat) && decide (text = text') && withinsD names kids (.mk kind' text' names' kids'))) := Lib.hid (by
      rw [withinD]
      congr 2
      exact decide_eq_decide.2 UInt8.toNat_inj.symm)
    obtain ⟨bt, ht, hT⟩ := text_ways text text'
    rw [ht] at HR
    obtain ⟨bk, hbk, hbk'⟩ := eq_ways kind.toNat kind'.toNat
    rw [hbk'] at HR
    by_cases hall : (bk && bt) = false
    · have HF : Hid (withinD (.mk kind text names kids) (.mk kind' text' names' kids') = false) := Lib.hid (by rw [HR.out, hall]; rfl)
      clear ih h8 g8 h7 g7 h3 g3 hb h1 h2 h5 h6 g1 g2 g5 g6 hbk' HR hl1 hl3 hm1 hm3 hxw hyw ht
      generalize withinD (.mk kind text names kids) (.mk kind' text' names' kids') = R at *
      generalize kind.toNat = k1 at *
      generalize kind'.toNat = k2 at *
      have nk := ne_of' hbk
      clear hbk
      cases bk
      · go_enter Tryz.func12, Tryz.ntmps12
        go_wp2_with fail
        go_ret
        exact ⟨ret_bool HF.out.symm, box2_self (Below.refl _ _)⟩
      · cases bt
        · go_enter Tryz.func12, Tryz.ntmps12
          go_wp2_with fail
          go_ret
          exact ⟨ret_bool HF.out.symm, box2_self (Below.refl _ _)⟩
        · cases hall
    · obtain ⟨rfl, rfl⟩ : bk = true ∧ bt = true := by
        revert hall
        cases bk <;> cases bt <;> simp
      clear hall
      have hkk : kind.toNat = kind'.toNat := of_decide_eq_true hbk'
      have htt : text = text' := of_decide_eq_true ht
      subst htt
      rw [← hkk]
      have IH := Lib.hid ih
      have G8 := Lib.hid g8
      have HRK := Lib.hid h7
      have GRK := Lib.hid g7
      have HS := Lib.hid h3
      have GS := Lib.hid g3
      have HW := Lib.hid hb
      have HXW := Lib.hid hl3
      have HYW := Lib.hid hm3
      have HKN := Lib.hid hl1
      have GKN := Lib.hid hm1
      have hnm : names.length ≤ 9223372036854775807 := by unfold maxLen at h2; omega
      have hmm : names'.length ≤ 9223372036854775807 := by unfold maxLen at g2; omega
      rw [hl1] at HRK ⊢
      rw [hm1] at GRK ⊢
      clear ih g8 h8 h7 g7 h3 g3 hb h1 h2 h5 h6 g1 g2 g5 g6 hbk hbk' ht hT hkk hl1 hl3 hm1 hm3 hxw hyw
      simp only [Bool.true_and] at HR
      generalize hY : Nd.mk kind' text names' kids' = Y at *
      have HZ : Hid (Y.names.zip Y.kids = names'.zip kids') := Lib.hid (by rw [← hY]; rfl)
      generalize withinD (.mk kind text names kids) Y = R at *
      clear hY
      generalize hwn : names.length = wn at *
      generalize hwm : names'.length = wm at *
      generalize kind.toNat = k1 at *
      have HWN := Lib.hid hwn
      have HWM := Lib.hid hwm
      clear hwn hwm
      have hk1 : ((k1 : Int) != (k1 : Int)) = false := bne_self_eq_false _
      have htx : (text.toList != text.toList) = false := bne_self_eq_false _
      go_enter Tryz.func12, Tryz.ntmps12
      go_wp2_with fail
      go_loopw [5] (fun iv wr => ∃ i : Nat, i ≤ wn ∧ iv = .int .i64 i ∧ Hid (∀ pr ∈ (names.zip kids).take i, anyIn pr.1 (withinD pr.2) Y = true) ∧ Hid (Below (w.heap.size + 2) ((w.alloc (.cells #[.int .u8 k1, .string text, .slice p wn cp, .slice q wn d] 25)).alloc (.cells #[.int .u8 k1, .string text, .slice p' wm cp', .slice q' wm d'] 25)) wr)) (fun iv _ => wn - (intOf iv).toNat)
      case atStart => exact ⟨0, Nat.zero_le _, rfl, Lib.hid (fun pr h => by simp at h), Lib.hid (Below.refl _ _)⟩
      case round =>
        obtain ⟨i, hi, rfl, HT, HB⟩ := hrel
        by_cases hlt : i < wn
        · have HOLD : Hid (Below W.heap.size W wr) := Lib.hid (HW.out.trans ((box2_self HB.out).mono HW.out.size))
          have hin : i < names.length := by rw [HWN.out]; exact hlt
          have hik : i < kids.length := by rw [HKN.out]; exact hlt
          have HZI : Hid ((names.zip kids)[i]'(by rw [List.length_zip]; omega) = (names.getD i ByteArray.empty, kids[i])) := Lib.hid (zip_at hin hik)
          have HTS : Hid ((names.zip kids).take (i + 1) = (names.zip kids).take i ++ [(names.getD i ByteArray.empty, kids[i])]) := Lib.hid (by rw [← HZI.out]; exact List.take_succ_eq_append_getElem (by rw [List.length_zip]; omega))
          obtain ⟨b, o, hp, n0'⟩ := name_cell HS.out (Below.refl _ _) hin
          obtain ⟨bq, oq, v0, v1, v2, v3, hq, hD, _, _, _, _⟩ := kid_at HRK.out (Below.refl _ _) hlt
          subst hp
          subst hq
          have HN0 : Hid (∀ wx, Below W.heap.size W wx → wx.cell? ⟨b, o + i, none⟩ = some (.string (names.getD i ByteArray.empty))) := Lib.hid fun wx hb => cell_grown hb n0'
          have hkw : kids[i].well = true := HXW.out _ (List.getElem_mem hik)
          have HKW := Lib.hid hkw
          have HIH : Hid (∀ (ds : List Value) (y : Nd), NodeR W ds y → kids[i].well = true → y.well = true → ∀ w, Below W.heap.size W w → Calls Tryz.prog 12 #[.agg (D i).toArray, .agg ds.toArray] w fun e w' => e = .returned (.bool (withinD kids[i] y)) ∧ Below w.heap.size w w') := Lib.hid (fun ds y h1 h2 h3 w hb => IH.out i kids[i] (List.getElem?_eq_getElem hik) h1 h2 h3 w hb)
          rw [hD] at HIH
          have HKA : Hid (∀ wx, Below W.heap.size W wx → wx.cell? ⟨bq, oq + i * 4, none⟩ = some v0 ∧ wx.cell? ⟨bq, oq + i * 4 + 1, none⟩ = some v1 ∧ wx.cell? ⟨bq, oq + i * 4 + 2, none⟩ = some v2 ∧ wx.cell? ⟨bq, oq + i * 4 + 3, none⟩ = some v3) := Lib.hid fun wx hb => by
            obtain ⟨b1, o1, u0, u1, u2, u3, he, hD1, q0, q1, q2, q3⟩ := kid_at HRK.out hb hlt
            obtain ⟨rfl, rfl⟩ : bq = b1 ∧ oq = o1 := by simpa using he
            rw [hD] at hD1
            obtain ⟨rfl, rfl, rfl, rfl⟩ : v0 = u0 ∧ v1 = u1 ∧ v2 = u2 ∧ v3 = u3 := by simpa using hD1
            exact ⟨q0, q1, q2, q3⟩
          clear n0' hkw hD
          generalize names.getD i ByteArray.empty = x at *
          generalize kids[i] = kd at *
          have c2 : wr.cell? ⟨w.heap.size, 2, none⟩ = some (.slice (some ⟨b, o, none⟩) wn cp) := box2_fst HB.out 2 rfl
          go_wp2_with fail
          clear c2 HOLD
          have HB0 := HB
          clear HB
          go_loopw [6, 7] (fun fv kv wr => ∃ k : Nat, k ≤ wm ∧ kv = .int .i64 k ∧ fv = .bool (((names'.zip kids').take k).any fun pr => decide (x = pr.1) && withinD kd pr.2) ∧ Hid (Below (w.heap.size + 2) ((w.alloc (.cells #[.int .u8 k1, .string text, .slice (some ⟨b, o, none⟩) wn cp, .slice (some ⟨bq, oq, none⟩) wn d] 25)).alloc (.cells #[.int .u8 k1, .string text, .slice p' wm cp', .slice q' wm d'] 25)) wr)) (fun _ kv _ => wm - (intOf kv).toNat)
          case atStart => exact ⟨0, Nat.zero_le _, rfl, rfl, HB0⟩
          case round =>
            clear HB0
            obtain ⟨k, hk, rfl, rfl, HB⟩ := hrel
            by_cases hkt : k < wm
            · have HOLD : Hid (Below W.heap.size W wr) := Lib.hid (HW.out.trans ((box2_self HB.out).mono HW.out.size))
              have hkn : k < names'.length := by rw [HWM.out]; exact hkt
              have hkk : k < kids'.length := by rw [GKN.out]; exact hkt
              have HFB : Hid (((names'.zip kids').take (k + 1)).any (fun pr => decide (x = pr.1) && withinD kd pr.2) = (((names'.zip kids').take k).any (fun pr => decide (x = pr.1) && withinD kd pr.2) || (decide (x = names'.getD k ByteArray.empty) && withinD kd kids'[k]))) := Lib.hid (by
                rw [any_take (by rw [List.length_zip]; omega), zip_at hkn hkk])
              obtain ⟨b', o', rfl, m0⟩ := name_cell GS.out HOLD.out hkn
              obtain ⟨bq', oq', y0, y1, y2, y3, rfl, hD', f0, f1, f2, f3⟩ := kid_at GRK.out HOLD.out hkt
              have n0 := HN0.out wr HOLD.out
              obtain ⟨e0, e1, e2, e3⟩ := HKA.out wr HOLD.out
              have c2 : wr.cell? ⟨w.heap.size, 2, none⟩ = some (.slice (some ⟨b, o, none⟩) wn cp) := box2_fst HB.out 2 rfl
              have d2 : wr.cell? ⟨w.heap.size + 1, 2, none⟩ = some (.slice (some ⟨b', o', none⟩) wm cp') := box2_snd HB.out 2 rfl
              have c3 : wr.cell? ⟨w.heap.size, 3, none⟩ = some (.slice (some ⟨bq, oq, none⟩) wn d) := box2_fst HB.out 3 rfl
              have d3 : wr.cell? ⟨w.heap.size + 1, 3, none⟩ = some (.slice (some ⟨bq', oq', none⟩) wm d') := box2_snd HB.out 3 rfl
              have HC : Hid (∀ wx, Below wr.heap.size wr wx → Calls Tryz.prog 12 #[.agg #[v0, v1, v2, v3], .agg #[y0, y1, y2, y3]] wx fun e w' => e = .returned (.bool (withinD kd kids'[k])) ∧ Below wx.heap.size wx w') := Lib.hid fun wx hb => by
                have := HIH.out _ _ (G8.out k _ (List.getElem?_eq_getElem hkk)) HKW.out (HYW.out _ (List.getElem_mem hkk)) wx (HOLD.out.trans (hb.mono HOLD.out.size))
                rwa [hD'] at this
              clear hD'
              generalize withinD kd kids'[k] = sp at *
              generalize names'.getD k ByteArray.empty = y at *
              generalize ((names'.zip kids').take k).any (fun pr => decide (x = pr.1) && withinD kd pr.2) = fb at *
              cases fb with
              | true =>
                (
                  rw [Bool.true_or] at HFB
                  go_upto_region 10 with fail
                  refine wp_region_held_drew (S := (fun wx => Below wr.heap.size wr wx)) (by kernel_rfl) (Below.refl _ _).drew (fun hHeld => ?_)
                  refine tk 0 qWnW_0 ?_
                  try simp only [Act.put, List.setIfInBounds_toArray, List.set_cons_zero, List.set_cons_succ]
                  refine tk 1 qWnW_1 ?_
                  try simp only [Act.put, List.setIfInBounds_toArray, List.set_cons_zero, List.set_cons_succ]
                  refine tkn 2 qWnW_2 ?_
                  try simp only [Act.put, List.setIfInBounds_toArray, List.set_cons_zero, List.set_cons_succ]
                  refine tkn 3 qWnW_3 ?_
                  try simp only [Act.put, List.setIfInBounds_toArray, List.set_cons_zero, List.set_cons_succ]
                  refine tkn 4 qWnW_4 ?_
                  try simp only [Act.put, List.setIfInBounds_toArray, List.set_cons_zero, List.set_cons_succ]
                  refine tkn 5 qWnW_5 ?_
                  try simp only [Act.put, List.setIfInBounds_toArray, List.set_cons_zero, List.set_cons_succ]
                  refine tkn 6 qWnW_6 ?_
                  try simp only [Act.put, List.setIfInBounds_toArray, List.set_cons_zero, List.set_cons_succ]
                  refine tkn 7 qWnW_7 ?_
                  try simp only [Act.put, List.setIfInBounds_toArray, List.set_cons_zero, List.set_cons_succ]
                  refine tkn 8 qWnW_8 ?_
                  try simp only [Act.put, List.setIfInBounds_toArray, List.set_cons_zero, List.set_cons_succ]
                  refine tkn 9 qWnW_9 ?_
                  try simp only [Act.put, List.setIfInBounds_toArray, List.set_cons_zero, List.set_cons_succ]
                  refine tkn 10 qWnW_10 ?_
                  try simp only [Act.put, List.setIfInBounds_toArray, List.set_cons_zero, List.set_cons_succ]
                  refine tkn 11 qWnW_11 ?_
                  try simp only [Act.put, List.setIfInBounds_toArray, List.set_cons_zero, List.set_cons_succ]
                  refine tkn 12 qWnW_12 ?_
                  try simp only [Act.put, List.setIfInBounds_toArray, List.set_cons_zero, List.set_cons_succ]
                  refine tkn 13 qWnW_13 ?_
                  try simp only [Act.put, List.setIfInBounds_toArray, List.set_cons_zero, List.set_cons_succ]
                  refine tkn 14 qWnW_14 ?_
                  try simp only [Act.put, List.setIfInBounds_toArray, List.set_cons_zero, List.set_cons_succ]
                  refine tkn 15 qWnW_15 ?_
                  try simp only [Act.put, List.setIfInBounds_toArray, List.set_cons_zero, List.set_cons_succ]
                  refine tkn 16 qWnW_16 ?_
                  try simp only [Act.put, List.setIfInBounds_toArray, List.set_cons_zero, List.set_cons_succ]
                  refine tkn 17 qWnW_17 ?_
                  try simp only [Act.put, List.setIfInBounds_toArray, List.set_cons_zero, List.set_cons_succ]
                  refine tkn 18 qWnW_18 ?_
                  try simp only [Act.put, List.setIfInBounds_toArray, List.set_cons_zero, List.set_cons_succ]
                  refine tkn 19 qWnW_19 ?_
                  try simp only [Act.put, List.setIfInBounds_toArray, List.set_cons_zero, List.set_cons_succ]
                  refine tkn 20 qWnW_20 ?_
                  try simp only [Act.put, List.setIfInBounds_toArray, List.set_cons_zero, List.set_cons_succ]
                  refine tkn 21 qWnW_21 ?_
                  try simp only [Act.put, List.setIfInBounds_toArray, List.set_cons_zero, List.set_cons_succ]
                  refine tkn 22 qWnW_22 ?_
                  try simp only [Act.put, List.setIfInBounds_toArray, List.set_cons_zero, List.set_cons_succ]
                  refine tkn 23 qWnW_23 ?_
                  try simp only [Act.put, List.setIfInBounds_toArray, List.set_cons_zero, List.set_cons_succ]
                  refine tkn 24 qWnW_24 ?_
                  try simp only [Act.put, List.setIfInBounds_toArray, List.set_cons_zero, List.set_cons_succ]
                  refine tkn 25 qWnW_25 ?_
                  try simp only [Act.put, List.setIfInBounds_toArray, List.set_cons_zero, List.set_cons_succ]
                  refine tk 26 qWnW_26 ?_
                  try simp only [Act.put, List.setIfInBounds_toArray, List.set_cons_zero, List.set_cons_succ]
                  refine tk 27 qWnW_27 ?_
                  try simp only [Act.put, List.setIfInBounds_toArray, List.set_cons_zero, List.set_cons_succ]
                  refine wpAnyH_done (by kernel_rfl) ?_ _
                  have HB2 := Lib.hid HB.out.drew
                  go_wp2_with fail
                  go_roundw
                  case rel => exact ⟨k + 1, by omega, by go_num, by rw [HFB.out], HB2⟩
                  case measure => simp [intOf]; omega)
              | false =>
                rw [Bool.false_or] at HFB
                by_cases hxy : x = y
                · subst hxy
                  have hxx : (x.toList == x.toList) = true := by simp
                  rw [show decide (x = x) = true from decide_eq_true rfl, Bool.true_and] at HFB
                  (
                  have HKEEP : Hid (∀ wx w2, (fun wx => Below wr.heap.size wr wx ∧ wx.cell? ⟨w.heap.size, 2, none⟩ = some (.slice (some ⟨b, o, none⟩) wn cp) ∧ wx.cell? ⟨w.heap.size + 1, 2, none⟩ = some (.slice (some ⟨b', o', none⟩) wm cp') ∧ wx.cell? ⟨b, o + i, none⟩ = some (.string x) ∧ wx.cell? ⟨b', o' + k, none⟩ = some (.string x) ∧ wx.cell? ⟨w.heap.size, 3, none⟩ = some (.slice (some ⟨bq, oq, none⟩) wn d) ∧ wx.cell? ⟨w.heap.size + 1, 3, none⟩ = some (.slice (some ⟨bq', oq', none⟩) wm d') ∧ wx.cell? ⟨bq, oq + i * 4, none⟩ = some v0 ∧ wx.cell? ⟨bq, oq + i * 4 + 1, none⟩ = some v1 ∧ wx.cell? ⟨bq, oq + i * 4 + 2, none⟩ = some v2 ∧ wx.cell? ⟨bq, oq + i * 4 + 3, none⟩ = some v3 ∧ wx.cell? ⟨bq', oq' + k * 4, none⟩ = some y0 ∧ wx.cell? ⟨bq', oq' + k * 4 + 1, none⟩ = some y1 ∧ wx.cell? ⟨bq', oq' + k * 4 + 2, none⟩ = some y2 ∧ wx.cell? ⟨bq', oq' + k * 4 + 3, none⟩ = some y3) wx → Below wx.heap.size wx w2 → (fun wx => Below wr.heap.size wr wx ∧ wx.cell? ⟨w.heap.size, 2, none⟩ = some (.slice (some ⟨b, o, none⟩) wn cp) ∧ wx.cell? ⟨w.heap.size + 1, 2, none⟩ = some (.slice (some ⟨b', o', none⟩) wm cp') ∧ wx.cell? ⟨b, o + i, none⟩ = some (.string x) ∧ wx.cell? ⟨b', o' + k, none⟩ = some (.string x) ∧ wx.cell? ⟨w.heap.size, 3, none⟩ = some (.slice (some ⟨bq, oq, none⟩) wn d) ∧ wx.cell? ⟨w.heap.size + 1, 3, none⟩ = some (.slice (some ⟨bq', oq', none⟩) wm d') ∧ wx.cell? ⟨bq, oq + i * 4, none⟩ = some v0 ∧ wx.cell? ⟨bq, oq + i * 4 + 1, none⟩ = some v1 ∧ wx.cell? ⟨bq, oq + i * 4 + 2, none⟩ = some v2 ∧ wx.cell? ⟨bq, oq + i * 4 + 3, none⟩ = some v3 ∧ wx.cell? ⟨bq', oq' + k * 4, none⟩ = some y0 ∧ wx.cell? ⟨bq', oq' + k * 4 + 1, none⟩ = some y1 ∧ wx.cell? ⟨bq', oq' + k * 4 + 2, none⟩ = some y2 ∧ wx.cell? ⟨bq', oq' + k * 4 + 3, none⟩ = some y3) w2) := Lib.hid fun wx w2 hs hb => by
                    obtain ⟨s0, s1, s2, s3, s4, s5, s6, s7, s8, s9, s10, s11, s12, s13, s14⟩ := hs
                    exact ⟨s0.trans (hb.mono s0.size), cell_kept hb s1, cell_kept hb s2, cell_kept hb s3, cell_kept hb s4, cell_kept hb s5, cell_kept hb s6, cell_kept hb s7, cell_kept hb s8, cell_kept hb s9, cell_kept hb s10, cell_kept hb s11, cell_kept hb s12, cell_kept hb s13, cell_kept hb s14⟩
                  go_upto_region 10 with fail
                  refine wp_region_held_drew (S := (fun wx => Below wr.heap.size wr wx ∧ wx.cell? ⟨w.heap.size, 2, none⟩ = some (.slice (some ⟨b, o, none⟩) wn cp) ∧ wx.cell? ⟨w.heap.size + 1, 2, none⟩ = some (.slice (some ⟨b', o', none⟩) wm cp') ∧ wx.cell? ⟨b, o + i, none⟩ = some (.string x) ∧ wx.cell? ⟨b', o' + k, none⟩ = some (.string x) ∧ wx.cell? ⟨w.heap.size, 3, none⟩ = some (.slice (some ⟨bq, oq, none⟩) wn d) ∧ wx.cell? ⟨w.heap.size + 1, 3, none⟩ = some (.slice (some ⟨bq', oq', none⟩) wm d') ∧ wx.cell? ⟨bq, oq + i * 4, none⟩ = some v0 ∧ wx.cell? ⟨bq, oq + i * 4 + 1, none⟩ = some v1 ∧ wx.cell? ⟨bq, oq + i * 4 + 2, none⟩ = some v2 ∧ wx.cell? ⟨bq, oq + i * 4 + 3, none⟩ = some v3 ∧ wx.cell? ⟨bq', oq' + k * 4, none⟩ = some y0 ∧ wx.cell? ⟨bq', oq' + k * 4 + 1, none⟩ = some y1 ∧ wx.cell? ⟨bq', oq' + k * 4 + 2, none⟩ = some y2 ∧ wx.cell? ⟨bq', oq' + k * 4 + 3, none⟩ = some y3)) (by kernel_rfl) ⟨(Below.refl _ _).drew, c2, d2, n0, m0, c3, d3, e0, e1, e2, e3, f0, f1, f2, f3⟩ (fun hHeld => ?_)
                  refine tk 0 qWnW_0 ?_
                  try simp only [Act.put, List.setIfInBounds_toArray, List.set_cons_zero, List.set_cons_succ]
                  refine tk 1 qWnW_1 ?_
                  try simp only [Act.put, List.setIfInBounds_toArray, List.set_cons_zero, List.set_cons_succ]
                  refine tk 2 qWnW_2 ?_
                  try simp only [Act.put, List.setIfInBounds_toArray, List.set_cons_zero, List.set_cons_succ]
                  refine tk 3 qWnW_3 ?_
                  try simp only [Act.put, List.setIfInBounds_toArray, List.set_cons_zero, List.set_cons_succ]
                  refine tk 4 qWnW_4 ?_
                  try simp only [Act.put, List.setIfInBounds_toArray, List.set_cons_zero, List.set_cons_succ]
                  refine tk 5 qWnW_5 ?_
                  try simp only [Act.put, List.setIfInBounds_toArray, List.set_cons_zero, List.set_cons_succ]
                  refine tk 6 qWnW_6 ?_
                  try simp only [Act.put, List.setIfInBounds_toArray, List.set_cons_zero, List.set_cons_succ]
                  refine tk 7 qWnW_7 ?_
                  try simp only [Act.put, List.setIfInBounds_toArray, List.set_cons_zero, List.set_cons_succ]
                  refine tk 8 qWnW_8 ?_
                  try simp only [Act.put, List.setIfInBounds_toArray, List.set_cons_zero, List.set_cons_succ]
                  refine tk 9 qWnW_9 ?_
                  try simp only [Act.put, List.setIfInBounds_toArray, List.set_cons_zero, List.set_cons_succ]
                  refine tk 10 qWnW_10 ?_
                  try simp only [Act.put, List.setIfInBounds_toArray, List.set_cons_zero, List.set_cons_succ]
                  refine tk 11 qWnW_11 ?_
                  try simp only [Act.put, List.setIfInBounds_toArray, List.set_cons_zero, List.set_cons_succ]
                  refine tk 12 qWnW_12 ?_
                  try simp only [Act.put, List.setIfInBounds_toArray, List.set_cons_zero, List.set_cons_succ]
                  refine tk 13 qWnW_13 ?_
                  try simp only [Act.put, List.setIfInBounds_toArray, List.set_cons_zero, List.set_cons_succ]
                  refine tk 14 qWnW_14 ?_
                  try simp only [Act.put, List.setIfInBounds_toArray, List.set_cons_zero, List.set_cons_succ]
                  refine tk 15 qWnW_15 ?_
                  try simp only [Act.put, List.setIfInBounds_toArray, List.set_cons_zero, List.set_cons_succ]
                  refine tk 16 qWnW_16 ?_
                  try simp only [Act.put, List.setIfInBounds_toArray, List.set_cons_zero, List.set_cons_succ]
                  refine tk 17 qWnW_17 ?_
                  try simp only [Act.put, List.setIfInBounds_toArray, List.set_cons_zero, List.set_cons_succ]
                  refine tk 18 qWnW_18 ?_
                  try simp only [Act.put, List.setIfInBounds_toArray, List.set_cons_zero, List.set_cons_succ]
                  refine tk 19 qWnW_19 ?_
                  try simp only [Act.put, List.setIfInBounds_toArray, List.set_cons_zero, List.set_cons_succ]
                  refine tk 20 qWnW_20 ?_
                  try simp only [Act.put, List.setIfInBounds_toArray, List.set_cons_zero, List.set_cons_succ]
                  refine tk 21 qWnW_21 ?_
                  try simp only [Act.put, List.setIfInBounds_toArray, List.set_cons_zero, List.set_cons_succ]
                  refine tk 22 qWnW_22 ?_
                  try simp only [Act.put, List.setIfInBounds_toArray, List.set_cons_zero, List.set_cons_succ]
                  refine tk 23 qWnW_23 ?_
                  try simp only [Act.put, List.setIfInBounds_toArray, List.set_cons_zero, List.set_cons_succ]
                  refine wpAnyH_ready (rs := [24]) (by kernel_rfl) (by simp) ?_
                  refine AllReadyH.cons (o := qWnW_24) rfl (fun K hK => ?_) AllReadyH.nil
                  go_simp
                  (go_at_call 12; refine (HC.out _ (And.left (by assumption))).mono ?_; rintro e w2 ⟨rfl, hb2⟩; have hS2 := HKEEP.out _ _ (by assumption) hb2; clear hb2)
                  go_wp2_with fail
                  refine hK.out _ _ (by first | assumption | assumption) (fun hHeld => ?_)
                  clear hK K
                  try simp only [Act.put, List.setIfInBounds_toArray, List.set_cons_zero, List.set_cons_succ]
                  refine tk 25 qWnW_25 ?_
                  try simp only [Act.put, List.setIfInBounds_toArray, List.set_cons_zero, List.set_cons_succ]
                  refine tk 26 qWnW_26 ?_
                  try simp only [Act.put, List.setIfInBounds_toArray, List.set_cons_zero, List.set_cons_succ]
                  refine tk 27 qWnW_27 ?_
                  try simp only [Act.put, List.setIfInBounds_toArray, List.set_cons_zero, List.set_cons_succ]
                  refine wpAnyH_done (by kernel_rfl) ?_ _
                  have hS3 : Below wr.heap.size wr _ := And.left (by assumption)
                  have HB2 := Lib.hid (HB.out.trans (hS3.mono (by have := HB.out.size; simp at this; omega)))
                  clear hS3
                  go_wp2_with fail
                  go_roundw
                  case rel => exact ⟨k + 1, by omega, by go_num, by rw [HFB.out], HB2⟩
                  case measure => simp [intOf]; omega)
                · have hxy' : (x.toList == y.toList) = false := (Lib.bytes_beq_false_iff _ _).2 hxy
                  rw [decide_eq_false hxy, Bool.false_and] at HFB
                  clear hxy
                  (
                  go_upto_region 10 with fail
                  refine wp_region_held_drew (S := (fun wx => Below wr.heap.size wr wx ∧ wx.cell? ⟨w.heap.size, 2, none⟩ = some (.slice (some ⟨b, o, none⟩) wn cp) ∧ wx.cell? ⟨w.heap.size + 1, 2, none⟩ = some (.slice (some ⟨b', o', none⟩) wm cp') ∧ wx.cell? ⟨b, o + i, none⟩ = some (.string x) ∧ wx.cell? ⟨b', o' + k, none⟩ = some (.string y) ∧ wx.cell? ⟨w.heap.size, 3, none⟩ = some (.slice (some ⟨bq, oq, none⟩) wn d) ∧ wx.cell? ⟨w.heap.size + 1, 3, none⟩ = some (.slice (some ⟨bq', oq', none⟩) wm d') ∧ wx.cell? ⟨bq, oq + i * 4, none⟩ = some v0 ∧ wx.cell? ⟨bq, oq + i * 4 + 1, none⟩ = some v1 ∧ wx.cell? ⟨bq, oq + i * 4 + 2, none⟩ = some v2 ∧ wx.cell? ⟨bq, oq + i * 4 + 3, none⟩ = some v3 ∧ wx.cell? ⟨bq', oq' + k * 4, none⟩ = some y0 ∧ wx.cell? ⟨bq', oq' + k * 4 + 1, none⟩ = some y1 ∧ wx.cell? ⟨bq', oq' + k * 4 + 2, none⟩ = some y2 ∧ wx.cell? ⟨bq', oq' + k * 4 + 3, none⟩ = some y3)) (by kernel_rfl) ⟨(Below.refl _ _).drew, c2, d2, n0, m0, c3, d3, e0, e1, e2, e3, f0, f1, f2, f3⟩ (fun hHeld => ?_)
                  refine tk 0 qWnW_0 ?_
                  try simp only [Act.put, List.setIfInBounds_toArray, List.set_cons_zero, List.set_cons_succ]
                  refine tk 1 qWnW_1 ?_
                  try simp only [Act.put, List.setIfInBounds_toArray, List.set_cons_zero, List.set_cons_succ]
                  refine tk 2 qWnW_2 ?_
                  try simp only [Act.put, List.setIfInBounds_toArray, List.set_cons_zero, List.set_cons_succ]
                  refine tk 3 qWnW_3 ?_
                  try simp only [Act.put, List.setIfInBounds_toArray, List.set_cons_zero, List.set_cons_succ]
                  refine tk 4 qWnW_4 ?_
                  try simp only [Act.put, List.setIfInBounds_toArray, List.set_cons_zero, List.set_cons_succ]
                  refine tk 5 qWnW_5 ?_
                  try simp only [Act.put, List.setIfInBounds_toArray, List.set_cons_zero, List.set_cons_succ]
                  refine tk 6 qWnW_6 ?_
                  try simp only [Act.put, List.setIfInBounds_toArray, List.set_cons_zero, List.set_cons_succ]
                  refine tk 7 qWnW_7 ?_
                  try simp only [Act.put, List.setIfInBounds_toArray, List.set_cons_zero, List.set_cons_succ]
                  refine tk 8 qWnW_8 ?_
                  try simp only [Act.put, List.setIfInBounds_toArray, List.set_cons_zero, List.set_cons_succ]
                  refine tk 9 qWnW_9 ?_
                  try simp only [Act.put, List.setIfInBounds_toArray, List.set_cons_zero, List.set_cons_succ]
                  refine tk 10 qWnW_10 ?_
                  try simp only [Act.put, List.setIfInBounds_toArray, List.set_cons_zero, List.set_cons_succ]
                  refine tk 11 qWnW_11 ?_
                  try simp only [Act.put, List.setIfInBounds_toArray, List.set_cons_zero, List.set_cons_succ]
                  refine tk 12 qWnW_12 ?_
                  try simp only [Act.put, List.setIfInBounds_toArray, List.set_cons_zero, List.set_cons_succ]
                  refine tk 13 qWnW_13 ?_
                  try simp only [Act.put, List.setIfInBounds_toArray, List.set_cons_zero, List.set_cons_succ]
                  refine tkn 14 qWnW_14 ?_
                  try simp only [Act.put, List.setIfInBounds_toArray, List.set_cons_zero, List.set_cons_succ]
                  refine tkn 15 qWnW_15 ?_
                  try simp only [Act.put, List.setIfInBounds_toArray, List.set_cons_zero, List.set_cons_succ]
                  refine tkn 16 qWnW_16 ?_
                  try simp only [Act.put, List.setIfInBounds_toArray, List.set_cons_zero, List.set_cons_succ]
                  refine tkn 17 qWnW_17 ?_
                  try simp only [Act.put, List.setIfInBounds_toArray, List.set_cons_zero, List.set_cons_succ]
                  refine tkn 18 qWnW_18 ?_
                  try simp only [Act.put, List.setIfInBounds_toArray, List.set_cons_zero, List.set_cons_succ]
                  refine tkn 19 qWnW_19 ?_
                  try simp only [Act.put, List.setIfInBounds_toArray, List.set_cons_zero, List.set_cons_succ]
                  refine tkn 20 qWnW_20 ?_
                  try simp only [Act.put, List.setIfInBounds_toArray, List.set_cons_zero, List.set_cons_succ]
                  refine tkn 21 qWnW_21 ?_
                  try simp only [Act.put, List.setIfInBounds_toArray, List.set_cons_zero, List.set_cons_succ]
                  refine tkn 22 qWnW_22 ?_
                  try simp only [Act.put, List.setIfInBounds_toArray, List.set_cons_zero, List.set_cons_succ]
                  refine tkn 23 qWnW_23 ?_
                  try simp only [Act.put, List.setIfInBounds_toArray, List.set_cons_zero, List.set_cons_succ]
                  refine tkn 24 qWnW_24 ?_
                  try simp only [Act.put, List.setIfInBounds_toArray, List.set_cons_zero, List.set_cons_succ]
                  refine tk 25 qWnW_25 ?_
                  try simp only [Act.put, List.setIfInBounds_toArray, List.set_cons_zero, List.set_cons_succ]
                  refine tk 26 qWnW_26 ?_
                  try simp only [Act.put, List.setIfInBounds_toArray, List.set_cons_zero, List.set_cons_succ]
                  refine tk 27 qWnW_27 ?_
                  try simp only [Act.put, List.setIfInBounds_toArray, List.set_cons_zero, List.set_cons_succ]
                  refine wpAnyH_done (by kernel_rfl) ?_ _
                  have HB2 := Lib.hid HB.out.drew
                  go_wp2_with fail
                  go_roundw
                  case rel => exact ⟨k + 1, by omega, by go_num, by rw [HFB.out], HB2⟩
                  case measure => simp [intOf]; omega)
            · have HAN : Hid (((names'.zip kids').take k).any (fun pr => decide (x = pr.1) && withinD kd pr.2) = anyIn x (withinD kd) Y) := Lib.hid (by
                unfold anyIn
                rw [HZ.out, List.take_of_length_le (by rw [List.length_zip, HWM.out]; omega)])
              rw [HAN.out]
              clear HAN
              have HRF : Hid (anyIn x (withinD kd) Y = false → R = false) := Lib.hid fun h => by
                rw [HR.out]
                cases hs : withinsD names kids Y with
                | false => rfl
                | true =>
                  have h2 := withins_iff.1 hs _ (List.getElem_mem (l := names.zip kids) (n := i) (by rw [List.length_zip]; omega))
                  rw [HZI.out] at h2
                  rw [h2] at h
                  cases h
              have HTT : Hid (anyIn x (withinD kd) Y = true → ∀ pr ∈ (names.zip kids).take (i + 1), anyIn pr.1 (withinD pr.2) Y = true) := Lib.hid fun h pr hpr => by
                rw [HTS.out] at hpr
                rcases List.mem_append.1 hpr with hpr | hpr
                · exact HT.out pr hpr
                · obtain rfl := List.mem_singleton.1 hpr
                  exact h
              generalize anyIn x (withinD kd) Y = fb at *
              have d2 : wr.cell? ⟨w.heap.size + 1, 2, none⟩ = some (.slice p' wm cp') := box2_snd HB.out 2 rfl
              cases fb with
              | true =>
                have HT3 := Lib.hid (HTT.out rfl)
                clear HTT HRF
                go_wp2_with fail
                go_roundw
                case rel => exact ⟨i + 1, by omega, by go_num, HT3, HB⟩
                case measure => simp [intOf]; omega
              | false =>
                have HR3 := Lib.hid (HRF.out rfl)
                clear HTT HRF
                go_wp2_with fail
                go_ret
                exact ⟨ret_bool HR3.out.symm, box2_self HB.out⟩
        · have HRT : Hid (R = true) := Lib.hid (by
            rw [HR.out]
            refine withins_iff.2 fun pr hpr => HT.out pr ?_
            rwa [List.take_of_length_le (by rw [List.length_zip, HWN.out]; omega)])
          have c2 : wr.cell? ⟨w.heap.size, 2, none⟩ = some (.slice p wn cp) := box2_fst HB.out 2 rfl
          go_wp2_with fail
          go_ret
          exact ⟨ret_bool HRT.out.symm, box2_self HB.out⟩
end Go.Proofs.YtmofodaecakkfaaGreat
