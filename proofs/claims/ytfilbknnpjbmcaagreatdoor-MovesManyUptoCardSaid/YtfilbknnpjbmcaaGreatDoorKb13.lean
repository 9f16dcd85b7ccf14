/- Walks over nodes: how many there are, of the program; which are the same, of both. -/
import Derived.Test.YtfilbknnpjbmcaaGreatDoorKb12
import Derived.Test.YtfilbknnpjbmcaaGreatDoorKb02
namespace Go.Proofs.YtfilbknnpjbmcaaGreatDoor
open Go.RowKit Px Nx

theorem kid_cells {W wr : World} {q : Option Addr} {n : Nat} {D : Nat → List Value} {x : Nd} (h : Row W 4 q n D) (hb : Below W.heap.size W wr) {k : Nat} (hk : k < n) (hx : NodeR W (D k) x) :
  ∃ b o kk tx p2 n2 c2 q2 m2 d2, q = some ⟨b, o, none⟩ ∧ D k = [.int .u8 kk, .string tx, .slice p2 n2 c2, .slice q2 m2 d2] ∧ wr.cell? ⟨b, o + k * 4, none⟩ = some (.int .u8 kk) ∧ wr.cell? ⟨b, o + k * 4 + 1, none⟩ = some (.string tx) ∧ wr.cell? ⟨b, o + k * 4 + 2, none⟩ = some (.slice p2 n2 c2) ∧ wr.cell? ⟨b, o + k * 4 + 3, none⟩ = some (.slice q2 m2 d2) := by
 obtain ⟨b, o, v0, v1, v2, v3, rfl, hD, e0, e1, e2, e3⟩ := kid_at h hb hk
 obtain ⟨p2, q2, c2, d2, hc⟩ := hx.cells
 rw [hD] at hc
 obtain ⟨rfl, rfl, rfl, rfl⟩ : v0 = _ ∧ v1 = _ ∧ v2 = _ ∧ v3 = _ := by simpa using hc
 exact ⟨b, o, _, _, _, _, _, _, _, _, rfl, hD, e0, e1, e2, e3⟩

theorem box2_fst {w wr : World} {cs ds : Array Value} {t u : TypeId} (hb : Below (w.heap.size + 2) ((w.alloc (.cells cs t)).alloc (.cells ds u)) wr) (i : Nat) {v : Value} (h : cs[i]? = some v) : wr.cell? ⟨w.heap.size, i, none⟩ = some v := by
 rw [hb.cell (show w.heap.size < w.heap.size + 2 by omega)]
 rw [(Below.refl (w.heap.size + 1) (w.alloc (.cells cs t))).alloc (by simp) (.cells ds u) |>.cell (show w.heap.size < w.heap.size + 1 by omega)]
 rw [cell_of_row _ _ _ _ _ _ (heap_alloc_new w _)]
 exact h
theorem box2_snd {w wr : World} {cs ds : Array Value} {t u : TypeId} (hb : Below (w.heap.size + 2) ((w.alloc (.cells cs t)).alloc (.cells ds u)) wr) (i : Nat) {v : Value} (h : ds[i]? = some v) : wr.cell? ⟨w.heap.size + 1, i, none⟩ = some v := by
 rw [hb.cell (show w.heap.size + 1 < w.heap.size + 2 by omega)]
 rw [show w.heap.size + 1 = (w.alloc (.cells cs t)).heap.size by simp]
 rw [cell_of_row _ _ _ _ _ _ (heap_alloc_new _ _)]
 exact h
theorem box2_self {w wr : World} {o o' : Obj} (hb : Below (w.heap.size + 2) ((w.alloc o).alloc o') wr) : Below w.heap.size w wr :=
 (((Below.refl w.heap.size w).alloc (Nat.le_refl _) o).alloc (by simp) o').trans (hb.mono (by omega))
theorem byte_eq (a b : UInt8) : (a == b) = decide (a.toNat = b.toNat) := by
 rw [Bool.eq_iff_iff]
 simp [UInt8.toNat_inj]
theorem text_ways (s t : ByteArray) : ∃ b, decide (s = t) = b ∧ (s.toList == t.toList) = b := by
 by_cases h : s = t
 ·subst h; exact ⟨true, by simp, by simp⟩
 ·exact ⟨false, decide_eq_false h, (Lib.bytes_beq_false_iff _ _).2 h⟩

end Go.Proofs.YtfilbknnpjbmcaaGreatDoor
/- Walks over nodes: which are the same, of the reference. -/
namespace Go.Proofs.YtfilbknnpjbmcaaGreatDoor
open Go.RowKit Px Nx
abbrev qFtF_0 : Oper := { dst := some 44, op := Op.fieldAddr 25 (Operand.tmp 2) 2, type := 0, pos := "ref.go:64", after := #[], guard := none }
abbrev qFtF_1 : Oper := { dst := some 45, op := Op.load 22 (Operand.tmp 44), type := 22, pos := "ref.go:64", after := #[{ on := 0, ground := Ground.data }], guard := none }
abbrev qFtF_2 : Oper := { dst := some 46, op := Op.move (Operand.tmp 5), type := 3, pos := "ref.go:64", after := #[], guard := none }
abbrev qFtF_3 : Oper := { dst := some 47, op := Op.indexAddr 22 (Operand.tmp 45) (Operand.tmp 46), type := 0, pos := "ref.go:64", after := #[{ on := 1, ground := Ground.data }, { on := 2, ground := Ground.data }], guard := none }
abbrev qFtF_4 : Oper := { dst := some 48, op := Op.load 9 (Operand.tmp 47), type := 9, pos := "ref.go:64", after := #[{ on := 3, ground := Ground.data }], guard := none }
abbrev qFtF_5 : Oper := { dst := some 49, op := Op.fieldAddr 25 (Operand.tmp 3) 2, type := 0, pos := "ref.go:64", after := #[], guard := none }
abbrev qFtF_6 : Oper := { dst := some 50, op := Op.load 22 (Operand.tmp 49), type := 22, pos := "ref.go:64", after := #[{ on := 5, ground := Ground.data }], guard := none }
abbrev qFtF_7 : Oper := { dst := some 51, op := Op.move (Operand.tmp 5), type := 3, pos := "ref.go:64", after := #[], guard := none }
abbrev qFtF_8 : Oper := { dst := some 52, op := Op.indexAddr 22 (Operand.tmp 50) (Operand.tmp 51), type := 0, pos := "ref.go:64", after := #[{ on := 6, ground := Ground.data }, { on := 7, ground := Ground.data }], guard := none }
abbrev qFtF_9 : Oper := { dst := some 53, op := Op.load 9 (Operand.tmp 52), type := 9, pos := "ref.go:64", after := #[{ on := 8, ground := Ground.data }], guard := none }
abbrev qFtF_10 : Oper := { dst := some 54, op := Op.binOp BinOp.neq 9 (Operand.tmp 48) (Operand.tmp 53) 9, type := 4, pos := "ref.go:64", after := #[{ on := 4, ground := Ground.data }, { on := 9, ground := Ground.data }], guard := none }

theorem ne_of {a b : Int} {c : Bool} (h : (a == b) = c) : (a != b) = !c := by unfold bne; rw [h]
theorem names_end {l r : List ByteArray} {k : Nat} (hl : l.length = r.length) (hk : k = l.length) (h : l.take k = r.take k) : l = r := by
 subst hk
 rw [List.take_length, hl, List.take_length] at h
 exact h
theorem names_ne {l r : List ByteArray} {k : Nat} (h : l.getD k ByteArray.empty ≠ r.getD k ByteArray.empty) : l ≠ r := fun e => h (by rw [e])

set_option maxRecDepth 100000 in
set_option maxHeartbeats 4000000 in
theorem sameNd_any {W : World} {cs : List Value} {x : Nd} (h : NodeR W cs x) : ∀ {ds : List Value} {y : Nd}, NodeR W ds y → x.girth ≤ 200000000 → ∀ w, Below W.heap.size W w →
  Calls Tryz.prog 12 #[.agg cs.toArray, .agg ds.toArray] w fun e w' => e = .returned (.bool (Nd.same x y)) ∧ Below w.heap.size w w' := by
 induction h with
 | mk kind name names kids p q cp d D h1 h2 h3 h5 h6 h7 h8 ih =>
  intro ds y hy hB w hb
  cases hy with
  | mk kind' name' names' kids' p' q' cp' d' D' g1 g2 g3 g5 g6 g7 g8 =>
  have hkb : Nd.girths kids ≤ 200000000 := by unfold Nd.girth at hB; omega
  have hlen : names.length ≤ 200000000 := by
   have := namesBulk_len names
   unfold Nd.girth at hB
   omega
  have hlenk : kids.length ≤ 200000000 := by
   unfold Nd.girth at hB
   omega
  have hl' : names'.length ≤ 9223372036854775807 := by unfold maxLen at g2; omega
  have hk' : kids'.length ≤ 9223372036854775807 := by unfold maxLen at g6; omega
  have HR : Hid (Nd.same (.mk kind name names kids) (.mk kind' name' names' kids') = (decide (kind.toNat = kind'.toNat) && decide (name = name') && decide (names = names') && Nd.sames kids kids')) := Lib.hid (by
   rw [← byte_eq, Nd.same]
   congr 3)
  obtain ⟨bt, ht, hT⟩ := text_ways name name'
  rw [ht] at HR
  clear ht
  obtain ⟨bk, hbk, hbk'⟩ := eq_ways kind.toNat kind'.toNat
  rw [hbk'] at HR
  obtain ⟨bn, hbn, hbn'⟩ := eq_ways names.length names'.length
  obtain ⟨bq, hbq, hbq'⟩ := eq_ways kids.length kids'.length
  have HBN : Hid (bn = false → decide (names = names') = false) := Lib.hid fun h => decide_eq_false fun e => by
   have := of_decide_eq_false (hbn'.trans h)
   exact this (by rw [e])
  have HBQ : Hid (bq = false → Nd.sames kids kids' = false) := Lib.hid fun h => Nd.sames_len (of_decide_eq_false (hbq'.trans h))
  by_cases hall : (bk && bt && bn && bq) = false
  ·clear ih h8 g8 h7 g7 h3 g3 hb h1 h2 h5 h6 g1 g2 g5 g6 hB hkb hbk' hbn' hbq'
   have HF : Hid (Nd.same (.mk kind name names kids) (.mk kind' name' names' kids') = false) := Lib.hid (by
    rw [HR.out]
    cases bk
    ·rfl
    ·cases bt
     ·rfl
     ·cases bn
      ·rw [HBN.out rfl]; rfl
      ·cases bq
       ·rw [HBQ.out rfl, Bool.and_false]
       ·cases hall)
   generalize Nd.same (.mk kind name names kids) (.mk kind' name' names' kids') = R at *
   generalize names.length = wn at *
   generalize names'.length = wn' at *
   generalize kids.length = kn at *
   generalize kids'.length = kn' at *
   generalize kind.toNat = k1 at *
   generalize kind'.toNat = k2 at *
   have nk := ne_of hbk
   have nn := ne_of hbn
   have nq := ne_of hbq
   clear HR HBN HBQ hbk hbn hbq
   cases bk
   ·go_enter Tryz.func12, Tryz.ntmps12
    go_wp2_with fail
    go_ret
    exact ⟨ret_bool HF.out.symm, box2_self (Below.refl _ _)⟩
   ·cases bt
    ·go_enter Tryz.func12, Tryz.ntmps12
     go_wp2_with fail
     go_ret
     exact ⟨ret_bool HF.out.symm, box2_self (Below.refl _ _)⟩
    ·cases bn
     ·go_enter Tryz.func12, Tryz.ntmps12
      go_wp2_with fail
      go_ret
      exact ⟨ret_bool HF.out.symm, box2_self (Below.refl _ _)⟩
     ·cases bq
      ·go_enter Tryz.func12, Tryz.ntmps12
       go_wp2_with fail
       go_ret
       exact ⟨ret_bool HF.out.symm, box2_self (Below.refl _ _)⟩
      ·cases hall
  ·obtain ⟨rfl, rfl, rfl, rfl⟩ : bk = true ∧ bt = true ∧ bn = true ∧ bq = true := by
    revert hall
    cases bk <;> cases bt <;> cases bn <;> cases bq <;> simp
   clear hall HBN HBQ
   have hkk : kind.toNat = kind'.toNat := of_decide_eq_true hbk'
   have hnn : names.length = names'.length := of_decide_eq_true hbn'
   have hqq : kids.length = kids'.length := of_decide_eq_true hbq'
   have HLN := Lib.hid hnn
   have HLQ := Lib.hid hqq
   rw [← hnn] at hl' ⊢
   rw [← hqq] at g7 hk' ⊢
   rw [← hkk]
   clear hbn hbq hbk hbk' hbn' hbq' hkk hnn hqq
   have IH := Lib.hid ih
   have G8 := Lib.hid g8
   have HRK := Lib.hid h7
   have GRK := Lib.hid g7
   have HS := Lib.hid h3
   have GS := Lib.hid g3
   have HW := Lib.hid hb
   clear ih g8 h8 h7 g7 h3 g3 hb h1 h2 h5 h6 g1 g2 g5 g6 hB hl' hk'
   simp only [Bool.true_and] at HR
   generalize Nd.same (.mk kind name names kids) (.mk kind' name' names' kids') = R at *
   generalize hwn : names.length = wn at *
   generalize hkn : kids.length = kn at *
   generalize kind.toNat = k1 at *
   have HWN := Lib.hid hwn
   have HKN := Lib.hid hkn
   clear hwn hkn
   go_enter Tryz.func12, Tryz.ntmps12
   go_wp2_with fail
   go_loopw [5] (fun i wr => ∃ k : Nat, k ≤ wn ∧ i = .int .i64 k ∧ Hid (names.take k = names'.take k) ∧ Hid (Below (w.heap.size + 2) ((w.alloc (.cells #[.int .u8 k1, .string name, .slice p wn cp, .slice q kn d] 25)).alloc (.cells #[.int .u8 k1, .string name', .slice p' wn cp', .slice q' kn d'] 25)) wr)) (fun i _ => wn - (intOf i).toNat)
   case atStart => exact ⟨0, Nat.zero_le _, rfl, Lib.hid rfl, Lib.hid (Below.refl _ _)⟩
   case round =>
    obtain ⟨k, hk, rfl, HT, HB⟩ := hrel
    by_cases hlt : k < wn
    ·have HOLD : Hid (Below W.heap.size W wr) := Lib.hid (HW.out.trans ((box2_self HB.out).mono HW.out.size))
     obtain ⟨b, o, rfl, n0⟩ := name_cell HS.out HOLD.out (by rw [HWN.out]; exact hlt : k < names.length)
     obtain ⟨b', o', rfl, m0⟩ := name_cell GS.out HOLD.out (by rw [← HLN.out]; exact hlt : k < names'.length)
     have c2 : wr.cell? ⟨w.heap.size, 2, none⟩ = some (.slice (some ⟨b, o, none⟩) wn cp) := box2_fst HB.out 2 rfl
     have d2 : wr.cell? ⟨w.heap.size + 1, 2, none⟩ = some (.slice (some ⟨b', o', none⟩) wn cp') := box2_snd HB.out 2 rfl
     have HS1 := Lib.hid (take_snoc_d (show k < names.length by rw [HWN.out]; exact hlt))
     have HS2 := Lib.hid (take_snoc_d (show k < names'.length by rw [← HLN.out]; exact hlt))
     have HNE := Lib.hid (names_ne (l := names) (r := names') (k := k))
     generalize names.getD k ByteArray.empty = x at *
     generalize names'.getD k ByteArray.empty = y at *
     by_cases hxy : x = y
     ·subst hxy
      have hxx : (x.toList == x.toList) = true := by simp
      (
       go_wp2_with fail
       refine wp_region_held_drew (S := (fun wx => Below wr.heap.size wr wx ∧ wx.cell? ⟨w.heap.size, 2, none⟩ = some (.slice (some ⟨b, o, none⟩) wn cp) ∧ wx.cell? ⟨w.heap.size + 1, 2, none⟩ = some (.slice (some ⟨b', o', none⟩) wn cp') ∧ wx.cell? ⟨b, o + k, none⟩ = some (.string x) ∧ wx.cell? ⟨b', o' + k, none⟩ = some (.string x))) (by kernel_rfl) ⟨(Below.refl _ _).drew, c2, d2, n0, m0⟩ (fun hHeld => ?_)
       refine tk 0 qFtF_0 ?_
       try simp only [Act.put, sA, sB, sC]
       refine tk 1 qFtF_1 ?_
       try simp only [Act.put, sA, sB, sC]
       refine tk 2 qFtF_2 ?_
       try simp only [Act.put, sA, sB, sC]
       refine tk 3 qFtF_3 ?_
       try simp only [Act.put, sA, sB, sC]
       refine tk 4 qFtF_4 ?_
       try simp only [Act.put, sA, sB, sC]
       refine tk 5 qFtF_5 ?_
       try simp only [Act.put, sA, sB, sC]
       refine tk 6 qFtF_6 ?_
       try simp only [Act.put, sA, sB, sC]
       refine tk 7 qFtF_7 ?_
       try simp only [Act.put, sA, sB, sC]
       refine tk 8 qFtF_8 ?_
       try simp only [Act.put, sA, sB, sC]
       refine tk 9 qFtF_9 ?_
       try simp only [Act.put, sA, sB, sC]
       refine tk 10 qFtF_10 ?_
       try simp only [Act.put, sA, sB, sC]
       refine wpAnyH_done (by kernel_rfl) ?_ _
       have HB2 := Lib.hid HB.out.drew
       go_wp2_with fail
       go_roundw
       case rel => exact ⟨k + 1, by omega, by go_num, Lib.hid (by rw [HS1.out, HS2.out, HT.out]), HB2⟩
       case measure => simp [intOf]; omega)
     ·have hxy' : (x.toList == y.toList) = false := (Lib.bytes_beq_false_iff _ _).2 hxy
      have HVF : Hid (R = false) := Lib.hid (by rw [HR.out, decide_eq_false (HNE.out hxy)]; rfl)
      clear hxy
      (
       go_wp2_with fail
       refine wp_region_held_drew (S := (fun wx => Below wr.heap.size wr wx ∧ wx.cell? ⟨w.heap.size, 2, none⟩ = some (.slice (some ⟨b, o, none⟩) wn cp) ∧ wx.cell? ⟨w.heap.size + 1, 2, none⟩ = some (.slice (some ⟨b', o', none⟩) wn cp') ∧ wx.cell? ⟨b, o + k, none⟩ = some (.string x) ∧ wx.cell? ⟨b', o' + k, none⟩ = some (.string y))) (by kernel_rfl) ⟨(Below.refl _ _).drew, c2, d2, n0, m0⟩ (fun hHeld => ?_)
       refine tk 0 qFtF_0 ?_
       try simp only [Act.put, sA, sB, sC]
       refine tk 1 qFtF_1 ?_
       try simp only [Act.put, sA, sB, sC]
       refine tk 2 qFtF_2 ?_
       try simp only [Act.put, sA, sB, sC]
       refine tk 3 qFtF_3 ?_
       try simp only [Act.put, sA, sB, sC]
       refine tk 4 qFtF_4 ?_
       try simp only [Act.put, sA, sB, sC]
       refine tk 5 qFtF_5 ?_
       try simp only [Act.put, sA, sB, sC]
       refine tk 6 qFtF_6 ?_
       try simp only [Act.put, sA, sB, sC]
       refine tk 7 qFtF_7 ?_
       try simp only [Act.put, sA, sB, sC]
       refine tk 8 qFtF_8 ?_
       try simp only [Act.put, sA, sB, sC]
       refine tk 9 qFtF_9 ?_
       try simp only [Act.put, sA, sB, sC]
       refine tk 10 qFtF_10 ?_
       try simp only [Act.put, sA, sB, sC]
       refine wpAnyH_done (by kernel_rfl) ?_ _
       have HB2 := Lib.hid HB.out.drew
       go_wp2_with fail
       go_ret
       exact ⟨ret_bool HVF.out.symm, box2_self HB2.out⟩)
    ·have HNAMES : Hid (decide (names = names') = true) := Lib.hid (decide_eq_true (names_end (HWN.out.trans HLN.out) (by rw [HWN.out]; omega) HT.out))
     have c2 : wr.cell? ⟨w.heap.size, 2, none⟩ = some (.slice p wn cp) := box2_fst HB.out 2 rfl
     have HB0 := HB
     go_wp2_with fail
     clear HB c2
     go_loopw [6] (fun i wr => ∃ k : Nat, k ≤ kn ∧ i = .int .i64 k ∧ Hid (Nd.sames kids kids' = Nd.sames (kids.drop k) (kids'.drop k)) ∧ Hid (Below (w.heap.size + 2) ((w.alloc (.cells #[.int .u8 k1, .string name, .slice p wn cp, .slice q kn d] 25)).alloc (.cells #[.int .u8 k1, .string name', .slice p' wn cp', .slice q' kn d'] 25)) wr)) (fun i _ => kn - (intOf i).toNat)
     case atStart => exact ⟨0, Nat.zero_le _, rfl, Lib.hid rfl, HB0⟩
     case round =>
      clear HB0 hlt hk
      obtain ⟨k, hk, rfl, HK, HB⟩ := hrel
      by_cases hlt : k < kn
      ·have HOLD : Hid (Below W.heap.size W wr) := Lib.hid (HW.out.trans ((box2_self HB.out).mono HW.out.size))
       have hkx : k < kids.length := by rw [HKN.out]; exact hlt
       have hky : k < kids'.length := by rw [← HLQ.out]; exact hlt
       have HD := Lib.hid (Nd.sames_drop hkx hky)
       have hxb : kids[k].girth ≤ 200000000 := Nat.le_trans (Nd.girth_kid (List.getElem?_eq_getElem hkx)) hkb
       obtain ⟨bq, oq, v0, v1, v2, v3, rfl, hD, e0, e1, e2, e3⟩ := kid_at HRK.out HOLD.out hlt
       obtain ⟨bq', oq', y0, y1, y2, y3, rfl, hD', f0, f1, f2, f3⟩ := kid_at GRK.out HOLD.out hlt
       have c3 : wr.cell? ⟨w.heap.size, 3, none⟩ = some (.slice (some ⟨bq, oq, none⟩) kn d) := box2_fst HB.out 3 rfl
       have d3 : wr.cell? ⟨w.heap.size + 1, 3, none⟩ = some (.slice (some ⟨bq', oq', none⟩) kn d') := box2_snd HB.out 3 rfl
       have HC : Hid (∀ wx, Below wr.heap.size wr wx → Calls Tryz.prog 12 #[.agg #[v0, v1, v2, v3], .agg #[y0, y1, y2, y3]] wx fun e w' => e = .returned (.bool (Nd.same kids[k] kids'[k])) ∧ Below wx.heap.size wx w') := Lib.hid fun wx hb => by
        have := IH.out k _ (List.getElem?_eq_getElem hkx) (G8.out k _ (List.getElem?_eq_getElem hky)) hxb wx (HOLD.out.trans (hb.mono HOLD.out.size))
        rwa [hD, hD'] at this
       clear hD hD' hxb
       generalize Nd.same kids[k] kids'[k] = sp at *
       have HKEEP : Hid (∀ wx w2, (fun wx => Below wr.heap.size wr wx ∧ wx.cell? ⟨w.heap.size, 3, none⟩ = some (.slice (some ⟨bq, oq, none⟩) kn d) ∧ wx.cell? ⟨w.heap.size + 1, 3, none⟩ = some (.slice (some ⟨bq', oq', none⟩) kn d') ∧ wx.cell? ⟨bq, oq + k * 4, none⟩ = some v0 ∧ wx.cell? ⟨bq, oq + k * 4 + 1, none⟩ = some v1 ∧ wx.cell? ⟨bq, oq + k * 4 + 2, none⟩ = some v2 ∧ wx.cell? ⟨bq, oq + k * 4 + 3, none⟩ = some v3 ∧ wx.cell? ⟨bq', oq' + k * 4, none⟩ = some y0 ∧ wx.cell? ⟨bq', oq' + k * 4 + 1, none⟩ = some y1 ∧ wx.cell? ⟨bq', oq' + k * 4 + 2, none⟩ = some y2 ∧ wx.cell? ⟨bq', oq' + k * 4 + 3, none⟩ = some y3) wx → Below wx.heap.size wx w2 → (fun wx => Below wr.heap.size wr wx ∧ wx.cell? ⟨w.heap.size, 3, none⟩ = some (.slice (some ⟨bq, oq, none⟩) kn d) ∧ wx.cell? ⟨w.heap.size + 1, 3, none⟩ = some (.slice (some ⟨bq', oq', none⟩) kn d') ∧ wx.cell? ⟨bq, oq + k * 4, none⟩ = some v0 ∧ wx.cell? ⟨bq, oq + k * 4 + 1, none⟩ = some v1 ∧ wx.cell? ⟨bq, oq + k * 4 + 2, none⟩ = some v2 ∧ wx.cell? ⟨bq, oq + k * 4 + 3, none⟩ = some v3 ∧ wx.cell? ⟨bq', oq' + k * 4, none⟩ = some y0 ∧ wx.cell? ⟨bq', oq' + k * 4 + 1, none⟩ = some y1 ∧ wx.cell? ⟨bq', oq' + k * 4 + 2, none⟩ = some y2 ∧ wx.cell? ⟨bq', oq' + k * 4 + 3, none⟩ = some y3) w2) := Lib.hid fun wx w2 hs hb => by
        obtain ⟨s0, s1, s2, s3, s4, s5, s6, s7, s8, s9, s10⟩ := hs
        exact ⟨s0.trans (hb.mono s0.size), cell_kept hb s1, cell_kept hb s2, cell_kept hb s3, cell_kept hb s4, cell_kept hb s5, cell_kept hb s6, cell_kept hb s7, cell_kept hb s8, cell_kept hb s9, cell_kept hb s10⟩
       go_wp2_with fail
       refine wp_region_held_drew (S := (fun wx => Below wr.heap.size wr wx ∧ wx.cell? ⟨w.heap.size, 3, none⟩ = some (.slice (some ⟨bq, oq, none⟩) kn d) ∧ wx.cell? ⟨w.heap.size + 1, 3, none⟩ = some (.slice (some ⟨bq', oq', none⟩) kn d') ∧ wx.cell? ⟨bq, oq + k * 4, none⟩ = some v0 ∧ wx.cell? ⟨bq, oq + k * 4 + 1, none⟩ = some v1 ∧ wx.cell? ⟨bq, oq + k * 4 + 2, none⟩ = some v2 ∧ wx.cell? ⟨bq, oq + k * 4 + 3, none⟩ = some v3 ∧ wx.cell? ⟨bq', oq' + k * 4, none⟩ = some y0 ∧ wx.cell? ⟨bq', oq' + k * 4 + 1, none⟩ = some y1 ∧ wx.cell? ⟨bq', oq' + k * 4 + 2, none⟩ = some y2 ∧ wx.cell? ⟨bq', oq' + k * 4 + 3, none⟩ = some y3)) (by kernel_rfl) ⟨(Below.refl _ _).drew, c3, d3, e0, e1, e2, e3, f0, f1, f2, f3⟩ (fun hHeld => ?_)
       refine tk 0 { dst := some 62, op := Op.fieldAddr 25 (Operand.tmp 2) 3, type := 0, pos := "ref.go:69", after := #[], guard := none } ?_
       try simp only [Act.put, sA, sB, sC]
       refine tk 1 { dst := some 63, op := Op.load 23 (Operand.tmp 62), type := 23, pos := "ref.go:69", after := #[{ on := 0, ground := Ground.data }], guard := none } ?_
       try simp only [Act.put, sA, sB, sC]
       refine tk 2 { dst := some 64, op := Op.move (Operand.tmp 6), type := 3, pos := "ref.go:69", after := #[], guard := none } ?_
       try simp only [Act.put, sA, sB, sC]
       refine tk 3 { dst := some 65, op := Op.indexAddr 23 (Operand.tmp 63) (Operand.tmp 64), type := 0, pos := "ref.go:69", after := #[{ on := 1, ground := Ground.data }, { on := 2, ground := Ground.data }], guard := none } ?_
       try simp only [Act.put, sA, sB, sC]
       refine tk 4 { dst := some 66, op := Op.load 25 (Operand.tmp 65), type := 25, pos := "ref.go:69", after := #[{ on := 3, ground := Ground.data }], guard := none } ?_
       try simp only [Act.put, sA, sB, sC]
       refine tk 5 { dst := some 67, op := Op.fieldAddr 25 (Operand.tmp 3) 3, type := 0, pos := "ref.go:69", after := #[], guard := none } ?_
       try simp only [Act.put, sA, sB, sC]
       refine tk 6 { dst := some 68, op := Op.load 23 (Operand.tmp 67), type := 23, pos := "ref.go:69", after := #[{ on := 5, ground := Ground.data }], guard := none } ?_
       try simp only [Act.put, sA, sB, sC]
       refine tk 7 { dst := some 69, op := Op.move (Operand.tmp 6), type := 3, pos := "ref.go:69", after := #[], guard := none } ?_
       try simp only [Act.put, sA, sB, sC]
       refine tk 8 { dst := some 70, op := Op.indexAddr 23 (Operand.tmp 68) (Operand.tmp 69), type := 0, pos := "ref.go:69", after := #[{ on := 6, ground := Ground.data }, { on := 7, ground := Ground.data }], guard := none } ?_
       try simp only [Act.put, sA, sB, sC]
       refine tk 9 { dst := some 71, op := Op.load 25 (Operand.tmp 70), type := 25, pos := "ref.go:69", after := #[{ on := 8, ground := Ground.data }], guard := none } ?_
       try simp only [Act.put, sA, sB, sC]
       refine wpAnyH_ready (rs := [10]) (by kernel_rfl) (by simp) ?_
       refine AllReadyH.cons (o := { dst := some 72, op := Op.call { callee := Callee.value (Operand.func 12), args := #[Operand.tmp 66, Operand.tmp 71], argTypes := #[25, 25] }, type := 4, pos := "ref.go:69", after := #[{ on := 4, ground := Ground.data }, { on := 9, ground := Ground.data }], guard := none }) rfl (fun K hK => ?_) AllReadyH.nil
       go_simp
       (go_at_call 12; refine (HC.out _ (And.left (by assumption))).mono ?_; rintro e w2 ⟨rfl, hb2⟩; have hS2 := HKEEP.out _ _ (by assumption) hb2; clear hb2)
       go_wp2_with fail
       refine hK.out _ _ (by first | assumption | assumption) (fun hHeld => ?_)
       clear hK K
       try simp only [Act.put, sA, sB, sC]
       refine tk 11 { dst := some 73, op := Op.unOp UnOp.not 4 (Operand.tmp 72), type := 4, pos := "ref.go:69", after := #[{ on := 10, ground := Ground.data }], guard := none } ?_
       try simp only [Act.put, sA, sB, sC]
       refine wpAnyH_done (by kernel_rfl) ?_ _
       have hS3 : Below wr.heap.size wr _ := And.left (by assumption)
       have HB2 := Lib.hid (HB.out.trans (hS3.mono (by have := HB.out.size; simp at this; omega)))
       clear hS3
       go_wp2_with fail
       ·have hsp : sp = false := by cases sp <;> simp_all
        go_ret
        exact ⟨ret_bool (by rw [HR.out, HK.out, HD.out, hsp]; simp), box2_self HB2.out⟩
       ·have hsp : sp = true := by cases sp <;> simp_all
        go_roundw
        case rel => exact ⟨k + 1, by omega, by go_num, Lib.hid (by rw [HK.out, HD.out, hsp]; rfl), HB2⟩
        case measure => simp [intOf]; omega
      ·have HE : Hid (k = kn) := Lib.hid (by omega)
       have c3 : wr.cell? ⟨w.heap.size, 3, none⟩ = some (.slice q kn d) := box2_fst HB.out 3 rfl
       go_wp2_with fail
       go_ret
       refine ⟨ret_bool ?_, box2_self HB.out⟩
       rw [HR.out, HNAMES.out, HK.out, HE.out, ← HKN.out, List.drop_length, HKN.out, HLQ.out, List.drop_length]
       rfl
end Go.Proofs.YtfilbknnpjbmcaaGreatDoor
