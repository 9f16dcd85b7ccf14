/- Walks for lex: LexNames. -/
import Derived.Test.YtlingnajbhlpdaaDoorLexO
namespace Go.Proofs.YtlingnajbhlpdaaDoor
open Go.RowKit Lx

theorem bang : ∃ ts, Lx.tokens (ByteArray.mk #[33, 32, 123, 97, 32, 125, 98, 32, 125, 32, 33, 33, 32, 92, 33]).data.toList = (ts, 0, 0) ∧ ts.length = ([[33], [123, 97], [125, 98], [125], [33, 33], [92, 33]] : List Lx.B).length := by
  obtain ⟨ts, h, f⟩ := cutOk_eq (l := (ByteArray.mk #[33, 32, 123, 97, 32, 125, 98, 32, 125, 32, 33, 33, 32, 92, 33]).data.toList) (k := [111, 112, 112, 111, 112, 112]) (T := [[33], [123, 97], [125, 98], [125], [33, 33], [92, 33]]) (by kernel_rfl)
  exact ⟨ts, h, (fits_len f).1⟩

set_option maxRecDepth 100000 in
set_option maxHeartbeats 4000000 in
theorem law_names (w0 : World) (hT : Table w0) :
    Calls Tryd.prog 3 #[] w0 fun e w' => e = .returned (.bool true) ∧ Below w0.heap.size w0 w' := by
  have HT := Lib.hid hT
  have HB0 : Hid (Below w0.heap.size w0 w0) := Lib.hid (Below.refl _ _)
  clear hT
  go_enter Tryd.func3, Tryd.ntmps3
  go_wp2_with fail
  refine (works_any _ HT.out).mono ?_
  rintro e w1 ⟨rfl, hb1⟩
  have HB1 := Lib.hid (HB0.out.trans (hb1.mono HB0.out.size))
  clear hb1
  go_wp2_with fail
  refine (cut_true _ _ _ [] _ (by decide) (HT.out.grows HB1.out) (Texts.none_ _) (by kernel_rfl) (by kernel_rfl)).mono ?_
  rintro e w2 ⟨rfl, hb2⟩
  have HB2 := Lib.hid (HB1.out.trans (hb2.mono HB1.out.size))
  clear hb2
  go_wp2_with fail
  refine (cut_true _ _ _ [] _ (by decide) (HT.out.grows HB2.out) (Texts.none_ _) (by kernel_rfl) (by kernel_rfl)).mono ?_
  rintro e w3 ⟨rfl, hb3⟩
  have HB3 := Lib.hid (HB2.out.trans (hb3.mono HB2.out.size))
  clear hb3
  go_wp2_with fail
  refine (cut_true _ _ _ [[97], [10], [10], [10], [98]] _ (by decide) (HT.out.grows (HB3.out.alloc HB3.out.size _)) (Texts.new_ _ [[97], [10], [10], [10], [98]] _ _ _ rfl rfl) (by kernel_rfl) (by kernel_rfl)).mono ?_
  rintro e w4 ⟨rfl, hb4⟩
  have HB4 := Lib.hid ((HB3.out.alloc HB3.out.size _).trans (hb4.mono (HB3.out.alloc HB3.out.size _).size))
  clear hb4
  go_wp2_with fail
  refine (cut_true _ _ _ [[97], [59, 59], [98], [59], [38], [124], [38, 38], [38]] _ (by decide) (HT.out.grows (HB4.out.alloc HB4.out.size _)) (Texts.new_ _ [[97], [59, 59], [98], [59], [38], [124], [38, 38], [38]] _ _ _ rfl rfl) (by kernel_rfl) (by kernel_rfl)).mono ?_
  rintro e w5 ⟨rfl, hb5⟩
  have HB5 := Lib.hid ((HB4.out.alloc HB4.out.size _).trans (hb5.mono (HB4.out.alloc HB4.out.size _).size))
  clear hb5
  go_wp2_with fail
  refine (cut_true _ _ _ [[97], [124, 124], [124], [60, 60], [60], [62, 62], [62], [40], [41]] _ (by decide) (HT.out.grows (HB5.out.alloc HB5.out.size _)) (Texts.new_ _ [[97], [124, 124], [124], [60, 60], [60], [62, 62], [62], [40], [41]] _ _ _ rfl rfl) (by kernel_rfl) (by kernel_rfl)).mono ?_
  rintro e w6 ⟨rfl, hb6⟩
  have HB6 := Lib.hid ((HB5.out.alloc HB5.out.size _).trans (hb6.mono (HB5.out.alloc HB5.out.size _).size))
  clear hb6
  go_wp2_with fail
  obtain ⟨tsb, hts, hlen⟩ := bang
  refine (cut_false _ _ _ [[33], [123, 97], [125, 98], [125], [33, 33], [92, 33]] _ (by decide) (HT.out.grows (HB6.out.alloc HB6.out.size _)) (Texts.new_ _ [[33], [123, 97], [125, 98], [125], [33, 33], [92, 33]] _ _ _ rfl rfl) tsb hts hlen (by kernel_rfl)).mono ?_
  clear hts hlen tsb
  rintro e w7 ⟨rfl, hb7⟩
  have HB7 := Lib.hid ((HB6.out.alloc HB6.out.size _).trans (hb7.mono (HB6.out.alloc HB6.out.size _).size))
  clear hb7
  go_wp2_with fail
  refine (cut_true _ _ _ [[33], [123, 97], [125, 98], [125], [33, 33], [92, 33]] _ (by decide) (HT.out.grows (HB7.out.alloc HB7.out.size _)) (Texts.new_ _ [[33], [123, 97], [125, 98], [125], [33, 33], [92, 33]] _ _ _ rfl rfl) (by kernel_rfl) (by kernel_rfl)).mono ?_
  rintro e w8 ⟨rfl, hb8⟩
  have HB8 := Lib.hid ((HB7.out.alloc HB7.out.size _).trans (hb8.mono (HB7.out.alloc HB7.out.size _).size))
  clear hb8
  go_wp2_with fail
  refine (cut_true _ _ _ [[39, 97, 59, 98, 39, 34, 99, 39, 100, 34, 92, 59, 101]] _ (by decide) (HT.out.grows (HB8.out.alloc HB8.out.size _)) (Texts.new_ _ [[39, 97, 59, 98, 39, 34, 99, 39, 100, 34, 92, 59, 101]] _ _ _ rfl rfl) (by kernel_rfl) (by kernel_rfl)).mono ?_
  rintro e w9 ⟨rfl, hb9⟩
  have HB9 := Lib.hid ((HB8.out.alloc HB8.out.size _).trans (hb9.mono (HB8.out.alloc HB8.out.size _).size))
  clear hb9
  go_wp2_with fail
  refine (cut_true _ _ _ [[97, 92, 10, 98]] _ (by decide) (HT.out.grows (HB9.out.alloc HB9.out.size _)) (Texts.new_ _ [[97, 92, 10, 98]] _ _ _ rfl rfl) (by kernel_rfl) (by kernel_rfl)).mono ?_
  rintro e w10 ⟨rfl, hb10⟩
  have HB10 := Lib.hid ((HB9.out.alloc HB9.out.size _).trans (hb10.mono (HB9.out.alloc HB9.out.size _).size))
  clear hb10
  go_wp2_with fail
  refine (cut_true _ _ _ [[97], [98]] _ (by decide) (HT.out.grows (HB10.out.alloc HB10.out.size _)) (Texts.new_ _ [[97], [98]] _ _ _ rfl rfl) (by kernel_rfl) (by kernel_rfl)).mono ?_
  rintro e w11 ⟨rfl, hb11⟩
  have HB11 := Lib.hid ((HB10.out.alloc HB10.out.size _).trans (hb11.mono (HB10.out.alloc HB10.out.size _).size))
  clear hb11
  go_wp2_with fail
  refine (cut_true _ _ _ [[34, 97, 92, 34, 98, 34]] _ (by decide) (HT.out.grows (HB11.out.alloc HB11.out.size _)) (Texts.new_ _ [[34, 97, 92, 34, 98, 34]] _ _ _ rfl rfl) (by kernel_rfl) (by kernel_rfl)).mono ?_
  rintro e w12 ⟨rfl, hb12⟩
  have HB12 := Lib.hid ((HB11.out.alloc HB11.out.size _).trans (hb12.mono (HB11.out.alloc HB11.out.size _).size))
  clear hb12
  go_wp2_with fail
  refine (cut_true _ _ _ [[39, 97, 92, 39], [98]] _ (by decide) (HT.out.grows (HB12.out.alloc HB12.out.size _)) (Texts.new_ _ [[39, 97, 92, 39], [98]] _ _ _ rfl rfl) (by kernel_rfl) (by kernel_rfl)).mono ?_
  rintro e w13 ⟨rfl, hb13⟩
  have HB13 := Lib.hid ((HB12.out.alloc HB12.out.size _).trans (hb13.mono (HB12.out.alloc HB12.out.size _).size))
  clear hb13
  go_wp2_with fail
  refine (cut_true _ _ _ [[97, 92]] _ (by decide) (HT.out.grows (HB13.out.alloc HB13.out.size _)) (Texts.new_ _ [[97, 92]] _ _ _ rfl rfl) (by kernel_rfl) (by kernel_rfl)).mono ?_
  rintro e w14 ⟨rfl, hb14⟩
  have HB14 := Lib.hid ((HB13.out.alloc HB13.out.size _).trans (hb14.mono (HB13.out.alloc HB13.out.size _).size))
  clear hb14
  go_wp2_with fail
  refine (cut_true _ _ _ [[34, 10, 35, 34]] _ (by decide) (HT.out.grows (HB14.out.alloc HB14.out.size _)) (Texts.new_ _ [[34, 10, 35, 34]] _ _ _ rfl rfl) (by kernel_rfl) (by kernel_rfl)).mono ?_
  rintro e w15 ⟨rfl, hb15⟩
  have HB15 := Lib.hid ((HB14.out.alloc HB14.out.size _).trans (hb15.mono (HB14.out.alloc HB14.out.size _).size))
  clear hb15
  go_wp2_with fail
  refine (cut_true _ _ _ [[36, 97, 36, 123, 98, 125, 96, 99, 96, 42, 63, 91]] _ (by decide) (HT.out.grows (HB15.out.alloc HB15.out.size _)) (Texts.new_ _ [[36, 97, 36, 123, 98, 125, 96, 99, 96, 42, 63, 91]] _ _ _ rfl rfl) (by kernel_rfl) (by kernel_rfl)).mono ?_
  rintro e w16 ⟨rfl, hb16⟩
  have HB16 := Lib.hid ((HB15.out.alloc HB15.out.size _).trans (hb16.mono (HB15.out.alloc HB15.out.size _).size))
  clear hb16
  go_wp2_with fail
  refine (cut_true _ _ _ [[97, 92, 35, 98], [59]] _ (by decide) (HT.out.grows (HB16.out.alloc HB16.out.size _)) (Texts.new_ _ [[97, 92, 35, 98], [59]] _ _ _ rfl rfl) (by kernel_rfl) (by kernel_rfl)).mono ?_
  rintro e w17 ⟨rfl, hb17⟩
  have HB17 := Lib.hid ((HB16.out.alloc HB16.out.size _).trans (hb17.mono (HB16.out.alloc HB16.out.size _).size))
  clear hb17
  go_wp2_with fail
  refine (cut_true _ _ _ [[39, 35, 39], [120]] _ (by decide) (HT.out.grows (HB17.out.alloc HB17.out.size _)) (Texts.new_ _ [[39, 35, 39], [120]] _ _ _ rfl rfl) (by kernel_rfl) (by kernel_rfl)).mono ?_
  rintro e w18 ⟨rfl, hb18⟩
  have HB18 := Lib.hid ((HB17.out.alloc HB17.out.size _).trans (hb18.mono (HB17.out.alloc HB17.out.size _).size))
  clear hb18
  go_wp2_with fail
  refine (cut_true _ _ _ [[255, 13]] _ (by decide) (HT.out.grows (HB18.out.alloc HB18.out.size _)) (Texts.new_ _ [[255, 13]] _ _ _ rfl rfl) (by kernel_rfl) (by kernel_rfl)).mono ?_
  rintro e w19 ⟨rfl, hb19⟩
  have HB19 := Lib.hid ((HB18.out.alloc HB18.out.size _).trans (hb19.mono (HB18.out.alloc HB18.out.size _).size))
  clear hb19
  go_wp2_with fail
  refine (bad_any _ _ 0 _ rfl (by decide) (HT.out.grows HB19.out) (by kernel_rfl)).mono ?_
  rintro e w20 ⟨rfl, hb20⟩
  have HB20 := Lib.hid (HB19.out.trans (hb20.mono HB19.out.size))
  clear hb20
  go_wp2_with fail
  refine (bad_any _ _ 2 _ rfl (by decide) (HT.out.grows HB20.out) (by kernel_rfl)).mono ?_
  rintro e w21 ⟨rfl, hb21⟩
  have HB21 := Lib.hid (HB20.out.trans (hb21.mono HB20.out.size))
  clear hb21
  go_wp2_with fail
  refine (bad_any _ _ 1 _ rfl (by decide) (HT.out.grows HB21.out) (by kernel_rfl)).mono ?_
  rintro e w22 ⟨rfl, hb22⟩
  have HB22 := Lib.hid (HB21.out.trans (hb22.mono HB21.out.size))
  clear hb22
  go_wp2_with fail
  refine (bad_any _ _ 0 _ rfl (by decide) (HT.out.grows HB22.out) (by kernel_rfl)).mono ?_
  rintro e w23 ⟨rfl, hb23⟩
  have HB23 := Lib.hid (HB22.out.trans (hb23.mono HB22.out.size))
  clear hb23
  go_wp2_with fail
  refine (bad_any _ _ 0 _ rfl (by decide) (HT.out.grows HB23.out) (by kernel_rfl)).mono ?_
  rintro e w24 ⟨rfl, hb24⟩
  have HB24 := Lib.hid (HB23.out.trans (hb24.mono HB23.out.size))
  clear hb24
  go_wp2_with fail
  refine (bad_any _ _ 2 _ rfl (by decide) (HT.out.grows HB24.out) (by kernel_rfl)).mono ?_
  rintro e w25 ⟨rfl, hb25⟩
  have HB25 := Lib.hid (HB24.out.trans (hb25.mono HB24.out.size))
  clear hb25
  go_wp2_with fail
  refine (bad_any _ _ 6 _ rfl (by decide) (HT.out.grows HB25.out) (by kernel_rfl)).mono ?_
  rintro e w26 ⟨rfl, hb26⟩
  have HB26 := Lib.hid (HB25.out.trans (hb26.mono HB25.out.size))
  clear hb26
  go_wp2_with fail
  refine (bad_any _ _ 0 _ rfl (by decide) (HT.out.grows HB26.out) (by kernel_rfl)).mono ?_
  rintro e w27 ⟨rfl, hb27⟩
  have HB27 := Lib.hid (HB26.out.trans (hb27.mono HB26.out.size))
  clear hb27
  go_wp2_with fail
  refine (bad_any _ _ 0 _ rfl (by decide) (HT.out.grows HB27.out) (by kernel_rfl)).mono ?_
  rintro e w28 ⟨rfl, hb28⟩
  have HB28 := Lib.hid (HB27.out.trans (hb28.mono HB27.out.size))
  clear hb28
  go_wp2_with fail
  refine (many_any 16385 39 _ _ _ rfl rfl (by omega) (by omega)).mono ?_
  rintro e w29 ⟨S29, rfl, hS29, hb29⟩
  have HB29 := Lib.hid (HB28.out.trans (hb29.mono HB28.out.size))
  have hz29 : S29.size = 16385 := by rw [Lib.size_eq, hS29, List.length_replicate]
  have HS29 := Lib.hid hS29
  have HZ29 := Lib.hid hz29
  clear hb29 hS29 hz29
  go_wp2_with fail
  refine (tokens_any S29 _ (by rw [HZ29.out]; omega) (HT.out.grows HB29.out)).mono ?_
  rintro e w30 ⟨v30, rfl, ho30, hb30⟩
  have HB30 := Lib.hid (HB29.out.trans (hb30.mono HB29.out.size))
  clear hb30
  rw [HS29.out, Lx.tokens_long _ (by rw [List.length_replicate]; omega)] at ho30 ⊢
  obtain ⟨A30, cap30, rfl, -, -⟩ := own_slice ho30
  clear ho30
  go_wp2_with fail
  refine (many_any 16384 97 _ _ _ rfl rfl (by omega) (by omega)).mono ?_
  rintro e w31 ⟨S31, rfl, hS31, hb31⟩
  have HB31 := Lib.hid (HB30.out.trans (hb31.mono HB30.out.size))
  have hz31 : S31.size = 16384 := by rw [Lib.size_eq, hS31, List.length_replicate]
  have HS31 := Lib.hid hS31
  have HZ31 := Lib.hid hz31
  clear hb31 hS31 hz31
  go_wp2_with fail
  refine (tokens_any S31 _ (by rw [HZ31.out]; omega) (HT.out.grows HB31.out)).mono ?_
  rintro e w32 ⟨v32, rfl, ho32, hb32⟩
  have HB32 := Lib.hid (HB31.out.trans (hb32.mono HB31.out.size))
  clear hb32
  rw [HS31.out, Lx.tokens_as 16382 (by omega)] at ho32 ⊢
  have hlen : (List.replicate (16382 + 2) (97 : UInt8)).length = 16384 := by rw [List.length_replicate]
  generalize List.replicate (16382 + 2) (97 : UInt8) = X at *
  have hz : (ByteArray.mk X.toArray).size = 16384 := by rw [Lib.size_eq]; exact hlen
  obtain ⟨AA, capA, rfl, hcapA, hgA⟩ := own_slice ho32
  obtain ⟨g, rfl, _, _, _, hcell⟩ := hgA (by simp)
  have c1 : w32.cell? ⟨g, 1, none⟩ = some (.string (ByteArray.mk X.toArray)) := hcell 1 _ rfl
  generalize ByteArray.mk X.toArray = Z at *
  clear ho32 hgA hcell hlen
  go_wp2_with fail
  go_ret
  exact ⟨rfl, HB32.out⟩
end Go.Proofs.YtlingnajbhlpdaaDoor
