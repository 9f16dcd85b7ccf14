/- Walks for lex: works. -/
import Derived.Test.YtlingnajbhlpdaaDoorLexJ
namespace Go.Proofs.YtlingnajbhlpdaaDoor
open Go.RowKit Lx

set_option maxRecDepth 100000 in
set_option maxHeartbeats 2000000 in
theorem works_any (w0 : World) (hT : Table w0) :
    Calls Tryd.prog 7 #[] w0 fun e w' => e = .returned (.bool true) ∧ Below w0.heap.size w0 w' := by
  have HT := Lib.hid hT
  have HB0 : Hid (Below w0.heap.size w0 w0) := Lib.hid (Below.refl _ _)
  clear hT
  go_enter Tryd.func7, Tryd.ntmps7
  go_wp2_with fail
  refine (cut_true _ _ _ [[109, 107, 100, 105, 114], [45, 112], [34, 97, 32, 98, 34], [59], [33], [120]] _ (by decide) (HT.out.grows (HB0.out.alloc HB0.out.size _)) (Texts.new_ _ [[109, 107, 100, 105, 114], [45, 112], [34, 97, 32, 98, 34], [59], [33], [120]] _ _ _ rfl rfl) (by kernel_rfl) (by kernel_rfl)).mono ?_
  rintro e w1 ⟨rfl, hb1⟩
  have HB1 := Lib.hid ((HB0.out.alloc HB0.out.size _).trans (hb1.mono (HB0.out.alloc HB0.out.size _).size))
  clear hb1
  go_wp2_with fail
  refine (cut_true _ _ _ [[97, 35, 98]] _ (by decide) (HT.out.grows (HB1.out.alloc HB1.out.size _)) (Texts.new_ _ [[97, 35, 98]] _ _ _ rfl rfl) (by kernel_rfl) (by kernel_rfl)).mono ?_
  rintro e w2 ⟨rfl, hb2⟩
  have HB2 := Lib.hid ((HB1.out.alloc HB1.out.size _).trans (hb2.mono (HB1.out.alloc HB1.out.size _).size))
  clear hb2
  go_wp2_with fail
  refine (bad_any _ _ 1 _ rfl (by decide) (HT.out.grows HB2.out) (by kernel_rfl)).mono ?_
  rintro e w3 ⟨rfl, hb3⟩
  have HB3 := Lib.hid (HB2.out.trans (hb3.mono HB2.out.size))
  clear hb3
  go_wp2_with fail
  refine (cut_true _ _ _ [[97], [38, 38], [98], [124, 124], [99]] _ (by decide) (HT.out.grows (HB3.out.alloc HB3.out.size _)) (Texts.new_ _ [[97], [38, 38], [98], [124, 124], [99]] _ _ _ rfl rfl) (by kernel_rfl) (by kernel_rfl)).mono ?_
  rintro e w4 ⟨rfl, hb4⟩
  have HB4 := Lib.hid ((HB3.out.alloc HB3.out.size _).trans (hb4.mono (HB3.out.alloc HB3.out.size _).size))
  clear hb4
  go_wp2_with fail
  refine (cut_true _ _ _ [[97, 92, 32, 98]] _ (by decide) (HT.out.grows (HB4.out.alloc HB4.out.size _)) (Texts.new_ _ [[97, 92, 32, 98]] _ _ _ rfl rfl) (by kernel_rfl) (by kernel_rfl)).mono ?_
  rintro e w5 ⟨rfl, hb5⟩
  have HB5 := Lib.hid ((HB4.out.alloc HB4.out.size _).trans (hb5.mono (HB4.out.alloc HB4.out.size _).size))
  clear hb5
  go_wp2_with fail
  go_ret
  exact ⟨rfl, HB5.out⟩
end Go.Proofs.YtlingnajbhlpdaaDoor
