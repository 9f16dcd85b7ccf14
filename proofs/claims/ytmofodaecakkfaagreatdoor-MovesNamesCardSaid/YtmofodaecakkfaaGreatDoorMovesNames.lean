/- The closed statement MovesNames. No condition. -/
import Derived.Test.YtmofodaecakkfaaGreatDoorMovesNamesA
import Derived.Test.YtmofodaecakkfaaGreatDoorMovesNamesT0
import Derived.Test.YtmofodaecakkfaaGreatDoorMovesNamesT1
import Derived.Test.YtmofodaecakkfaaGreatDoorMovesNamesT2
import Derived.Test.YtmofodaecakkfaaGreatDoorMovesNamesT3
import Derived.Test.YtmofodaecakkfaaGreatDoorMovesNamesT4
import Derived.Test.YtmofodaecakkfaaGreatDoorMovesNamesT5
namespace Go.Proofs.YtmofodaecakkfaaGreatDoor
open Go.ChangeShapes Go.WideShapes Go.ChangeAt Go.RowKit
noncomputable def temps : List Cx.Tm := [temp0, temp1, temp2, temp3, temp4, temp5, temp6, temp7, temp8, temp9, temp10, temp11, temp12, temp13, temp14, temp15, temp16, temp17, temp18, temp19, temp20, temp21, temp22, temp23, temp24, temp25, temp26, temp27, temp28, temp29, temp30, temp31, temp32, temp33, temp34, temp35, temp36, temp37, temp38, temp39, temp40, temp41, temp42, temp43, temp44, temp45, temp46, temp47, temp48, temp49, temp50, temp51, temp52, temp53, temp54, temp55, temp56, temp57, temp58]
theorem temps_ok : ∀ k ∈ temps, k.Ok E00 := by
  intro k hk
  simp only [temps, List.mem_cons, List.not_mem_nil, or_false] at hk
  rcases hk with rfl | rfl | rfl | rfl | rfl | rfl | rfl | rfl | rfl | rfl | rfl | rfl | rfl | rfl | rfl | rfl | rfl | rfl | rfl | rfl | rfl | rfl | rfl | rfl | rfl | rfl | rfl | rfl | rfl | rfl | rfl | rfl | rfl | rfl | rfl | rfl | rfl | rfl | rfl | rfl | rfl | rfl | rfl | rfl | rfl | rfl | rfl | rfl | rfl | rfl | rfl | rfl | rfl | rfl | rfl | rfl | rfl | rfl | rfl
  · exact Cx.deepV E00_ok E00_mix temp0_ok
  · exact Cx.deepV E00_ok E00_mix temp1_ok
  · exact Cx.deepV E00_ok E00_mix temp2_ok
  · exact Cx.deepV E00_ok E00_mix temp3_ok
  · exact Cx.deepV E00_ok E00_mix temp4_ok
  · exact Cx.deepV E00_ok E00_mix temp5_ok
  · exact Cx.deepV E00_ok E00_mix temp6_ok
  · exact Cx.deepV E00_ok E00_mix temp7_ok
  · exact Cx.deepV E00_ok E00_mix temp8_ok
  · exact Cx.deepV E00_ok E00_mix temp9_ok
  · exact Cx.deepV E00_ok E00_mix temp10_ok
  · exact Cx.deepV E00_ok E00_mix temp11_ok
  · exact Cx.deepV E00_ok E00_mix temp12_ok
  · exact Cx.deepV E00_ok E00_mix temp13_ok
  · exact Cx.deepV E00_ok E00_mix temp14_ok
  · exact Cx.deepV E00_ok E00_mix temp15_ok
  · exact Cx.deepV E00_ok E00_mix temp16_ok
  · exact Cx.deepV E00_ok E00_mix temp17_ok
  · exact Cx.deepV E00_ok E00_mix temp18_ok
  · exact Cx.deepV E00_ok E00_mix temp19_ok
  · exact Cx.deepV E00_ok E00_mix temp20_ok
  · exact Cx.deepV E00_ok E00_mix temp21_ok
  · exact Cx.deepV E00_ok E00_mix temp22_ok
  · exact Cx.deepV E00_ok E00_mix temp23_ok
  · exact Cx.deepV E00_ok E00_mix temp24_ok
  · exact Cx.deepV E00_ok E00_mix temp25_ok
  · exact Cx.deepV E00_ok E00_mix temp26_ok
  · exact Cx.deepV E00_ok E00_mix temp27_ok
  · exact Cx.deepV E00_ok E00_mix temp28_ok
  · exact Cx.deepV E00_ok E00_mix temp29_ok
  · exact Cx.deepV E00_ok E00_mix temp30_ok
  · exact Cx.deepV E00_ok E00_mix temp31_ok
  · exact Cx.deepV E00_ok E00_mix temp32_ok
  · exact Cx.deepV E00_ok E00_mix temp33_ok
  · exact Cx.deepV E00_ok E00_mix temp34_ok
  · exact Cx.deepV E00_ok E00_mix temp35_ok
  · exact Cx.deepV E00_ok E00_mix temp36_ok
  · exact Cx.deepV E00_ok E00_mix temp37_ok
  · exact Cx.deepV E00_ok E00_mix temp38_ok
  · exact Cx.deepV E00_ok E00_mix temp39_ok
  · exact Cx.deepV E00_ok E00_mix temp40_ok
  · exact Cx.deepV E00_ok E00_mix temp41_ok
  · exact Cx.deepV E00_ok E00_mix temp42_ok
  · exact Cx.deepV E00_ok E00_mix temp43_ok
  · exact Cx.deepV E00_ok E00_mix temp44_ok
  · exact Cx.deepV E00_ok E00_mix temp45_ok
  · exact Cx.deepV E00_ok E00_mix temp46_ok
  · exact Cx.deepV E00_ok E00_mix temp47_ok
  · exact Cx.deepV E00_ok E00_mix temp48_ok
  · exact Cx.deepV E00_ok E00_mix temp49_ok
  · exact Cx.deepV E00_ok E00_mix temp50_ok
  · exact Cx.deepV E00_ok E00_mix temp51_ok
  · exact Cx.deepV E00_ok E00_mix temp52_ok
  · exact Cx.deepV E00_ok E00_mix temp53_ok
  · exact Cx.deepV E00_ok E00_mix temp54_ok
  · exact Cx.deepV E00_ok E00_mix temp55_ok
  · exact Cx.deepV E00_ok E00_mix temp56_ok
  · exact Cx.deepV E00_ok E00_mix temp57_ok
  · exact Cx.deepV E00_ok E00_mix temp58_ok
noncomputable def E0 : Cx.Env := ⟨Tryz.prog, Tryz.prog.globals.size, fun f => Nat.beq f 104, Cx.knownM Tryz.prog.globals.size knowns temps, extF, nzF⟩
theorem knowns_ok : ∀ k ∈ knowns, k.Ok E00 := by
  intro k hk
  cases hk
theorem E0_ok : E0.Ok := ⟨noesc, Cx.knownM_ok (E := E00) rfl rfl knowns_ok temps_ok, ext_ok, nz_ok⟩
theorem E0_mix : E0.P.follows .mixedOrders = true := by kernel_rfl
theorem E0_top : Cx.topT E0 tabs0 3 1000000 = true := by kernel_rfl
theorem law_closed (W : World) (hT : ∀ p ∈ tabs0, Cx.Tab W p) : Calls Tryz.prog 3 #[] W fun e W' => e = .returned (.bool true) ∧ Below W.heap.size W W' :=
  Cx.closedT E0_ok E0_mix E0_top W hT
/-- What the row's list gives. -/
theorem tabs_of {W : World} (h : laidMet Tryz.prog Rows.movesNamesRow.laid W) : ∀ p ∈ tabs0, Cx.Tab W p := by
  intro p hp
  simp only [tabs0, List.mem_cons, List.not_mem_nil, or_false] at hp
noncomputable def extC0 : List Value := [.int .u8 (.ofNat 128), .int .u8 (.ofNat 191), .int .u8 (.ofNat 160), .int .u8 (.ofNat 191), .int .u8 (.ofNat 128), .int .u8 (.ofNat 159), .int .u8 (.ofNat 144), .int .u8 (.ofNat 191), .int .u8 (.ofNat 128), .int .u8 (.ofNat 143), .int .u8 (.ofNat 0), .int .u8 (.ofNat 0), .int .u8 (.ofNat 0), .int .u8 (.ofNat 0), .int .u8 (.ofNat 0), .int .u8 (.ofNat 0), .int .u8 (.ofNat 0), .int .u8 (.ofNat 0), .int .u8 (.ofNat 0), .int .u8 (.ofNat 0), .int .u8 (.ofNat 0), .int .u8 (.ofNat 0), .int .u8 (.ofNat 0), .int .u8 (.ofNat 0), .int .u8 (.ofNat 0), .int .u8 (.ofNat 0), .int .u8 (.ofNat 0), .int .u8 (.ofNat 0), .int .u8 (.ofNat 0), .int .u8 (.ofNat 0), .int .u8 (.ofNat 0), .int .u8 (.ofNat 0)]
noncomputable def extC1 : List Value := (Go.Pinned.utf8FirstZ.map fun (n : Nat) => Value.int .u8 n)
/-- The settled world, with the tables as they are laid at first: for the witness. -/
noncomputable def laidWorld (os : Os) : World :=
  { World.holding Tryz.prog os ⟨#[], #[], []⟩ with heap := (((World.holding Tryz.prog os ⟨#[], #[], []⟩).heap.modify 2 fun | .cells _ t frozen => .cells extC0.toArray t frozen | o => o).modify 1 fun | .cells _ t frozen => .cells extC1.toArray t frozen | o => o) }

namespace movesNames
theorem contract (H : Type) (enc : TypeId × Value → H) (W : World) (base : Nat) (args : Array Value) (ds gs : List (DataW H)) (before : List MemPlace)
    (hval : ∀ (j : Nat) t v, Tryz.f3.params[j]? = some t → args[j]? = some v → Value.okWide Tryz.prog W .any base t v)
    (hW : DataW.Whole enc Tryz.prog Tryz.f3.params.toList Rows.movesNamesSpec.vars false W args.toList ds gs before) (hL : laidMetH Tryz.prog Rows.movesNamesRow.laid W) :
    Calls Tryz.prog 3 args W fun e W' => ∃ v, e = .returned v ∧ Rows.movesNamesSpec.post enc Tryz.prog Tryz.f3 false true false false W args v W' := by
  have hW' := hW
  obtain ⟨p, q, hA0, hV, rfl, hfz, hnd⟩ := hW
  have hA : DataW.TrodAll enc Tryz.prog W 0 (fun _ => true) true Tryz.f3.params.toList args.toList ds p := hA0
  rw [Tryz.params3] at hA hval
  obtain ⟨hargs, rfl, rfl⟩ := trodAll_nil hA
  obtain rfl : args = #[] := by cases args; simp_all
  obtain ⟨rfl, rfl⟩ := trodVars_none hV
  refine (law_closed W (tabs_of hL)).mono fun e W' ⟨he, hb⟩ => ?_
  subst he
  exact ⟨_, rfl, _, _, _, [], [], [], hW', trodAll_cons_mk (shut_bool Tryz.underlying4 _) trodAll_mk0, trodAll_mk0, rfl, hb.frame _, fun h => by cases h⟩
theorem laid_met (os : Os) : laidMet Tryz.prog Rows.movesNamesRow.laid ((laidWorld os).forCall (fun _ _ => 0) ⟨#[], #[], []⟩).memory :=
  laidMet_of_run' 8 (by kernel_rfl) (by kernel_rfl)
theorem reads (os : Os) {H : Type} (enc : TypeId × Value → H) : ∃ places, DataW.whole enc Tryz.prog ((laidWorld os).forCall (fun _ _ => 0) ⟨#[], #[], []⟩).memory Tryz.f3.params.toList Rows.movesNamesSpec.vars false (#[] : Array Value).toList 8 = some ([], [], places) :=
  ⟨[], by kernel_rfl⟩
set_option maxRecDepth 100000 in
theorem lifted (os : Os) (started : os.Started) (H : Type) (enc : TypeId × Value → H) (F : Stop.Interp) :
    ReturnsInHanded {} Tryz.checked os 3 .any ((OpenSpec.ofChange Rows.movesNamesSpec).preRow enc Tryz.prog Tryz.f3 Rows.movesNamesRow.domain false Rows.movesNamesRow.laid) (((OpenSpec.ofChange Rows.movesNamesSpec).at F).post enc Tryz.prog Tryz.f3 false true false false) := by
  obtain ⟨places, hx⟩ := reads os enc
  refine returnsInHanded_of_row (C := Tryz.checked) (s := OpenSpec.ofChange Rows.movesNamesSpec) own started (by kernel_rfl) Tryz.func3
    (witness_row_at (enc := enc) (C := Tryz.checked) false (laidWorld os) #[] rfl (by kernel_rfl) (by kernel_rfl) (by kernel_rfl)
      (OpenSpec.preRow_of_cond 8 hx (by kernel_rfl) (fun k hk => by cases hk) (by kernel_rfl) (laid_met os))) ?_
  intro W base args ds gs before hval hW _ _ _ hL _ _
  exact contract H enc W base args ds gs before hval hW hL
/-- THE STATEMENT. -/
theorem said : Rows.MovesNamesSaid :=
  OpenClaim.holds_of_cond 3 Tryz.f3 rfl rfl rfl rfl rfl rfl rfl ⟨rfl, rfl, rfl, rfl, rfl⟩ rfl rfl rfl rfl rfl (by kernel_rfl) Tryz.func3 (by kernel_rfl)
    (of_decide_eq_true (by kernel_rfl)) (by unfold Func.isWrapper; first | (rw [if_pos (by decide +kernel)]; kernel_rfl) | (rw [if_neg (by decide +kernel)]; exact ⟨rfl, rfl⟩))
    (fun os started H enc _ F => by rw [OpenClaim.pre_eq_preRow]; exact lifted os started H enc F)
theorem plain (f : FuncId) (fn : Func) (hf : Tryz.pinned.checked.prog.funcNamed "touchstone/touchstonelaw13.MovesNames" = some f) (hfn : Tryz.pinned.checked.prog.funcs[f]? = some fn) :
    Rows.movesNamesCard.stood.looks = Tryz.pinned.checked.prog.looks [] ∧ ∀ (j : Nat) t, fn.params[j]? = some t → Tryz.pinned.checked.prog.wantsStandIn t = false := by
  obtain rfl : f = 3 := Option.some.inj ((show Tryz.prog.funcNamed "touchstone/touchstonelaw13.MovesNames" = some 3 by kernel_rfl).symm.trans hf) |>.symm
  obtain rfl : fn = Tryz.f3 := (Option.some.inj (Tryz.func3.symm.trans hfn)).symm
  refine ⟨by kernel_rfl, fun j t ht => ?_⟩
  rw [Tryz.params3] at ht
  simp at ht
/-- THE CARD. -/
theorem card : Rows.MovesNamesCardSaid :=
  Claim7.holds_tied_plain_at .later [] _ _ _ _ (said) (fun _ h => by cases h) (by kernel_rfl) (fun _ h => by cases h) movesNames_row_tie rfl ⟨rfl, rfl⟩ (by kernel_rfl) rfl plain (by kernel_rfl)
end movesNames

end Go.Proofs.YtmofodaecakkfaaGreatDoor
