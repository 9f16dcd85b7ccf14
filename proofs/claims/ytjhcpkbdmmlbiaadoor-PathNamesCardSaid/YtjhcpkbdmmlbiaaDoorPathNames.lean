/- The closed statement PathNames. No condition. -/
import Derived.Test.YtjhcpkbdmmlbiaaDoorCards
import Derived.Test.YtjhcpkbdmmlbiaaDoorTie
import Derived.WalkKit
import Derived.ProofKit
import Derived.OpenShut
import Derived.Deep.DeepHandedRow
import Derived.Lib.LaidTab
import Derived.Laws.Externs
import Derived.Test.YtjhcpkbdmmlbiaaDoorCxZ
namespace Go.Proofs.YtjhcpkbdmmlbiaaDoor
open Go.ChangeShapes Go.WideShapes Go.ChangeAt Go.RowKit

theorem own : ownKnob Tryd.prog.godebug = none := by kernel_rfl
/-- Functions without a body that look at memory. -/
noncomputable def extF (f : FuncId) (args : List Value) (st : Cx.St) : Option Value := none
noncomputable def E00 : Cx.Env := ⟨Tryd.prog, Tryd.prog.globals.size, fun f => Nat.beq f 56, fun _ _ _ => none, extF⟩
theorem ext_ok : ∀ f args st v, extF f args st = some v → Cx.plainV Cx.FUEL v = true ∧ ∀ (s : Cx.Ren) (w : World) (args' : Array Value), Cx.Mem s st w → Cx.VRs s args.toArray args' → (callFunc f args').run Tryd.prog w = .ok (.value v) w := by
  intro f args st v h
  unfold extF at h
  cases h
theorem noesc : ∀ f, Nat.beq f 56 = true → ∀ v w, (callFunc f #[v]).run Tryd.prog w = .ok (.value v) w := by
  intro f hf v w
  have hf' : f = 56 := Nat.eq_of_beq_eq_true hf
  subst hf'
  have h := run_callFunc_extern (P := Tryd.prog) (e := Extern.AbiNoEscape.same) Tryd.func56 (by kernel_rfl) (by kernel_rfl) (by kernel_rfl) (by kernel_rfl) #[v] w
  exact h
theorem E00_ok : E00.Ok := ⟨noesc, fun f args st v h => (by cases h), ext_ok⟩
theorem E00_mix : E00.P.follows .mixedOrders = true := by kernel_rfl
noncomputable def tabs0 : List (Nat × List Value) := []
noncomputable def knowns : List Cx.Kn := []
noncomputable def temps : List Cx.Tm := []
theorem temps_ok : ∀ k ∈ temps, k.Ok E00 := by
  intro k hk
  cases hk
noncomputable def E0 : Cx.Env := ⟨Tryd.prog, Tryd.prog.globals.size, fun f => Nat.beq f 56, Cx.knownM Tryd.prog.globals.size knowns temps, extF⟩
theorem knowns_ok : ∀ k ∈ knowns, k.Ok E00 := by
  intro k hk
  cases hk
theorem E0_ok : E0.Ok := ⟨noesc, Cx.knownM_ok (E := E00) rfl rfl knowns_ok temps_ok, ext_ok⟩
theorem E0_mix : E0.P.follows .mixedOrders = true := by kernel_rfl
theorem E0_top : Cx.topT E0 tabs0 4 1000000 = true := by kernel_rfl
theorem law_closed (W : World) (hT : ∀ p ∈ tabs0, Cx.Tab W p) : Calls Tryd.prog 4 #[] W fun e W' => e = .returned (.bool true) ∧ Below W.heap.size W W' :=
  Cx.closedT E0_ok E0_mix E0_top W hT
/-- What the row's list gives. -/
theorem tabs_of {W : World} (h : laidMet Tryd.prog Rows.pathNamesRow.laid W) : ∀ p ∈ tabs0, Cx.Tab W p := by
  intro p hp
  simp only [tabs0, List.mem_cons, List.not_mem_nil, or_false] at hp
noncomputable def extC0 : List Value := [.int .u8 (.ofNat 128), .int .u8 (.ofNat 191), .int .u8 (.ofNat 160), .int .u8 (.ofNat 191), .int .u8 (.ofNat 128), .int .u8 (.ofNat 159), .int .u8 (.ofNat 144), .int .u8 (.ofNat 191), .int .u8 (.ofNat 128), .int .u8 (.ofNat 143), .int .u8 (.ofNat 0), .int .u8 (.ofNat 0), .int .u8 (.ofNat 0), .int .u8 (.ofNat 0), .int .u8 (.ofNat 0), .int .u8 (.ofNat 0), .int .u8 (.ofNat 0), .int .u8 (.ofNat 0), .int .u8 (.ofNat 0), .int .u8 (.ofNat 0), .int .u8 (.ofNat 0), .int .u8 (.ofNat 0), .int .u8 (.ofNat 0), .int .u8 (.ofNat 0), .int .u8 (.ofNat 0), .int .u8 (.ofNat 0), .int .u8 (.ofNat 0), .int .u8 (.ofNat 0), .int .u8 (.ofNat 0), .int .u8 (.ofNat 0), .int .u8 (.ofNat 0), .int .u8 (.ofNat 0)]
noncomputable def extC1 : List Value := (Go.Pinned.utf8FirstZ.map fun (n : Nat) => Value.int .u8 n)
/-- The settled world, with the tables as they are laid at first: for the witness. -/
noncomputable def laidWorld (os : Os) : World :=
  { World.holding Tryd.prog os ⟨#[], #[], []⟩ with heap := (((World.holding Tryd.prog os ⟨#[], #[], []⟩).heap.modify 2 fun | .cells _ t frozen => .cells extC0.toArray t frozen | o => o).modify 1 fun | .cells _ t frozen => .cells extC1.toArray t frozen | o => o) }

namespace pathNames
theorem contract (H : Type) (enc : TypeId × Value → H) (W : World) (base : Nat) (args : Array Value) (ds gs : List (DataW H)) (before : List MemPlace)
    (hval : ∀ (j : Nat) t v, Tryd.f4.params[j]? = some t → args[j]? = some v → Value.okWide Tryd.prog W .any base t v)
    (hW : DataW.Whole enc Tryd.prog Tryd.f4.params.toList Rows.pathNamesSpec.vars false W args.toList ds gs before) (hL : laidMetH Tryd.prog Rows.pathNamesRow.laid W) :
    Calls Tryd.prog 4 args W fun e W' => ∃ v, e = .returned v ∧ Rows.pathNamesSpec.post enc Tryd.prog Tryd.f4 false true false false W args v W' := by
  have hW' := hW
  obtain ⟨p, q, hA0, hV, rfl, hfz, hnd⟩ := hW
  have hA : DataW.TrodAll enc Tryd.prog W 0 (fun _ => true) true Tryd.f4.params.toList args.toList ds p := hA0
  rw [Tryd.params4] at hA hval
  obtain ⟨hargs, rfl, rfl⟩ := trodAll_nil hA
  obtain rfl : args = #[] := by cases args; simp_all
  obtain ⟨rfl, rfl⟩ := trodVars_none hV
  refine (law_closed W (tabs_of hL)).mono fun e W' ⟨he, hb⟩ => ?_
  subst he
  exact ⟨_, rfl, _, _, _, [], [], [], hW', trodAll_cons_mk (shut_bool Tryd.underlying4 _) trodAll_mk0, trodAll_mk0, rfl, hb.frame _, fun h => by cases h⟩
theorem laid_met (os : Os) : laidMet Tryd.prog Rows.pathNamesRow.laid ((laidWorld os).forCall (fun _ _ => 0) ⟨#[], #[], []⟩).memory :=
  laidMet_of_run' 8 (by kernel_rfl) (by kernel_rfl)
theorem reads (os : Os) {H : Type} (enc : TypeId × Value → H) : ∃ places, DataW.whole enc Tryd.prog ((laidWorld os).forCall (fun _ _ => 0) ⟨#[], #[], []⟩).memory Tryd.f4.params.toList Rows.pathNamesSpec.vars false (#[] : Array Value).toList 8 = some ([], [], places) :=
  ⟨[], by kernel_rfl⟩
set_option maxRecDepth 100000 in
theorem lifted (os : Os) (started : os.Started) (H : Type) (enc : TypeId × Value → H) (F : Stop.Interp) :
    ReturnsInHanded {} Tryd.checked os 4 .any ((OpenSpec.ofChange Rows.pathNamesSpec).preRow enc Tryd.prog Tryd.f4 Rows.pathNamesRow.domain false Rows.pathNamesRow.laid) (((OpenSpec.ofChange Rows.pathNamesSpec).at F).post enc Tryd.prog Tryd.f4 false true false false) := by
  obtain ⟨places, hx⟩ := reads os enc
  refine returnsInHanded_of_row (C := Tryd.checked) (s := OpenSpec.ofChange Rows.pathNamesSpec) own started (by kernel_rfl) Tryd.func4
    (witness_row_at (enc := enc) (C := Tryd.checked) false (laidWorld os) #[] rfl (by kernel_rfl) (by kernel_rfl) (by kernel_rfl)
      (OpenSpec.preRow_of_cond 8 hx (by kernel_rfl) (fun k hk => by cases hk) (by kernel_rfl) (laid_met os))) ?_
  intro W base args ds gs before hval hW _ _ _ hL _ _
  exact contract H enc W base args ds gs before hval hW hL
/-- THE STATEMENT. -/
theorem said : Rows.PathNamesSaid :=
  OpenClaim.holds_of_cond 4 Tryd.f4 rfl rfl rfl rfl rfl rfl rfl ⟨rfl, rfl, rfl, rfl, rfl⟩ rfl rfl rfl rfl rfl (by kernel_rfl) Tryd.func4 (by kernel_rfl)
    (of_decide_eq_true (by kernel_rfl)) (by unfold Func.isWrapper; first | (rw [if_pos (by decide +kernel)]; kernel_rfl) | (rw [if_neg (by decide +kernel)]; exact ⟨rfl, rfl⟩))
    (fun os started H enc _ F => by rw [OpenClaim.pre_eq_preRow]; exact lifted os started H enc F)
theorem plain (f : FuncId) (fn : Func) (hf : Tryd.pinned.checked.prog.funcNamed "touchstone/touchstonelaw06.PathNames" = some f) (hfn : Tryd.pinned.checked.prog.funcs[f]? = some fn) :
    Rows.pathNamesCard.stood.looks = Tryd.pinned.checked.prog.looks [] ∧ ∀ (j : Nat) t, fn.params[j]? = some t → Tryd.pinned.checked.prog.wantsStandIn t = false := by
  obtain rfl : f = 4 := Option.some.inj ((show Tryd.prog.funcNamed "touchstone/touchstonelaw06.PathNames" = some 4 by kernel_rfl).symm.trans hf) |>.symm
  obtain rfl : fn = Tryd.f4 := (Option.some.inj (Tryd.func4.symm.trans hfn)).symm
  refine ⟨by kernel_rfl, fun j t ht => ?_⟩
  rw [Tryd.params4] at ht
  simp at ht
/-- THE CARD. -/
theorem card : Rows.PathNamesCardSaid :=
  Claim7.holds_tied_plain_at .later [] _ _ _ _ (said) (fun _ h => by cases h) (by kernel_rfl) (fun _ h => by cases h) pathNames_row_tie rfl ⟨rfl, rfl⟩ (by kernel_rfl) rfl plain (by kernel_rfl)
end pathNames

end Go.Proofs.YtjhcpkbdmmlbiaaDoor
