/- The closed statement ProbeNames. No condition. -/
import Derived.Test.YtfilbknnpjbmcaaRows
import Derived.WalkKit
import Derived.ProofKit
import Derived.OpenShut
import Derived.Deep.DeepHandedRow
import Derived.Lib.LaidTab
import Derived.Laws.Externs
import Derived.Test.YtfilbknnpjbmcaaCxSN
import Derived.Lib.MakeNoZero
namespace Go.Proofs.Ytfilbknnpjbmcaa
open Go.ChangeShapes Go.WideShapes Go.ChangeAt Go.RowKit

theorem own : ownKnob Try.prog.godebug = none := by kernel_rfl
/-- Functions without a body that look at memory. -/
noncomputable def extF (_ : FuncId) (_ : List Value) (_ : Cx.St) : Option Value := none
/-- Functions without a body that make bytes. -/
noncomputable def nzF (f : FuncId) : Option TypeId := bif Nat.beq f 52 then some 5 else none
theorem nz_ok : ∀ f e, nzF f = some e → ∀ (n : Nat), n ≤ 281474976710656 → ∀ w, ∃ cs : Array Value, (callFunc f #[.int .i64 n]).run Try.prog w = .ok (.value (.slice (some ⟨w.heap.size, 0, none⟩) n cs.size)) (w.drew.drew.alloc (.cells cs e)) ∧ n ≤ cs.size := by
  intro f e h n hn w
  unfold nzF at h
  cases hb : Nat.beq f 52 with
  | false => simp only [hb, cond_false] at h; cases h
  | true =>
    simp only [hb, cond_true, Option.some.injEq] at h
    subst h
    obtain rfl := Nat.eq_of_beq_eq_true hb
    obtain ⟨cs, h1, h2, _⟩ := Lib.run_makeNoZero (P := Try.prog) w #[3] 51 5 Try.underlying51 n hn
    refine ⟨cs, ?_, h2⟩
    have := run_callFunc_extern (P := Try.prog) (e := Extern.BytealgMakeNoZero.makeNoZero #[3] #[51]) Try.func52 (by kernel_rfl) (by kernel_rfl) (by kernel_rfl) (by kernel_rfl) #[.int .i64 n] w
    rw [this, h1]
    rfl
noncomputable def E00 : Cx.Env := ⟨Try.prog, Try.prog.globals.size, fun f => Nat.beq f 51, fun _ _ _ => none, extF, nzF⟩
theorem ext_ok : ∀ f args st v, extF f args st = some v → Cx.plainV Cx.FUEL v = true ∧ ∀ (s : Cx.Ren) (w : World) (args' : Array Value), Cx.Mem s st w → Cx.VRs s args.toArray args' → (callFunc f args').run Try.prog w = .ok (.value v) w := by
  intro f args st v h
  unfold extF at h
  cases h
theorem noesc : ∀ f, Nat.beq f 51 = true → ∀ v w, (callFunc f #[v]).run Try.prog w = .ok (.value v) w := by
  intro f hf v w
  have hf' : f = 51 := Nat.eq_of_beq_eq_true hf
  subst hf'
  have h := run_callFunc_extern (P := Try.prog) (e := Extern.AbiNoEscape.same) Try.func51 (by kernel_rfl) (by kernel_rfl) (by kernel_rfl) (by kernel_rfl) #[v] w
  exact h
theorem E00_ok : E00.Ok := ⟨noesc, fun f args st v h => (by cases h), ext_ok, nz_ok⟩
theorem E00_mix : E00.P.follows .mixedOrders = true := by kernel_rfl
noncomputable def tabs0 : List (Nat × List Value) := []
noncomputable def knowns : List Cx.Kn := []
noncomputable def temps : List Cx.Tm := []
theorem temps_ok : ∀ k ∈ temps, k.Ok E00 := by
  intro k hk
  cases hk
noncomputable def E0 : Cx.Env := ⟨Try.prog, Try.prog.globals.size, fun f => Nat.beq f 51, Cx.knownM Try.prog.globals.size knowns temps, extF, nzF⟩
theorem knowns_ok : ∀ k ∈ knowns, k.Ok E00 := by
  intro k hk
  cases hk
theorem E0_ok : E0.Ok := ⟨noesc, Cx.knownM_ok (E := E00) rfl rfl knowns_ok temps_ok, ext_ok, nz_ok⟩
theorem E0_mix : E0.P.follows .mixedOrders = true := by kernel_rfl
theorem E0_top : Cx.topT E0 tabs0 3 1000000 = true := by kernel_rfl
theorem law_closed (W : World) (hT : ∀ p ∈ tabs0, Cx.Tab W p) : Calls Try.prog 3 #[] W fun e W' => e = .returned (.bool true) ∧ Below W.heap.size W W' :=
  Cx.closedT E0_ok E0_mix E0_top W hT

namespace probeNames
theorem contract (H : Type) (enc : TypeId × Value → H) (W : World) (base : Nat) (args : Array Value) (ds gs : List (DataW H)) (before : List MemPlace)
    (hval : ∀ (j : Nat) t v, Try.f3.params[j]? = some t → args[j]? = some v → Value.okWide Try.prog W .any base t v)
    (hW : DataW.Whole enc Try.prog Try.f3.params.toList Rows.probeNamesSpec.vars false W args.toList ds gs before) :
    Calls Try.prog 3 args W fun e W' => ∃ v, e = .returned v ∧ Rows.probeNamesSpec.post enc Try.prog Try.f3 false true false false W args v W' := by
  have hW' := hW
  obtain ⟨p, q, hA0, hV, rfl, hfz, hnd⟩ := hW
  have hA : DataW.TrodAll enc Try.prog W 0 (fun _ => true) true Try.f3.params.toList args.toList ds p := hA0
  rw [Try.params3] at hA hval
  obtain ⟨hargs, rfl, rfl⟩ := trodAll_nil hA
  obtain rfl : args = #[] := by cases args; simp_all
  obtain ⟨rfl, rfl⟩ := trodVars_none hV
  refine (law_closed W (fun p hp => by cases hp)).mono fun e W' ⟨he, hb⟩ => ?_
  subst he
  exact ⟨_, rfl, _, _, _, [], [], [], hW', trodAll_cons_mk (shut_bool Try.underlying4 _) trodAll_mk0, trodAll_mk0, rfl, hb.frame _, fun h => by cases h⟩
theorem laid_met (os : Os) : laidMet Try.prog Rows.probeNamesRow.laid ((World.holding Try.prog os ⟨#[], #[], []⟩).forCall (fun _ _ => 0) ⟨#[], #[], []⟩).memory :=
  laidMet_of_run' 8 (by kernel_rfl) (by kernel_rfl)
theorem reads (os : Os) {H : Type} (enc : TypeId × Value → H) : ∃ places, DataW.whole enc Try.prog ((World.holding Try.prog os ⟨#[], #[], []⟩).forCall (fun _ _ => 0) ⟨#[], #[], []⟩).memory Try.f3.params.toList Rows.probeNamesSpec.vars false (#[] : Array Value).toList 8 = some ([], [], places) :=
  ⟨[], by kernel_rfl⟩
set_option maxRecDepth 100000 in
theorem lifted (os : Os) (started : os.Started) (H : Type) (enc : TypeId × Value → H) (F : Stop.Interp) :
    ReturnsInHanded {} Try.checked os 3 .any ((OpenSpec.ofChange Rows.probeNamesSpec).preRow enc Try.prog Try.f3 Rows.probeNamesRow.domain false Rows.probeNamesRow.laid) (((OpenSpec.ofChange Rows.probeNamesSpec).at F).post enc Try.prog Try.f3 false true false false) := by
  obtain ⟨places, hx⟩ := reads os enc
  refine returnsInHanded_of_row (C := Try.checked) (s := OpenSpec.ofChange Rows.probeNamesSpec) own started (by kernel_rfl) Try.func3
    (witness_row_at (enc := enc) (C := Try.checked) false (World.holding Try.prog os ⟨#[], #[], []⟩) #[] rfl (by kernel_rfl) (by kernel_rfl) (by kernel_rfl)
      (OpenSpec.preRow_of_cond 8 hx (by kernel_rfl) (fun k hk => by cases hk) (by kernel_rfl) (laid_met os))) ?_
  intro W base args ds gs before hval hW _ _ _ hL _ _
  exact contract H enc W base args ds gs before hval hW
/-- THE STATEMENT. -/
theorem said : Rows.ProbeNamesSaid :=
  OpenClaim.holds_of_cond 3 Try.f3 rfl rfl rfl rfl rfl rfl rfl ⟨rfl, rfl, rfl, rfl, rfl⟩ rfl rfl rfl rfl rfl (by kernel_rfl) Try.func3 (by kernel_rfl)
    (of_decide_eq_true (by kernel_rfl)) (by unfold Func.isWrapper; first | (rw [if_pos (by decide +kernel)]; kernel_rfl) | (rw [if_neg (by decide +kernel)]; exact ⟨rfl, rfl⟩))
    (fun os started H enc _ F => by rw [OpenClaim.pre_eq_preRow]; exact lifted os started H enc F)
end probeNames

end Go.Proofs.Ytfilbknnpjbmcaa
