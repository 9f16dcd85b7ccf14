/- The closed statement SpellNames. No condition. -/
import Derived.Test.YtapmmecifdfnmaaGreatDoorCards
import Derived.Test.YtapmmecifdfnmaaGreatDoorTie
import Derived.WalkKit
import Derived.ProofKit
import Derived.OpenShut
import Derived.Deep.DeepHandedRow
import Derived.Lib.LaidTab
import Derived.Laws.Externs
import Derived.Test.YtapmmecifdfnmaaGreatDoorCxSN
import Derived.Lib.MakeNoZero
namespace Go.Proofs.YtapmmecifdfnmaaGreatDoor
open Go.ChangeShapes Go.WideShapes Go.ChangeAt Go.RowKit

theorem own : ownKnob Tryz.prog.godebug = none := by kernel_rfl
/-- Functions without a body that look at memory. -/
noncomputable def extF (f : FuncId) (args : List Value) (st : Cx.St) : Option Value := none
/-- Functions without a body that make bytes. -/
noncomputable def nzF (f : FuncId) : Option TypeId := bif Nat.beq f 112 then some 5 else none
theorem nz_ok : ∀ f e, nzF f = some e → ∀ (n : Nat), n ≤ 281474976710656 → ∀ w, ∃ cs : Array Value, (callFunc f #[.int .i64 n]).run Tryz.prog w = .ok (.value (.slice (some ⟨w.heap.size, 0, none⟩) n cs.size)) (w.drew.drew.alloc (.cells cs e)) ∧ n ≤ cs.size := by
  intro f e h n hn w
  unfold nzF at h
  cases hb : Nat.beq f 112 with
  | false => simp only [hb, cond_false] at h; cases h
  | true =>
    simp only [hb, cond_true, Option.some.injEq] at h
    subst h
    obtain rfl := Nat.eq_of_beq_eq_true hb
    obtain ⟨cs, h1, h2, _⟩ := Lib.run_makeNoZero (P := Tryz.prog) w #[3] 40 5 Tryz.underlying40 n hn
    refine ⟨cs, ?_, h2⟩
    have := run_callFunc_extern (P := Tryz.prog) (e := Extern.BytealgMakeNoZero.makeNoZero #[3] #[40]) Tryz.func112 (by kernel_rfl) (by kernel_rfl) (by kernel_rfl) (by kernel_rfl) #[.int .i64 n] w
    rw [this, h1]
    rfl
noncomputable def E00 : Cx.Env := ⟨Tryz.prog, Tryz.prog.globals.size, fun f => Nat.beq f 76, fun _ _ _ => none, extF, nzF⟩
theorem ext_ok : ∀ f args st v, extF f args st = some v → Cx.plainV Cx.FUEL v = true ∧ ∀ (s : Cx.Ren) (w : World) (args' : Array Value), Cx.Mem s st w → Cx.VRs s args.toArray args' → (callFunc f args').run Tryz.prog w = .ok (.value v) w := by
  intro f args st v h
  unfold extF at h
  cases h
theorem noesc : ∀ f, Nat.beq f 76 = true → ∀ v w, (callFunc f #[v]).run Tryz.prog w = .ok (.value v) w := by
  intro f hf v w
  have hf' : f = 76 := Nat.eq_of_beq_eq_true hf
  subst hf'
  have h := run_callFunc_extern (P := Tryz.prog) (e := Extern.AbiNoEscape.same) Tryz.func76 (by kernel_rfl) (by kernel_rfl) (by kernel_rfl) (by kernel_rfl) #[v] w
  exact h
theorem E00_ok : E00.Ok := ⟨noesc, fun f args st v h => (by cases h), ext_ok, nz_ok⟩
theorem E00_mix : E00.P.follows .mixedOrders = true := by kernel_rfl
/-- math/bits.deBruijn32tab, as it is at first. -/
noncomputable def tabL0 : List Int := [0, 1, 28, 2, 29, 14, 24, 3, 30, 22, 20, 15, 25, 17, 4, 8, 31, 27, 13, 23, 21, 19, 16, 7, 26, 12, 18, 6, 11, 5, 10, 9]
noncomputable def tabV0 : List Value := [.int .u8 (.ofNat 0), .int .u8 (.ofNat 1), .int .u8 (.ofNat 28), .int .u8 (.ofNat 2), .int .u8 (.ofNat 29), .int .u8 (.ofNat 14), .int .u8 (.ofNat 24), .int .u8 (.ofNat 3), .int .u8 (.ofNat 30), .int .u8 (.ofNat 22), .int .u8 (.ofNat 20), .int .u8 (.ofNat 15), .int .u8 (.ofNat 25), .int .u8 (.ofNat 17), .int .u8 (.ofNat 4), .int .u8 (.ofNat 8), .int .u8 (.ofNat 31), .int .u8 (.ofNat 27), .int .u8 (.ofNat 13), .int .u8 (.ofNat 23), .int .u8 (.ofNat 21), .int .u8 (.ofNat 19), .int .u8 (.ofNat 16), .int .u8 (.ofNat 7), .int .u8 (.ofNat 26), .int .u8 (.ofNat 12), .int .u8 (.ofNat 18), .int .u8 (.ofNat 6), .int .u8 (.ofNat 11), .int .u8 (.ofNat 5), .int .u8 (.ofNat 10), .int .u8 (.ofNat 9)]
/-- math/bits.deBruijn64tab, as it is at first. -/
noncomputable def tabL1 : List Int := [0, 1, 56, 2, 57, 49, 28, 3, 61, 58, 42, 50, 38, 29, 17, 4, 62, 47, 59, 36, 45, 43, 51, 22, 53, 39, 33, 30, 24, 18, 12, 5, 63, 55, 48, 27, 60, 41, 37, 16, 46, 35, 44, 21, 52, 32, 23, 11, 54, 26, 40, 15, 34, 20, 31, 10, 25, 14, 19, 9, 13, 8, 7, 6]
noncomputable def tabV1 : List Value := [.int .u8 (.ofNat 0), .int .u8 (.ofNat 1), .int .u8 (.ofNat 56), .int .u8 (.ofNat 2), .int .u8 (.ofNat 57), .int .u8 (.ofNat 49), .int .u8 (.ofNat 28), .int .u8 (.ofNat 3), .int .u8 (.ofNat 61), .int .u8 (.ofNat 58), .int .u8 (.ofNat 42), .int .u8 (.ofNat 50), .int .u8 (.ofNat 38), .int .u8 (.ofNat 29), .int .u8 (.ofNat 17), .int .u8 (.ofNat 4), .int .u8 (.ofNat 62), .int .u8 (.ofNat 47), .int .u8 (.ofNat 59), .int .u8 (.ofNat 36), .int .u8 (.ofNat 45), .int .u8 (.ofNat 43), .int .u8 (.ofNat 51), .int .u8 (.ofNat 22), .int .u8 (.ofNat 53), .int .u8 (.ofNat 39), .int .u8 (.ofNat 33), .int .u8 (.ofNat 30), .int .u8 (.ofNat 24), .int .u8 (.ofNat 18), .int .u8 (.ofNat 12), .int .u8 (.ofNat 5), .int .u8 (.ofNat 63), .int .u8 (.ofNat 55), .int .u8 (.ofNat 48), .int .u8 (.ofNat 27), .int .u8 (.ofNat 60), .int .u8 (.ofNat 41), .int .u8 (.ofNat 37), .int .u8 (.ofNat 16), .int .u8 (.ofNat 46), .int .u8 (.ofNat 35), .int .u8 (.ofNat 44), .int .u8 (.ofNat 21), .int .u8 (.ofNat 52), .int .u8 (.ofNat 32), .int .u8 (.ofNat 23), .int .u8 (.ofNat 11), .int .u8 (.ofNat 54), .int .u8 (.ofNat 26), .int .u8 (.ofNat 40), .int .u8 (.ofNat 15), .int .u8 (.ofNat 34), .int .u8 (.ofNat 20), .int .u8 (.ofNat 31), .int .u8 (.ofNat 10), .int .u8 (.ofNat 25), .int .u8 (.ofNat 14), .int .u8 (.ofNat 19), .int .u8 (.ofNat 9), .int .u8 (.ofNat 13), .int .u8 (.ofNat 8), .int .u8 (.ofNat 7), .int .u8 (.ofNat 6)]
/-- internal/strconv.uint64pow10, as it is at first. -/
noncomputable def tabL2 : List Int := [1, 10, 100, 1000, 10000, 100000, 1000000, 10000000, 100000000, 1000000000, 10000000000, 100000000000, 1000000000000, 10000000000000, 100000000000000, 1000000000000000, 10000000000000000, 100000000000000000, 1000000000000000000, 10000000000000000000]
noncomputable def tabV2 : List Value := [.int .u64 (.ofNat 1), .int .u64 (.ofNat 10), .int .u64 (.ofNat 100), .int .u64 (.ofNat 1000), .int .u64 (.ofNat 10000), .int .u64 (.ofNat 100000), .int .u64 (.ofNat 1000000), .int .u64 (.ofNat 10000000), .int .u64 (.ofNat 100000000), .int .u64 (.ofNat 1000000000), .int .u64 (.ofNat 10000000000), .int .u64 (.ofNat 100000000000), .int .u64 (.ofNat 1000000000000), .int .u64 (.ofNat 10000000000000), .int .u64 (.ofNat 100000000000000), .int .u64 (.ofNat 1000000000000000), .int .u64 (.ofNat 10000000000000000), .int .u64 (.ofNat 100000000000000000), .int .u64 (.ofNat 1000000000000000000), .int .u64 (.ofNat 10000000000000000000)]
noncomputable def tabs0 : List (Nat × List Value) := [(6, tabV0), (7, tabV1), (1, tabV2)]
noncomputable def knowns : List Cx.Kn := []
noncomputable def temps : List Cx.Tm := []
theorem temps_ok : ∀ k ∈ temps, k.Ok E00 := by
  intro k hk
  cases hk
noncomputable def E0 : Cx.Env := ⟨Tryz.prog, Tryz.prog.globals.size, fun f => Nat.beq f 76, Cx.knownM Tryz.prog.globals.size knowns temps, extF, nzF⟩
theorem knowns_ok : ∀ k ∈ knowns, k.Ok E00 := by
  intro k hk
  cases hk
theorem E0_ok : E0.Ok := ⟨noesc, Cx.knownM_ok (E := E00) rfl rfl knowns_ok temps_ok, ext_ok, nz_ok⟩
theorem E0_mix : E0.P.follows .mixedOrders = true := by kernel_rfl
noncomputable def snts0 : List (Nat × List Value) := [(5, [.chan (some 0)]), (4, [.chan (some 1)])]
theorem E0_top : Cx.topS E0 tabs0 snts0 4 1000000 = true := by kernel_rfl
theorem sntG0 : Tryz.prog.globalNamed "strconv.ErrRange" = some 5 := by kernel_rfl
theorem sntY0 : (Tryz.prog.globals[5]?).map (·.type) = some 71 := by kernel_rfl
theorem sntG1 : Tryz.prog.globalNamed "strconv.ErrSyntax" = some 4 := by kernel_rfl
theorem sntY1 : (Tryz.prog.globals[4]?).map (·.type) = some 71 := by kernel_rfl
theorem law_closed (W : World) (hT : ∀ p ∈ tabs0, Cx.Tab W p) (hL : laidMet Tryz.prog Rows.spellNamesRow.laid W) : Calls Tryz.prog 4 #[] W fun e W' => e = .returned (.bool true) ∧ Below W.heap.size W W' := by
  obtain ⟨u0, b0, x0, t0, fr0, hw0⟩ := Cx.snt_laid hL (n := "strconv.ErrRange") (nm := "*errors.errorString") (.tail _ (.tail _ (.tail _ (.tail _ (.head _))))) sntG0 sntY0 ⟨_, Tryz.underlying71⟩
  obtain ⟨u1, b1, x1, t1, fr1, hw1⟩ := Cx.snt_laid hL (n := "strconv.ErrSyntax") (nm := "*errors.errorString") (.tail _ (.tail _ (.tail _ (.tail _ (.tail _ (.head _)))))) sntG1 sntY1 ⟨_, Tryz.underlying71⟩
  refine Cx.closedS E0_ok E0_mix E0_top W hT fun p hp s => ?_
  simp only [snts0, List.mem_cons, List.not_mem_nil, or_false] at hp
  rcases hp with rfl | rfl
  · refine ⟨_, t0, fr0, hw0, rfl, fun j h1 h2 => ?_⟩
    have : j = 0 := by simp at h1; omega
    subst this
    exact .opq _ _ _
  · refine ⟨_, t1, fr1, hw1, rfl, fun j h1 h2 => ?_⟩
    have : j = 0 := by simp at h1; omega
    subst this
    exact .opq _ _ _
theorem gTab0 : Tryz.prog.globalNamed "math/bits.deBruijn32tab" = some 6 := by kernel_rfl
theorem gTabType0 : (Tryz.prog.globals[6]?).map (·.type) = some 152 := by kernel_rfl
theorem cellsTab0 : Tryz.prog.cellsOf 152 = 32 := by kernel_rfl
theorem cellsOne_uint8 : Tryz.prog.cellsOf 5 = 1 := by kernel_rfl
theorem gTab1 : Tryz.prog.globalNamed "math/bits.deBruijn64tab" = some 7 := by kernel_rfl
theorem gTabType1 : (Tryz.prog.globals[7]?).map (·.type) = some 153 := by kernel_rfl
theorem cellsTab1 : Tryz.prog.cellsOf 153 = 64 := by kernel_rfl
theorem gTab2 : Tryz.prog.globalNamed "internal/strconv.uint64pow10" = some 1 := by kernel_rfl
theorem gTabType2 : (Tryz.prog.globals[1]?).map (·.type) = some 127 := by kernel_rfl
theorem cellsTab2 : Tryz.prog.cellsOf 127 = 20 := by kernel_rfl
theorem cellsOne_uint64 : Tryz.prog.cellsOf 109 = 1 := by kernel_rfl
/-- What the row's list gives. -/
theorem tabs_of {W : World} (h : laidMet Tryz.prog Rows.spellNamesRow.laid W) : ∀ p ∈ tabs0, Cx.Tab W p := by
  intro p hp
  simp only [tabs0, List.mem_cons, List.not_mem_nil, or_false] at hp
  rcases hp with rfl | rfl | rfl
  · exact Cx.tab_laid h (n := "math/bits.deBruijn32tab") (d := Rows.laid_math_bits_deBruijn32tab) (.head _) gTab0 gTabType0 fun fuel cs p hd => (Cx.cells_of_ints (zs := tabL0) Tryz.underlying152 Tryz.underlying5 cellsOne_uint8 cellsTab0 hd).trans rfl
  · exact Cx.tab_laid h (n := "math/bits.deBruijn64tab") (d := Rows.laid_math_bits_deBruijn64tab) (.tail _ (.head _)) gTab1 gTabType1 fun fuel cs p hd => (Cx.cells_of_ints (zs := tabL1) Tryz.underlying153 Tryz.underlying5 cellsOne_uint8 cellsTab1 hd).trans rfl
  · exact Cx.tab_laid h (n := "internal/strconv.uint64pow10") (d := Rows.laid_internal_strconv_uint64pow10) (.tail _ (.tail _ (.head _))) gTab2 gTabType2 fun fuel cs p hd => (Cx.cells_of_ints (zs := tabL2) Tryz.underlying127 Tryz.underlying109 cellsOne_uint64 cellsTab2 hd).trans rfl
noncomputable def extC0 : List Value := [.int .u8 (.ofNat 128), .int .u8 (.ofNat 191), .int .u8 (.ofNat 160), .int .u8 (.ofNat 191), .int .u8 (.ofNat 128), .int .u8 (.ofNat 159), .int .u8 (.ofNat 144), .int .u8 (.ofNat 191), .int .u8 (.ofNat 128), .int .u8 (.ofNat 143), .int .u8 (.ofNat 0), .int .u8 (.ofNat 0), .int .u8 (.ofNat 0), .int .u8 (.ofNat 0), .int .u8 (.ofNat 0), .int .u8 (.ofNat 0), .int .u8 (.ofNat 0), .int .u8 (.ofNat 0), .int .u8 (.ofNat 0), .int .u8 (.ofNat 0), .int .u8 (.ofNat 0), .int .u8 (.ofNat 0), .int .u8 (.ofNat 0), .int .u8 (.ofNat 0), .int .u8 (.ofNat 0), .int .u8 (.ofNat 0), .int .u8 (.ofNat 0), .int .u8 (.ofNat 0), .int .u8 (.ofNat 0), .int .u8 (.ofNat 0), .int .u8 (.ofNat 0), .int .u8 (.ofNat 0)]
noncomputable def extC1 : List Value := (Go.Pinned.utf8FirstZ.map fun (n : Nat) => Value.int .u8 n)
noncomputable def lowB : Nat := (World.holding Tryz.prog default ⟨#[], #[], []⟩).heap.size
noncomputable def sntB : Array Obj := #[.cells #[.string ⟨#[118, 97, 108, 117, 101, 32, 111, 117, 116, 32, 111, 102, 32, 114, 97, 110, 103, 101]⟩] 157, .cells #[.string ⟨#[105, 110, 118, 97, 108, 105, 100, 32, 115, 121, 110, 116, 97, 120]⟩] 157]
/-- The settled world, with the tables as they are laid at first: for the witness. -/
noncomputable def laidWorld (os : Os) : World :=
  { World.holding Tryz.prog os ⟨sntB, #[], []⟩ with heap := ((((((((World.holding Tryz.prog os ⟨sntB, #[], []⟩).heap.modify 3 fun | .cells _ t frozen => .cells extC0.toArray t frozen | o => o).modify 2 fun | .cells _ t frozen => .cells extC1.toArray t frozen | o => o).modify 6 fun | .cells _ t frozen => .cells tabV0.toArray t frozen | o => o).modify 7 fun | .cells _ t frozen => .cells tabV1.toArray t frozen | o => o).modify 1 fun | .cells _ t frozen => .cells tabV2.toArray t frozen | o => o).modify 5 fun | .cells _ t frozen => .cells #[.iface 155 (.pointer (some ⟨lowB + 0, 0, none⟩))] t frozen | o => o).modify 4 fun | .cells _ t frozen => .cells #[.iface 155 (.pointer (some ⟨lowB + 1, 0, none⟩))] t frozen | o => o) }

namespace spellNames
theorem contract (H : Type) (enc : TypeId × Value → H) (W : World) (base : Nat) (args : Array Value) (ds gs : List (DataW H)) (before : List MemPlace)
    (hval : ∀ (j : Nat) t v, Tryz.f4.params[j]? = some t → args[j]? = some v → Value.okWide Tryz.prog W .any base t v)
    (hW : DataW.Whole enc Tryz.prog Tryz.f4.params.toList Rows.spellNamesSpec.vars false W args.toList ds gs before) (hL : laidMetH Tryz.prog Rows.spellNamesRow.laid W) :
    Calls Tryz.prog 4 args W fun e W' => ∃ v, e = .returned v ∧ Rows.spellNamesSpec.post enc Tryz.prog Tryz.f4 false true false false W args v W' := by
  have hW' := hW
  obtain ⟨p, q, hA0, hV, rfl, hfz, hnd⟩ := hW
  have hA : DataW.TrodAll enc Tryz.prog W 0 (fun _ => true) true Tryz.f4.params.toList args.toList ds p := hA0
  rw [Tryz.params4] at hA hval
  obtain ⟨hargs, rfl, rfl⟩ := trodAll_nil hA
  obtain rfl : args = #[] := by cases args; simp_all
  obtain ⟨rfl, rfl⟩ := trodVars_none hV
  refine (law_closed W (tabs_of hL) hL).mono fun e W' ⟨he, hb⟩ => ?_
  subst he
  exact ⟨_, rfl, _, _, _, [], [], [], hW', trodAll_cons_mk (shut_bool Tryz.underlying4 _) trodAll_mk0, trodAll_mk0, rfl, hb.frame _, fun h => by cases h⟩
theorem laid_met (os : Os) : laidMet Tryz.prog Rows.spellNamesRow.laid ((laidWorld os).forCall (fun _ _ => 0) ⟨#[], #[], []⟩).memory :=
  laidMet_of_run' 8 (by kernel_rfl) (by kernel_rfl)
theorem reads (os : Os) {H : Type} (enc : TypeId × Value → H) : ∃ places, DataW.whole enc Tryz.prog ((laidWorld os).forCall (fun _ _ => 0) ⟨#[], #[], []⟩).memory Tryz.f4.params.toList Rows.spellNamesSpec.vars false (#[] : Array Value).toList 8 = some ([], [], places) :=
  ⟨[], by kernel_rfl⟩
set_option maxRecDepth 100000 in
theorem lifted (os : Os) (started : os.Started) (H : Type) (enc : TypeId × Value → H) (F : Stop.Interp) :
    ReturnsInHanded {} Tryz.checked os 4 .any ((OpenSpec.ofChange Rows.spellNamesSpec).preRow enc Tryz.prog Tryz.f4 Rows.spellNamesRow.domain false Rows.spellNamesRow.laid) (((OpenSpec.ofChange Rows.spellNamesSpec).at F).post enc Tryz.prog Tryz.f4 false true false false) := by
  obtain ⟨places, hx⟩ := reads os enc
  refine returnsInHanded_of_row (C := Tryz.checked) (s := OpenSpec.ofChange Rows.spellNamesSpec) own started (by kernel_rfl) Tryz.func4
    (witness_row_at (enc := enc) (C := Tryz.checked) false (laidWorld os) #[] rfl (by kernel_rfl) (by kernel_rfl) (by kernel_rfl)
      (OpenSpec.preRow_of_cond 8 hx (by kernel_rfl) (fun k hk => by cases hk) (by kernel_rfl) (laid_met os))) ?_
  intro W base args ds gs before hval hW _ _ _ hL _ _
  exact contract H enc W base args ds gs before hval hW hL
/-- THE STATEMENT. -/
theorem said : Rows.SpellNamesSaid :=
  OpenClaim.holds_of_cond 4 Tryz.f4 rfl rfl rfl rfl rfl rfl rfl ⟨rfl, rfl, rfl, rfl, rfl⟩ rfl rfl rfl rfl rfl (by kernel_rfl) Tryz.func4 (by kernel_rfl)
    (of_decide_eq_true (by kernel_rfl)) (by unfold Func.isWrapper; first | (rw [if_pos (by decide +kernel)]; kernel_rfl) | (rw [if_neg (by decide +kernel)]; exact ⟨rfl, rfl⟩))
    (fun os started H enc _ F => by rw [OpenClaim.pre_eq_preRow]; exact lifted os started H enc F)
theorem plain (f : FuncId) (fn : Func) (hf : Tryz.pinned.checked.prog.funcNamed "touchstone/touchstonelaw08.SpellNames" = some f) (hfn : Tryz.pinned.checked.prog.funcs[f]? = some fn) :
    Rows.spellNamesCard.stood.looks = Tryz.pinned.checked.prog.looks [] ∧ ∀ (j : Nat) t, fn.params[j]? = some t → Tryz.pinned.checked.prog.wantsStandIn t = false := by
  obtain rfl : f = 4 := Option.some.inj ((show Tryz.prog.funcNamed "touchstone/touchstonelaw08.SpellNames" = some 4 by kernel_rfl).symm.trans hf) |>.symm
  obtain rfl : fn = Tryz.f4 := (Option.some.inj (Tryz.func4.symm.trans hfn)).symm
  refine ⟨by kernel_rfl, fun j t ht => ?_⟩
  rw [Tryz.params4] at ht
  simp at ht
/-- THE CARD. -/
theorem card : Rows.SpellNamesCardSaid :=
  Claim7.holds_tied_plain_at .later [] _ _ _ _ (said) (fun _ h => by cases h) (by kernel_rfl) (fun _ h => by cases h) spellNames_row_tie rfl ⟨rfl, rfl⟩ (by kernel_rfl) rfl plain (by kernel_rfl)
end spellNames

end Go.Proofs.YtapmmecifdfnmaaGreatDoor
