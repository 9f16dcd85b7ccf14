/-
  NARROWER THAN 'FOR EVERY INPUT', by the rows' own cells (each row's printed sentence says how): PrimRefused: loops · PrimBack: loops · FtreePlays: loops · WalkReal: loops.
  DERIVED. THE GIVEN ROWS OF THIS SEAT. 6 by the template 'for every input the law returns true; each argument reads behind the call as it read before'; 0 by the template 'total and deterministic' (their statements: YtonpeoaahjoboaaTotals.lean).
  GIVEN WITH THE SEED: the statements are not yours to turn. If you find one false, say at which input.
  Laid BY PROGRAM, IN A SANDBOX (cutbox-rows.mjs): the forced cells as the released guide's own fill.sh prints them over the translation 84e0994ebdca1935… (all of the seat's roots in one cut). By AI agents, Wed Nov 11 2026. No macro, syntax, notation, axiom, sorry.
-/
import Derived.Test.YtonpeoaahjoboaaChecked
import GoSem.Claim
import GoSem.ClaimJoined
import GoSem.ClaimMapViews
import Derived.JoinedTies
import Derived.KernelRfl
namespace Go.Proofs.Ytonpeoaahjoboaa
/- THE CELL 'sum', in the pinned program and in every row, IS THE sha256 OF THE DUMP (.gsa) THAT YtonpeoaahjoboaaProg.lean LOADS. Nothing in Lean hashes anything: it is a label: what it is worth is what the hold of that sum in a sandbox is worth. -/
noncomputable def Try.pinned : Pinned := { name := "ytonpeoaahjoboaa", sum := "84e0994ebdca1935727aa3063c72a05b883bf1cd9913d72805fb7635d59f2409", checked := Try.checked }
namespace Rows
def none {H : Type} : Left H := { results := [], args := [] }

/-- 'touchstonelaw10.PrimNames': WHATEVER THE INPUT: true; the input reads as it did. -/
def primNamesSpec : ChangeSpec := { name := "primNames", fn := fun _ => fun
  | [] => { results := [.lit (.bool true)], args := [] }
  | _ => none }
def primNamesRow : OpenClaim := { program := "ytonpeoaahjoboaa", sum := "84e0994ebdca1935727aa3063c72a05b883bf1cd9913d72805fb7635d59f2409", func := "touchstone/touchstonelaw10.PrimNames", spec := "primNames", inPlace := ["internal/bytealg.IndexByteString", "internal/bytealg.IndexString"], unfollowed := true, recurses := true, named := ["internal/bytealg.MaxLen"], apart := false }
def PrimNamesSaid : Prop := primNamesRow.holds Try.pinned (OpenSpec.ofChange primNamesSpec)

/-- ITS FALSE NEIGHBOUR: 'it returns false'. Refute it at one input. -/
def primNamesWrong : ChangeSpec := { name := "primNames", fn := fun _ => fun
  | [] => { results := [.lit (.bool false)], args := [] }
  | _ => none }
def PrimNamesWrongFalsely : Prop := primNamesRow.holds Try.pinned (OpenSpec.ofChange primNamesWrong)

/-- 'touchstonelaw10.PrimRefused': WHATEVER THE INPUT: true; the input reads as it did. -/
def primRefusedSpec : ChangeSpec := { name := "primRefused", fn := fun _ => fun
  | [d1, d2] => { results := [.lit (.bool true)], args := [d1, d2] }
  | _ => none }
def primRefusedRow : OpenClaim := { program := "ytonpeoaahjoboaa", sum := "84e0994ebdca1935727aa3063c72a05b883bf1cd9913d72805fb7635d59f2409", func := "touchstone/touchstonelaw10.PrimRefused", spec := "primRefused", inPlace := ["internal/bytealg.IndexByteString", "internal/bytealg.IndexString"], unfollowed := true, recurses := true, named := ["internal/bytealg.MaxLen"], loops := true, apart := false }
def PrimRefusedSaid : Prop := primRefusedRow.holds Try.pinned (OpenSpec.ofChange primRefusedSpec)

/-- ITS FALSE NEIGHBOUR: 'it returns false'. Refute it at one input. -/
def primRefusedWrong : ChangeSpec := { name := "primRefused", fn := fun _ => fun
  | [d1, d2] => { results := [.lit (.bool false)], args := [d1, d2] }
  | _ => none }
def PrimRefusedWrongFalsely : Prop := primRefusedRow.holds Try.pinned (OpenSpec.ofChange primRefusedWrong)

/-- 'touchstonelaw10.PrimBack': WHATEVER THE INPUT: true; the input reads as it did. -/
def primBackSpec : ChangeSpec := { name := "primBack", fn := fun _ => fun
  | [d1, d2, d3] => { results := [.lit (.bool true)], args := [d1, d2, d3] }
  | _ => none }
def primBackRow : OpenClaim := { program := "ytonpeoaahjoboaa", sum := "84e0994ebdca1935727aa3063c72a05b883bf1cd9913d72805fb7635d59f2409", func := "touchstone/touchstonelaw10.PrimBack", spec := "primBack", inPlace := ["internal/bytealg.IndexByteString", "internal/bytealg.IndexString"], unfollowed := true, recurses := true, named := ["internal/bytealg.MaxLen"], loops := true, apart := false }
def PrimBackSaid : Prop := primBackRow.holds Try.pinned (OpenSpec.ofChange primBackSpec)

/-- ITS FALSE NEIGHBOUR: 'it returns false'. Refute it at one input. -/
def primBackWrong : ChangeSpec := { name := "primBack", fn := fun _ => fun
  | [d1, d2, d3] => { results := [.lit (.bool false)], args := [d1, d2, d3] }
  | _ => none }
def PrimBackWrongFalsely : Prop := primBackRow.holds Try.pinned (OpenSpec.ofChange primBackWrong)

/-- 'touchstonelaw07.FtreeNames': WHATEVER THE INPUT: true; the input reads as it did. -/
def ftreeNamesSpec : ChangeSpec := { name := "ftreeNames", fn := fun _ => fun
  | [] => { results := [.lit (.bool true)], args := [] }
  | _ => none }
def ftreeNamesRow : OpenClaim := { program := "ytonpeoaahjoboaa", sum := "84e0994ebdca1935727aa3063c72a05b883bf1cd9913d72805fb7635d59f2409", func := "touchstone/touchstonelaw07.FtreeNames", spec := "ftreeNames", inPlace := ["internal/bytealg.IndexByteString", "internal/bytealg.IndexString"], unfollowed := true, recurses := true, named := ["internal/bytealg.MaxLen"], apart := false }
def FtreeNamesSaid : Prop := ftreeNamesRow.holds Try.pinned (OpenSpec.ofChange ftreeNamesSpec)

/-- ITS FALSE NEIGHBOUR: 'it returns false'. Refute it at one input. -/
def ftreeNamesWrong : ChangeSpec := { name := "ftreeNames", fn := fun _ => fun
  | [] => { results := [.lit (.bool false)], args := [] }
  | _ => none }
def FtreeNamesWrongFalsely : Prop := ftreeNamesRow.holds Try.pinned (OpenSpec.ofChange ftreeNamesWrong)

/-- 'touchstonelaw07.FtreePlays': WHATEVER THE INPUT: true; the input reads as it did. -/
def ftreePlaysSpec : ChangeSpec := { name := "ftreePlays", fn := fun _ => fun
  | [d1, d2] => { results := [.lit (.bool true)], args := [d1, d2] }
  | _ => none }
def ftreePlaysRow : OpenClaim := { program := "ytonpeoaahjoboaa", sum := "84e0994ebdca1935727aa3063c72a05b883bf1cd9913d72805fb7635d59f2409", func := "touchstone/touchstonelaw07.FtreePlays", spec := "ftreePlays", inPlace := ["internal/bytealg.IndexByteString", "internal/bytealg.IndexString"], unfollowed := true, recurses := true, named := ["internal/bytealg.MaxLen"], loops := true, apart := false }
def FtreePlaysSaid : Prop := ftreePlaysRow.holds Try.pinned (OpenSpec.ofChange ftreePlaysSpec)

/-- ITS FALSE NEIGHBOUR: 'it returns false'. Refute it at one input. -/
def ftreePlaysWrong : ChangeSpec := { name := "ftreePlays", fn := fun _ => fun
  | [d1, d2] => { results := [.lit (.bool false)], args := [d1, d2] }
  | _ => none }
def FtreePlaysWrongFalsely : Prop := ftreePlaysRow.holds Try.pinned (OpenSpec.ofChange ftreePlaysWrong)

/-- 'touchstonelaw09.WalkReal': WHATEVER THE INPUT: true; the input reads as it did. -/
def walkRealSpec : ChangeSpec := { name := "walkReal", fn := fun _ => fun
  | [d1, d2, d3] => { results := [.lit (.bool true)], args := [d1, d2, d3] }
  | _ => none }
def walkRealRow : OpenClaim := { program := "ytonpeoaahjoboaa", sum := "84e0994ebdca1935727aa3063c72a05b883bf1cd9913d72805fb7635d59f2409", func := "touchstone/touchstonelaw09.WalkReal", spec := "walkReal", inPlace := ["internal/bytealg.IndexByteString", "internal/bytealg.IndexString", "internal/abi.NoEscape"], unfollowed := true, recurses := true, named := ["internal/bytealg.MaxLen"], loops := true, apart := false }
def WalkRealSaid : Prop := walkRealRow.holds Try.pinned (OpenSpec.ofChange walkRealSpec)

/-- ITS FALSE NEIGHBOUR: 'it returns false'. Refute it at one input. -/
def walkRealWrong : ChangeSpec := { name := "walkReal", fn := fun _ => fun
  | [d1, d2, d3] => { results := [.lit (.bool false)], args := [d1, d2, d3] }
  | _ => none }
def WalkRealWrongFalsely : Prop := walkRealRow.holds Try.pinned (OpenSpec.ofChange walkRealWrong)

/- THE SECOND FORM. 'bulk': how many values and letters a reading holds, each counted each time it is reached (what is shared counts as often as it is met; a slice's spare places count too). A statement '..UptoSaid' is the law's where the arguments, and the package variables that the reading takes, are together of bulk at most 1048576: NARROWER than '..Said'. Prove '..Said' where nothing that the law and all that it calls make is longer than what came in: it says more and counts as full. Else prove '..UptoSaid'. A law counts once. -/
mutual
def uptoBulk {H : Type} : DataW H → Nat
  | .lit (.string bytes) => bytes.length + 1
  | .lit _ => 1
  | .nil => 1
  | .ptr d => uptoBulk d + 1
  | .slice elems spare => uptoBulkAll elems + uptoBulkAll spare + 1
  | .agg parts => uptoBulkAll parts + 1
  | .iface _ d => uptoBulk d + 1
  | .map entries => uptoBulkEntries entries + 1
  | .held _ => 1
def uptoBulkAll {H : Type} : List (DataW H) → Nat
  | [] => 0
  | d :: r => uptoBulk d + uptoBulkAll r
def uptoBulkEntries {H : Type} : List (Lit × DataW H) → Nat
  | [] => 0
  | x :: r => uptoBulkEntry x + uptoBulkEntries r
def uptoBulkEntry {H : Type} : Lit × DataW H → Nat
  | (.string bytes, d) => bytes.length + uptoBulk d + 1
  | (_, d) => uptoBulk d + 1
 end
def uptoSmall : (H : Type) → List (DataW H) → Bool := fun _ ds => decide (uptoBulkAll ds ≤ 1048576)
def OpenSpec.upto (s : _root_.Go.ChangeSpec) : _root_.Go.OpenSpec := { _root_.Go.OpenSpec.ofChange s with cond := some uptoSmall }

/-- 'touchstonelaw10.PrimNames', WHERE WHAT IT READS IS OF BULK AT MOST 1048576: true; the input reads as it did. -/
def primNamesUptoRow : OpenClaim := { program := "ytonpeoaahjoboaa", sum := "84e0994ebdca1935727aa3063c72a05b883bf1cd9913d72805fb7635d59f2409", func := "touchstone/touchstonelaw10.PrimNames", spec := "primNames", inPlace := ["internal/bytealg.IndexByteString", "internal/bytealg.IndexString"], unfollowed := true, recurses := true, named := ["internal/bytealg.MaxLen"], apart := false, narrowed := true }
def PrimNamesUptoSaid : Prop := primNamesUptoRow.holds Try.pinned (OpenSpec.upto primNamesSpec)

/-- 'touchstonelaw10.PrimRefused', WHERE WHAT IT READS IS OF BULK AT MOST 1048576: true; the input reads as it did. -/
def primRefusedUptoRow : OpenClaim := { program := "ytonpeoaahjoboaa", sum := "84e0994ebdca1935727aa3063c72a05b883bf1cd9913d72805fb7635d59f2409", func := "touchstone/touchstonelaw10.PrimRefused", spec := "primRefused", inPlace := ["internal/bytealg.IndexByteString", "internal/bytealg.IndexString"], unfollowed := true, recurses := true, named := ["internal/bytealg.MaxLen"], loops := true, apart := false, narrowed := true }
def PrimRefusedUptoSaid : Prop := primRefusedUptoRow.holds Try.pinned (OpenSpec.upto primRefusedSpec)

/-- 'touchstonelaw10.PrimBack', WHERE WHAT IT READS IS OF BULK AT MOST 1048576: true; the input reads as it did. -/
def primBackUptoRow : OpenClaim := { program := "ytonpeoaahjoboaa", sum := "84e0994ebdca1935727aa3063c72a05b883bf1cd9913d72805fb7635d59f2409", func := "touchstone/touchstonelaw10.PrimBack", spec := "primBack", inPlace := ["internal/bytealg.IndexByteString", "internal/bytealg.IndexString"], unfollowed := true, recurses := true, named := ["internal/bytealg.MaxLen"], loops := true, apart := false, narrowed := true }
def PrimBackUptoSaid : Prop := primBackUptoRow.holds Try.pinned (OpenSpec.upto primBackSpec)

/-- 'touchstonelaw07.FtreeNames', WHERE WHAT IT READS IS OF BULK AT MOST 1048576: true; the input reads as it did. -/
def ftreeNamesUptoRow : OpenClaim := { program := "ytonpeoaahjoboaa", sum := "84e0994ebdca1935727aa3063c72a05b883bf1cd9913d72805fb7635d59f2409", func := "touchstone/touchstonelaw07.FtreeNames", spec := "ftreeNames", inPlace := ["internal/bytealg.IndexByteString", "internal/bytealg.IndexString"], unfollowed := true, recurses := true, named := ["internal/bytealg.MaxLen"], apart := false, narrowed := true }
def FtreeNamesUptoSaid : Prop := ftreeNamesUptoRow.holds Try.pinned (OpenSpec.upto ftreeNamesSpec)

/-- 'touchstonelaw07.FtreePlays', WHERE WHAT IT READS IS OF BULK AT MOST 1048576: true; the input reads as it did. -/
def ftreePlaysUptoRow : OpenClaim := { program := "ytonpeoaahjoboaa", sum := "84e0994ebdca1935727aa3063c72a05b883bf1cd9913d72805fb7635d59f2409", func := "touchstone/touchstonelaw07.FtreePlays", spec := "ftreePlays", inPlace := ["internal/bytealg.IndexByteString", "internal/bytealg.IndexString"], unfollowed := true, recurses := true, named := ["internal/bytealg.MaxLen"], loops := true, apart := false, narrowed := true }
def FtreePlaysUptoSaid : Prop := ftreePlaysUptoRow.holds Try.pinned (OpenSpec.upto ftreePlaysSpec)

/-- 'touchstonelaw09.WalkReal', WHERE WHAT IT READS IS OF BULK AT MOST 1048576: true; the input reads as it did. -/
def walkRealUptoRow : OpenClaim := { program := "ytonpeoaahjoboaa", sum := "84e0994ebdca1935727aa3063c72a05b883bf1cd9913d72805fb7635d59f2409", func := "touchstone/touchstonelaw09.WalkReal", spec := "walkReal", inPlace := ["internal/bytealg.IndexByteString", "internal/bytealg.IndexString", "internal/abi.NoEscape"], unfollowed := true, recurses := true, named := ["internal/bytealg.MaxLen"], loops := true, apart := false, narrowed := true }
def WalkRealUptoSaid : Prop := walkRealUptoRow.holds Try.pinned (OpenSpec.upto walkRealSpec)

end Rows
end Go.Proofs.Ytonpeoaahjoboaa
