/-
  NARROWER THAN 'FOR EVERY INPUT', by the rows' own cells (each row's printed sentence says how): FtreePlays: loops · FtreeThere: loops · WalkReal: loops.
  DERIVED. THE GIVEN ROWS OF THIS SEAT. 5 by the template 'for every input the law returns true; each argument reads behind the call as it read before'; 0 by the template 'total and deterministic' (their statements: YtcookbaedcjmjaaTotals.lean).
  GIVEN WITH THE SEED: the statements are not yours to turn. If you find one false, say at which input.
  Laid BY PROGRAM, IN A SANDBOX (cutbox-rows.mjs): the forced cells as the released guide's own fill.sh prints them over the translation b025c64e778a51f4… (all of the seat's roots in one cut). By AI agents, Wed Nov 11 2026. No macro, syntax, notation, axiom, sorry.
-/
import Derived.Test.YtcookbaedcjmjaaChecked
import GoSem.Claim
import GoSem.ClaimJoined
import GoSem.ClaimMapViews
import Derived.JoinedTies
import Derived.KernelRfl
namespace Go.Proofs.Ytcookbaedcjmjaa
/- THE CELL 'sum', in the pinned program and in every row, IS THE sha256 OF THE DUMP (.gsa) THAT YtcookbaedcjmjaaProg.lean LOADS. Nothing in Lean hashes anything: it is a label: what it is worth is what the hold of that sum in a sandbox is worth. -/
noncomputable def Try.pinned : Pinned := { name := "ytcookbaedcjmjaa", sum := "b025c64e778a51f4ff0ff1ba7045bcbf97f6e853b36bada18c7037f572b265e0", checked := Try.checked }
namespace Rows
def none {H : Type} : Left H := { results := [], args := [] }

/-- 'touchstonelaw07.FtreeNames': WHATEVER THE INPUT: true; the input reads as it did. -/
def ftreeNamesSpec : ChangeSpec := { name := "ftreeNames", fn := fun _ => fun
  | [] => { results := [.lit (.bool true)], args := [] }
  | _ => none }
def ftreeNamesRow : OpenClaim := { program := "ytcookbaedcjmjaa", sum := "b025c64e778a51f4ff0ff1ba7045bcbf97f6e853b36bada18c7037f572b265e0", func := "touchstone/touchstonelaw07.FtreeNames", spec := "ftreeNames", inPlace := ["internal/bytealg.IndexByteString", "internal/bytealg.IndexString"], unfollowed := true, recurses := true, named := ["internal/bytealg.MaxLen"], apart := false }
def FtreeNamesSaid : Prop := ftreeNamesRow.holds Try.pinned (OpenSpec.ofChange ftreeNamesSpec)

/-- ITS FALSE NEIGHBOUR: 'it returns false'. Refute it at one input. -/
def ftreeNamesWrong : ChangeSpec := { name := "ftreeNames", fn := fun _ => fun
  | [] => { results := [.lit (.bool false)], args := [] }
  | _ => none }
def FtreeNamesWrongFalsely : Prop := ftreeNamesRow.holds Try.pinned (OpenSpec.ofChange ftreeNamesWrong)

/-- 'touchstonelaw07.FtreePlays': WHATEVER THE INPUT: true; the input reads as it did. -/
def ftreePlaysSpec : ChangeSpec := { name := "ftreePlays", fn := fun _ => fun
  | [d1, d2] => { results := [.lit (.bool true)], args := [d1, d2] }
  | _ => none }
def ftreePlaysRow : OpenClaim := { program := "ytcookbaedcjmjaa", sum := "b025c64e778a51f4ff0ff1ba7045bcbf97f6e853b36bada18c7037f572b265e0", func := "touchstone/touchstonelaw07.FtreePlays", spec := "ftreePlays", inPlace := ["internal/bytealg.IndexByteString", "internal/bytealg.IndexString"], unfollowed := true, recurses := true, named := ["internal/bytealg.MaxLen"], loops := true, apart := false }
def FtreePlaysSaid : Prop := ftreePlaysRow.holds Try.pinned (OpenSpec.ofChange ftreePlaysSpec)

/-- ITS FALSE NEIGHBOUR: 'it returns false'. Refute it at one input. -/
def ftreePlaysWrong : ChangeSpec := { name := "ftreePlays", fn := fun _ => fun
  | [d1, d2] => { results := [.lit (.bool false)], args := [d1, d2] }
  | _ => none }
def FtreePlaysWrongFalsely : Prop := ftreePlaysRow.holds Try.pinned (OpenSpec.ofChange ftreePlaysWrong)

/-- 'touchstonelaw07.FtreeThere': WHATEVER THE INPUT: true; the input reads as it did. -/
def ftreeThereSpec : ChangeSpec := { name := "ftreeThere", fn := fun _ => fun
  | [d1, d2, d3] => { results := [.lit (.bool true)], args := [d1, d2, d3] }
  | _ => none }
def ftreeThereRow : OpenClaim := { program := "ytcookbaedcjmjaa", sum := "b025c64e778a51f4ff0ff1ba7045bcbf97f6e853b36bada18c7037f572b265e0", func := "touchstone/touchstonelaw07.FtreeThere", spec := "ftreeThere", inPlace := ["internal/bytealg.IndexByteString", "internal/bytealg.IndexString"], unfollowed := true, recurses := true, named := ["internal/bytealg.MaxLen"], loops := true, apart := false }
def FtreeThereSaid : Prop := ftreeThereRow.holds Try.pinned (OpenSpec.ofChange ftreeThereSpec)

/-- ITS FALSE NEIGHBOUR: 'it returns false'. Refute it at one input. -/
def ftreeThereWrong : ChangeSpec := { name := "ftreeThere", fn := fun _ => fun
  | [d1, d2, d3] => { results := [.lit (.bool false)], args := [d1, d2, d3] }
  | _ => none }
def FtreeThereWrongFalsely : Prop := ftreeThereRow.holds Try.pinned (OpenSpec.ofChange ftreeThereWrong)

/-- 'touchstonelaw09.WalkNames': WHATEVER THE INPUT: true; the input reads as it did. -/
def walkNamesSpec : ChangeSpec := { name := "walkNames", fn := fun _ => fun
  | [] => { results := [.lit (.bool true)], args := [] }
  | _ => none }
def walkNamesRow : OpenClaim := { program := "ytcookbaedcjmjaa", sum := "b025c64e778a51f4ff0ff1ba7045bcbf97f6e853b36bada18c7037f572b265e0", func := "touchstone/touchstonelaw09.WalkNames", spec := "walkNames", inPlace := ["internal/bytealg.IndexByteString", "internal/bytealg.IndexString"], unfollowed := true, recurses := true, named := ["internal/bytealg.MaxLen"], apart := false }
def WalkNamesSaid : Prop := walkNamesRow.holds Try.pinned (OpenSpec.ofChange walkNamesSpec)

/-- ITS FALSE NEIGHBOUR: 'it returns false'. Refute it at one input. -/
def walkNamesWrong : ChangeSpec := { name := "walkNames", fn := fun _ => fun
  | [] => { results := [.lit (.bool false)], args := [] }
  | _ => none }
def WalkNamesWrongFalsely : Prop := walkNamesRow.holds Try.pinned (OpenSpec.ofChange walkNamesWrong)

/-- 'touchstonelaw09.WalkReal': WHATEVER THE INPUT: true; the input reads as it did. -/
def walkRealSpec : ChangeSpec := { name := "walkReal", fn := fun _ => fun
  | [d1, d2, d3] => { results := [.lit (.bool true)], args := [d1, d2, d3] }
  | _ => none }
def walkRealRow : OpenClaim := { program := "ytcookbaedcjmjaa", sum := "b025c64e778a51f4ff0ff1ba7045bcbf97f6e853b36bada18c7037f572b265e0", func := "touchstone/touchstonelaw09.WalkReal", spec := "walkReal", inPlace := ["internal/bytealg.IndexByteString", "internal/bytealg.IndexString", "internal/abi.NoEscape"], unfollowed := true, recurses := true, named := ["internal/bytealg.MaxLen"], loops := true, apart := false }
def WalkRealSaid : Prop := walkRealRow.holds Try.pinned (OpenSpec.ofChange walkRealSpec)

/-- ITS FALSE NEIGHBOUR: 'it returns false'. Refute it at one input. -/
def walkRealWrong : ChangeSpec := { name := "walkReal", fn := fun _ => fun
  | [d1, d2, d3] => { results := [.lit (.bool false)], args := [d1, d2, d3] }
  | _ => none }
def WalkRealWrongFalsely : Prop := walkRealRow.holds Try.pinned (OpenSpec.ofChange walkRealWrong)

/- THE SECOND FORM. 'bulk': how many values and letters a reading holds, each counted each time it is reached (what is shared counts as often as it is met; a slice's spare places count too). A statement '..UptoSaid' is the law's where the arguments, and the package variables that the reading takes, are together of bulk at most 1048576: NARROWER than '..Said'. Prove '..Said' where nothing that the law and all that it calls make is longer than what came in: it says more and counts as full. Else prove '..UptoSaid'. A law counts once. -/
mutual
def uptoBulk {H : Type} : DataW H → Nat
  | .lit (.string bytes) => bytes.length + 1
  | .lit _ => 1
  | .nil => 1
  | .ptr d => uptoBulk d + 1
  | .slice elems spare => uptoBulkAll elems + uptoBulkAll spare + 1
  | .agg parts => uptoBulkAll parts + 1
  | .iface _ d => uptoBulk d + 1
  | .map entries => uptoBulkEntries entries + 1
  | .held _ => 1
def uptoBulkAll {H : Type} : List (DataW H) → Nat
  | [] => 0
  | d :: r => uptoBulk d + uptoBulkAll r
def uptoBulkEntries {H : Type} : List (Lit × DataW H) → Nat
  | [] => 0
  | x :: r => uptoBulkEntry x + uptoBulkEntries r
def uptoBulkEntry {H : Type} : Lit × DataW H → Nat
  | (.string bytes, d) => bytes.length + uptoBulk d + 1
  | (_, d) => uptoBulk d + 1
 end
def uptoSmall : (H : Type) → List (DataW H) → Bool := fun _ ds => decide (uptoBulkAll ds ≤ 1048576)
def OpenSpec.upto (s : _root_.Go.ChangeSpec) : _root_.Go.OpenSpec := { _root_.Go.OpenSpec.ofChange s with cond := some uptoSmall }

/-- 'touchstonelaw07.FtreeNames', WHERE WHAT IT READS IS OF BULK AT MOST 1048576: true; the input reads as it did. -/
def ftreeNamesUptoRow : OpenClaim := { program := "ytcookbaedcjmjaa", sum := "b025c64e778a51f4ff0ff1ba7045bcbf97f6e853b36bada18c7037f572b265e0", func := "touchstone/touchstonelaw07.FtreeNames", spec := "ftreeNames", inPlace := ["internal/bytealg.IndexByteString", "internal/bytealg.IndexString"], unfollowed := true, recurses := true, named := ["internal/bytealg.MaxLen"], apart := false, narrowed := true }
def FtreeNamesUptoSaid : Prop := ftreeNamesUptoRow.holds Try.pinned (OpenSpec.upto ftreeNamesSpec)

/-- 'touchstonelaw07.FtreePlays', WHERE WHAT IT READS IS OF BULK AT MOST 1048576: true; the input reads as it did. -/
def ftreePlaysUptoRow : OpenClaim := { program := "ytcookbaedcjmjaa", sum := "b025c64e778a51f4ff0ff1ba7045bcbf97f6e853b36bada18c7037f572b265e0", func := "touchstone/touchstonelaw07.FtreePlays", spec := "ftreePlays", inPlace := ["internal/bytealg.IndexByteString", "internal/bytealg.IndexString"], unfollowed := true, recurses := true, named := ["internal/bytealg.MaxLen"], loops := true, apart := false, narrowed := true }
def FtreePlaysUptoSaid : Prop := ftreePlaysUptoRow.holds Try.pinned (OpenSpec.upto ftreePlaysSpec)

/-- 'touchstonelaw07.FtreeThere', WHERE WHAT IT READS IS OF BULK AT MOST 1048576: true; the input reads as it did. -/
def ftreeThereUptoRow : OpenClaim := { program := "ytcookbaedcjmjaa", sum := "b025c64e778a51f4ff0ff1ba7045bcbf97f6e853b36bada18c7037f572b265e0", func := "touchstone/touchstonelaw07.FtreeThere", spec := "ftreeThere", inPlace := ["internal/bytealg.IndexByteString", "internal/bytealg.IndexString"], unfollowed := true, recurses := true, named := ["internal/bytealg.MaxLen"], loops := true, apart := false, narrowed := true }
def FtreeThereUptoSaid : Prop := ftreeThereUptoRow.holds Try.pinned (OpenSpec.upto ftreeThereSpec)

/-- 'touchstonelaw09.WalkNames', WHERE WHAT IT READS IS OF BULK AT MOST 1048576: true; the input reads as it did. -/
def walkNamesUptoRow : OpenClaim := { program := "ytcookbaedcjmjaa", sum := "b025c64e778a51f4ff0ff1ba7045bcbf97f6e853b36bada18c7037f572b265e0", func := "touchstone/touchstonelaw09.WalkNames", spec := "walkNames", inPlace := ["internal/bytealg.IndexByteString", "internal/bytealg.IndexString"], unfollowed := true, recurses := true, named := ["internal/bytealg.MaxLen"], apart := false, narrowed := true }
def WalkNamesUptoSaid : Prop := walkNamesUptoRow.holds Try.pinned (OpenSpec.upto walkNamesSpec)

/-- 'touchstonelaw09.WalkReal', WHERE WHAT IT READS IS OF BULK AT MOST 1048576: true; the input reads as it did. -/
def walkRealUptoRow : OpenClaim := { program := "ytcookbaedcjmjaa", sum := "b025c64e778a51f4ff0ff1ba7045bcbf97f6e853b36bada18c7037f572b265e0", func := "touchstone/touchstonelaw09.WalkReal", spec := "walkReal", inPlace := ["internal/bytealg.IndexByteString", "internal/bytealg.IndexString", "internal/abi.NoEscape"], unfollowed := true, recurses := true, named := ["internal/bytealg.MaxLen"], loops := true, apart := false, narrowed := true }
def WalkRealUptoSaid : Prop := walkRealUptoRow.holds Try.pinned (OpenSpec.upto walkRealSpec)

end Rows
end Go.Proofs.Ytcookbaedcjmjaa
