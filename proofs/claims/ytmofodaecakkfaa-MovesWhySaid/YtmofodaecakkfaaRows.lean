/-
  NARROWER THAN 'FOR EVERY INPUT', by the rows' own cells (each row's printed sentence says how): FtreePlays: loops.
  DERIVED. THE GIVEN ROWS OF THIS SEAT. 2 by the template 'for every input the law returns true; each argument reads behind the call as it read before'; 0 by the template 'total and deterministic' (their statements: YtmofodaecakkfaaTotals.lean).
  GIVEN WITH THE SEED: the statements are not yours to turn. If you find one false, say at which input.
  Laid BY PROGRAM, IN A SANDBOX (cutbox-rows.mjs): the forced cells as the released guide's own fill.sh prints them over the translation c152c5162386aa48… (all of the seat's roots in one cut). By AI agents, Wed Nov 11 2026. No macro, syntax, notation, axiom, sorry.
-/
import Derived.Test.YtmofodaecakkfaaChecked
import GoSem.Claim
import GoSem.ClaimJoined
import GoSem.ClaimMapViews
import Derived.JoinedTies
import Derived.KernelRfl
namespace Go.Proofs.Ytmofodaecakkfaa
/- THE CELL 'sum', in the pinned program and in every row, IS THE sha256 OF THE DUMP (.gsa) THAT YtmofodaecakkfaaProg.lean LOADS. Nothing in Lean hashes anything: it is a label: what it is worth is what the hold of that sum in a sandbox is worth. -/
noncomputable def Try.pinned : Pinned := { name := "ytmofodaecakkfaa", sum := "c152c5162386aa4894c9a6fd35ea3f30f79478486578a7c6247e3199ee34fd0d", checked := Try.checked }
namespace Rows
def none {H : Type} : Left H := { results := [], args := [] }

/-- 'touchstonelaw07.FtreePlays': WHATEVER THE INPUT: true; the input reads as it did. -/
def ftreePlaysSpec : ChangeSpec := { name := "ftreePlays", fn := fun _ => fun
  | [d1, d2] => { results := [.lit (.bool true)], args := [d1, d2] }
  | _ => none }
def ftreePlaysRow : OpenClaim := { program := "ytmofodaecakkfaa", sum := "c152c5162386aa4894c9a6fd35ea3f30f79478486578a7c6247e3199ee34fd0d", func := "touchstone/touchstonelaw07.FtreePlays", spec := "ftreePlays", inPlace := ["internal/bytealg.IndexByteString", "internal/bytealg.IndexString"], unfollowed := true, recurses := true, named := ["internal/bytealg.MaxLen"], loops := true, apart := false }
def FtreePlaysSaid : Prop := ftreePlaysRow.holds Try.pinned (OpenSpec.ofChange ftreePlaysSpec)

/-- ITS FALSE NEIGHBOUR: 'it returns false'. Refute it at one input. -/
def ftreePlaysWrong : ChangeSpec := { name := "ftreePlays", fn := fun _ => fun
  | [d1, d2] => { results := [.lit (.bool false)], args := [d1, d2] }
  | _ => none }
def FtreePlaysWrongFalsely : Prop := ftreePlaysRow.holds Try.pinned (OpenSpec.ofChange ftreePlaysWrong)

/-- 'touchstonelaw13.MovesWhy': WHATEVER THE INPUT: true; the input reads as it did. -/
def movesWhySpec : ChangeSpec := { name := "movesWhy", fn := fun _ => fun
  | [d] => { results := [.lit (.bool true)], args := [d] }
  | _ => none }
def movesWhyRow : OpenClaim := { program := "ytmofodaecakkfaa", sum := "c152c5162386aa4894c9a6fd35ea3f30f79478486578a7c6247e3199ee34fd0d", func := "touchstone/touchstonelaw13.MovesWhy", spec := "movesWhy", apart := false }
def MovesWhySaid : Prop := movesWhyRow.holds Try.pinned (OpenSpec.ofChange movesWhySpec)

/-- ITS FALSE NEIGHBOUR: 'it returns false'. Refute it at one input. -/
def movesWhyWrong : ChangeSpec := { name := "movesWhy", fn := fun _ => fun
  | [d] => { results := [.lit (.bool false)], args := [d] }
  | _ => none }
def MovesWhyWrongFalsely : Prop := movesWhyRow.holds Try.pinned (OpenSpec.ofChange movesWhyWrong)

/- THE SECOND FORM. 'bulk': how many values and letters a reading holds, each counted each time it is reached (what is shared counts as often as it is met; a slice's spare places count too). A statement '..UptoSaid' is the law's where the arguments, and the package variables that the reading takes, are together of bulk at most 1048576: NARROWER than '..Said'. Prove '..Said' where nothing that the law and all that it calls make is longer than what came in: it says more and counts as full. Else prove '..UptoSaid'. A law counts once. -/
mutual
def uptoBulk {H : Type} : DataW H → Nat
  | .lit (.string bytes) => bytes.length + 1
  | .lit _ => 1
  | .nil => 1
  | .ptr d => uptoBulk d + 1
  | .slice elems spare => uptoBulkAll elems + uptoBulkAll spare + 1
  | .agg parts => uptoBulkAll parts + 1
  | .iface _ d => uptoBulk d + 1
  | .map entries => uptoBulkEntries entries + 1
  | .held _ => 1
def uptoBulkAll {H : Type} : List (DataW H) → Nat
  | [] => 0
  | d :: r => uptoBulk d + uptoBulkAll r
def uptoBulkEntries {H : Type} : List (Lit × DataW H) → Nat
  | [] => 0
  | x :: r => uptoBulkEntry x + uptoBulkEntries r
def uptoBulkEntry {H : Type} : Lit × DataW H → Nat
  | (.string bytes, d) => bytes.length + uptoBulk d + 1
  | (_, d) => uptoBulk d + 1
 end
def uptoSmall : (H : Type) → List (DataW H) → Bool := fun _ ds => decide (uptoBulkAll ds ≤ 1048576)
def OpenSpec.upto (s : _root_.Go.ChangeSpec) : _root_.Go.OpenSpec := { _root_.Go.OpenSpec.ofChange s with cond := some uptoSmall }

/-- 'touchstonelaw07.FtreePlays', WHERE WHAT IT READS IS OF BULK AT MOST 1048576: true; the input reads as it did. -/
def ftreePlaysUptoRow : OpenClaim := { program := "ytmofodaecakkfaa", sum := "c152c5162386aa4894c9a6fd35ea3f30f79478486578a7c6247e3199ee34fd0d", func := "touchstone/touchstonelaw07.FtreePlays", spec := "ftreePlays", inPlace := ["internal/bytealg.IndexByteString", "internal/bytealg.IndexString"], unfollowed := true, recurses := true, named := ["internal/bytealg.MaxLen"], loops := true, apart := false, narrowed := true }
def FtreePlaysUptoSaid : Prop := ftreePlaysUptoRow.holds Try.pinned (OpenSpec.upto ftreePlaysSpec)

/-- 'touchstonelaw13.MovesWhy', WHERE WHAT IT READS IS OF BULK AT MOST 1048576: true; the input reads as it did. -/
def movesWhyUptoRow : OpenClaim := { program := "ytmofodaecakkfaa", sum := "c152c5162386aa4894c9a6fd35ea3f30f79478486578a7c6247e3199ee34fd0d", func := "touchstone/touchstonelaw13.MovesWhy", spec := "movesWhy", apart := false, narrowed := true }
def MovesWhyUptoSaid : Prop := movesWhyUptoRow.holds Try.pinned (OpenSpec.upto movesWhySpec)

end Rows
end Go.Proofs.Ytmofodaecakkfaa
