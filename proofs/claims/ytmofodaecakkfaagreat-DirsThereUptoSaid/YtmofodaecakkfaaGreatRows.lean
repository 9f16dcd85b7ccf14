/-
  NARROWER THAN 'FOR EVERY INPUT', by the rows' own cells (each row's printed sentence says how): DirsKeeps: loops · DirsThere: loops.
  DERIVED. THE GIVEN ROWS OF THIS SEAT. 2 by the template 'for every input the law returns true; each argument reads behind the call as it read before'; 0 by the template 'total and deterministic' (their statements: YtmofodaecakkfaaGreatTotals.lean).
  GIVEN WITH THE SEED: the statements are not yours to turn. If you find one false, say at which input.
  Laid BY PROGRAM, IN A SANDBOX (cutbox-rows.mjs): the forced cells as the released guide's own fill.sh prints them over the translation a94f4ca7fada640c… (all of the seat's roots in one cut). By AI agents, Wed Nov 11 2026. No macro, syntax, notation, axiom, sorry.
-/
import Derived.Test.YtmofodaecakkfaaGreatChecked
import GoSem.Claim
import GoSem.ClaimJoined
import GoSem.ClaimMapViews
import Derived.JoinedTies
import Derived.KernelRfl
namespace Go.Proofs.YtmofodaecakkfaaGreat
/- THE CELL 'sum', in the pinned program and in every row, IS THE sha256 OF THE DUMP (.gsa) THAT YtmofodaecakkfaaGreatProg.lean LOADS. Nothing in Lean hashes anything: it is a label: what it is worth is what the hold of that sum in a sandbox is worth. -/
noncomputable def Tryz.pinned : Pinned := { name := "ytmofodaecakkfaagreat", sum := "a94f4ca7fada640c883cea39ec52b4acb6ecfa07178ac60e3b8b0e2fa8a458e0", checked := Tryz.checked }
namespace Rows
def none {H : Type} : Left H := { results := [], args := [] }

/-- 'touchstonelaw12.DirsKeeps': WHATEVER THE INPUT: true; the input reads as it did. -/
def dirsKeepsSpec : ChangeSpec := { name := "dirsKeeps", fn := fun _ => fun
  | [d1, d2] => { results := [.lit (.bool true)], args := [d1, d2] }
  | _ => none }
def dirsKeepsRow : OpenClaim := { program := "ytmofodaecakkfaagreat", sum := "a94f4ca7fada640c883cea39ec52b4acb6ecfa07178ac60e3b8b0e2fa8a458e0", func := "touchstone/touchstonelaw12.DirsKeeps", spec := "dirsKeeps", inPlace := ["internal/bytealg.IndexByteString", "internal/bytealg.IndexString", "internal/abi.NoEscape", "internal/bytealg.MakeNoZero"], unfollowed := true, recurses := true, named := ["internal/bytealg.MaxLen"], loops := true, apart := false }
def DirsKeepsSaid : Prop := dirsKeepsRow.holds Tryz.pinned (OpenSpec.ofChange dirsKeepsSpec)

/-- ITS FALSE NEIGHBOUR: 'it returns false'. Refute it at one input. -/
def dirsKeepsWrong : ChangeSpec := { name := "dirsKeeps", fn := fun _ => fun
  | [d1, d2] => { results := [.lit (.bool false)], args := [d1, d2] }
  | _ => none }
def DirsKeepsWrongFalsely : Prop := dirsKeepsRow.holds Tryz.pinned (OpenSpec.ofChange dirsKeepsWrong)

/-- 'touchstonelaw12.DirsThere': WHATEVER THE INPUT: true; the input reads as it did. -/
def dirsThereSpec : ChangeSpec := { name := "dirsThere", fn := fun _ => fun
  | [d1, d2] => { results := [.lit (.bool true)], args := [d1, d2] }
  | _ => none }
def dirsThereRow : OpenClaim := { program := "ytmofodaecakkfaagreat", sum := "a94f4ca7fada640c883cea39ec52b4acb6ecfa07178ac60e3b8b0e2fa8a458e0", func := "touchstone/touchstonelaw12.DirsThere", spec := "dirsThere", inPlace := ["internal/bytealg.IndexByteString", "internal/bytealg.IndexString", "internal/abi.NoEscape", "internal/bytealg.MakeNoZero"], unfollowed := true, recurses := true, named := ["internal/bytealg.MaxLen"], loops := true, apart := false }
def DirsThereSaid : Prop := dirsThereRow.holds Tryz.pinned (OpenSpec.ofChange dirsThereSpec)

/-- ITS FALSE NEIGHBOUR: 'it returns false'. Refute it at one input. -/
def dirsThereWrong : ChangeSpec := { name := "dirsThere", fn := fun _ => fun
  | [d1, d2] => { results := [.lit (.bool false)], args := [d1, d2] }
  | _ => none }
def DirsThereWrongFalsely : Prop := dirsThereRow.holds Tryz.pinned (OpenSpec.ofChange dirsThereWrong)

/- THE SECOND FORM. 'bulk': how many values and letters a reading holds, each counted each time it is reached (what is shared counts as often as it is met; a slice's spare places count too). A statement '..UptoSaid' is the law's where the arguments, and the package variables that the reading takes, are together of bulk at most 1048576: NARROWER than '..Said'. Prove '..Said' where nothing that the law and all that it calls make is longer than what came in: it says more and counts as full. Else prove '..UptoSaid'. A law counts once. -/
mutual
def uptoBulk {H : Type} : DataW H → Nat
  | .lit (.string bytes) => bytes.length + 1
  | .lit _ => 1
  | .nil => 1
  | .ptr d => uptoBulk d + 1
  | .slice elems spare => uptoBulkAll elems + uptoBulkAll spare + 1
  | .agg parts => uptoBulkAll parts + 1
  | .iface _ d => uptoBulk d + 1
  | .map entries => uptoBulkEntries entries + 1
  | .held _ => 1
def uptoBulkAll {H : Type} : List (DataW H) → Nat
  | [] => 0
  | d :: r => uptoBulk d + uptoBulkAll r
def uptoBulkEntries {H : Type} : List (Lit × DataW H) → Nat
  | [] => 0
  | x :: r => uptoBulkEntry x + uptoBulkEntries r
def uptoBulkEntry {H : Type} : Lit × DataW H → Nat
  | (.string bytes, d) => bytes.length + uptoBulk d + 1
  | (_, d) => uptoBulk d + 1
 end
def uptoSmall : (H : Type) → List (DataW H) → Bool := fun _ ds => decide (uptoBulkAll ds ≤ 1048576)
def OpenSpec.upto (s : _root_.Go.ChangeSpec) : _root_.Go.OpenSpec := { _root_.Go.OpenSpec.ofChange s with cond := some uptoSmall }

/-- 'touchstonelaw12.DirsKeeps', WHERE WHAT IT READS IS OF BULK AT MOST 1048576: true; the input reads as it did. -/
def dirsKeepsUptoRow : OpenClaim := { program := "ytmofodaecakkfaagreat", sum := "a94f4ca7fada640c883cea39ec52b4acb6ecfa07178ac60e3b8b0e2fa8a458e0", func := "touchstone/touchstonelaw12.DirsKeeps", spec := "dirsKeeps", inPlace := ["internal/bytealg.IndexByteString", "internal/bytealg.IndexString", "internal/abi.NoEscape", "internal/bytealg.MakeNoZero"], unfollowed := true, recurses := true, named := ["internal/bytealg.MaxLen"], loops := true, apart := false, narrowed := true }
def DirsKeepsUptoSaid : Prop := dirsKeepsUptoRow.holds Tryz.pinned (OpenSpec.upto dirsKeepsSpec)

/-- 'touchstonelaw12.DirsThere', WHERE WHAT IT READS IS OF BULK AT MOST 1048576: true; the input reads as it did. -/
def dirsThereUptoRow : OpenClaim := { program := "ytmofodaecakkfaagreat", sum := "a94f4ca7fada640c883cea39ec52b4acb6ecfa07178ac60e3b8b0e2fa8a458e0", func := "touchstone/touchstonelaw12.DirsThere", spec := "dirsThere", inPlace := ["internal/bytealg.IndexByteString", "internal/bytealg.IndexString", "internal/abi.NoEscape", "internal/bytealg.MakeNoZero"], unfollowed := true, recurses := true, named := ["internal/bytealg.MaxLen"], loops := true, apart := false, narrowed := true }
def DirsThereUptoSaid : Prop := dirsThereUptoRow.holds Tryz.pinned (OpenSpec.upto dirsThereSpec)

end Rows
end Go.Proofs.YtmofodaecakkfaaGreat
