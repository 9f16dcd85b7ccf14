/- Walks: comparing places, of the program and of the reference. -/
import Derived.Test.YtlnnnlpofocgpaaPthR
import Derived.Test.YtlnnnlpofocgpaaPthShelf
import Derived.WalkKit
import Derived.WalkSpells
import Derived.Laws.Cover1
import Derived.BigQuiet
import Derived.Deep.QuietTactic
import Derived.Lib.SmallJoins
import Derived.Test.YtlnnnlpofocgpaaLib
namespace Go.Proofs.Ytlnnnlpofocgpaa
open Go.RowKit Px

theorem ret_int {k : IntKind} {a b : Int} (h : a = b) : Ending.returned (.int k a) = Ending.returned (.int k b) := by rw [h]
theorem ret_bool {a b : Bool} (h : a = b) : Ending.returned (.bool a) = Ending.returned (.bool b) := by rw [h]

end Go.Proofs.Ytlnnnlpofocgpaa
