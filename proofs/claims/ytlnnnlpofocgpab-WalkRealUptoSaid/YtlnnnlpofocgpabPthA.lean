/- Walks: comparing places, of the program and of the reference. -/
import Derived.Test.YtlnnnlpofocgpabPthR
import Derived.Test.YtlnnnlpofocgpabPthShelf
import Derived.WalkKit
import Derived.WalkSpells
import Derived.Laws.Cover1
import Derived.BigQuiet
import Derived.Deep.QuietTactic
import Derived.Lib.SmallJoins
import Derived.Test.YtlnnnlpofocgpabLib
namespace Go.Proofs.Ytlnnnlpofocgpab
open Go.RowKit Px

theorem ret_int {k : IntKind} {a b : Int} (h : a = b) : Ending.returned (.int k a) = Ending.returned (.int k b) := by rw [h]
theorem ret_bool {a b : Bool} (h : a = b) : Ending.returned (.bool a) = Ending.returned (.bool b) := by rw [h]

theorem isNaN_any (x : ByteArray) (w : World) :
    Calls Try.prog 75 #[.string x] w fun e w' => e = .returned (.bool false) ∧ w = w' := by
  go_enter Try.func75, Try.ntmps75
  go_wp2
  go_ret
  exact ⟨ret_bool (by simp), rfl⟩

end Go.Proofs.Ytlnnnlpofocgpab
