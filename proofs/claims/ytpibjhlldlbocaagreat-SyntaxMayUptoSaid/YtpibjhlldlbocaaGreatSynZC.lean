/- Walks of the program's syntax: how many kids a command of a kind has. -/
import Derived.Test.YtpibjhlldlbocaaGreatSynZB
namespace Go.Proofs.YtpibjhlldlbocaaGreat
open Go.RowKit Sx Go.Proofs

namespace Sx
def least : Nat → Int
  | 1 => 0 | 2 => 1 | 9 => 1 | 3 => 2 | 4 => 2 | 7 => 2 | 8 => 2 | 6 => 2 | 5 => 2 | _ => 1
def most : Nat → Int
  | 1 => 0 | 2 => 1 | 9 => 1 | 3 => 2 | 4 => 2 | 7 => 2 | 8 => 2 | 6 => 3 | 5 => 9223372036854775807 | _ => 0
end Sx

theorem kidsOf_any (kd : Nat) (w : World) : Calls Tryz.prog 31 #[.int .u8 kd] w fun e w' => e = .returned (.tuple #[.int .i64 (least kd), .int .i64 (most kd)]) ∧ w = w' := by
  by_cases h1 : kd = 1
  · subst h1
    go_enter Tryz.func31, Tryz.ntmps31
    go_wp2
    go_returns
    exact ⟨rfl, rfl⟩
  by_cases h2 : kd = 2
  · subst h2
    go_enter Tryz.func31, Tryz.ntmps31
    go_wp2
    go_returns
    exact ⟨rfl, rfl⟩
  by_cases h3 : kd = 3
  · subst h3
    go_enter Tryz.func31, Tryz.ntmps31
    go_wp2
    go_returns
    exact ⟨rfl, rfl⟩
  by_cases h4 : kd = 4
  · subst h4
    go_enter Tryz.func31, Tryz.ntmps31
    go_wp2
    go_returns
    exact ⟨rfl, rfl⟩
  by_cases h5 : kd = 5
  · subst h5
    go_enter Tryz.func31, Tryz.ntmps31
    go_wp2
    go_returns
    exact ⟨rfl, rfl⟩
  by_cases h6 : kd = 6
  · subst h6
    go_enter Tryz.func31, Tryz.ntmps31
    go_wp2
    go_returns
    exact ⟨rfl, rfl⟩
  by_cases h7 : kd = 7
  · subst h7
    go_enter Tryz.func31, Tryz.ntmps31
    go_wp2
    go_returns
    exact ⟨rfl, rfl⟩
  by_cases h8 : kd = 8
  · subst h8
    go_enter Tryz.func31, Tryz.ntmps31
    go_wp2
    go_returns
    exact ⟨rfl, rfl⟩
  by_cases h9 : kd = 9
  · subst h9
    go_enter Tryz.func31, Tryz.ntmps31
    go_wp2
    go_returns
    exact ⟨rfl, rfl⟩
  have e1 : ((kd : Int) == 1) = false := beq_eq_false_iff_ne.2 (by omega)
  have e2 : ((kd : Int) == 2) = false := beq_eq_false_iff_ne.2 (by omega)
  have e3 : ((kd : Int) == 3) = false := beq_eq_false_iff_ne.2 (by omega)
  have e4 : ((kd : Int) == 4) = false := beq_eq_false_iff_ne.2 (by omega)
  have e5 : ((kd : Int) == 5) = false := beq_eq_false_iff_ne.2 (by omega)
  have e6 : ((kd : Int) == 6) = false := beq_eq_false_iff_ne.2 (by omega)
  have e7 : ((kd : Int) == 7) = false := beq_eq_false_iff_ne.2 (by omega)
  have e8 : ((kd : Int) == 8) = false := beq_eq_false_iff_ne.2 (by omega)
  have e9 : ((kd : Int) == 9) = false := beq_eq_false_iff_ne.2 (by omega)
  have hl : least kd = 1 := by unfold least; split <;> simp_all
  have hm : most kd = 0 := by unfold most; split <;> simp_all
  rw [hl, hm]
  clear hl hm h1 h2 h3 h4 h5 h6 h7 h8 h9
  go_enter Tryz.func31, Tryz.ntmps31
  go_wp2
  go_returns
  exact ⟨rfl, rfl⟩
end Go.Proofs.YtpibjhlldlbocaaGreat
