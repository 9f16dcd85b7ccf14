/- Walks: the walker goes into what stands at a place. -/
import Derived.Test.YtfilbknnpjbmcaaGreatDoorKb28
namespace Go.Proofs.YtfilbknnpjbmcaaGreatDoor
open Go.RowKit Px Nx Wk

set_option maxRecDepth 100000 in
theorem goInto_none {w : World} {g : Nat} {pv : Value} : Calls Tryz.prog 99 #[.pointer (some ⟨g, 0, none⟩), pv, .int .u8 0] w fun e w' => e = .returned (.int .i64 5) ∧ w' = w := by
 go_enter Tryz.func99, Tryz.ntmps99
 go_wp2_with fail
 go_ret
 exact ⟨rfl, rfl⟩
set_option maxRecDepth 100000 in
theorem goInto_dir {w : World} {g : Nat} {v0 v1 v2 v3 v4 v5 : Value} (h : Six w g v0 v1 v2 v3 v4 v5) (p : Option Addr) (n c : Nat) : Calls Tryz.prog 99 #[.pointer (some ⟨g, 0, none⟩), .slice p n c, .int .u8 2] w fun e w' => e = .returned (.int .i64 0) ∧ w' = w.setCell ⟨g, 1, none⟩ (.slice p n c) := by
 obtain ⟨c0, c1, c2, c3, c4, c5⟩ := h.cell
 have x1 := h.open_ 1
 clear h
 go_enter Tryz.func99, Tryz.ntmps99
 go_wp2_with fail
 go_ret
 exact ⟨rfl, rfl⟩
set_option maxRecDepth 100000 in
theorem goInto_file {w : World} {g : Nat} {pv : Value} {k : UInt8} (h0 : k ≠ 0) (h2 : k ≠ 2) (h3 : k ≠ 3) : Calls Tryz.prog 99 #[.pointer (some ⟨g, 0, none⟩), pv, .int .u8 k.toNat] w fun e w' => e = .returned (.int .i64 55) ∧ w' = w := by
 have e0 := beq_int k 0
 have e2 := beq_int k 2
 have e3 := beq_int k 3
 rw [show ((0 : UInt8).toNat : Int) = 0 from rfl, beq_eq_false_iff_ne.2 h0] at e0
 rw [show ((2 : UInt8).toNat : Int) = 2 from rfl, beq_eq_false_iff_ne.2 h2] at e2
 rw [show ((3 : UInt8).toNat : Int) = 3 from rfl, beq_eq_false_iff_ne.2 h3] at e3
 clear h0 h2 h3
 go_enter Tryz.func99, Tryz.ntmps99
 go_wp2_with fail
 go_ret
 exact ⟨rfl, rfl⟩
set_option maxRecDepth 100000 in
theorem goInto_link {w : World} {g : Nat} {pv : Value} {Q : Ending → World → Prop} (h : Calls Tryz.prog 126 #[.pointer (some ⟨g, 0, none⟩), pv] w fun e w' => ∃ x : Int, e = .returned (.int .i64 x) ∧ Q e w') : Calls Tryz.prog 99 #[.pointer (some ⟨g, 0, none⟩), pv, .int .u8 3] w Q := by
 have H := Lib.hid h
 clear h
 go_enter Tryz.func99, Tryz.ntmps99
 go_wp2_with fail
 refine H.out.mono ?_
 rintro e w2 ⟨x, rfl, hq⟩
 have HQ := Lib.hid hq
 clear hq
 go_wp2_with fail
 exact HQ.out
end Go.Proofs.YtfilbknnpjbmcaaGreatDoor
