/- Walks: small functions of package prim: isRoot, isNone; lists of texts compared. -/
import Derived.Test.YtfilbknnpjbmcaaGreatDoorKb27
import Derived.Test.YtfilbknnpjbmcaaGreatDoorKb23
namespace Go.Proofs.YtfilbknnpjbmcaaGreatDoor
open Go.RowKit Px Nx
def PlT (w : World) (b : Nat) (v : Value) (l : List ByteArray) : Prop := ∀ w', w.grownBy w' (some b) → PlR w' v l
theorem grown_below {w w' : World} {b : Nat} (h : Below w.heap.size w w') : w.grownBy w' (some b) := ⟨h.os, h.tape, h.output, h.size, fun k hk _ => h.block k hk⟩
theorem PlT.r {w : World} {b : Nat} {v : Value} {l : List ByteArray} (h : PlT w b v l) : PlR w v l := h w (grown_below (Below.refl _ _))
theorem PlT.by {w w' : World} {b : Nat} {v : Value} {l : List ByteArray} (h : PlT w b v l) (hg : w.grownBy w' (some b)) : PlT w' b v l := fun w2 h2 => h w2 ⟨h2.os.trans hg.os, h2.tape.trans hg.tape, h2.output.trans hg.output, Nat.le_trans hg.size h2.size, fun k hk hn => (h2.block k (Nat.lt_of_lt_of_le hk hg.size) hn).trans (hg.block k hk hn)⟩
theorem PlT.kept {w w' : World} {b : Nat} {v : Value} {l : List ByteArray} (h : PlT w b v l) (hb : Below w.heap.size w w') : PlT w' b v l := h.by (grown_below hb)
theorem grown_two {w w1 w' : World} {b : Nat} (hg : w.grownBy w1 (some b)) (h2 : w1.grownBy w' (some b)) : w.grownBy w' (some b) := ⟨h2.os.trans hg.os, h2.tape.trans hg.tape, h2.output.trans hg.output, Nat.le_trans hg.size h2.size, fun k hk hn => (h2.block k (Nat.lt_of_lt_of_le hk hg.size) hn).trans (hg.block k hk hn)⟩

set_option maxRecDepth 100000 in
theorem isRoot_any {w : World} {pv : Value} {place : List ByteArray} (hp : PlR w pv place) :
  Calls Tryz.prog 109 #[pv] w fun e w' => e = .returned (.bool (decide (place.length = 0))) ∧ w = w' := by
 obtain ⟨p, c, rfl, hst, hlc, hcm⟩ := hp
 generalize place.length = k at *
 have e0 : ((k : Int) == 0) = decide (k = 0) := by rw [Bool.eq_iff_iff]; simp
 obtain ⟨kb, hkb⟩ : ∃ kb, decide (k = 0) = kb := ⟨_, rfl⟩
 rw [hkb] at e0 ⊢
 clear hkb hst
 go_enter Tryz.func109, Tryz.ntmps109
 go_wp2_with fail
 go_ret
 exact ⟨rfl, rfl⟩

theorem ahead_kind (k b : Nat) (w : World) : (nilAhead (k + 1) 28 (.pointer (some ⟨b, 0, none⟩)) "Kind").run Tryz.prog w = .ok (some false) w := by kernel_rfl
theorem eql_none (b : Nat) (w : World) : (binOp BinOp.eql 59 (.iface 28 (.pointer (some ⟨b, 0, none⟩))) (.iface 28 (.pointer none))).run Tryz.prog w = .ok (.bool false) w := by kernel_rfl
theorem meth_Kind (k b : Nat) (w : World) : (method (k + 1) 28 (.pointer (some ⟨b, 0, none⟩)) "Kind").run Tryz.prog w = .ok (159, .pointer (some ⟨b, 0, none⟩)) w := by kernel_rfl
theorem meth_Put (k b : Nat) (w : World) : (method (k + 1) 28 (.pointer (some ⟨b, 0, none⟩)) "Put").run Tryz.prog w = .ok (161, .pointer (some ⟨b, 0, none⟩)) w := by kernel_rfl
theorem meth_Del (k b : Nat) (w : World) : (method (k + 1) 28 (.pointer (some ⟨b, 0, none⟩)) "Del").run Tryz.prog w = .ok (157, .pointer (some ⟨b, 0, none⟩)) w := by kernel_rfl
theorem meth_Move (k b : Nat) (w : World) : (method (k + 1) 28 (.pointer (some ⟨b, 0, none⟩)) "Move").run Tryz.prog w = .ok (160, .pointer (some ⟨b, 0, none⟩)) w := by kernel_rfl
theorem meth_Copy (k b : Nat) (w : World) : (method (k + 1) 28 (.pointer (some ⟨b, 0, none⟩)) "Copy").run Tryz.prog w = .ok (156, .pointer (some ⟨b, 0, none⟩)) w := by kernel_rfl
theorem meth_Empty (k b : Nat) (w : World) : (method (k + 1) 28 (.pointer (some ⟨b, 0, none⟩)) "Empty").run Tryz.prog w = .ok (158, .pointer (some ⟨b, 0, none⟩)) w := by kernel_rfl
attribute [local go_sem] eql_none

set_option maxRecDepth 100000 in
theorem pisNone_any (b : Nat) (w : World) :
  Calls Tryz.prog 129 #[.iface 28 (.pointer (some ⟨b, 0, none⟩))] w fun e w' => e = .returned (.bool false) ∧ w = w' := by
 go_enter Tryz.func129, Tryz.ntmps129
 go_wp2_with fail
 go_ret
 exact ⟨rfl, rfl⟩

set_option maxRecDepth 100000 in
theorem equal_all {w : World} {pv qv : Value} {xs ys : List ByteArray} (hx : PlR w pv xs) (hy : PlR w qv ys) :
  Calls Tryz.prog 108 #[pv, qv] w fun e w' => e = .returned (.bool (decide (xs = ys))) ∧ Below w.heap.size w w' := by
 obtain ⟨p, c, rfl, hs, hlc, hcm⟩ := hx
 obtain ⟨q, d, rfl, hs', hlc', hcm'⟩ := hy
 by_cases he : ys.length = xs.length
 ·have := equal_any c d hs hs' (Nat.le_trans hlc hcm) he
  rw [← he] at this
  rw [← he]
  exact this.mono fun e w' ⟨h1, m, h2⟩ => ⟨h1, h2 ▸ below_drewN (Below.refl _ _) m⟩
 ·have hne : decide (xs = ys) = false := decide_eq_false fun h => he (by rw [h])
  rw [hne]
  have hn : ((xs.length : Int) != (ys.length : Int)) = true := by rw [bne_iff_ne]; omega
  generalize xs.length = k at *
  generalize ys.length = m at *
  clear hs hs' hne he
  go_enter Tryz.func108, Tryz.ntmps108
  go_wp2_with fail
  go_ret
  exact ⟨rfl, Below.refl _ _⟩
end Go.Proofs.YtfilbknnpjbmcaaGreatDoor
