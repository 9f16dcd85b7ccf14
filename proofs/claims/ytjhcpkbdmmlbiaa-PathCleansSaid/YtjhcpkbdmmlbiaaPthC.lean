/- The statement on order: the walk. -/
import Derived.Test.YtjhcpkbdmmlbiaaPthP
import Derived.Test.YtjhcpkbdmmlbiaaPthL
import Derived.Test.YtjhcpkbdmmlbiaaPthAwake
namespace Go.Proofs.Ytjhcpkbdmmlbiaa
open Go.RowKit Px

theorem lessRef_at {W w : World} (hb : Below W.heap.size W w) {v u : Value} {xs ys : List ByteArray} (hx : PlR W v xs) (hy : PlR W u ys) :
    Calls Try.prog 13 #[v, u] w fun e w' => e = .returned (.bool (lessL xs ys)) ∧ Below W.heap.size W w' := by
  obtain ⟨p, c, rfl, h1, h2, h3⟩ := hx
  obtain ⟨q, d, rfl, g1, g2, g3⟩ := hy
  exact (lessRef_any c d (h1.grown hb) (g1.grown hb) (by omega) (by omega)).mono fun e w' ⟨he, n, hw⟩ => ⟨he, hw ▸ below_drew hb n⟩
theorem long_at {W w : World} (hb : Below W.heap.size W w) {v : Value} {xs : List ByteArray} (hx : PlR W v xs) :
    Calls Try.prog 6 #[v] w fun e w' => e = .returned (.bool (longL xs)) ∧ Below W.heap.size W w' := by
  obtain ⟨p, c, rfl, h1, h2, h3⟩ := hx
  exact (long_any c (h1.grown hb) (by omega)).mono fun e w' ⟨he, hw⟩ => ⟨he, hw ▸ hb⟩
theorem awake_at {W w : World} (hb : Below W.heap.size W w) :
    Calls Try.prog 7 #[] w fun e w' => e = .returned (.bool true) ∧ Below W.heap.size W w' :=
  (law_awake w).mono fun e w' ⟨he, hw⟩ => ⟨he, below_next hb hw⟩

theorem order_ways (a b c : List ByteArray) :
    (lessL a b = true ∧ lessL b a = false ∧ sameL a b = false ∧ (lessL b c = true ∧ lessL a c = true ∨ lessL b c = false)) ∨
    (lessL a b = false ∧ lessL b a = true ∧ sameL a b = false) ∨ (lessL a b = false ∧ lessL b a = false ∧ sameL a b = true) := by
  have h1 := lessL_asymm a b
  have h2 := lessL_total a b
  have h3 := lessL_trans a b c
  unfold sameL
  by_cases e : a = b
  · subst e
    exact .inr (.inr ⟨lessL_irrefl a, lessL_irrefl a, decide_eq_true rfl⟩)
  · cases e1 : lessL a b <;> cases e2 : lessL b a <;> cases e3 : lessL b c <;> simp_all
theorem under_ways (a b c : List ByteArray) :
    (underL a b = false) ∨ (underL a b = true ∧ underL b c = false) ∨ (underL a b = true ∧ underL b c = true ∧ underL a c = true ∧ lessL c a = false) := by
  cases e1 : underL a b with
  | false => exact .inl rfl
  | true =>
    cases e2 : underL b c with
    | false => exact .inr (.inl ⟨rfl, rfl⟩)
    | true => exact .inr (.inr ⟨rfl, rfl, underL_trans e1 e2, underL_less (underL_trans e1 e2)⟩)

set_option maxRecDepth 100000 in
set_option maxHeartbeats 2000000 in
theorem law_order {W : World} {u v t : Value} {a b c : List ByteArray} (ha : PlR W u a) (hb : PlR W v b) (hc : PlR W t c) :
    Calls Try.prog 5 #[u, v, t] W fun e w' => e = .returned (.bool true) ∧ Below W.heap.size W w' := by
  have HW : Below W.heap.size W W := Below.refl _ _
  by_cases hl : longL a = true ∨ longL b = true ∨ longL c = true
  · have hl' : longL a = true ∨ (longL a = false ∧ longL b = true) ∨ (longL a = false ∧ longL b = false ∧ longL c = true) := by
      revert hl
      cases longL a <;> cases longL b <;> cases longL c <;> simp
    clear hl
    rcases hl' with h1 | ⟨h1, h2⟩ | ⟨h1, h2, h3⟩
    all_goals
      go_enter Try.func5, Try.ntmps5
      go_wp2_with (first
        | (go_at_call 6; (first | with_reducible refine (long_at (by assumption) ha).mono ?_ | with_reducible refine (long_at (by assumption) hb).mono ?_ | with_reducible refine (long_at (by assumption) hc).mono ?_); rintro e w' ⟨rfl, HB⟩)
        | (go_at_call 7; refine (awake_at (by assumption)).mono ?_; rintro e w' ⟨rfl, HB⟩))
      go_ret
      exact ⟨rfl, by assumption⟩
  · obtain ⟨h1, h2, h3⟩ : longL a = false ∧ longL b = false ∧ longL c = false := by
      revert hl
      cases longL a <;> cases longL b <;> cases longL c <;> simp
    clear hl
    have HU := Lib.hid (under_ways a b c)
    rcases order_ways a b c with ⟨k1, k2, k3, ⟨k4, k5⟩ | k4⟩ | ⟨k1, k2, k3⟩ | ⟨k1, k2, k3⟩
    all_goals
      rcases HU.out with u1 | ⟨u1, u2⟩ | ⟨u1, u2, u3, u4⟩
      all_goals
        clear HU
        go_enter Try.func5, Try.ntmps5
        go_wp2_with (first
          | (go_at_call 6; (first | with_reducible refine (long_at (by assumption) ha).mono ?_ | with_reducible refine (long_at (by assumption) hb).mono ?_ | with_reducible refine (long_at (by assumption) hc).mono ?_); rintro e w' ⟨rfl, HB⟩)
          | (go_at_call 7; refine (awake_at (by assumption)).mono ?_; rintro e w' ⟨rfl, HB⟩)
          | (go_at_call 12; (first | with_reducible refine (less_at (by assumption) ha hb).mono ?_ | with_reducible refine (less_at (by assumption) hb ha).mono ?_ | with_reducible refine (less_at (by assumption) hb hc).mono ?_ | with_reducible refine (less_at (by assumption) ha hc).mono ?_ | with_reducible refine (less_at (by assumption) hc ha).mono ?_); rintro e w' ⟨rfl, HB⟩)
          | (go_at_call 10; (first | with_reducible refine (under_at (by assumption) ha hb).mono ?_ | with_reducible refine (under_at (by assumption) hb hc).mono ?_ | with_reducible refine (under_at (by assumption) ha hc).mono ?_); rintro e w' ⟨rfl, HB⟩)
          | (go_at_call 15; refine (same_at (by assumption) ha hb).mono ?_; rintro e w' ⟨rfl, HB⟩))
        go_ret
        exact ⟨rfl, by assumption⟩
end Go.Proofs.Ytjhcpkbdmmlbiaa
