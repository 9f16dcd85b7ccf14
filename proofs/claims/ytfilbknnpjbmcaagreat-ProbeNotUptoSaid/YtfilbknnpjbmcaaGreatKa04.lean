/- Small laws of my own for walks: an append of one element of several cells to a slice of the call's own. -/
import Derived.Test.YtfilbknnpjbmcaaGreatProg
import Derived.WalkKit
import Derived.Lib.Hide
import Derived.Deep.Draws
import Derived.Test.YtfilbknnpjbmcaaGreatKa00
import Derived.Test.YtfilbknnpjbmcaaGreatKa03
import Derived.WalkSpells
import Derived.Laws.Cover1
import Derived.BigQuiet
import Derived.Deep.QuietTactic
import Derived.Lib.SmallJoins
namespace Go.Proofs.YtfilbknnpjbmcaaGreat
open Go.RowKit

/-- append(s, x) of one element whose cells lie in a block: what stands behind it. -/
theorem wpList_append_block {P : Program} (w : World) {ops : Array Oper} {rest : List Oper} {o : Oper} {a : Act} {Q : Exit → Act → World → Prop} (hgd : o.guard = none) (s x : Operand) (t : TypeId)
    (ho : o.op = .call { callee := .builtin .append, args := #[s, x], argTypes := #[t, t] })
    (base : Nat) (e : TypeId) (i : TypeInfo) (z : Value) (size bytes : Nat) (ht : P.underlying t = some (.slice e)) (hi : P.info? e = some i) (hz : i.zero = some z)
    (hsize : i.size = size) (hby : i.bytes = bytes) (hzs : z.cells.size = size) (hsz : 0 < size) (hb64 : bytes ≤ 4096)
    (v : Value) (n : Nat) (xs : List Value) (hs : a.eval s = v) (hown : w.ownsRow base e size v n xs)
    (g : Nat) (cs : Array Value) (e' : TypeId) (fr : Nat × Nat) (hx : a.eval x = .slice (some ⟨g, 0, none⟩) 1 1) (hg : w.heap[g]? = some (.cells cs e' fr)) (hcs : cs.size = size)
    (h1 : cs.toList.all (·.oneCell') = true) (hn : n ≤ 4294967296) (hbase : base ≤ w.heap.size)
    (h : ∀ v' w', w'.ownsRow base e size v' (n + 1) (xs ++ cs.toList) → w.grownBy w' v.ownBlock → wpList P ops Q rest (a.put o.dst v') w') : wpList P ops Q (o :: rest) a w := by
  refine wpList_append_own w hgd s x t ho base e i z size bytes ht hi hz hsize hby hzs hsz v n xs hs hown ⟨g, 0, none⟩ 1 1 cs.toList hx (by simp [hcs]) ?_ ?_ (by unfold maxLen; omega) ?_ hbase (fun v' w' h1 h2 _ => h v' w' h1 h2)
  · intro j u hj
    have : (⟨g, 0, none⟩ : Addr).add j = ⟨g, j, none⟩ := by unfold Addr.add; split <;> simp_all
    rw [this, cell_of_row w g j cs e' fr hg]
    simpa using hj
  · intro u hu; exact List.all_eq_true.1 h1 u hu
  · calc (n + 1) * bytes ≤ 4294967297 * 4096 := Nat.mul_le_mul (by omega) hb64
      _ ≤ 140737488355328 := by decide
theorem heap_alloc2 (w : World) (o1 o2 : Obj) : ((w.alloc o1).alloc o2).heap[w.heap.size + 1]? = some o2 := by
  have := heap_alloc_new (w.alloc o1) o2
  simpa using this
theorem heap_alloc1 (w : World) (o1 : Obj) : (w.alloc o1).heap[w.heap.size]? = some o1 := heap_alloc_new w o1
theorem own_where {w : World} {base : Nat} {e : TypeId} {size : Nat} {v : Value} {n : Nat} {xs : List Value} (h : w.ownsRow base e size v n xs) {k : Nat} (hk : v.ownBlock = some k) : base ≤ k ∧ k < w.heap.size := by
  rcases h.2 with ⟨rfl, _⟩ | ⟨g, cap, cur, rfl, hg, hh, _⟩
  · simp [Value.ownBlock] at hk
  · have : g = k := by simpa [Value.ownBlock] using hk
    subst this
    refine ⟨hg, ?_⟩
    rcases Nat.lt_or_ge g w.heap.size with hlt | hge
    · exact hlt
    · rw [Array.getElem?_eq_none hge] at hh; cases hh
/-- Behind two new blocks and an append to an owned row: below its base all is as it was. -/
theorem below_append2 {B : Nat} {a w w' : World} {e : TypeId} {size : Nat} {v : Value} {n : Nat} {xs : List Value} {o1 o2 : Obj} (h : Below B a w) (hB : B ≤ w.heap.size) (hown : w.ownsRow B e size v n xs)
    (hg : ((w.alloc o1).alloc o2).grownBy w' v.ownBlock) : Below B a w' :=
  ((h.alloc hB o1).alloc (by simp; omega) o2).grown hg (by simp; omega) fun _ hk => (own_where hown hk).1
/-- The first of the two new blocks is as it was laid. -/
theorem block_append2 {B : Nat} {w w' : World} {e : TypeId} {size : Nat} {v : Value} {n : Nat} {xs : List Value} {o1 o2 : Obj} (hown : w.ownsRow B e size v n xs)
    (hg : ((w.alloc o1).alloc o2).grownBy w' v.ownBlock) : w'.heap[w.heap.size]? = some o1 := by
  rw [hg.block w.heap.size (by simp; omega) (fun h => absurd (own_where hown h.symm).2 (by omega)), Below.heap_alloc _ _ _ (by simp)]
  exact heap_alloc_new w o1

theorem below_drewN {B : Nat} {a w : World} (h : Below B a w) (n : Nat) : Below B a (w.drewN n) := ⟨h.os, h.tape, h.output, h.size, h.block⟩
theorem own_drewN {w : World} {base : Nat} {e : TypeId} {size : Nat} {v : Value} {n : Nat} {xs : List Value} (h : w.ownsRow base e size v n xs) (k : Nat) : (w.drewN k).ownsRow base e size v n xs := h
theorem own_base {w : World} {base base' : Nat} {e : TypeId} {size : Nat} {v : Value} {n : Nat} {xs : List Value} (h : w.ownsRow base e size v n xs) (hb : base' ≤ base) : w.ownsRow base' e size v n xs := by
  refine ⟨h.1, ?_⟩
  rcases h.2 with h | ⟨g, cap, cur, hv, hg, r⟩
  · exact .inl h
  · exact .inr ⟨g, cap, cur, hv, by omega, r⟩

end Go.Proofs.YtfilbknnpjbmcaaGreat
/- Walks: comparing places, of the program and of the reference. -/
namespace Go.Proofs.YtfilbknnpjbmcaaGreat
open Go.RowKit Px

theorem ret_int {k : IntKind} {a b : Int} (h : a = b) : Ending.returned (.int k a) = Ending.returned (.int k b) := by rw [h]
theorem ret_bool {a b : Bool} (h : a = b) : Ending.returned (.bool a) = Ending.returned (.bool b) := by rw [h]

theorem isNaN_any (x : ByteArray) (w : World) :
    Calls Tryz.prog 120 #[.string x] w fun e w' => e = .returned (.bool false) ∧ w = w' := by
  go_enter Tryz.func120, Tryz.ntmps120
  go_wp2
  go_ret
  exact ⟨ret_bool (by simp), rfl⟩

end Go.Proofs.YtfilbknnpjbmcaaGreat
/- Walks: under and same, of the program and of the reference. -/
namespace Go.Proofs.YtfilbknnpjbmcaaGreat
open Go.RowKit Px

theorem mixed_ok : Tryz.prog.follows .mixedOrders = true := by kernel_rfl
theorem below_drew1 (w : World) (n : Nat) : Below w.heap.size w (w.drewN n) := below_drewN (Below.refl _ _) n
theorem strs_getD {w : World} {b o : Nat} {xs : List ByteArray} (h : Strs w (some ⟨b, o, none⟩) xs) : ∀ j, j < xs.length → w.cell? ⟨b, o + j, none⟩ = some (.string (xs.getD j ByteArray.empty)) := by
  intro j hj
  obtain ⟨b', o', h1, h2⟩ := h j hj
  obtain ⟨rfl, rfl⟩ : b = b' ∧ o = o' := by simpa using h1
  exact h2
theorem strs_take {w : World} {p : Option Addr} {xs : List ByteArray} (h : Strs w p xs) (n : Nat) : Strs w p (xs.take n) := by
  intro i hi
  rw [List.length_take] at hi
  obtain ⟨b, o, h1, h2⟩ := h i (by omega)
  refine ⟨b, o, h1, ?_⟩
  rw [h2]
  congr 2
  rw [List.getD_eq_getElem?_getD, List.getD_eq_getElem?_getD, List.getElem?_take_of_lt (by omega)]

theorem underL_more {xs ys : List ByteArray} (h : ys.length < xs.length) : underL xs ys = false := by
  unfold underL
  refine decide_eq_false fun he => ?_
  have := congrArg List.length he
  rw [List.length_take] at this
  omega
theorem take_snoc_d {xs : List ByteArray} {k : Nat} (h : k < xs.length) : xs.take (k + 1) = xs.take k ++ [xs.getD k ByteArray.empty] := by
  rw [List.take_succ_eq_append_getElem h, List.getD_eq_getElem?_getD, List.getElem?_eq_getElem h]
  rfl
theorem underL_ne {xs ys : List ByteArray} {k : Nat} (h : k < xs.length) (h' : k < ys.length) (hne : xs.getD k ByteArray.empty ≠ ys.getD k ByteArray.empty) : underL xs ys = false := by
  have _h0 := h'
  unfold underL
  refine decide_eq_false fun he => hne ?_
  have := congrArg (fun l => l.getD k ByteArray.empty) he
  rw [this, List.getD_eq_getElem?_getD, List.getD_eq_getElem?_getD, List.getElem?_take_of_lt h]
theorem underL_all {xs ys : List ByteArray} {k : Nat} (h : k = xs.length) (he : xs.take k = ys.take k) : underL xs ys = true := by
  subst h
  unfold underL
  rw [List.take_length] at he
  exact decide_eq_true he

end Go.Proofs.YtfilbknnpjbmcaaGreat
/- Values that are lists of texts; what compares them, called behind other calls. -/
namespace Go.Proofs.YtfilbknnpjbmcaaGreat
open Go.RowKit Px

/-- A value that is a list of texts, in a world. -/
def PlR (W : World) (v : Value) (xs : List ByteArray) : Prop := ∃ p c, v = .slice p xs.length c ∧ Strs W p xs ∧ xs.length ≤ c ∧ c ≤ maxLen

theorem below_next {W w : World} (hb : Below W.heap.size W w) {w' : World} (h : Below w.heap.size w w') : Below W.heap.size W w' := hb.trans (h.mono hb.size)
theorem below_drew {W w : World} (hb : Below W.heap.size W w) (n : Nat) : Below W.heap.size W (w.drewN n) := below_drewN hb n

theorem PlR.grown {W w : World} (hb : Below W.heap.size W w) {v : Value} {xs : List ByteArray} (h : PlR W v xs) : PlR w v xs := by
  obtain ⟨p, c, h1, h2, h3, h4⟩ := h
  exact ⟨p, c, h1, h2.grown hb, h3, h4⟩
/-- What owns its row is a list of texts. -/
theorem plR_of_own {W : World} {base : Nat} {v : Value} {xs : List ByteArray} (h : W.ownsRow base 9 1 v xs.length (xs.map Value.string)) : PlR W v xs := by
  obtain ⟨_, h2⟩ := h
  rcases h2 with ⟨rfl, h0⟩ | ⟨g, cap, cur, rfl, _, hh, hn, hm, hc, ht⟩
  · obtain rfl : xs = [] := List.length_eq_zero_iff.1 h0
    exact ⟨none, 0, rfl, fun i hi => absurd hi (Nat.not_lt_zero _), Nat.le_refl _, Nat.zero_le _⟩
  · refine ⟨some ⟨g, 0, none⟩, cap, rfl, ?_, hn, hm⟩
    intro i hi
    refine ⟨g, 0, rfl, ?_⟩
    rw [cell_of_row W g (0 + i) cur _ _ hh]
    have h3 : (cur.toList.take (xs.length * 1))[i]? = some (.string (xs.getD i ByteArray.empty)) := by
      rw [ht, List.getElem?_map, List.getElem?_eq_getElem hi, List.getD_eq_getElem?_getD, List.getElem?_eq_getElem hi]
      rfl
    rw [List.getElem?_take_of_lt (by omega)] at h3
    rw [Nat.zero_add]
    simpa using h3
end Go.Proofs.YtfilbknnpjbmcaaGreat
