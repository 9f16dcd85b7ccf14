/- Places as lists of texts: which stands ahead, which stands under which; where a slice's texts lie. No program. -/
import Derived.Test.YtfilbknnpjbmcaaGreatDoorRows
import Derived.Below
import Derived.Deep.Strs
import Derived.Deep.Draws
import Derived.Lib.Hide
import Derived.Lib.Strings
import Derived.Sort.Walk0
import Derived.Laws.Rows
import Derived.Deep.MidRow
import Derived.Deep.Slices
namespace Go.Proofs.YtfilbknnpjbmcaaGreatDoor
open Go Go.RowKit
namespace Px

def Strs (w : World) (p : Option Addr) (xs : List ByteArray) : Prop :=
 ∀ i, i < xs.length → ∃ b o, p = some ⟨b, o, none⟩ ∧ w.cell? ⟨b, o + i, none⟩ = some (.string (xs.getD i ByteArray.empty))
theorem Strs.grown {W w : World} (hb : Below W.heap.size W w) {p : Option Addr} {xs : List ByteArray} (h : Strs W p xs) : Strs w p xs := by
 intro i hi
 obtain ⟨b, o, h1, h2⟩ := h i hi
 refine ⟨b, o, h1, ?_⟩
 rw [hb.cell (World.block_lt_of_cell? _ _ h2)]
 exact h2
theorem Strs.drewN {w : World} {n : Nat} {p : Option Addr} {xs : List ByteArray} (h : Strs w p xs) : Strs (w.drewN n) p xs := by
 intro i hi
 obtain ⟨b, o, h1, h2⟩ := h i hi
 exact ⟨b, o, h1, by simpa using h2⟩

def lessL : List ByteArray → List ByteArray → Bool
 | _, [] => false
 | [], _ :: _ => true
 | x :: l, y :: r => if x = y then lessL l r else Op.bytesLess x.toList y.toList
def underL (l r : List ByteArray) : Bool := decide (l = r.take l.length)
theorem bl (x y : ByteArray) : Op.bytesLess x.toList y.toList = decide (x.toList < y.toList) := Go.Proofs.bytesLess_eq _ _
theorem toList_inj {x y : ByteArray} (h : x.toList = y.toList) : x = y := by
 rw [Lib.toList_data, Lib.toList_data] at h
 cases x; cases y
 simp at h
 simp [h]
theorem lessL_total : ∀ l r, lessL l r = false → lessL r l = false → l = r
 | [], [], _, _ => rfl
 | [], _ :: _, h, _ => by simp [lessL] at h
 | _ :: _, [], _, h => by simp [lessL] at h
 | x :: l, y :: r, h, h' => by
  unfold lessL at h h'
  by_cases e : x = y
  ·rw [if_pos e] at h
   rw [if_pos e.symm] at h'
   rw [e, lessL_total l r h h']
  ·rw [if_neg e, bl] at h
   rw [if_neg (fun h => e h.symm), bl] at h'
   have h1 := of_decide_eq_false h
   have h2 := of_decide_eq_false h'
   exact absurd (toList_inj (List.le_antisymm (List.not_lt.1 h2) (List.not_lt.1 h1))) e
theorem underL_iff (l r : List ByteArray) : underL l r = true ↔ l <+: r := by
 unfold underL
 rw [decide_eq_true_iff, List.prefix_iff_eq_take]
end Px
end Go.Proofs.YtfilbknnpjbmcaaGreatDoor
/- The steps of a path, and a path cleaned, as lists of bytes. No program. -/
namespace Go.Proofs.YtfilbknnpjbmcaaGreatDoor
open Go
namespace Px
abbrev B := List UInt8

def pieces : B → List B
 | [] => [[]]
 | c :: l => if c = 47 then [] :: pieces l else
  match pieces l with
  | p :: r => (c :: p) :: r
  | [] => [[c]]
def good (p : B) : Bool := !(p == []) && !(p == [46])
def stepsL (s : B) : List B := (pieces s).filter good
theorem pieces_ne (s : B) : pieces s ≠ [] := by
 cases s with
 | nil => simp [pieces]
 | cons c l =>
  unfold pieces
  split
  ·simp
  ·split <;> simp
theorem pieces_join : ∀ a b : B, pieces (a ++ 47 :: b) = pieces a ++ pieces b
 | [], b => by
  simp [pieces]
 | c :: a, b => by
  rw [List.cons_append, pieces, pieces, pieces_join a b]
  split
  ·rfl
  ·cases h : pieces a with
   | nil => exact absurd h (pieces_ne a)
   | cons p r => rfl
theorem pieces_none : ∀ a : B, (∀ x ∈ a, x ≠ 47) → pieces a = [a]
 | [], _ => rfl
 | c :: a, h => by
  rw [pieces, if_neg (h c (by simp)), pieces_none a (fun x hx => h x (by simp [hx]))]
theorem pieces_free : ∀ a : B, ∀ p ∈ pieces a, ∀ x ∈ p, x ≠ 47
 | [], p, hp, x, hx => by
  obtain rfl : p = [] := by simpa [pieces] using hp
  cases hx
 | c :: a, p, hp, x, hx => by
  have ih := pieces_free a
  unfold pieces at hp
  split at hp
  ·rcases List.mem_cons.1 hp with rfl | hp
   ·cases hx
   ·exact ih p hp x hx
  ·rename_i hc
   cases h : pieces a with
   | nil => exact absurd h (pieces_ne a)
   | cons q r =>
    rw [h] at hp ih
    rcases List.mem_cons.1 hp with rfl | hp
    ·rcases List.mem_cons.1 hx with rfl | hx
     ·exact hc
     ·exact ih q (by simp) x hx
    ·exact ih p (by simp [hp]) x hx
theorem pieces_len : ∀ a : B, (pieces a).length ≤ a.length + 1
 | [] => by simp [pieces]
 | c :: a => by
  have := pieces_len a
  unfold pieces
  split
  ·simpa using this
  ·cases h : pieces a with
   | nil => exact absurd h (pieces_ne a)
   | cons q r =>
    rw [h] at this
    simp at this ⊢
    omega
theorem pieces_size : ∀ a : B, ∀ p ∈ pieces a, p.length ≤ a.length
 | [], p, hp => by
  obtain rfl : p = [] := by simpa [pieces] using hp
  simp
 | c :: a, p, hp => by
  have ih := pieces_size a
  unfold pieces at hp
  split at hp
  ·rcases List.mem_cons.1 hp with rfl | hp
   ·simp
   ·have := ih p hp
    simp; omega
  ·cases h : pieces a with
   | nil => exact absurd h (pieces_ne a)
   | cons q r =>
    rw [h] at hp ih
    rcases List.mem_cons.1 hp with rfl | hp
    ·have := ih q (by simp)
     simp; omega
    ·have := ih p (by simp [hp])
     simp; omega
theorem steps_mem {s p : B} (h : p ∈ stepsL s) : (∀ x ∈ p, x ≠ 47) ∧ good p = true ∧ p.length ≤ s.length := by
 unfold stepsL at h
 rw [List.mem_filter] at h
 exact ⟨pieces_free s p h.1, h.2, pieces_size s p h.1⟩
theorem steps_len (s : B) : (stepsL s).length ≤ s.length + 1 := by
 unfold stepsL
 exact Nat.le_trans (List.length_filter_le _ _) (pieces_len s)
def nameL (s : B) : Bool := !(s == []) && !(s == [46]) && !(s == [46, 46]) && decide (s.length ≤ 64) && s.all fun c => !(c == 0) && !(c == 47) && !(c == 10)
end Px
end Go.Proofs.YtfilbknnpjbmcaaGreatDoor
/- Nodes of a file system as data; when cells of the memory hold them. No program. -/
namespace Go.Proofs.YtfilbknnpjbmcaaGreatDoor
open Go Go.RowKit Px
namespace Nx

inductive Nd where
 | mk (kind : UInt8) (text : ByteArray) (names : List ByteArray) (kids : List Nd)
def Nd.kind : Nd → UInt8 | .mk k _ _ _ => k
def Nd.text : Nd → ByteArray | .mk _ t _ _ => t
def Nd.names : Nd → List ByteArray | .mk _ _ l _ => l
def Nd.kids : Nd → List Nd | .mk _ _ _ l => l
def absent : Nd := .mk 0 ByteArray.empty [] []

def namesBulk (l : List ByteArray) : Nat := (l.map fun s => s.size + 1).sum
mutual
def Nd.bulk : Nd → Nat
 | .mk _ text names kids => text.size + namesBulk names + Nd.bulks kids + 1
def Nd.bulks : List Nd → Nat
 | [] => 0
 | c :: r => c.bulk + Nd.bulks r
end
mutual
def Nd.nodes : Nd → Nat
 | .mk _ _ _ kids => Nd.nodesAll kids + 1
def Nd.nodesAll : List Nd → Nat
 | [] => 0
 | c :: r => c.nodes + Nd.nodesAll r
end
mutual
def Nd.deep : Nd → Nat
 | .mk _ _ _ kids => Nd.deeps kids
def Nd.deeps : List Nd → Nat
 | [] => 0
 | c :: r => max (c.deep + 1) (Nd.deeps r)
end
theorem Nd.bulk_pos (c : Nd) : 0 < c.bulk := by cases c; unfold Nd.bulk; omega
theorem Nd.bulk_kid : ∀ {kids : List Nd} {i : Nat} {c : Nd}, kids[i]? = some c → c.bulk ≤ Nd.bulks kids
 | [], _, _, h => by simp at h
 | k :: r, 0, c, h => by
  obtain rfl : k = c := by simpa using h
  unfold Nd.bulks; omega
 | k :: r, i + 1, c, h => by
  have := Nd.bulk_kid (kids := r) (i := i) (c := c) (by simpa using h)
  unfold Nd.bulks; omega
theorem Nd.bulks_len : ∀ kids : List Nd, kids.length ≤ Nd.bulks kids
 | [] => Nat.zero_le _
 | c :: r => by
  have := Nd.bulks_len r
  have := c.bulk_pos
  unfold Nd.bulks
  simp
  omega
theorem namesBulk_len : ∀ l : List ByteArray, l.length ≤ namesBulk l
 | [] => Nat.zero_le _
 | s :: l => by
  have := namesBulk_len l
  simp [namesBulk] at *
  omega
theorem namesBulk_at : ∀ {l : List ByteArray} {i : Nat}, i < l.length → (l.getD i ByteArray.empty).size ≤ namesBulk l
 | [], i, h => by simp at h
 | s :: l, 0, _ => by simp [namesBulk]; omega
 | s :: l, i + 1, h => by
  have := namesBulk_at (l := l) (i := i) (by simpa using h)
  simp [namesBulk] at *
  omega
mutual
theorem Nd.nodes_bulk : ∀ c : Nd, c.nodes ≤ c.bulk
 | .mk _ _ _ kids => by
  have := Nd.nodesAll_bulk kids
  unfold Nd.nodes Nd.bulk
  omega
theorem Nd.nodesAll_bulk : ∀ l : List Nd, Nd.nodesAll l ≤ Nd.bulks l
 | [] => Nat.le_refl _
 | c :: r => by
  have := Nd.nodes_bulk c
  have := Nd.nodesAll_bulk r
  unfold Nd.nodesAll Nd.bulks
  omega
end
theorem Nd.bulks_take : ∀ (l : List Nd) (k : Nat), Nd.bulks (l.take k) ≤ Nd.bulks l
 | [], k => by simp
 | c :: l, 0 => by simp [Nd.bulks]
 | c :: l, k + 1 => by
  have := Nd.bulks_take l k
  simp only [List.take_succ_cons, Nd.bulks]
  omega
mutual
def Nd.girth : Nd → Nat
 | .mk _ text names kids => max (text.size + namesBulk names + kids.length + 1) (Nd.girths kids)
def Nd.girths : List Nd → Nat
 | [] => 0
 | c :: r => max c.girth (Nd.girths r)
end
theorem Nd.girth_pos (c : Nd) : 0 < c.girth := by cases c; unfold Nd.girth; omega
theorem Nd.girth_kid : ∀ {kids : List Nd} {i : Nat} {c : Nd}, kids[i]? = some c → c.girth ≤ Nd.girths kids
 | [], _, _, h => by simp at h
 | k :: r, 0, c, h => by
  obtain rfl : k = c := by simpa using h
  unfold Nd.girths; omega
 | k :: r, i + 1, c, h => by
  have := Nd.girth_kid (kids := r) (i := i) (c := c) (by simpa using h)
  unfold Nd.girths; omega
mutual
theorem Nd.girth_bulk : ∀ c : Nd, c.girth ≤ c.bulk
 | .mk _ _ _ kids => by
  have := Nd.girths_bulk kids
  have := Nd.bulks_len kids
  unfold Nd.girth Nd.bulk
  omega
theorem Nd.girths_bulk : ∀ l : List Nd, Nd.girths l ≤ Nd.bulks l
 | [] => Nat.le_refl _
 | c :: r => by
  have := Nd.girth_bulk c
  have := Nd.girths_bulk r
  unfold Nd.girths Nd.bulks
  omega
end
theorem Nd.nodesAll_take : ∀ {l : List Nd} {k : Nat} {c : Nd}, l[k]? = some c → Nd.nodesAll (l.take (k + 1)) = Nd.nodesAll (l.take k) + c.nodes
 | [], _, _, h => by simp at h
 | x :: l, 0, c, h => by
  obtain rfl : x = c := by simpa using h
  simp [Nd.nodesAll]
 | x :: l, k + 1, c, h => by
  have := Nd.nodesAll_take (l := l) (k := k) (c := c) (by simpa using h)
  simp only [List.take_succ_cons, Nd.nodesAll]
  rw [this]
  omega
theorem Nd.nodesAll_le : ∀ (l : List Nd) (k : Nat), Nd.nodesAll (l.take k) ≤ Nd.nodesAll l
 | [], k => by simp
 | c :: l, 0 => by simp [Nd.nodesAll]
 | c :: l, k + 1 => by
  have := Nd.nodesAll_le l k
  simp only [List.take_succ_cons, Nd.nodesAll]
  omega
theorem Nd.deeps_take : ∀ {l : List Nd} {k : Nat} {c : Nd}, l[k]? = some c → Nd.deeps (l.take (k + 1)) = max (Nd.deeps (l.take k)) (c.deep + 1)
 | [], _, _, h => by simp at h
 | x :: l, 0, c, h => by
  obtain rfl : x = c := by simpa using h
  simp [Nd.deeps]
 | x :: l, k + 1, c, h => by
  have := Nd.deeps_take (l := l) (k := k) (c := c) (by simpa using h)
  simp only [List.take_succ_cons, Nd.deeps]
  rw [this]
  omega

def textL (s : ByteArray) : Bool := decide (s.size ≤ 256) && s.data.toList.all fun c => !(c == 0)
def okAt (names : List ByteArray) (i : Nat) : Bool :=
 nameL (names.getD i ByteArray.empty).data.toList && (i == 0 || Op.bytesLess (names.getD (i - 1) ByteArray.empty).toList (names.getD i ByteArray.empty).toList)
def okTo (names : List ByteArray) (k : Nat) : Bool := (List.range k).all (okAt names)
def namesL (names : List ByteArray) : Bool := okTo names names.length
theorem okTo_succ (names : List ByteArray) (k : Nat) : okTo names (k + 1) = (okTo names k && okAt names k) := by
 unfold okTo
 rw [List.range_succ, List.all_append]
 simp
theorem namesL_not {names : List ByteArray} {k : Nat} (hk : k < names.length) (h : okAt names k = false) : namesL names = false := by
 unfold namesL okTo
 rw [Bool.eq_false_iff]
 intro ha
 have := List.all_eq_true.1 ha k (List.mem_range.2 hk)
 rw [h] at this
 cases this
mutual
def Nd.well : Nd → Bool
 | .mk kind text names kids =>
  if kind = 1 then textL text && decide (names.length = 0) && decide (kids.length = 0)
  else if kind = 3 then !(text.size == 0) && textL text && decide (names.length = 0) && decide (kids.length = 0)
  else if kind = 2 then (text.size == 0) && namesL names && decide (kids.length = names.length) && Nd.wells kids
  else false
def Nd.wells : List Nd → Bool
 | [] => true
 | c :: r => c.well && Nd.wells r
end
theorem Nd.wells_all : ∀ l : List Nd, Nd.wells l = l.all Nd.well
 | [] => rfl
 | c :: r => by rw [Nd.wells, Nd.wells_all r, List.all_cons]
def Nd.may (n : Nd) : Bool := decide (n.kind = 2) && n.well && decide (n.nodes ≤ 1024) && decide (n.deep ≤ 24)
mutual
def Nd.same : Nd → Nd → Bool
 | .mk k t l q, .mk k' t' l' q' => decide (k = k') && decide (t = t') && decide (l = l') && Nd.sames q q'
def Nd.sames : List Nd → List Nd → Bool
 | [], [] => true
 | c :: l, d :: r => Nd.same c d && Nd.sames l r
 | _, _ => false
end
mutual
theorem Nd.same_iff : ∀ a b : Nd, Nd.same a b = true ↔ a = b
 | .mk k t l q, .mk k' t' l' q' => by
  rw [Nd.same]
  have := Nd.sames_iff q q'
  simp [this, and_assoc]
theorem Nd.sames_iff : ∀ a b : List Nd, Nd.sames a b = true ↔ a = b
 | [], [] => by simp [Nd.sames]
 | [], _ :: _ => by simp [Nd.sames]
 | _ :: _, [] => by simp [Nd.sames]
 | c :: l, d :: r => by
  rw [Nd.sames, Bool.and_eq_true, Nd.same_iff c d, Nd.sames_iff l r]
  simp
end
theorem Nd.same_self (a : Nd) : Nd.same a a = true := (Nd.same_iff a a).2 rfl
theorem Nd.sames_len {l r : List Nd} (h : l.length ≠ r.length) : Nd.sames l r = false := by
 rw [Bool.eq_false_iff, ne_eq, Nd.sames_iff]
 intro e
 exact h (by rw [e])
theorem Nd.sames_drop {l r : List Nd} {k : Nat} (h : k < l.length) (h' : k < r.length) : Nd.sames (l.drop k) (r.drop k) = (Nd.same l[k] r[k] && Nd.sames (l.drop (k + 1)) (r.drop (k + 1))) := by
 rw [List.drop_eq_getElem_cons h, List.drop_eq_getElem_cons h', Nd.sames]

def Row (W : World) (k : Nat) (p : Option Addr) (n : Nat) (C : Nat → List Value) : Prop :=
 ∀ i, i < n → ∃ b o, p = some ⟨b, o, .none⟩ ∧ (C i).length = k ∧ W.rangeAt b (o + i * k) (C i)
inductive NodeR (W : World) : List Value → Nd → Prop where
 | mk (kind : UInt8) (text : ByteArray) (names : List ByteArray) (kids : List Nd) (p q : Option Addr) (c d : Nat) (D : Nat → List Value) :
  names.length ≤ c → c ≤ maxLen → Strs W p names →
  kids.length ≤ d → d ≤ maxLen → Row W 4 q kids.length D → (∀ (i : Nat) x, kids[i]? = some x → NodeR W (D i) x) →
  NodeR W [.int .u8 kind.toNat, .string text, .slice p names.length c, .slice q kids.length d] (.mk kind text names kids)

theorem range_below {W w : World} (hb : Below W.heap.size W w) {b o : Nat} {cs : List Value} (h : W.rangeAt b o cs) : w.rangeAt b o cs := by
 intro j v hv
 have h1 := h j v hv
 rw [hb.cell (World.block_lt_of_cell? _ _ h1)]
 exact h1
theorem Row.grown {W w : World} (hb : Below W.heap.size W w) {k : Nat} {p : Option Addr} {n : Nat} {C : Nat → List Value} (h : Row W k p n C) : Row w k p n C :=
 fun i hi => let ⟨b, o, h1, h2, h3⟩ := h i hi; ⟨b, o, h1, h2, range_below hb h3⟩
theorem NodeR.grown {W w : World} (hb : Below W.heap.size W w) {cs : List Value} {x : Nd} (h : NodeR W cs x) : NodeR w cs x := by
 induction h with
 | mk kind text names kids p q c d D h1 h2 h3 h5 h6 h7 _ ih => exact .mk kind text names kids p q c d D h1 h2 (h3.grown hb) h5 h6 (h7.grown hb) ih
theorem NodeR.cells {W : World} {cs : List Value} {x : Nd} (h : NodeR W cs x) : ∃ p q c d, cs = [.int .u8 x.kind.toNat, .string x.text, .slice p x.names.length c, .slice q x.kids.length d] := by
 cases h with
 | mk kind text names kids p q c d D => exact ⟨p, q, c, d, rfl⟩
end Nx
end Go.Proofs.YtfilbknnpjbmcaaGreatDoor
