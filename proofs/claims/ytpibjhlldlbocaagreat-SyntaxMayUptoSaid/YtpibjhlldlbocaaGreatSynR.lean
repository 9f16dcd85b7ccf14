/- Commands of a script as data: words, parts, commands; when cells of the memory hold them. No program. -/
import Derived.Test.YtpibjhlldlbocaaGreatRows
import Derived.Below
import Derived.Deep.MidRow
import Derived.Deep.Slices
import Derived.Lib.Hide
import Derived.Laws.Rows
namespace Go.Proofs.YtpibjhlldlbocaaGreat
open Go Go.RowKit
namespace Sx

structure Part where
  var : Bool
  text : ByteArray
  quoted : Bool
structure Word where
  parts : List Part
  at_ : Int
inductive Cmd where
  | mk (kind : UInt8) (at_ : Int) (name : ByteArray) (words : List Word) (kids : List Cmd)

def Part.bulk (p : Part) : Nat := p.text.size + 1
def Word.bulk (w : Word) : Nat := (w.parts.map Part.bulk).sum + 1
mutual
def Cmd.bulk : Cmd → Nat
  | .mk _ _ name words kids => name.size + (words.map Word.bulk).sum + Cmd.bulks kids + 1
def Cmd.bulks : List Cmd → Nat
  | [] => 0
  | c :: r => c.bulk + Cmd.bulks r
end
theorem Cmd.bulk_kid : ∀ {kids : List Cmd} {i : Nat} {c : Cmd}, kids[i]? = some c → c.bulk ≤ Cmd.bulks kids
  | [], _, _, h => by simp at h
  | k :: r, 0, c, h => by
    obtain rfl : k = c := by simpa using h
    unfold Cmd.bulks; omega
  | k :: r, i + 1, c, h => by
    have := Cmd.bulk_kid (kids := r) (i := i) (c := c) (by simpa using h)
    unfold Cmd.bulks; omega
theorem Cmd.bulk_pos (c : Cmd) : 0 < c.bulk := by cases c; unfold Cmd.bulk; omega
theorem Cmd.bulks_len : ∀ kids : List Cmd, kids.length ≤ Cmd.bulks kids
  | [] => Nat.zero_le _
  | c :: r => by
    have := Cmd.bulks_len r
    have := c.bulk_pos
    unfold Cmd.bulks
    simp
    omega
theorem sum_ge {α : Type} {f : α → Nat} (hf : ∀ x, 0 < f x) : ∀ l : List α, l.length ≤ (l.map f).sum
  | [] => Nat.zero_le _
  | x :: l => by
    have := sum_ge hf l
    have := hf x
    simp
    omega
theorem sum_at {α : Type} {f : α → Nat} : ∀ {l : List α} {i : Nat} {x : α}, l[i]? = some x → f x ≤ (l.map f).sum
  | [], _, _, h => by simp at h
  | y :: l, 0, x, h => by
    obtain rfl : y = x := by simpa using h
    simp
  | y :: l, i + 1, x, h => by
    have := sum_at (f := f) (l := l) (i := i) (x := x) (by simpa using h)
    simp
    omega

/-- n elements of k cells each, from where a slice points on. -/
def Row (W : World) (k : Nat) (p : Option Addr) (n : Nat) (C : Nat → List Value) : Prop :=
  ∀ i, i < n → ∃ b o, p = some ⟨b, o, none⟩ ∧ (C i).length = k ∧ W.rangeAt b (o + i * k) (C i)
def partCells (p : Part) : List Value := [.bool p.var, .string p.text, .bool p.quoted]
def WordR (W : World) (cs : List Value) (x : Word) : Prop :=
  ∃ p cap, cs = [.slice p x.parts.length cap, .int .i64 x.at_] ∧ x.parts.length ≤ cap ∧ cap ≤ maxLen ∧ Row W 3 p x.parts.length (fun i => (x.parts[i]?.map partCells).getD [])
inductive CmdR (W : World) : List Value → Cmd → Prop where
  | mk (kind : UInt8) (at_ : Int) (name : ByteArray) (words : List Word) (kids : List Cmd) (p q : Option Addr) (c d : Nat) (C D : Nat → List Value) :
    words.length ≤ c → c ≤ maxLen → Row W 2 p words.length C → (∀ (i : Nat) x, words[i]? = some x → WordR W (C i) x) →
    kids.length ≤ d → d ≤ maxLen → Row W 5 q kids.length D → (∀ (i : Nat) x, kids[i]? = some x → CmdR W (D i) x) →
    CmdR W [.int .u8 kind.toNat, .int .i64 at_, .string name, .slice p words.length c, .slice q kids.length d] (.mk kind at_ name words kids)

theorem range_below {W w : World} (hb : Below W.heap.size W w) {b o : Nat} {cs : List Value} (h : W.rangeAt b o cs) : w.rangeAt b o cs := by
  intro j v hv
  have h1 := h j v hv
  rw [hb.cell (World.block_lt_of_cell? _ _ h1)]
  exact h1
theorem Row.grown {W w : World} (hb : Below W.heap.size W w) {k : Nat} {p : Option Addr} {n : Nat} {C : Nat → List Value} (h : Row W k p n C) : Row w k p n C :=
  fun i hi => let ⟨b, o, h1, h2, h3⟩ := h i hi; ⟨b, o, h1, h2, range_below hb h3⟩
theorem WordR.grown {W w : World} (hb : Below W.heap.size W w) {cs : List Value} {x : Word} (h : WordR W cs x) : WordR w cs x :=
  let ⟨p, c, h1, h2, h3, h4⟩ := h; ⟨p, c, h1, h2, h3, h4.grown hb⟩
theorem CmdR.grown {W w : World} (hb : Below W.heap.size W w) {cs : List Value} {x : Cmd} (h : CmdR W cs x) : CmdR w cs x := by
  induction h with
  | mk kind at_ name words kids p q c d C D h1 h2 h3 h4 h5 h6 h7 _ ih => exact .mk kind at_ name words kids p q c d C D h1 h2 (h3.grown hb) (fun i x hx => (h4 i x hx).grown hb) h5 h6 (h7.grown hb) ih

mutual
def Cmd.depth : Cmd → Nat
  | .mk _ _ _ _ kids => Cmd.depths kids + 1
def Cmd.depths : List Cmd → Nat
  | [] => 0
  | c :: r => max c.depth (Cmd.depths r)
end
mutual
theorem Cmd.depth_bulk : ∀ c : Cmd, c.depth ≤ c.bulk
  | .mk _ _ _ _ kids => by
    have := Cmd.depths_bulk kids
    unfold Cmd.depth Cmd.bulk
    omega
theorem Cmd.depths_bulk : ∀ l : List Cmd, Cmd.depths l ≤ Cmd.bulks l
  | [] => Nat.le_refl _
  | c :: r => by
    have := Cmd.depth_bulk c
    have := Cmd.depths_bulk r
    unfold Cmd.depths Cmd.bulks
    omega
end
theorem Cmd.bulks_take : ∀ (l : List Cmd) (k : Nat), Cmd.bulks (l.take k) ≤ Cmd.bulks l
  | [], k => by simp
  | c :: l, 0 => by simp [Cmd.bulks]
  | c :: l, k + 1 => by
    have := Cmd.bulks_take l k
    simp only [List.take_succ_cons, Cmd.bulks]
    omega
/-- The deepest of the first k. -/
theorem Cmd.depths_take : ∀ {l : List Cmd} {k : Nat} {c : Cmd}, l[k]? = some c → Cmd.depths (l.take (k + 1)) = max (Cmd.depths (l.take k)) c.depth
  | [], _, _, h => by simp at h
  | x :: l, 0, c, h => by
    obtain rfl : x = c := by simpa using h
    simp [Cmd.depths]
  | x :: l, k + 1, c, h => by
    have := Cmd.depths_take (l := l) (k := k) (c := c) (by simpa using h)
    simp only [List.take_succ_cons, Cmd.depths]
    rw [this]
    omega

/-- Are two words the same, but for their places? -/
def sameP (p q : Part) : Bool := p.var == q.var && p.text.toList == q.text.toList && p.quoted == q.quoted
def samePs : List Part → List Part → Bool
  | [], [] => true
  | p :: l, q :: r => sameP p q && samePs l r
  | _, _ => false
theorem samePs_len : ∀ {l r : List Part}, l.length ≠ r.length → samePs l r = false
  | [], [], h => absurd rfl h
  | [], _ :: _, _ => rfl
  | _ :: _, [], _ => rfl
  | p :: l, q :: r, h => by
    have := samePs_len (l := l) (r := r) (by simpa using h)
    simp [samePs, this]
theorem samePs_drop {l r : List Part} {k : Nat} (h : k < l.length) (h' : k < r.length) : samePs (l.drop k) (r.drop k) = (sameP l[k] r[k] && samePs (l.drop (k + 1)) (r.drop (k + 1))) := by
  rw [List.drop_eq_getElem_cons h, List.drop_eq_getElem_cons h']
  rfl

def sameWs : List Word → List Word → Bool
  | [], [] => true
  | x :: l, y :: r => samePs x.parts y.parts && sameWs l r
  | _, _ => false
mutual
def Cmd.same : Cmd → Cmd → Bool
  | .mk k _ n ws ks, .mk k' _ n' ws' ks' => k == k' && n.toList == n'.toList && ws.length == ws'.length && ks.length == ks'.length && Sx.sameWs ws ws' && Cmd.sames ks ks'
def Cmd.sames : List Cmd → List Cmd → Bool
  | [], [] => true
  | c :: l, d :: r => Cmd.same c d && Cmd.sames l r
  | _, _ => false
end

theorem same_all {k : UInt8} {a a' : Int} {n n' : ByteArray} {ws ws' : List Word} {ks ks' : List Cmd} (hn : n.toList = n'.toList) (hw : ws.length = ws'.length) (hk : ks.length = ks'.length) :
    Cmd.same (.mk k a n ws ks) (.mk k a' n' ws' ks') = (sameWs ws ws' && Cmd.sames ks ks') := by
  simp [Cmd.same, hn, hw, hk]
theorem same_none {k k' : UInt8} {a a' : Int} {n n' : ByteArray} {ws ws' : List Word} {ks ks' : List Cmd} (h : ¬ (k = k' ∧ n.toList = n'.toList ∧ ws.length = ws'.length ∧ ks.length = ks'.length)) :
    Cmd.same (.mk k a n ws ks) (.mk k' a' n' ws' ks') = false := by
  rw [Bool.eq_false_iff]
  intro hs
  simp [Cmd.same] at hs
  exact h ⟨hs.1.1.1.1.1, hs.1.1.1.1.2, hs.1.1.1.2, hs.1.1.2⟩
theorem sameWs_drop {l r : List Word} {k : Nat} (h : k < l.length) (h' : k < r.length) : sameWs (l.drop k) (r.drop k) = (samePs l[k].parts r[k].parts && sameWs (l.drop (k + 1)) (r.drop (k + 1))) := by
  rw [List.drop_eq_getElem_cons h, List.drop_eq_getElem_cons h']
  rfl
theorem sames_drop {l r : List Cmd} {k : Nat} (h : k < l.length) (h' : k < r.length) : Cmd.sames (l.drop k) (r.drop k) = (Cmd.same l[k] r[k] && Cmd.sames (l.drop (k + 1)) (r.drop (k + 1))) := by
  rw [List.drop_eq_getElem_cons h, List.drop_eq_getElem_cons h', Cmd.sames]

end Sx
end Go.Proofs.YtpibjhlldlbocaaGreat
