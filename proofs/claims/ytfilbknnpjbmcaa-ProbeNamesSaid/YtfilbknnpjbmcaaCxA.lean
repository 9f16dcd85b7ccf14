/- A closed call, run: finite maps; when a value with numbers of its own stands for a value of the model. No program. -/
import Derived.Defers
import Derived.Recover
import Derived.AtR
import Derived.Below
namespace Go.Proofs.Ytfilbknnpjbmcaa.Cx
open Go Go.RowKit

/-- A finite map from numbers: 0 at the root, odd ones to the left, even ones to the right. -/
inductive T (α : Type) where
  | leaf
  | node (l : T α) (x : Option α) (r : T α)

/-- A number as a way through such a map; numbers too great have none. -/
inductive Po where
  | h
  | i (p : Po)
  | o (p : Po)
  | far
noncomputable def po (n : Nat) : Nat → Po :=
  Nat.rec (motive := fun _ => Nat → Po) (fun _ => .far)
    (fun _ ih k => bif Nat.beq k 0 then .h else bif Nat.beq (Nat.mod k 2) 1 then .i (ih (Nat.div k 2)) else .o (ih (Nat.sub (Nat.div k 2) 1))) n
def Po.fin : Po → Prop
  | .h => True
  | .i p => p.fin
  | .o p => p.fin
  | .far => False
noncomputable def FUEL : Nat := 40

/-- Handed on worked out: numbers as numerals, values with their numbers. -/
noncomputable def forceN {β : Type} (n : Nat) (K : Nat → β) : β := Nat.rec (motive := fun _ => β) (K 0) (fun n _ => K n) (Nat.succ n)
theorem forceN_eq {β : Type} (n : Nat) (K : Nat → β) : forceN n K = K n := rfl
noncomputable def forceI {β : Type} (i : Int) : (Int → β) → β := Int.rec (motive := fun _ => (Int → β) → β) (fun n K => forceN n fun n => K (.ofNat n)) (fun n K => forceN n fun n => K (.negSucc n)) i
theorem forceI_eq {β : Type} (i : Int) (K : Int → β) : forceI i K = K i := by cases i <;> rfl
noncomputable def forceB {β : Type} (b : Bool) : (Bool → β) → β := Bool.rec (motive := fun _ => (Bool → β) → β) (fun K => K false) (fun K => K true) b
theorem forceB_eq {β : Type} (b : Bool) (K : Bool → β) : forceB b K = K b := by cases b <;> rfl
noncomputable def forceA {β : Type} (a : Addr) : (Addr → β) → β :=
  match a with
  | ⟨b, o, p⟩ => fun K => forceN b fun b => forceN o fun o => K ⟨b, o, p⟩
theorem forceA_eq {β : Type} (a : Addr) (K : Addr → β) : forceA a K = K a := by cases a; rfl
noncomputable def forceO {β : Type} (a : Option Addr) : (Option Addr → β) → β :=
  match a with
  | none => fun K => K none
  | some a => fun K => forceA a fun a => K (some a)
theorem forceO_eq {β : Type} (a : Option Addr) (K : Option Addr → β) : forceO a K = K a := by
  cases a with
  | none => rfl
  | some a => cases a; rfl
noncomputable def forceV {β : Type} (v : Value) : (Value → β) → β :=
  match v with
  | .bool b => fun K => forceB b fun b => K (.bool b)
  | .int k i => fun K => forceI i fun i => K (.int k i)
  | .string b => fun K => K (.string b)
  | .pointer a => fun K => forceO a fun a => K (.pointer a)
  | .slice a n c => fun K => forceO a fun a => forceN n fun n => forceN c fun c => K (.slice a n c)
  | .iface t v => fun K => K (.iface t v)
  | .agg a => fun K => K (.agg a)
  | .tuple a => fun K => K (.tuple a)
  | v => fun K => K v
theorem forceV_eq {β : Type} (v : Value) (K : Value → β) : forceV v K = K v := by
  cases v with
  | bool b => exact forceB_eq b (fun b => K (.bool b))
  | int k i => exact forceI_eq i (fun i => K (.int k i))
  | pointer a => exact forceO_eq a (fun a => K (.pointer a))
  | slice a n c => exact forceO_eq a (fun a => K (.slice a n c))
  | _ => rfl

theorem beq_nat (a b : Nat) : Nat.beq a b = decide (a = b) := by
  rw [Bool.eq_iff_iff]; simp

theorem po_succ (n k : Nat) : po (n + 1) k = if k = 0 then .h else if k % 2 = 1 then .i (po n (k / 2)) else .o (po n (k / 2 - 1)) := by
  have hm : ∀ j : Nat, j.mod 2 = j % 2 := fun _ => rfl
  have hd : ∀ j : Nat, j.div 2 = j / 2 := fun _ => rfl
  have hs : ∀ i j : Nat, i.sub j = i - j := fun _ _ => rfl
  show (bif Nat.beq k 0 then Po.h else bif Nat.beq (Nat.mod k 2) 1 then .i (po n (Nat.div k 2)) else .o (po n (Nat.sub (Nat.div k 2) 1))) = _
  simp only [beq_nat, cond_eq_ite, decide_eq_true_eq, hm, hd, hs]
theorem po_inj : ∀ {n j k : Nat}, (po n k).fin → po n j = po n k → j = k
  | 0, _, _, hf, _ => hf.elim
  | n + 1, j, k, hf, h => by
    rw [po_succ] at hf
    rw [po_succ, po_succ] at h
    by_cases hj : j = 0 <;> by_cases hk : k = 0
    · omega
    · rw [if_pos hj, if_neg hk] at h
      split at h <;> cases h
    · rw [if_neg hj, if_pos hk] at h
      split at h <;> cases h
    · rw [if_neg hj, if_neg hk] at h
      rw [if_neg hk] at hf
      by_cases hj1 : j % 2 = 1 <;> by_cases hk1 : k % 2 = 1
      · rw [if_pos hj1, if_pos hk1] at h
        rw [if_pos hk1] at hf
        have := po_inj hf (Po.i.inj h)
        omega
      · rw [if_pos hj1, if_neg hk1] at h
        cases h
      · rw [if_neg hj1, if_pos hk1] at h
        cases h
      · rw [if_neg hj1, if_neg hk1] at h
        rw [if_neg hk1] at hf
        have := po_inj hf (Po.o.inj h)
        omega

noncomputable def T.getP {α : Type} (t : T α) : Po → Option α :=
  T.rec (motive := fun _ => Po → Option α) (fun _ => none) (fun _ x _ l r p => Po.rec (motive := fun _ => Option α) x (fun p _ => l p) (fun p _ => r p) none p) t
noncomputable def T.get {α : Type} (t : T α) (k : Nat) : Option α := t.getP (po FUEL k)
/-- A new branch of one place. -/
noncomputable def T.twigP {α β : Type} (x : Option α) (p : Po) : (T α → Option β) → Option β :=
  Po.rec (motive := fun _ => (T α → Option β) → Option β) (fun K => K (.node .leaf x .leaf)) (fun _ ih K => ih fun l => K (.node l none .leaf)) (fun _ ih K => ih fun r => K (.node .leaf none r)) (fun _ => none) p
/-- Put at a number, handed on in full. -/
noncomputable def T.putP {α β : Type} (x : Option α) (t : T α) : Po → (T α → Option β) → Option β :=
  T.rec (motive := fun _ => Po → (T α → Option β) → Option β) (fun p K => T.twigP x p K)
    (fun l y r pl pr p K => Po.rec (motive := fun _ => Option β) (K (.node l x r)) (fun p _ => pl p fun l' => K (.node l' y r)) (fun p _ => pr p fun r' => K (.node l y r')) none p) t
noncomputable def T.put {α β : Type} (x : Option α) (n : Nat) (t : T α) (k : Nat) (K : T α → Option β) : Option β := T.putP x t (po n k) K

theorem T.get_leaf {α : Type} (k : Nat) : (T.leaf : T α).get k = none := rfl
theorem T.getP_leaf {α : Type} (p : Po) : (T.leaf : T α).getP p = none := rfl

theorem T.twigP_some {α β : Type} {x : Option α} : ∀ {p : Po} {K : T α → Option β} {b : β}, T.twigP x p K = some b →
    p.fin ∧ ∃ t', K t' = some b ∧ t'.getP p = x ∧ ∀ q, q ≠ p → t'.getP q = none
  | .h, K, b, h => ⟨trivial, _, h, rfl, fun q hq => by
    cases q with
    | h => exact absurd rfl hq
    | i q => rfl
    | o q => rfl
    | far => rfl⟩
  | .i p, K, b, h => by
    obtain ⟨h1, l, hK, h2, h3⟩ := T.twigP_some (p := p) (show T.twigP x p (fun l => K (.node l none .leaf)) = some b from h)
    refine ⟨h1, _, hK, h2, fun q hq => ?_⟩
    cases q with
    | h => rfl
    | i q => exact h3 q fun e => hq (by rw [e])
    | o q => rfl
    | far => rfl
  | .o p, K, b, h => by
    obtain ⟨h1, l, hK, h2, h3⟩ := T.twigP_some (p := p) (show T.twigP x p (fun r => K (.node .leaf none r)) = some b from h)
    refine ⟨h1, _, hK, h2, fun q hq => ?_⟩
    cases q with
    | h => rfl
    | i q => rfl
    | o q => exact h3 q fun e => hq (by rw [e])
    | far => rfl
  | .far, K, b, h => by cases h
theorem T.putP_some {α β : Type} {x : Option α} : ∀ {t : T α} {p : Po} {K : T α → Option β} {b : β}, T.putP x t p K = some b →
    p.fin ∧ ∃ t', K t' = some b ∧ t'.getP p = x ∧ ∀ q, q ≠ p → t'.getP q = t.getP q
  | .leaf, p, K, b, h => T.twigP_some (show T.twigP x p K = some b from h)
  | .node l y r, .h, K, b, h => ⟨trivial, _, h, rfl, fun q hq => by
    cases q with
    | h => exact absurd rfl hq
    | i q => rfl
    | o q => rfl
    | far => rfl⟩
  | .node l y r, .i p, K, b, h => by
    obtain ⟨h1, l', hK, h2, h3⟩ := T.putP_some (t := l) (p := p) (show T.putP x l p (fun l' => K (.node l' y r)) = some b from h)
    refine ⟨h1, _, hK, h2, fun q hq => ?_⟩
    cases q with
    | h => rfl
    | i q => exact h3 q fun e => hq (by rw [e])
    | o q => rfl
    | far => rfl
  | .node l y r, .o p, K, b, h => by
    obtain ⟨h1, l', hK, h2, h3⟩ := T.putP_some (t := r) (p := p) (show T.putP x r p (fun r' => K (.node l y r')) = some b from h)
    refine ⟨h1, _, hK, h2, fun q hq => ?_⟩
    cases q with
    | h => rfl
    | i q => rfl
    | o q => exact h3 q fun e => hq (by rw [e])
    | far => rfl
  | .node l y r, .far, K, b, h => by cases h
theorem T.put_some {α β : Type} {x : Option α} {t : T α} {k : Nat} {K : T α → Option β} {b : β} (h : T.put x FUEL t k K = some b) :
    ∃ t', K t' = some b ∧ ∀ j, t'.get j = if j = k then x else t.get j := by
  obtain ⟨h1, t', hK, h2, h3⟩ := T.putP_some (show T.putP x t (po FUEL k) K = some b from h)
  refine ⟨t', hK, fun j => ?_⟩
  split
  · rename_i e
    subst e
    exact h2
  · rename_i hne
    exact h3 _ fun e => hne (po_inj h1 e)

/-- Where a block of the run's own numbering lies, and how many elements it has room for. -/
structure Loc where
  blk : Nat
  cap : Nat
abbrev Ren := Nat → Option Loc
noncomputable def Ren.le (s s' : Ren) : Prop := ∀ g l, s g = some l → s' g = some l
theorem Ren.le.refl (s : Ren) : s.le s := fun _ _ h => h
theorem Ren.le.trans {a b c : Ren} (h : a.le b) (h' : b.le c) : a.le c := fun g l e => h' g l (h g l e)

/-- Rooms from here on are told from a block's end on. -/
noncomputable def BIG : Nat := 1152921504606846976

inductive FnR (s : Ren) : Fn → Fn → Prop where
  | func (f : FuncId) : FnR s (.func f) (.func f)
  | method (n : String) : FnR s (.method n) (.method n)
  | methodOf (t : TypeId) (n : String) : FnR s (.methodOf t n) (.methodOf t n)
  | via (t : TypeId) (p : Array FieldStep) (f : FuncId) (q : Bool) : FnR s (.via t p f q) (.via t p f q)
  | yield (g : Nat) (l : Loc) : s g = some l → FnR s (.yield g) (.yield l.blk)

/-- A value of the run stands for a value of the model. -/
inductive VR (s : Ren) : Value → Value → Prop where
  | bool (b : Bool) : VR s (.bool b) (.bool b)
  | int (k : IntKind) (n : Int) : VR s (.int k n) (.int k n)
  | string (b : ByteArray) : VR s (.string b) (.string b)
  | ptrNil : VR s (.pointer none) (.pointer none)
  | ptr (g o : Nat) (l : Loc) : s g = some l → VR s (.pointer (some ⟨g, o, none⟩)) (.pointer (some ⟨l.blk, o, none⟩))
  | sliceNil (n c : Nat) : c < BIG → VR s (.slice none n c) (.slice none n c)
  | slice (g o n c : Nat) (l : Loc) : s g = some l → c < BIG → VR s (.slice (some ⟨g, o, none⟩) n c) (.slice (some ⟨l.blk, o, none⟩) n c)
  | sliceEnd (g o n c k k' : Nat) (l : Loc) : s g = some l → k = BIG + c → k' = l.cap - c → VR s (.slice (some ⟨g, o, none⟩) n k) (.slice (some ⟨l.blk, o, none⟩) n k')
  | sliceEmpty (a b : Addr) (n k c : Nat) : n = 0 → k = BIG + BIG → VR s (.slice (some a) n k) (.slice (some b) n c)
  | mapNil : VR s (.map none) (.map none)
  | map (g : Nat) (l : Loc) : s g = some l → VR s (.map (some g)) (.map (some l.blk))
  | func (f f' : Fn) (a a' c c' : Array Value) : FnR s f f' → a.size = a'.size → (∀ i (h : i < a.size) (h' : i < a'.size), VR s a[i] a'[i]) →
      c.size = c'.size → (∀ i (h : i < c.size) (h' : i < c'.size), VR s c[i] c'[i]) → VR s (.func f a c) (.func f' a' c')
  | nilFunc : VR s .nilFunc .nilFunc
  | iface (t : TypeId) (v v' : Value) : VR s v v' → VR s (.iface t v) (.iface t v')
  | nilIface : VR s .nilIface .nilIface
  | opq (g : Nat) (t : TypeId) (v : Value) : VR s (.chan (some g)) (.iface t v)
  | agg (a a' : Array Value) : a.size = a'.size → (∀ i (h : i < a.size) (h' : i < a'.size), VR s a[i] a'[i]) → VR s (.agg a) (.agg a')
  | tuple (a a' : Array Value) : a.size = a'.size → (∀ i (h : i < a.size) (h' : i < a'.size), VR s a[i] a'[i]) → VR s (.tuple a) (.tuple a')

/-- Lists of values, place by place. -/
noncomputable def VRs (s : Ren) (a a' : Array Value) : Prop := a.size = a'.size ∧ ∀ i (h : i < a.size) (h' : i < a'.size), VR s a[i] a'[i]

theorem FnR.mono {s s' : Ren} (hs : s.le s') {f f' : Fn} (h : FnR s f f') : FnR s' f f' := by
  cases h with
  | yield g l e => exact .yield g l (hs _ _ e)
  | _ => constructor
theorem VR.mono {s s' : Ren} (hs : s.le s') {v v' : Value} (h : VR s v v') : VR s' v v' := by
  induction h with
  | ptr g o l e => exact .ptr g o l (hs _ _ e)
  | slice g o n c l e hc => exact .slice g o n c l (hs _ _ e) hc
  | sliceEnd g o n c k k' l e h1 h2 => exact .sliceEnd g o n c k k' l (hs _ _ e) h1 h2
  | sliceEmpty a b n k c h1 h2 => exact .sliceEmpty a b n k c h1 h2
  | map g l e => exact .map g l (hs _ _ e)
  | func f f' a a' c c' hf h1 _ h2 _ i1 i2 => exact .func f f' a a' c c' (hf.mono hs) h1 i1 h2 i2
  | iface t v v' _ ih => exact .iface t v v' ih
  | agg a a' h1 _ ih => exact .agg a a' h1 ih
  | tuple a a' h1 _ ih => exact .tuple a a' h1 ih
  | sliceNil n c hc => exact .sliceNil n c hc
  | _ => constructor
theorem VRs.mono {s s' : Ren} (hs : s.le s') {a a' : Array Value} (h : VRs s a a') : VRs s' a a' := ⟨h.1, fun i h1 h2 => (h.2 i h1 h2).mono hs⟩
theorem VRs.get {s : Ren} {a a' : Array Value} (h : VRs s a a') {i : Nat} {v : Value} (hv : a[i]? = some v) : ∃ v', a'[i]? = some v' ∧ VR s v v' := by
  obtain ⟨hi, rfl⟩ := Array.getElem?_eq_some_iff.1 hv
  have hi' : i < a'.size := h.1 ▸ hi
  exact ⟨a'[i], Array.getElem?_eq_getElem hi', h.2 i hi hi'⟩
theorem VRs.nil {s : Ren} : VRs s #[] #[] := ⟨rfl, fun i h => absurd h (by simp)⟩
theorem VRs.of_get {s : Ren} {a a' : Array Value} (hs : a.size = a'.size) (h : ∀ (i : Nat) (v : Value), a[i]? = some v → ∃ v', a'[i]? = some v' ∧ VR s v v') : VRs s a a' := by
  refine ⟨hs, fun i h1 h2 => ?_⟩
  obtain ⟨v', hv', hr⟩ := h i a[i] (Array.getElem?_eq_getElem h1)
  rw [Array.getElem?_eq_getElem h2] at hv'
  cases hv'
  exact hr
theorem VRs.push {s : Ren} {a a' : Array Value} {v v' : Value} (h : VRs s a a') (hv : VR s v v') : VRs s (a.push v) (a'.push v') := by
  refine ⟨by simp [h.1], fun i h1 h2 => ?_⟩
  rw [Array.getElem_push, Array.getElem_push]
  by_cases hi : i < a.size
  · simp only [hi, dif_pos, h.1 ▸ hi]; exact h.2 i hi (h.1 ▸ hi)
  · have : ¬ i < a'.size := h.1 ▸ hi
    simp only [hi, this, dif_neg, not_false_eq_true]; exact hv
theorem VRs.append {s : Ren} {a a' b b' : Array Value} (h : VRs s a a') (h' : VRs s b b') : VRs s (a ++ b) (a' ++ b') := by
  refine ⟨by simp [h.1, h'.1], fun i h1 h2 => ?_⟩
  rw [Array.getElem_append, Array.getElem_append]
  by_cases hi : i < a.size
  · simp only [hi, dif_pos, h.1 ▸ hi]; exact h.2 i hi (h.1 ▸ hi)
  · have hi' : ¬ i < a'.size := h.1 ▸ hi
    simp only [hi, hi', dif_neg, not_false_eq_true]
    have := h'.2 (i - a.size) (by simp at h1; omega) (by simp at h2; have := h.1; omega)
    simpa [h.1] using this

/-- Values that hold no place: they stand for themselves. -/
noncomputable def plainV : Nat → Value → Bool
  | 0, _ => false
  | n + 1, v => match v with
    | .bool _ | .int _ _ | .string _ | .pointer none | .map none | .nilFunc | .nilIface => true
    | .slice none _ c => Nat.blt c BIG
    | .iface _ v => plainV n v
    | .agg a | .tuple a => a.toList.all (plainV n)
    | _ => false
theorem plainV_self {s : Ren} : ∀ {n : Nat} {v : Value}, plainV n v = true → VR s v v
  | 0, _, h => by simp [plainV] at h
  | n + 1, v, h => by
    unfold plainV at h
    split at h
    any_goals (constructor; done)
    · exact .sliceNil _ _ (by simpa [Nat.blt_eq] using h)
    · exact .iface _ _ _ (plainV_self h)
    · rename_i a
      refine .agg _ _ rfl fun i h1 _ => plainV_self (n := n) ?_
      exact List.all_eq_true.1 h _ (Array.mem_toList_iff.2 (Array.getElem_mem h1))
    · rename_i a
      refine .tuple _ _ rfl fun i h1 _ => plainV_self (n := n) ?_
      exact List.all_eq_true.1 h _ (Array.mem_toList_iff.2 (Array.getElem_mem h1))
    · cases h
/-- A value without places stands for nothing but itself. -/
theorem plainV_eq {s : Ren} : ∀ {n : Nat} {v v' : Value}, plainV n v = true → VR s v v' → v' = v
  | 0, _, _, h, _ => by simp [plainV] at h
  | n + 1, v, v', h, hr => by
    unfold plainV at h
    split at h
    any_goals (first | (cases h; done) | (cases hr; rfl))
    · cases hr with
      | iface t v v' hv => rw [plainV_eq h hv]
    · cases hr with
      | agg a a' hs hv =>
        congr 1
        refine Array.ext hs.symm fun i h1 h2 => plainV_eq (n := n) ?_ (hv i h2 h1)
        exact List.all_eq_true.1 h _ (Array.mem_toList_iff.2 (Array.getElem_mem h2))
    · cases hr with
      | tuple a a' hs hv =>
        congr 1
        refine Array.ext hs.symm fun i h1 h2 => plainV_eq (n := n) ?_ (hv i h2 h1)
        exact List.all_eq_true.1 h _ (Array.mem_toList_iff.2 (Array.getElem_mem h2))

end Go.Proofs.Ytfilbknnpjbmcaa.Cx
