/- A closed call, run: finite maps; when a value with numbers of its own stands for a value of the model. No program. -/
import Derived.Defers
import Derived.Recover
import Derived.AtR
import Derived.Below
namespace Go.Proofs.Ytajkkgibiigioaa.Cx
open Go Go.RowKit

/-- A finite map from numbers: 0 at the root, odd ones to the left, even ones to the right. -/
inductive T (α : Type) where
  | leaf
  | node (l : T α) (x : Option α) (r : T α)

noncomputable def T.get {α : Type} (t : T α) : Nat → Option α :=
  T.rec (motive := fun _ => Nat → Option α) (fun _ => none)
    (fun _ x _ l r k => bif Nat.beq k 0 then x else bif Nat.beq (Nat.mod k 2) 1 then l (Nat.div k 2) else r (Nat.sub (Nat.div k 2) 1)) t
theorem T.get_node {α : Type} (l r : T α) (x : Option α) (k : Nat) : (T.node l x r).get k = bif Nat.beq k 0 then x else bif Nat.beq (Nat.mod k 2) 1 then l.get (Nat.div k 2) else r.get (Nat.sub (Nat.div k 2) 1) := rfl

/-- A new branch of one place. -/
noncomputable def T.twig {α β : Type} (x : Option α) (n : Nat) : Nat → (T α → Option β) → Option β :=
  Nat.rec (motive := fun _ => Nat → (T α → Option β) → Option β) (fun _ _ => none)
    (fun _ ih k K => bif Nat.beq k 0 then K (.node .leaf x .leaf)
      else bif Nat.beq (Nat.mod k 2) 1 then ih (Nat.div k 2) fun l => K (.node l none .leaf)
      else ih (Nat.sub (Nat.div k 2) 1) fun r => K (.node .leaf none r)) n
/-- Put at a number, handed on in full. -/
noncomputable def T.put {α β : Type} (x : Option α) (n : Nat) (t : T α) : Nat → (T α → Option β) → Option β :=
  T.rec (motive := fun _ => Nat → (T α → Option β) → Option β) (fun k K => T.twig x n k K)
    (fun l y r pl pr k K => bif Nat.beq k 0 then K (.node l x r)
      else bif Nat.beq (Nat.mod k 2) 1 then pl (Nat.div k 2) fun l' => K (.node l' y r)
      else pr (Nat.sub (Nat.div k 2) 1) fun r' => K (.node l y r')) t

theorem beq_nat (a b : Nat) : Nat.beq a b = decide (a = b) := by
  rw [Bool.eq_iff_iff]; simp

theorem T.get_leaf {α : Type} (k : Nat) : (T.leaf : T α).get k = none := rfl

theorem T.twig_some {α β : Type} {x : Option α} : ∀ {n : Nat} {k : Nat} {K : T α → Option β} {b : β}, T.twig x n k K = some b →
    ∃ t', K t' = some b ∧ ∀ j, t'.get j = if j = k then x else none
  | 0, _, _, _, h => by cases h
  | n + 1, k, K, b, h => by
    have hm : ∀ j : Nat, j.mod 2 = j % 2 := fun _ => rfl
    have hd : ∀ j : Nat, j.div 2 = j / 2 := fun _ => rfl
    have hs : ∀ i j : Nat, i.sub j = i - j := fun _ _ => rfl
    have h : (bif Nat.beq k 0 then K (.node .leaf x .leaf) else bif Nat.beq (Nat.mod k 2) 1 then T.twig x n (Nat.div k 2) fun l => K (.node l none .leaf) else T.twig x n (Nat.sub (Nat.div k 2) 1) fun r => K (.node .leaf none r)) = some b := h
    simp only [beq_nat, cond_eq_ite, decide_eq_true_eq, hm, hd, hs] at h
    split at h
    · rename_i hk
      refine ⟨_, h, fun j => ?_⟩
      subst hk
      by_cases hj : j = 0
      · simp [T.get_node, beq_nat, hj]
      · simp [T.get_node, beq_nat, hj, T.get_leaf]
    · rename_i hk
      split at h
      · rename_i ho
        obtain ⟨l, hK, hg⟩ := T.twig_some h
        refine ⟨_, hK, fun j => ?_⟩
        simp only [T.get_node, beq_nat, cond_eq_ite, decide_eq_true_eq, hg, hm, hd, hs, T.get_leaf]
        by_cases hj : j = k
        · subst hj; simp [hk, ho]
        · simp only [hj, if_false]
          by_cases h0 : j = 0
          · simp [h0]
          · by_cases h1 : j % 2 = 1
            · have : ¬ j / 2 = k / 2 := by omega
              simp [h0, h1, this]
            · simp [h0, h1]
      · rename_i ho
        obtain ⟨r, hK, hg⟩ := T.twig_some h
        refine ⟨_, hK, fun j => ?_⟩
        simp only [T.get_node, beq_nat, cond_eq_ite, decide_eq_true_eq, hg, hm, hd, hs, T.get_leaf]
        by_cases hj : j = k
        · subst hj; simp [hk, ho]
        · simp only [hj, if_false]
          by_cases h0 : j = 0
          · simp [h0]
          · by_cases h1 : j % 2 = 1
            · simp [h0, h1]
            · have : ¬ j / 2 - 1 = k / 2 - 1 := by omega
              simp [h0, h1, this]
theorem T.put_some {α β : Type} {x : Option α} {n : Nat} : ∀ {t : T α} {k : Nat} {K : T α → Option β} {b : β}, T.put x n t k K = some b →
    ∃ t', K t' = some b ∧ ∀ j, t'.get j = if j = k then x else t.get j
  | .leaf, k, K, b, h => by
    obtain ⟨t', h1, h2⟩ := T.twig_some (show T.twig x n k K = some b from h)
    exact ⟨t', h1, fun j => by rw [h2, T.get_leaf]⟩
  | .node l y r, k, K, b, h => by
    have hm : ∀ j : Nat, j.mod 2 = j % 2 := fun _ => rfl
    have hd : ∀ j : Nat, j.div 2 = j / 2 := fun _ => rfl
    have hs : ∀ i j : Nat, i.sub j = i - j := fun _ _ => rfl
    have h : (bif Nat.beq k 0 then K (.node l x r) else bif Nat.beq (Nat.mod k 2) 1 then T.put x n l (Nat.div k 2) fun l' => K (.node l' y r) else T.put x n r (Nat.sub (Nat.div k 2) 1) fun r' => K (.node l y r')) = some b := h
    simp only [beq_nat, cond_eq_ite, decide_eq_true_eq, hm, hd, hs] at h
    split at h
    · rename_i hk
      refine ⟨_, h, fun j => ?_⟩
      subst hk
      by_cases hj : j = 0
      · simp [T.get_node, beq_nat, hj]
      · simp [T.get_node, beq_nat, hj]
    · rename_i hk
      split at h
      · rename_i ho
        obtain ⟨l', hK, hg⟩ := T.put_some h
        refine ⟨_, hK, fun j => ?_⟩
        simp only [T.get_node, beq_nat, cond_eq_ite, decide_eq_true_eq, hg, hm, hd, hs]
        by_cases hj : j = k
        · subst hj; simp [hk, ho]
        · simp only [hj, if_false]
          by_cases h0 : j = 0
          · simp [h0]
          · by_cases h1 : j % 2 = 1
            · have : ¬ j / 2 = k / 2 := by omega
              simp [h0, h1, this]
            · simp [h0, h1]
      · rename_i ho
        obtain ⟨r', hK, hg⟩ := T.put_some h
        refine ⟨_, hK, fun j => ?_⟩
        simp only [T.get_node, beq_nat, cond_eq_ite, decide_eq_true_eq, hg, hm, hd, hs]
        by_cases hj : j = k
        · subst hj; simp [hk, ho]
        · simp only [hj, if_false]
          by_cases h0 : j = 0
          · simp [h0]
          · by_cases h1 : j % 2 = 1
            · simp [h0, h1]
            · have : ¬ j / 2 - 1 = k / 2 - 1 := by omega
              simp [h0, h1, this]

/-- Where a block of the run's own numbering lies, and how many elements it has room for. -/
structure Loc where
  blk : Nat
  cap : Nat
abbrev Ren := Nat → Option Loc
noncomputable def Ren.le (s s' : Ren) : Prop := ∀ g l, s g = some l → s' g = some l
theorem Ren.le.refl (s : Ren) : s.le s := fun _ _ h => h
theorem Ren.le.trans {a b c : Ren} (h : a.le b) (h' : b.le c) : a.le c := fun g l e => h' g l (h g l e)

/-- Rooms from here on are told from a block's end on. -/
noncomputable def BIG : Nat := 1152921504606846976

inductive FnR (s : Ren) : Fn → Fn → Prop where
  | func (f : FuncId) : FnR s (.func f) (.func f)
  | method (n : String) : FnR s (.method n) (.method n)
  | methodOf (t : TypeId) (n : String) : FnR s (.methodOf t n) (.methodOf t n)
  | via (t : TypeId) (p : Array FieldStep) (f : FuncId) (q : Bool) : FnR s (.via t p f q) (.via t p f q)
  | yield (g : Nat) (l : Loc) : s g = some l → FnR s (.yield g) (.yield l.blk)

/-- A value of the run stands for a value of the model. -/
inductive VR (s : Ren) : Value → Value → Prop where
  | bool (b : Bool) : VR s (.bool b) (.bool b)
  | int (k : IntKind) (n : Int) : VR s (.int k n) (.int k n)
  | string (b : ByteArray) : VR s (.string b) (.string b)
  | ptrNil : VR s (.pointer none) (.pointer none)
  | ptr (g o : Nat) (l : Loc) : s g = some l → VR s (.pointer (some ⟨g, o, none⟩)) (.pointer (some ⟨l.blk, o, none⟩))
  | sliceNil (n c : Nat) : c < BIG → VR s (.slice none n c) (.slice none n c)
  | slice (g o n c : Nat) (l : Loc) : s g = some l → c < BIG → VR s (.slice (some ⟨g, o, none⟩) n c) (.slice (some ⟨l.blk, o, none⟩) n c)
  | sliceEnd (g o n c k k' : Nat) (l : Loc) : s g = some l → k = BIG + c → k' = l.cap - c → VR s (.slice (some ⟨g, o, none⟩) n k) (.slice (some ⟨l.blk, o, none⟩) n k')
  | sliceEmpty (a b : Addr) (n k c : Nat) : n = 0 → k = BIG + BIG → VR s (.slice (some a) n k) (.slice (some b) n c)
  | mapNil : VR s (.map none) (.map none)
  | map (g : Nat) (l : Loc) : s g = some l → VR s (.map (some g)) (.map (some l.blk))
  | func (f f' : Fn) (a a' c c' : Array Value) : FnR s f f' → a.size = a'.size → (∀ i (h : i < a.size) (h' : i < a'.size), VR s a[i] a'[i]) →
      c.size = c'.size → (∀ i (h : i < c.size) (h' : i < c'.size), VR s c[i] c'[i]) → VR s (.func f a c) (.func f' a' c')
  | nilFunc : VR s .nilFunc .nilFunc
  | iface (t : TypeId) (v v' : Value) : VR s v v' → VR s (.iface t v) (.iface t v')
  | nilIface : VR s .nilIface .nilIface
  | agg (a a' : Array Value) : a.size = a'.size → (∀ i (h : i < a.size) (h' : i < a'.size), VR s a[i] a'[i]) → VR s (.agg a) (.agg a')
  | tuple (a a' : Array Value) : a.size = a'.size → (∀ i (h : i < a.size) (h' : i < a'.size), VR s a[i] a'[i]) → VR s (.tuple a) (.tuple a')

/-- Lists of values, place by place. -/
noncomputable def VRs (s : Ren) (a a' : Array Value) : Prop := a.size = a'.size ∧ ∀ i (h : i < a.size) (h' : i < a'.size), VR s a[i] a'[i]

theorem FnR.mono {s s' : Ren} (hs : s.le s') {f f' : Fn} (h : FnR s f f') : FnR s' f f' := by
  cases h with
  | yield g l e => exact .yield g l (hs _ _ e)
  | _ => constructor
theorem VR.mono {s s' : Ren} (hs : s.le s') {v v' : Value} (h : VR s v v') : VR s' v v' := by
  induction h with
  | ptr g o l e => exact .ptr g o l (hs _ _ e)
  | slice g o n c l e hc => exact .slice g o n c l (hs _ _ e) hc
  | sliceEnd g o n c k k' l e h1 h2 => exact .sliceEnd g o n c k k' l (hs _ _ e) h1 h2
  | sliceEmpty a b n k c h1 h2 => exact .sliceEmpty a b n k c h1 h2
  | map g l e => exact .map g l (hs _ _ e)
  | func f f' a a' c c' hf h1 _ h2 _ i1 i2 => exact .func f f' a a' c c' (hf.mono hs) h1 i1 h2 i2
  | iface t v v' _ ih => exact .iface t v v' ih
  | agg a a' h1 _ ih => exact .agg a a' h1 ih
  | tuple a a' h1 _ ih => exact .tuple a a' h1 ih
  | sliceNil n c hc => exact .sliceNil n c hc
  | _ => constructor
theorem VRs.mono {s s' : Ren} (hs : s.le s') {a a' : Array Value} (h : VRs s a a') : VRs s' a a' := ⟨h.1, fun i h1 h2 => (h.2 i h1 h2).mono hs⟩
theorem VRs.get {s : Ren} {a a' : Array Value} (h : VRs s a a') {i : Nat} {v : Value} (hv : a[i]? = some v) : ∃ v', a'[i]? = some v' ∧ VR s v v' := by
  obtain ⟨hi, rfl⟩ := Array.getElem?_eq_some_iff.1 hv
  have hi' : i < a'.size := h.1 ▸ hi
  exact ⟨a'[i], Array.getElem?_eq_getElem hi', h.2 i hi hi'⟩
theorem VRs.nil {s : Ren} : VRs s #[] #[] := ⟨rfl, fun i h => absurd h (by simp)⟩
theorem VRs.of_get {s : Ren} {a a' : Array Value} (hs : a.size = a'.size) (h : ∀ (i : Nat) (v : Value), a[i]? = some v → ∃ v', a'[i]? = some v' ∧ VR s v v') : VRs s a a' := by
  refine ⟨hs, fun i h1 h2 => ?_⟩
  obtain ⟨v', hv', hr⟩ := h i a[i] (Array.getElem?_eq_getElem h1)
  rw [Array.getElem?_eq_getElem h2] at hv'
  cases hv'
  exact hr
theorem VRs.push {s : Ren} {a a' : Array Value} {v v' : Value} (h : VRs s a a') (hv : VR s v v') : VRs s (a.push v) (a'.push v') := by
  refine ⟨by simp [h.1], fun i h1 h2 => ?_⟩
  rw [Array.getElem_push, Array.getElem_push]
  by_cases hi : i < a.size
  · simp only [hi, dif_pos, h.1 ▸ hi]; exact h.2 i hi (h.1 ▸ hi)
  · have : ¬ i < a'.size := h.1 ▸ hi
    simp only [hi, this, dif_neg, not_false_eq_true]; exact hv
theorem VRs.append {s : Ren} {a a' b b' : Array Value} (h : VRs s a a') (h' : VRs s b b') : VRs s (a ++ b) (a' ++ b') := by
  refine ⟨by simp [h.1, h'.1], fun i h1 h2 => ?_⟩
  rw [Array.getElem_append, Array.getElem_append]
  by_cases hi : i < a.size
  · simp only [hi, dif_pos, h.1 ▸ hi]; exact h.2 i hi (h.1 ▸ hi)
  · have hi' : ¬ i < a'.size := h.1 ▸ hi
    simp only [hi, hi', dif_neg, not_false_eq_true]
    have := h'.2 (i - a.size) (by simp at h1; omega) (by simp at h2; have := h.1; omega)
    simpa [h.1] using this

/-- Values that hold no place: they stand for themselves. -/
noncomputable def plainV : Nat → Value → Bool
  | 0, _ => false
  | n + 1, v => match v with
    | .bool _ | .int _ _ | .string _ | .pointer none | .map none | .nilFunc | .nilIface => true
    | .slice none _ c => Nat.blt c BIG
    | .iface _ v => plainV n v
    | .agg a | .tuple a => a.toList.all (plainV n)
    | _ => false
theorem plainV_self {s : Ren} : ∀ {n : Nat} {v : Value}, plainV n v = true → VR s v v
  | 0, _, h => by simp [plainV] at h
  | n + 1, v, h => by
    unfold plainV at h
    split at h
    any_goals (constructor; done)
    · exact .sliceNil _ _ (by simpa [Nat.blt_eq] using h)
    · exact .iface _ _ _ (plainV_self h)
    · rename_i a
      refine .agg _ _ rfl fun i h1 _ => plainV_self (n := n) ?_
      exact List.all_eq_true.1 h _ (Array.mem_toList_iff.2 (Array.getElem_mem h1))
    · rename_i a
      refine .tuple _ _ rfl fun i h1 _ => plainV_self (n := n) ?_
      exact List.all_eq_true.1 h _ (Array.mem_toList_iff.2 (Array.getElem_mem h1))
    · cases h
/-- A value without places stands for nothing but itself. -/
theorem plainV_eq {s : Ren} : ∀ {n : Nat} {v v' : Value}, plainV n v = true → VR s v v' → v' = v
  | 0, _, _, h, _ => by simp [plainV] at h
  | n + 1, v, v', h, hr => by
    unfold plainV at h
    split at h
    any_goals (first | (cases h; done) | (cases hr; rfl))
    · cases hr with
      | iface t v v' hv => rw [plainV_eq h hv]
    · cases hr with
      | agg a a' hs hv =>
        congr 1
        refine Array.ext hs.symm fun i h1 h2 => plainV_eq (n := n) ?_ (hv i h2 h1)
        exact List.all_eq_true.1 h _ (Array.mem_toList_iff.2 (Array.getElem_mem h2))
    · cases hr with
      | tuple a a' hs hv =>
        congr 1
        refine Array.ext hs.symm fun i h1 h2 => plainV_eq (n := n) ?_ (hv i h2 h1)
        exact List.all_eq_true.1 h _ (Array.mem_toList_iff.2 (Array.getElem_mem h2))

end Go.Proofs.Ytajkkgibiigioaa.Cx
