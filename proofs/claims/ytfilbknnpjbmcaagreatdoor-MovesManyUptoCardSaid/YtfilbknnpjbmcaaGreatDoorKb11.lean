/- Drawn regions by what holds of each operation's value: each operation is gone once, in whatever order it comes up. -/
import Derived.Test.YtfilbknnpjbmcaaGreatDoorProg
import Derived.WalkKit
import Derived.Deep.RegionHeld3
namespace Go.Proofs.YtfilbknnpjbmcaaGreatDoor
open Go Go.RowKit
namespace Rg
variable {P : Program} {md : Region.Mode} {ops : Array Oper} {Q : Exit → Act → World → Prop}
def left (l : Array Bool) : Nat := (l.toList.filter (!·)).length
theorem left_list : ∀ (l : List Bool) (i : Nat), l[i]? = some false → ((l.set i true).filter (!·)).length + 1 = (l.filter (!·)).length
 | [], i, h => by simp at h
 | b :: r, 0, h => by
  obtain rfl : b = false := by simpa using h
  simp
 | b :: r, i + 1, h => by
  have ih := left_list r i (by simpa using h)
  cases b <;> simp_all
theorem get_false {l : Array Bool} {i : Nat} (h : l.getD i true = false) : l[i]? = some false := by
 rw [Array.getD_eq_getD_getElem?] at h
 cases hi : l[i]? with
 | none => rw [hi] at h; cases h
 | some b => rw [hi] at h; exact congrArg some h
theorem left_set {l : Array Bool} {i : Nat} (h : l.getD i true = false) : left (l.setIfInBounds i true) + 1 = left l := by
 unfold left
 rw [Array.toList_setIfInBounds]
 exact left_list _ _ (by simpa using get_false h)
def topo (md : Region.Mode) (ops : Array Oper) : List Nat → List Nat → Bool
 | [], seen => (List.range ops.size).all fun i => seen.contains i
 | i :: r, seen => (match ops[i]? with
  | some o => o.after.all fun e => !Region.binds md e || seen.contains e.on
  | none => false) && topo md ops r (i :: seen)
theorem topo_all {l : Array Bool} (hs : l.size = ops.size) (h0 : Region.ready md ops l = []) : ∀ r seen, topo md ops r seen = true → (∀ j ∈ seen, l.getD j false = true) → ∀ i, i < ops.size → l.getD i false = true
 | [], seen, ht, hl, i, hi => hl i (by
   have := List.all_eq_true.1 ht i (List.mem_range.2 hi)
   simpa using this)
 | k :: r, seen, ht, hl, i, hi => by
  unfold topo at ht
  rw [Bool.and_eq_true] at ht
  refine topo_all hs h0 r (k :: seen) ht.2 (fun j hj => ?_) i hi
  rcases List.mem_cons.1 hj with rfl | hj
  ·cases ho : ops[j]? with
   | none => rw [ho] at ht; exact Bool.noConfusion ht.1
   | some o =>
    rw [ho] at ht
    have hlt : j < l.size := by rw [hs]; exact (Array.getElem?_eq_some_iff.1 ho).1
    cases hj : l.getD j true with
    | true =>
     rw [Array.getD_eq_getD_getElem?, Array.getElem?_eq_getElem hlt] at hj ⊢
     exact hj
    | false =>
     have : j ∈ Region.ready md ops l := mem_ready.2 ⟨hj, o, ho, fun e he hb => by
      have := Array.all_eq_true_iff_forall_mem.1 ht.1 e he
      rw [hb] at this
      exact hl _ (by simpa using this)⟩
     rw [h0] at this
     cases this
  ·exact hl j hj
theorem inv (I : Array Bool → Act → World → Prop) (ord : List Nat) (hord : topo md ops ord [] = true)
  (hstep : ∀ l a w i, l.size = ops.size → I l a w → l.getD i true = false → (∀ o, ops[i]? = some o → ∀ e ∈ o.after, Region.binds md e = true → l.getD e.on false = true) → i < ops.size → wpOp P ops Q i (I (l.setIfInBounds i true)) a w)
  (hend : ∀ l a w, (∀ i, i < ops.size → l.getD i false = true) → I l a w → Q .normal a w) :
  ∀ fuel l a w, l.size = ops.size → left l ≤ fuel → I l a w → wpAny P md ops Q fuel l a w := by
 intro fuel
 induction fuel with
 | zero =>
  intro l a w hs hf hi
  have hr : Region.ready md ops l = [] := by
   rcases List.eq_nil_or_concat (Region.ready md ops l) with h | ⟨r, j, h⟩
   ·exact h
   ·have hj : j ∈ Region.ready md ops l := by rw [h]; simp
    have := left_set (mem_ready.1 hj).1
    omega
  exact ⟨hr, hend l a w (topo_all hs hr ord [] hord (fun j hj => by cases hj)) hi⟩
 | succ fuel ih =>
  intro l a w hs hf hi
  refine ⟨fun hr => hend l a w (topo_all hs hr ord [] hord (fun j hj => by cases hj)) hi, fun i hir => ?_⟩
  obtain ⟨h1, o, ho, h2⟩ := mem_ready.1 hir
  refine wpOp_mono (fun a' w' h' => ih (l.setIfInBounds i true) a' w' (by simpa using hs) (by have := left_set h1; omega) h') (hstep l a w i hs hi h1 (fun o' ho' => by rw [ho] at ho'; cases ho'; exact h2) (Array.getElem?_eq_some_iff.1 ho).1)
def dstOf (ops : Array Oper) (j : Nat) : Option Tmp := (ops[j]?).bind (·.dst)
def isDst (ops : Array Oper) (k : Nat) : Bool := ops.toList.any fun o => o.dst == some k
def distinct (ops : Array Oper) : Bool := (List.range ops.size).all fun i => (List.range ops.size).all fun j => i == j || dstOf ops i == none || dstOf ops i != dstOf ops j
theorem distinct_spec (h : distinct ops = true) {i j : Nat} {d : Tmp} (hi : dstOf ops i = some d) (hj : dstOf ops j = some d) : i = j := by
 have hlt : ∀ {k : Nat}, dstOf ops k = some d → k < ops.size := fun {k} hk => by
  unfold dstOf at hk
  cases ho : ops[k]? with
  | none => rw [ho] at hk; cases hk
  | some o => exact (Array.getElem?_eq_some_iff.1 ho).1
 have h1 := List.all_eq_true.1 (List.all_eq_true.1 h i (List.mem_range.2 (hlt hi))) j (List.mem_range.2 (hlt hj))
 rw [hi, hj] at h1
 simpa using h1
def Closed (md : Region.Mode) (ops : Array Oper) (l : Array Bool) : Prop := ∀ j o, ops[j]? = some o → l.getD j false = true → ∀ e ∈ o.after, Region.binds md e = true → l.getD e.on false = true
theorem Closed.set {l : Array Bool} {i : Nat} (h : Closed md ops l) (hi : ∀ o, ops[i]? = some o → ∀ e ∈ o.after, Region.binds md e = true → l.getD e.on false = true) : Closed md ops (l.setIfInBounds i true) := by
 have up : ∀ {k : Nat}, l.getD k false = true → (l.setIfInBounds i true).getD k false = true := fun {k} hk => by
  by_cases e : k = i
  ·subst e
   rw [Array.getD_eq_getD_getElem?] at hk ⊢
   cases hl : l[k]? with
   | none => rw [hl] at hk; cases hk
   | some b => simp [(Array.getElem?_eq_some_iff.1 hl).1]
  ·rw [Array.getD_eq_getD_getElem?, Array.getElem?_setIfInBounds_ne (Ne.symm e), ← Array.getD_eq_getD_getElem?]; exact hk
 intro j o ho hj e he hb
 by_cases hji : j = i
 ·subst hji
  exact up (hi o ho e he hb)
 ·refine up (h j o ho ?_ e he hb)
  rw [Array.getD_eq_getD_getElem?, Array.getElem?_setIfInBounds_ne (Ne.symm hji), ← Array.getD_eq_getD_getElem?] at hj
  exact hj
structure St (md : Region.Mode) (a0 : Act) (W : World) (p : Array Bool → Nat → World → Value → Prop) (ops : Array Oper) (l : Array Bool) (a : Act) (w : World) : Prop where
 defers : a.defers = a0.defers
 size : a.tmps.size = a0.tmps.size
 below : Below W.heap.size W w
 other : ∀ k, isDst ops k = false → a.tmps.getD k undef = a0.tmps.getD k undef
 vals : ∀ j d, dstOf ops j = some d → l.getD j false = true → p l j w (a.tmps.getD d undef)
 closed : Closed md ops l
theorem getD_set_self {a : Array Value} {d : Nat} {v : Value} (h : d < a.size) : (a.setIfInBounds d v).getD d undef = v := by
 rw [Array.getD_eq_getD_getElem?]
 simp [h]
theorem getD_set_other {a : Array Value} {d k : Nat} {v : Value} (h : d ≠ k) : (a.setIfInBounds d v).getD k undef = a.getD k undef := by
 rw [Array.getD_eq_getD_getElem?, Array.getD_eq_getD_getElem?, Array.getElem?_setIfInBounds_ne h]
theorem getD_set {l : Array Bool} {i j : Nat} (h : j ≠ i) (d : Bool) : (l.setIfInBounds i true).getD j d = l.getD j d := by
 rw [Array.getD_eq_getD_getElem?, Array.getD_eq_getD_getElem?, Array.getElem?_setIfInBounds_ne (Ne.symm h)]
theorem St.put {a0 a : Act} {W w w' : World} {p : Array Bool → Nat → World → Value → Prop} {l : Array Bool} {i : Nat} (h : St md a0 W p ops l a w) (hdis : distinct ops = true) (hm : ∀ j e, j ≠ i → dstOf ops j = some e → p l j w (a.tmps.getD e undef) → p (l.setIfInBounds i true) j w' (a.tmps.getD e undef)) {d : Tmp} {v : Value} (hi : dstOf ops i = some d) (hd : d < a0.tmps.size) (hb : Below W.heap.size W w') (hc : Closed md ops (l.setIfInBounds i true)) (hv : p (l.setIfInBounds i true) i w' v) : St md a0 W p ops (l.setIfInBounds i true) (a.put (some d) v) w' := by
 refine ⟨h.defers, by show (a.tmps.setIfInBounds d v).size = _; rw [Array.size_setIfInBounds]; exact h.size, hb, fun k hk => ?_, fun j e he hj => ?_, hc⟩
 ·show (a.tmps.setIfInBounds d v).getD k undef = _
  rw [getD_set_other ?_]
  ·exact h.other k hk
  ·rintro rfl
   have : isDst ops d = true := by
    unfold dstOf at hi
    cases ho : ops[i]? with
    | none => rw [ho] at hi; cases hi
    | some o =>
     rw [ho] at hi
     exact List.any_eq_true.2 ⟨o, Array.mem_def.1 (Array.mem_of_getElem? ho), by simpa using hi⟩
   rw [this] at hk
   cases hk
 ·show p _ j w' ((a.tmps.setIfInBounds d v).getD e undef)
  by_cases hji : j = i
  ·subst hji
   rw [hi] at he
   cases he
   rw [getD_set_self (by rw [h.size]; exact hd)]
   exact hv
  ·have hde : d ≠ e := fun e' => hji (distinct_spec hdis he (e' ▸ hi))
   rw [getD_set_other hde]
   exact hm j e hji he (h.vals j e he (by rwa [getD_set hji] at hj))
theorem St.skip {a0 a : Act} {W w w' : World} {p : Array Bool → Nat → World → Value → Prop} {l : Array Bool} {i : Nat} (h : St md a0 W p ops l a w) (hm : ∀ j e, j ≠ i → dstOf ops j = some e → p l j w (a.tmps.getD e undef) → p (l.setIfInBounds i true) j w' (a.tmps.getD e undef)) (hi : dstOf ops i = none) (hb : Below W.heap.size W w') (hc : Closed md ops (l.setIfInBounds i true)) : St md a0 W p ops (l.setIfInBounds i true) a w' := by
 refine ⟨h.defers, h.size, hb, h.other, fun j e he hj => ?_, hc⟩
 have hji : j ≠ i := by
  rintro rfl
  rw [hi] at he
  cases he
 exact hm j e hji he (h.vals j e he (by rwa [getD_set hji] at hj))
def Step (P : Program) (Q : Exit → Act → World → Prop) (md : Region.Mode) (a0 : Act) (W : World) (p : Array Bool → Nat → World → Value → Prop) (ops : Array Oper) (i : Nat) : Prop :=
 ∃ o, ops[i]? = some o ∧ ∀ (l : Array Bool) (a : Act) (w : World), l.getD i true = false → Closed md ops l → a.defers = a0.defers → a.tmps.size = a0.tmps.size → Below W.heap.size W w → (∀ k, isDst ops k = false → a.tmps.getD k undef = a0.tmps.getD k undef) →
  (∀ j, (o.after.toList.any fun x => x.on == j && Region.binds md x) = true → l.getD j false = true ∧ ∀ e, dstOf ops j = some e → p l j w (a.tmps.getD e undef)) →
  Region.wanted o (yielded ops a.tmps) = true ∧ ∀ K : Act → World → Prop, (∀ v w', Below W.heap.size W w' → (∀ j e, j ≠ i → dstOf ops j = some e → p l j w (a.tmps.getD e undef) → p (l.setIfInBounds i true) j w' (a.tmps.getD e undef)) → (o.dst ≠ none → p (l.setIfInBounds i true) i w' v) → K (a.put o.dst v) w') → o.wp P a w K Q
theorem want {a : Act} {g d : Nat} {b : Bool} (hg : dstOf ops g = some d) (h : a.tmps.getD d undef = .bool b) : yielded ops a.tmps g = some b := by
 unfold dstOf at hg
 unfold yielded
 rw [hg]
 rw [Array.getD_eq_getD_getElem?] at h
 show (match a.tmps[d]? with | some (.bool b) => some b | _ => .none) = some b
 cases ht : a.tmps[d]? with
 | none => rw [ht] at h; cases h
 | some v =>
  rw [ht] at h
  obtain rfl : v = .bool b := h
  rfl
theorem wanted {a : Act} {o : Oper} {g d : Nat} {b : Bool} (ho : o.guard = some (g, b)) (hg : dstOf ops g = some d) (h : a.tmps.getD d undef = .bool b) : Region.wanted o (yielded ops a.tmps) = true := by
 unfold Region.wanted
 rw [ho]
 show (yielded ops a.tmps g == some b) = true
 rw [want hg h]
 simp
theorem rep_false (n j : Nat) : ¬ (Array.replicate n false).getD j false = true := by
 intro hj
 rw [Array.getD_eq_getD_getElem?, Array.getElem?_replicate] at hj
 split at hj <;> cases hj
def lts (ops : Array Oper) (n : Nat) : Bool := ops.toList.all fun o => match o.dst with
 | some d => decide (d < n)
 | none => true
theorem region {a0 : Act} {W : World} {id : Nat} (hmo : P.follows .mixedOrders = true) (n : Nat) (hn : a0.tmps.size = n) (hlts : lts ops n = true) (p : Array Bool → Nat → World → Value → Prop) (ord : List Nat) (hord : topo .any ops ord [] = true) (hdis : distinct ops = true)
  (hstep : ∀ i, i < ops.size → Step P Q .any a0 W.drew p ops i)
  (hend : ∀ l a w, (∀ i, i < ops.size → l.getD i false = true) → a.defers = a0.defers → a.tmps.size = a0.tmps.size → Below W.drew.heap.size W.drew w → (∀ k, isDst ops k = false → a.tmps.getD k undef = a0.tmps.getD k undef) → (∀ j d, dstOf ops j = some d → p l j w (a.tmps.getD d undef)) → Q .normal a w) :
  (Code.region id ops true).wp P Q a0 W := by
 refine wp_region_any hmo (show wpAny _ _ _ _ _ _ _ W.drew from ?_)
 refine inv (St .any a0 W.drew p ops) ord hord (fun l a w i hs hI hl hdep hi => ?_) (fun l a w hall hI => ?_) _ _ _ _ (by simp) (by unfold left; simp [List.filter_replicate]) ⟨rfl, rfl, Below.refl _ _, fun _ _ => rfl, fun j d _ hj => absurd hj (rep_false _ _), fun j o _ hj => absurd hj (rep_false _ _)⟩
 ·obtain ⟨o, ho, H⟩ := hstep i hi
  have hlt : ∀ d, o.dst = some d → d < a0.tmps.size := fun d hd => by
   have := List.all_eq_true.1 hlts o (Array.mem_def.1 (Array.mem_of_getElem? ho))
   rw [hd] at this
   rw [hn]
   simpa using this
  obtain ⟨hw, HK⟩ := H l a w hl hI.closed hI.defers hI.size hI.below hI.other (fun j hx => by
   obtain ⟨x, hx1, hx2⟩ := List.any_eq_true.1 hx
   rw [Bool.and_eq_true] at hx2
   have := hdep o ho x (Array.mem_def.2 hx1) hx2.2
   rw [beq_iff_eq.1 hx2.1] at this
   exact ⟨this, fun e he => hI.vals j e he this⟩)
  unfold wpOp
  rw [ho]
  dsimp only
  rw [if_pos hw]
  refine .inl (HK _ fun v w' hb hm hv => ?_)
  cases hd : o.dst with
  | none => exact hI.skip hm (by unfold dstOf; rw [ho]; exact hd) hb (hI.closed.set hdep)
  | some d => exact hI.put hdis hm (by unfold dstOf; rw [ho]; exact hd) (hlt d hd) hb (hI.closed.set hdep) (hv (by rw [hd]; simp))
 ·refine hend l a w hall hI.defers hI.size hI.below hI.other (fun j d hj => hI.vals j d hj (hall j ?_))
  unfold dstOf at hj
  cases ho : ops[j]? with
  | none => rw [ho] at hj; cases hj
  | some o => exact (Array.getElem?_eq_some_iff.1 ho).1
theorem not_yet {l : Array Bool} {i j : Nat} (hc : Closed md ops l) (hl : l.getD i true = false) (hd : (match ops[j]? with | some o => o.after.toList.any fun x => x.on == i && Region.binds md x | none => false) = true) : l.getD j false = false := by
 cases hj : l.getD j false with
 | false => rfl
 | true =>
  cases ho : ops[j]? with
  | none => rw [ho] at hd; cases hd
  | some o =>
   rw [ho] at hd
   obtain ⟨x, hx, h2⟩ := List.any_eq_true.1 hd
   rw [Bool.and_eq_true] at h2
   have := hc j o ho hj x (Array.mem_def.2 hx) h2.2
   rw [beq_iff_eq.1 h2.1, Array.getD_eq_getD_getElem?, get_false hl] at this
   cases this
theorem unlisted {l : Array Bool} {i : Nat} (hl : l.getD i true = false) : l.getD i false = false := by
 rw [Array.getD_eq_getD_getElem?, get_false hl]; rfl
theorem set_self {l : Array Bool} {i : Nat} (hl : l.getD i true = false) : (l.setIfInBounds i true).getD i false = true := by
 have := (Array.getElem?_eq_some_iff.1 (get_false hl)).1
 rw [Array.getD_eq_getD_getElem?]
 simp [this]
def setAll (t : Array Value) : List (Nat × Value) → Array Value
 | [] => t
 | x :: r => setAll (t.setIfInBounds x.1 x.2) r
theorem setAll_size : ∀ (r : List (Nat × Value)) (t : Array Value), (setAll t r).size = t.size
 | [], t => rfl
 | x :: r, t => by
  show (setAll (t.setIfInBounds x.1 x.2) r).size = _
  rw [setAll_size r, Array.size_setIfInBounds]
theorem setAll_get {A : Array Value} : ∀ (r : List (Nat × Value)) (t : Array Value), (∀ x ∈ r, A.getD x.1 undef = x.2 ∧ x.1 < t.size) → ∀ k, (k ∉ r.map (·.1) → A.getD k undef = t.getD k undef) → (setAll t r).getD k undef = A.getD k undef
 | [], t, _, k, h => (h (by simp)).symm
 | x :: r, t, hx, k, h => by
  show (setAll (t.setIfInBounds x.1 x.2) r).getD k undef = _
  refine setAll_get r _ (fun y hy => ⟨(hx y (List.mem_cons_of_mem _ hy)).1, by rw [Array.size_setIfInBounds]; exact (hx y (List.mem_cons_of_mem _ hy)).2⟩) k fun hk => ?_
  by_cases e : x.1 = k
  ·subst e
   rw [getD_set_self (hx x (by simp)).2]
   exact (hx x (by simp)).1
  ·rw [getD_set_other e]
   exact h (by simp only [List.map_cons, List.mem_cons, not_or]; exact ⟨fun e' => e e'.symm, hk⟩)
theorem act_of {a a0 : Act} (hd : a.defers = a0.defers) (hs : a.tmps.size = a0.tmps.size) (ho : ∀ k, isDst ops k = false → a.tmps.getD k undef = a0.tmps.getD k undef) (r : List (Nat × Value)) (hr : ∀ x ∈ r, a.tmps.getD x.1 undef = x.2) (hlt : r.all (fun x => decide (x.1 < a0.tmps.size)) = true) (hall : (ops.toList.all fun o => match o.dst with | some d => (r.map (·.1)).contains d | none => true) = true) : a = { tmps := setAll a0.tmps r, defers := a0.defers } := by
 obtain ⟨tm, df⟩ := a
 dsimp only at hd hs ho hr ⊢
 subst hd
 congr 1
 have key : ∀ k, (setAll a0.tmps r).getD k undef = tm.getD k undef := fun k => setAll_get r a0.tmps (fun x hx => ⟨hr x hx, by simpa using List.all_eq_true.1 hlt x hx⟩) k fun hk => by
  refine ho k ?_
  cases hi : isDst ops k with
  | false => rfl
  | true =>
   obtain ⟨o, h1, h2⟩ := List.any_eq_true.1 hi
   have := List.all_eq_true.1 hall o h1
   rw [beq_iff_eq.1 h2] at this
   exact absurd (by simpa using this) hk
 refine Array.ext (by rw [setAll_size]; exact hs) fun k h1 h2 => ?_
 have := key k
 rw [Array.getD_eq_getD_getElem?, Array.getD_eq_getD_getElem?, Array.getElem?_eq_getElem h2, Array.getElem?_eq_getElem h1] at this
 exact this.symm
end Rg
end Go.Proofs.YtfilbknnpjbmcaaGreatDoor
