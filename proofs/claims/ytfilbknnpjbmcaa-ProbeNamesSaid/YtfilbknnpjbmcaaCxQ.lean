/- A closed call, run: a region that draws its order comes to what its operations come to in turn. No program of its own. -/
import Derived.Test.YtfilbknnpjbmcaaCxP
namespace Go.Proofs.Ytfilbknnpjbmcaa.Cx
open Go Go.RowKit Go.BigFrame

/- What an operation asks is its operands alone. -/
theorem evs_congr {ev ev' : Operand → Option Value} : ∀ {l : List Operand}, (∀ x ∈ l, ev x = ev' x) → evs ev l = evs ev' l
  | [], _ => rfl
  | x :: r, h => by
    unfold evs
    rw [h x (by simp), evs_congr fun y hy => h y (by simp [hy])]
theorem evp_congr {ev ev' : Operand → Option Value} : ∀ {l : List (Nat × Operand)}, (∀ x ∈ l, ev x.2 = ev' x.2) → evp ev l = evp ev' l
  | [], _ => rfl
  | (i, x) :: r, h => by
    unfold evp
    rw [h (i, x) (by simp), evp_congr fun y hy => h y (by simp [hy])]
theorem optEv_congr {ev ev' : Operand → Option Value} {x : Option Operand} (h : ∀ y, x = some y → ev y = ev' y) : optEv ev x = optEv ev' x := by
  cases x with
  | none => rfl
  | some y => simp only [optEv, h y rfl]
theorem aop_congr {E : Env} {ev ev' : Operand → Option Value} {o : Oper} {st : St} (h : ∀ x ∈ o.op.operands, ev x = ev' x) : aop E ev o st = aop E ev' o st := by
  obtain ⟨dst, op, type, pos, after, guard⟩ := o
  unfold aop aopC
  cases op <;> dsimp only
  case pick c a b => simp only [Op.operands] at h; simp only [h c (by simp), h a (by simp), h b (by simp)]
  case build t ps =>
    simp only [Op.operands] at h
    rw [evp_congr (ev' := ev') fun x hx => h x.2 (by simp only [List.mem_toArray, List.mem_map]; exact ⟨x, hx, rfl⟩)]
  case buildSlice t n ps =>
    simp only [Op.operands] at h
    rw [evp_congr (ev' := ev') fun x hx => h x.2 (by simp only [List.mem_toArray, List.mem_map]; exact ⟨x, hx, rfl⟩)]
  case store t a x => simp only [Op.operands] at h; simp only [h a (by simp), h x (by simp)]
  case binOp op t x y yt => simp only [Op.operands] at h; simp only [h x (by simp), h y (by simp)]
  case makeFunc fn first cap =>
    simp only [Op.operands] at h
    rw [evs_congr (ev' := ev') (l := first.toList) fun x hx => h x (by simp only [Array.mem_append]; left; simpa using hx), evs_congr (ev' := ev') (l := cap.toList) fun x hx => h x (by simp only [Array.mem_append]; right; simpa using hx)]
  case makeMap t r =>
    simp only [Op.operands] at h
    rw [optEv_congr (ev' := ev') fun y hy => h y (by subst hy; simp)]
  case makeSlice t a x => simp only [Op.operands] at h; simp only [h a (by simp), h x (by simp)]
  case slice t x lo hi mx =>
    simp only [Op.operands] at h
    rw [h x (by simp), optEv_congr (ev' := ev') (x := lo) fun y hy => h y (by subst hy; simp), optEv_congr (ev' := ev') (x := hi) fun y hy => h y (by subst hy; simp), optEv_congr (ev' := ev') (x := mx) fun y hy => h y (by subst hy; simp)]
  case indexAddr t a x => simp only [Op.operands] at h; simp only [h a (by simp), h x (by simp)]
  case index t a x => simp only [Op.operands] at h; simp only [h a (by simp), h x (by simp)]
  case lookup t a x ok => simp only [Op.operands] at h; simp only [h a (by simp), h x (by simp)]
  case mapUpdate t m k x => simp only [Op.operands] at h; simp only [h m (by simp), h k (by simp), h x (by simp)]
  case insert t m k x => simp only [Op.operands] at h; simp only [h m (by simp), h k (by simp), h x (by simp)]
  case call c =>
    obtain ⟨callee, args, ts⟩ := c
    simp only [Op.operands, Call.operands] at h
    rw [evs_congr (ev' := ev') (l := args.toList) fun x hx => h x (by simp only [Array.mem_append]; right; simpa using hx)]
    cases callee with
    | value f => simp only [h f (by simp)]
    | invoke r n => simp only [h r (by simp)]
    | builtin b => rfl
  case defer c =>
    obtain ⟨callee, args, ts⟩ := c
    simp only [Op.operands, Call.operands] at h
    rw [evs_congr (ev' := ev') (l := args.toList) fun x hx => h x (by simp only [Array.mem_append]; right; simpa using hx)]
    cases callee with
    | value f => simp only [h f (by simp)]
    | _ => rfl
  all_goals first
    | rfl
    | (rename_i x; simp only [Op.operands] at h; simp only [h x (by simp)])
    | (rename_i x _; simp only [Op.operands] at h; simp only [h x (by simp)])
    | (rename_i x _ _; simp only [Op.operands] at h; simp only [h x (by simp)])
    | (rename_i x _ _ _; simp only [Op.operands] at h; simp only [h x (by simp)])

/- What asks nothing of memory, and what only reads. -/
theorem pure_same {E : Env} {ev : Operand → Option Value} {o : Oper} {st : St} {r : Res} (hk : pureK o.op = true) (h : aop E ev o st = some r) : ∃ v, r = .val v st ∧ ∀ st', aop E ev o st' = some (.val v st') := by
  have one : ∀ {x : Option Value}, oneA st x = some r → ∃ v, r = .val v st ∧ ∀ st', oneA st' x = some (.val v st') := by
    intro x hx
    obtain ⟨v, rfl, rfl⟩ := oneA_some hx
    exact ⟨v, rfl, fun _ => rfl⟩
  obtain ⟨dst, op, type, pos, after, guard⟩ := o
  unfold aop aopC at h ⊢
  cases op <;> simp only [pureK, Bool.false_eq_true] at hk <;> simp only at h ⊢
  case move x => exact one h
  case assign x => exact one h
  case makeFunc fn first cap =>
    split at h
    · cases h; exact ⟨_, rfl, fun _ => rfl⟩
    · cases h; exact ⟨_, rfl, fun _ => rfl⟩
    · cases h; exact ⟨_, rfl, fun _ => rfl⟩
    · cases h
  case index t x i =>
    split at h
    · rename_i a b ha hb
      cases hs : isStr a <;> simp only [hs, cond_true, cond_false] at h ⊢ <;> exact one h
    · cases h
  all_goals (split at h <;> first | (cases h; done) | exact one h)
theorem read_same {E : Env} {ev : Operand → Option Value} {o : Oper} {st : St} {r : Res} (hk : readK o.op = true) (h : aop E ev o st = some r) : ∃ v, r = .val v st := by
  have one : ∀ {x : Option Value}, oneA st x = some r → ∃ v, r = .val v st := by
    intro x hx
    obtain ⟨v, _, rfl⟩ := oneA_some hx
    exact ⟨v, rfl⟩
  obtain ⟨dst, op, type, pos, after, guard⟩ := o
  unfold aop aopC at h
  cases op <;> simp only [readK, Bool.false_eq_true] at hk <;> simp only at h
  case load t a =>
    split at h
    · obtain ⟨v, st', e, rfl⟩ := pairL_some h
      unfold loadA at e
      split at e
      · split at e
        · cases e; exact ⟨_, rfl⟩
        · cases e
      · cases e
    · cases h
  case lookup t x i ok =>
    split at h
    · exact one h
    · cases h
  case slice t x lo hi mx =>
    split at h
    · rename_i a _ _ _ _ _ _ _
      cases hs : isStr a <;> simp only [hs, cond_true, cond_false] at h
      · obtain ⟨v, _, rfl⟩ := oneF_some h
        exact ⟨v, rfl⟩
      · exact one h
    · cases h
  case convert s d x =>
    split at h
    · rename_i a _
      cases hs : plainV FUEL a <;> simp only [hs, cond_true, cond_false] at h <;> exact one h
    · cases h
  case binOp op t x y yt =>
    split at h
    · exact one h
    · cases h
  case call c =>
    obtain ⟨callee, args, ts⟩ := c
    have plainOne : ∀ {x : Option Value}, plainA st x = some r → ∃ v, r = .val v st := by
      intro x hx
      obtain ⟨v, _, _, rfl⟩ := plainA_some hx
      exact ⟨v, rfl⟩
    cases callee with
    | builtin b =>
      simp only at h
      split at h
      · rename_i l _
        unfold bltA at h
        cases b <;> simp only [Bool.false_eq_true] at hk
        all_goals (split at h <;> first | exact one h | (cases h; done) | (rename_i hb _ _; cases hb; done) | skip)
        all_goals (first
          | (rename_i hb; cases hb; done)
          | (rename_i hb _; cases hb; done)
          | (rename_i hb _ _; cases hb; done)
          | (rename_i hb _ _ _; cases hb; done)
          | (rename_i hb _ _ _ _; cases hb; done)
          | skip)
        all_goals (
          cases hp : (l.toArray.toList.all (plainV FUEL)) with
          | true => rw [hp] at h; exact plainOne h
          | false => rw [hp] at h; cases h)
      · cases h
    | _ => simp only [Bool.false_eq_true] at hk

end Go.Proofs.Ytfilbknnpjbmcaa.Cx
