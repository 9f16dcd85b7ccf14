/- A closed call, run: each step is the model's; so is the run. No program of its own. -/
import Derived.Test.YtfilbknnpjbmcaaCxT
import Derived.Laws.Sem
namespace Go.Proofs.Ytfilbknnpjbmcaa.Cx
open Go Go.RowKit Go.BigFrame

structure CfR (E : Env) (s : Ren) (c : Cf) (fr : Frame) (cs : List Frame) (w : World) : Prop where
  fr : FRel s c.fr fr
  cs : FRels s c.cs cs
  mem : Mem s c.st w
  gl : Gl E.ng s
def FinR (s : Ren) : Fin → Ending → St → Prop
  | .ret v st, .returned v', st' => VR s v v' ∧ st' = st
  | .pan ch st, .panicked ch', st' => PRs s ch ch' ∧ st' = st
  | _, _, _ => False
def OutOk (E : Env) (s : Ren) (st : St) (w : World) (fr : Frame) (cs tail : List Frame) : Out → Prop
  | .next c => ∃ s' fr' cs' w', Steps E.P (lone fr (cs ++ tail) w) (lone fr' (cs' ++ tail) w') ∧ CfR E s' c fr' cs' w' ∧ Ev s st w s' c.st w'
  | .fin f => ∃ s' fr' w' e st', Steps E.P (lone fr (cs ++ tail) w) (lone fr' tail w') ∧ fr'.leaving E.P w' e ∧ FinR s' f e st' ∧ Mem s' st' w' ∧ Ev s st w s' st' w' ∧ fr' = fr ∧ cs = []

theorem mkRun {s : Ren} {fn : FuncId} {nt : Nat} {tm : TV} {todo : List Item} {ds : List Deferred} {kd : CallKind} {fr : Frame} {a : Act} (h1 : fr.fn = fn) (h2 : a.tmps.size = nt) (h3 : TmR s tm a.tmps) (h4 : DRs s ds a.defers) (h5 : fr.kind = kd) {ro : Option Nat} (h6 : RoR s ro fr.roundOf) :
    FRel s ⟨fn, nt, tm, todo, ds, .run, kd, ro⟩ (fr.atR a todo) := ⟨h1, h2, h3, rfl, h4, .run, h5, h6⟩

theorem resVs_ok {P : Program} {s : Ren} {st : St} {w : World} {tm : TV} {a : Array Value} (hM : Mem s st w) (ht : TmR s tm a) : ∀ {l : List ResultVar} {vs : List Value}, resVs P st tm l = some vs →
    ∃ vs' : List Value, (l.mapM fun
      | .tmp t => pure (a.getD t undef)
      | .cell p t => do loadVar t (← asAddr (a.getD p undef)) : Sem (List Value)).run P w = .ok vs' w ∧ vs.length = vs'.length ∧ ∀ (j : Nat) (v : Value), vs[j]? = some v → ∃ v', vs'[j]? = some v' ∧ VR s v v'
  | [], vs, h => by
    cases h
    exact ⟨[], by simp, rfl, fun j v h => by simp at h⟩
  | r :: rs, vs, h => by
    unfold resVs at h
    split at h
    · rename_i v hv
      split at h
      · rename_i us hus
        cases h
        obtain ⟨us', h1, h2, h3⟩ := resVs_ok hM ht hus
        have key : ∃ v', (match r with
          | .tmp t => pure (a.getD t undef)
          | .cell p t => do loadVar t (← asAddr (a.getD p undef)) : Sem Value).run P w = .ok v' w ∧ VR s v v' := by
          unfold resV at hv
          split at hv
          · rename_i t
            obtain ⟨v', e, q⟩ := ht t v hv
            exact ⟨v', by simp [Array.getD_eq_getD_getElem?, e], q⟩
          · rename_i p t
            split at hv
            · rename_i g off hp
              obtain ⟨u, e, q⟩ := ht p _ hp
              cases q with
              | ptr _ _ l hl =>
                obtain ⟨v', e1, q1⟩ := loadV_ok hM hl hv
                exact ⟨v', by simp [Array.getD_eq_getD_getElem?, e, asAddr, e1], q1⟩
            · cases hv
        obtain ⟨v', e1, e2⟩ := key
        refine ⟨v' :: us', ?_, by simp [h2], fun j u hj => ?_⟩
        · simp only [List.mapM_cons, Sem.run_bind, e1, Result.andThen_ok, h1, Sem.run_pure]
        · cases j with
          | zero => simp at hj; subst hj; exact ⟨v', rfl, e2⟩
          | succ j => obtain ⟨u', q1, q2⟩ := h3 j u (by simpa using hj); exact ⟨u', by simpa using q1, q2⟩
      · cases h
    · cases h
theorem results_ok {P : Program} {s : Ren} {st : St} {w : World} {tm : TV} {a : Array Value} {fn : Func} (hM : Mem s st w) (ht : TmR s tm a) {vs : List Value} (h : resVs P st tm fn.results.toList = some vs) :
    ∃ v', (results fn a).run P w = .ok v' w ∧ VR s (tupOf vs) v' := by
  obtain ⟨vs', h1, h2, h3⟩ := resVs_ok (P := P) hM ht h
  have hm : (fn.results.mapM fun
      | .tmp t => pure (a.getD t undef)
      | .cell p t => do loadVar t (← asAddr (a.getD p undef)) : Sem (Array Value)).run P w = .ok vs'.toArray w := by
    rw [Array.mapM_eq_mapM_toList, Sem.run_map, h1]
    rfl
  unfold results
  simp only [Sem.run_bind]
  refine ⟨if h : vs'.toArray.size = 1 then vs'.toArray[0] else .tuple vs'.toArray, ?_, ?_⟩
  · have : (fn.results.mapM fun
      | .tmp t => pure (a.getD t undef)
      | .cell p t => do loadVar t (← asAddr (a.getD p undef)) : Sem (Array Value)).run P w = .ok vs'.toArray w := hm
    refine Eq.trans (congrArg (fun r => Result.andThen r _) this) ?_
    rfl
  · match vs, vs', h2, h3 with
    | [v], [v'], _, h3 =>
      obtain ⟨u, e, q⟩ := h3 0 v rfl
      simp at e
      subst e
      exact q
    | [], [], _, _ => exact .tuple _ _ rfl fun i h _ => absurd h (by simp)
    | x :: y :: vs, x' :: y' :: vs', h2, h3 =>
      have hl := VRs.of_lists h2 h3
      have : ¬ ((x' :: y' :: vs').toArray.size = 1) := by simp
      rw [dif_neg this]
      exact .tuple _ _ hl.1 hl.2

theorem settle_ok {s : Ren} {m m' : FrameMode} (h : MR s m m') : MR s (settleA m) (settle m') := by
  have drop : ∀ {l l' : List PanicEntry}, PRs s l l' → PRs s (l.dropWhile (!·.goexit)) (l'.dropWhile (!·.goexit)) := by
    intro l l' hl
    induction hl with
    | nil => exact .nil
    | @cons v v' r g l l' hv hl ih =>
      cases g with
      | true => simp only [List.dropWhile_cons, Bool.not_true, Bool.false_eq_true, if_false]; exact .cons hv hl
      | false => simp only [List.dropWhile_cons, Bool.not_false, if_true]; exact ih
  cases h with
  | run => exact .run
  | returning => exact .returning
  | panicking hl =>
    cases hl with
    | nil => exact .panicking .nil
    | @cons v v' r g l l' hv hl =>
      cases r with
      | false => exact .panicking (.cons hv hl)
      | true =>
        have hd := drop hl
        simp only [settleA, settle]
        generalize l.dropWhile (!·.goexit) = x at hd ⊢
        generalize l'.dropWhile (!·.goexit) = y at hd ⊢
        cases hd with
        | nil => exact .returning
        | cons h1 h2 => exact .panicking (.cons h1 h2)
theorem raise_ok {s : Ren} {a : AF} {f : Frame} {ch ch' : List PanicEntry} (h : FRel s a f) (hc : PRs s ch ch') : FRel s (raiseA a ch) (f.raise ch') := by
  obtain ⟨fn, nt, tm, todo, ds, mode, kd, ro⟩ := a
  obtain ⟨h1, h2, h3, h4, h5, h6, h7, h8⟩ := h
  cases hm : f.mode with
  | run =>
    rw [hm] at h6
    cases h6
    exact ⟨by simp [raiseA, Frame.raise, hm, h1], by simp [raiseA, Frame.raise, hm, h2], by simpa [raiseA, Frame.raise, hm] using h3, by simp [raiseA, Frame.raise, hm, h4], by simpa [raiseA, Frame.raise, hm] using h5, by simpa [raiseA, Frame.raise, hm] using MR.panicking hc, by simp [raiseA, Frame.raise, hm, h7], by simpa [raiseA, Frame.raise, hm] using h8⟩
  | returning =>
    rw [hm] at h6
    cases h6
    exact ⟨by simp [raiseA, Frame.raise, hm, h1], by simp [raiseA, Frame.raise, hm, h2], by simpa [raiseA, Frame.raise, hm] using h3, by simp [raiseA, Frame.raise, hm, h4], by simpa [raiseA, Frame.raise, hm] using h5, by simpa [raiseA, Frame.raise, hm] using MR.panicking hc, by simp [raiseA, Frame.raise, hm, h7], by simpa [raiseA, Frame.raise, hm] using h8⟩
  | panicking l =>
    rw [hm] at h6
    cases h6 with
    | panicking hl =>
      exact ⟨by simp [raiseA, Frame.raise, hm, h1], by simp [raiseA, Frame.raise, hm, h2], by simpa [raiseA, Frame.raise, hm] using h3, by simp [raiseA, Frame.raise, hm, h4], by simpa [raiseA, Frame.raise, hm] using h5, by simpa [raiseA, Frame.raise, hm] using MR.panicking (hc.append hl), by simp [raiseA, Frame.raise, hm, h7], by simpa [raiseA, Frame.raise, hm] using h8⟩

theorem step_defer' {P : Program} {fr : Frame} {cs : List Frame} {w w' : World} {d : Deferred} {ds : List Deferred} {fv : Fn} {cap : Array Value} {f : FuncId}
    {args : Array Value} (hm : fr.mode ≠ .run) (hd : fr.defers = d :: ds) (ht : d.target = .fn fv cap)
    (hi : (invoke d.target d.args).run P w = .ok (.enter f args) w') :
    step P (lone fr cs w) = .next (lone (Frame.enter P f args .deferred) ({ fr with defers := ds } :: cs) w') := by
  obtain ⟨t, a⟩ := d
  simp only at ht hi
  subst ht
  refine step_lone_go ?_
  cases hmode : fr.mode with
  | run => exact absurd hmode hm
  | returning => simp [stepG, unwind, callDeferred, hmode, hd, hi]
  | panicking chain => simp [stepG, unwind, callDeferred, hmode, hd, hi]

end Go.Proofs.Ytfilbknnpjbmcaa.Cx
