/- A closed call, run: the steps, each held against the model's. No program of its own. -/
import Derived.Test.YtahfmcenonbegaaDoorCxU
namespace Go.Proofs.YtahfmcenonbegaaDoor.Cx
open Go Go.RowKit Go.BigFrame

section
variable {E : Env} {s : Ren} {w : World} {fn : FuncId} {nt : Nat} {tm : TV} {todo : List Item} {ds : List Deferred} {kd : CallKind} {ro : Option Nat} {as : List AF} {st : St} {fr : Frame} {cs tail : List Frame}

/-- The frame goes on, nothing else has turned. -/
theorem go1_ok {k : List Item} {out : Out} (h : CfR E s ⟨⟨fn, nt, tm, todo, ds, .run, kd, ro⟩, as, st⟩ fr cs w) (hg : go1 k fn nt tm ds kd ro as st = some out)
    (hs : step E.P (lone (fr.atR ⟨fr.tmps, fr.defers⟩ todo) (cs ++ tail) w) = .next (lone (fr.atR ⟨fr.tmps, fr.defers⟩ k) (cs ++ tail) w)) : OutOk E s st w fr cs tail out := by
  cases hg
  obtain ⟨h1, h2, h3, h4⟩ := h
  have hm : fr.mode = .run := by have := h1.mode; generalize fr.mode = y at this; cases this; rfl
  have hself := atR_self hm
  have htodo : fr.todo = todo := h1.todo
  refine ⟨s, fr.atR ⟨fr.tmps, fr.defers⟩ k, cs, w, ?_, ⟨?_, h2, h3, h4⟩, .refl _ _ _⟩
  · refine .one ?_
    rw [htodo] at hself
    conv => lhs; rw [hself]
    exact hs
  · obtain ⟨r1, r2⟩ := h1.round
    simp only at r1
    subst r1
    exact mkRun h1.fn h1.nt h1.tm h1.defers h1.kind r2
theorem leaveA_ok {out : Out} (h : CfR E s ⟨⟨fn, nt, tm, todo, ds, .run, kd, ro⟩, as, st⟩ fr cs w) (hg : leaveA true fn nt tm todo ds kd ro as st = some out)
    (hs : fr.roundOf = none → step E.P (lone (fr.atR ⟨fr.tmps, fr.defers⟩ todo) (cs ++ tail) w) = .next (lone { fr.atR ⟨fr.tmps, fr.defers⟩ todo with mode := .returning } (cs ++ tail) w)) : OutOk E s st w fr cs tail out := by
  obtain ⟨h1, h2, h3, h4⟩ := h
  obtain ⟨r1, r2⟩ := h1.round
  simp only at r1
  subst r1
  simp only [leaveA, cond_true, Option.some.injEq] at hg
  subst hg
  have hm : fr.mode = .run := by have := h1.mode; generalize fr.mode = y at this; cases this; rfl
  have hself := atR_self hm
  have htodo : fr.todo = todo := h1.todo
  refine ⟨s, { fr.atR ⟨fr.tmps, fr.defers⟩ todo with mode := .returning }, cs, w, ?_, ⟨?_, h2, h3, h4⟩, .refl _ _ _⟩
  · refine .one ?_
    rw [htodo] at hself
    conv => lhs; rw [hself]
    exact hs r2
  · exact ⟨h1.fn, h1.nt, h1.tm, rfl, h1.defers, .returning, h1.kind, rfl, r2⟩

/-- Another frame is entered. -/
theorem enter_ok {s' : Ren} {w' : World} {st' : St} {f : FuncId} {args args' : Array Value} {kind : CallKind} {out : Out} {a2 : AF} {f2 : Frame} (hM : Mem s' st' w') (hE : Ev s st w s' st' w') (hg : Gl E.ng s) (ha : VRs s' args args')
    (hcs : FRels s as cs) (hf : FRel s a2 f2) (h : enterA E.P f args.toList kind (fun fr' => some (.next ⟨fr', a2 :: as, st'⟩)) = some out)
    (hs : step E.P (lone fr (cs ++ tail) w) = .next (lone (Frame.enter E.P f args' kind) (f2 :: (cs ++ tail)) w')) : OutOk E s st w fr cs tail out := by
  obtain ⟨af, h1, h2, h3⟩ := enterA_some (s := s') (args' := args') (by simpa using ha) h
  cases h1
  exact ⟨s', _, f2 :: cs, w', .one hs, ⟨h2, .cons (hf.mono hE.le) (hcs.mono hE.le), hM, hg.mono hE.le⟩, hE⟩

theorem finishA_ok {a : AF} {f : Frame} {v v' : Value} {rest : List AF} {cs' : List Frame} {out : Out} (hf : FRel s a f) (hr : FRels s rest cs') (hM : Mem s st w) (hg : Gl E.ng s) (hv : VR s v v')
    (h : finishA a v (fun a => some (.next ⟨a, rest, st⟩)) = some out) : ∃ a', out = .next ⟨a', rest, st⟩ ∧ FRel s a' (f.finish v') := by
  unfold finishA at h
  split at h
  · rename_i fn nt tm ops i r k ds mode kd ro
    split at h
    · rename_i o ho
      rw [opAt_eq] at ho
      obtain ⟨tm', h1, h2, h3⟩ := putT_some h
      cases h1
      refine ⟨_, rfl, ?_⟩
      have htodo : f.todo = .inRegion ops (i :: r) :: k := hf.todo
      have hfin : f.finish v' = { f with tmps := ((⟨f.tmps, f.defers⟩ : Act).put o.dst v').tmps, todo := .inRegion ops r :: k } := by
        unfold Frame.finish
        rw [htodo]
        simp only [ho, Option.bind_some]
        cases o.dst <;> rfl
      rw [hfin]
      exact ⟨hf.fn, by simp only [put_size]; exact hf.nt, TmR.put (a := ⟨f.tmps, f.defers⟩) hf.tm (fun d hd => by have := hf.nt; simp only at this; rw [this]; exact h2 d hd) hv h3, rfl, hf.defers, hf.mode, hf.kind, hf.round⟩
    · cases h
  · cases h

theorem doRet_ok {v v' : Value} {fd : Func} {out : Out} (hf : FRel s ⟨fn, nt, tm, todo, [], .returning, kd, ro⟩ fr) (hcs : FRels s as cs) (hM : Mem s st w) (hg : Gl E.ng s) (hfd : E.P.funcs[fn]? = some fd) (hr : (results fd fr.tmps).run E.P w = .ok v' w) (hv : VR s v v')
    (h : doRet kd as st v = some out) : OutOk E s st w fr cs tail out := by
  have hmode : fr.mode = .returning := by have := hf.mode; generalize fr.mode = y at this; cases this; rfl
  have hdef : fr.defers = [] := by have := hf.defers; generalize fr.defers = y at this; cases this; rfl
  have hfn : E.P.funcs[fr.fn]? = some fd := by rw [hf.fn]; exact hfd
  have hkind : fr.kind = kd := hf.kind
  unfold doRet at h
  split at h
  · rename_i caller rest
    cases hcs with
    | cons hc hrest =>
      rename_i c cs'
      obtain ⟨a', rfl, h2⟩ := finishA_ok (E := E) hc hrest hM hg hv h
      exact ⟨s, _, cs', w, .one (step_leave_returned ⟨hmode, hdef, hkind, fd, hfn, hr⟩), ⟨h2, hrest, hM, hg⟩, .refl _ _ _⟩
  · rename_i fn2 nt2 tm2 todo2 ds2 mode2 kd2 ro2 rest
    cases hcs with
    | cons hc hrest =>
      rename_i c cs'
      cases h
      exact ⟨s, { c with mode := settle c.mode }, cs', w, .one (step_going_returned hkind ⟨hmode, hdef, fd, hfn, hr⟩), ⟨⟨hc.fn, hc.nt, hc.tm, hc.todo, hc.defers, settle_ok hc.mode, hc.kind, hc.round⟩, hrest, hM, hg⟩, .refl _ _ _⟩
  · cases h
    cases hcs
    exact ⟨s, fr, w, .returned v', st, .refl _ _, ⟨hmode, hdef, hkind, fd, hfn, hr⟩, ⟨hv, rfl⟩, hM, .refl _ _ _, rfl, rfl⟩
  · cases h

theorem unwindA_ok (hEo : E.Ok) {pn : Option (List PanicEntry)} {mode : FrameMode} {out : Out} (hpn : match pn with
      | none => mode = .returning
      | some ch => mode = .panicking ch) (h : CfR E s ⟨⟨fn, nt, tm, todo, ds, mode, kd, ro⟩, as, st⟩ fr cs w) (hu : unwindA pn E fn nt tm todo ds mode kd ro as st = some out) : OutOk E s st w fr cs tail out := by
  obtain ⟨h1, h2, h3, h4⟩ := h
  have hnrun : fr.mode ≠ .run := by
    have := h1.mode
    intro hr
    rw [hr] at this
    cases pn <;> simp only at hpn <;> subst hpn <;> cases this
  unfold unwindA at hu
  split at hu
  · rename_i f cap args ds0
    split at hu
    · rename_i g args2 st' hi
      have hd := h1.defers
      simp only at hd
      generalize hfd : fr.defers = y at hd
      cases hd with
      | cons hd1 hd2 =>
        rename_i d' ds'
        cases hd1 with
        | fn _ f' _ cap' _ args' q1 q2 q3 =>
          obtain ⟨s', w', args2', e1, e2, e3, e4⟩ := invokeA_ok hEo h3 q1 q2 q3 hi
          exact enter_ok (f2 := { fr with defers := ds' }) e3 e4 h4 e2 h2 (show FRel s ⟨fn, nt, tm, todo, ds0, mode, kd, ro⟩ { fr with defers := ds' } from FRel.mk (af := ⟨fn, nt, tm, todo, ds0, mode, kd, ro⟩) h1.fn h1.nt h1.tm h1.todo hd2 h1.mode h1.kind h1.round) hu (step_defer' hnrun hfd rfl e1)
    · cases hu
  · have hdef : fr.defers = [] := by have := h1.defers; generalize fr.defers = y at this; cases this; rfl
    split at hu
    · rename_i fd hfd
      have hfn : E.P.funcs[fr.fn]? = some fd := by rw [h1.fn]; exact hfd
      cases pn with
      | none =>
        simp only at hpn hu
        subst hpn
        split at hu
        · rename_i vs hvs
          obtain ⟨v', e1, e2⟩ := results_ok (P := E.P) h3 h1.tm hvs
          exact doRet_ok h1 h2 h3 h4 hfd e1 e2 hu
        · cases hu
      | some ch =>
        simp only at hpn hu
        subst hpn
        have hmode := h1.mode
        simp only at hmode
        generalize hfm : fr.mode = y at hmode
        cases hmode with
        | panicking hl =>
          rename_i ch'
          have hleave : fr.leaving E.P w (.panicked ch') := ⟨hfm, hdef, fd, hfn⟩
          split at hu
          · rename_i caller rest
            cases hu
            cases h2 with
            | cons hc hrest =>
              rename_i c cs'
              exact ⟨s, _, cs', w, .one (step_leave_panicked hleave), ⟨raise_ok hc hl, hrest, h3, h4⟩, .refl _ _ _⟩
          · cases hu
            cases h2
            exact ⟨s, fr, w, .panicked ch', st, .refl _ _, hleave, ⟨hl, rfl⟩, h3, .refl _ _ _, rfl, rfl⟩
    · cases hu
  · cases hu
end

end Go.Proofs.YtahfmcenonbegaaDoor.Cx
