/- A closed call, run: the steps, each held against the model's. No program of its own. -/
import Derived.Test.YtfilbknnpjbmcaaCxU
import Derived.RangeFuncRecord
import Derived.RangeFuncIn
namespace Go.Proofs.Ytfilbknnpjbmcaa.Cx
open Go Go.RowKit Go.BigFrame

section
variable {E : Env} {s : Ren} {w : World} {fn : FuncId} {nt : Nat} {tm : TV} {todo : List Item} {ds : List Deferred} {kd : CallKind} {ro : Option Nat} {as : List AF} {st : St} {fr : Frame} {cs tail : List Frame}

/-- The frame goes on, nothing else has turned. -/
theorem go1_ok {k : List Item} {out : Out} (h : CfR E s ⟨⟨fn, nt, tm, todo, ds, .run, kd, ro⟩, as, st⟩ fr cs w) (hg : go1 k fn nt tm ds kd ro as st = some out)
    (hs : step E.P (lone (fr.atR ⟨fr.tmps, fr.defers⟩ todo) (cs ++ tail) w) = .next (lone (fr.atR ⟨fr.tmps, fr.defers⟩ k) (cs ++ tail) w)) : OutOk E s st w fr cs tail out := by
  cases hg
  obtain ⟨h1, h2, h3, h4⟩ := h
  have hm : fr.mode = .run := by have := h1.mode; generalize fr.mode = y at this; cases this; rfl
  have hself := atR_self hm
  have htodo : fr.todo = todo := h1.todo
  refine ⟨s, fr.atR ⟨fr.tmps, fr.defers⟩ k, cs, w, ?_, ⟨?_, h2, h3, h4⟩, .refl _ _ _⟩
  · refine .one ?_
    rw [htodo] at hself
    conv => lhs; rw [hself]
    exact hs
  · exact mkRun h1.fn h1.nt h1.tm h1.defers h1.kind h1.round
theorem finishA_ok {a : AF} {f : Frame} {v v' : Value} {rest : List AF} {cs' : List Frame} {out : Out} (hf : FRel s a f) (_hr : FRels s rest cs') (_hM : Mem s st w) (_hg : Gl E.ng s) (hv : VR s v v')
    (h : finishA a v (fun a => some (.next ⟨a, rest, st⟩)) = some out) : ∃ a', out = .next ⟨a', rest, st⟩ ∧ FRel s a' (f.finish v') := by
  unfold finishA at h
  split at h
  · rename_i fn nt tm ops i r k ds mode kd ro
    split at h
    · rename_i o ho
      rw [opAt_eq] at ho
      obtain ⟨tm', h1, h2, h3⟩ := putT_some h
      cases h1
      refine ⟨_, rfl, ?_⟩
      have htodo : f.todo = .inRegion ops (i :: r) :: k := hf.todo
      have hfin : f.finish v' = { f with tmps := ((⟨f.tmps, f.defers⟩ : Act).put o.dst v').tmps, todo := .inRegion ops r :: k } := by
        unfold Frame.finish
        rw [htodo]
        simp only [ho, Option.bind_some]
        cases o.dst <;> rfl
      rw [hfin]
      exact ⟨hf.fn, by simp only [put_size]; exact hf.nt, TmR.put (a := ⟨f.tmps, f.defers⟩) hf.tm (fun d hd => by have := hf.nt; simp only at this; rw [this]; exact h2 d hd) hv h3, rfl, hf.defers, hf.mode, hf.kind, hf.round⟩
    · cases h
  · cases h

theorem leaveA_ok {jump : Option Code} {out : Out} (h : CfR E s ⟨⟨fn, nt, tm, todo, ds, .run, kd, ro⟩, as, st⟩ fr cs w) (hg : leaveA jump fn nt tm todo ds kd ro as st = some out)
    (hs : jump = none ∨ jump = some .ret → fr.roundOf = none → step E.P (lone (fr.atR ⟨fr.tmps, fr.defers⟩ todo) (cs ++ tail) w) = .next (lone { fr.atR ⟨fr.tmps, fr.defers⟩ todo with mode := .returning } (cs ++ tail) w))
    (hr : ∀ l v w' c cs', fr.roundOf = some l → fr.kind = .normal → (Instr.endRound l jump).run E.P w = .ok v w' → step E.P (lone (fr.atR ⟨fr.tmps, fr.defers⟩ todo) (c :: cs') w) = .next (lone (c.finish v) cs' w')) : OutOk E s st w fr cs tail out := by
  obtain ⟨h1, h2, h3, h4⟩ := h
  have hm : fr.mode = .run := by have := h1.mode; generalize fr.mode = y at this; cases this; rfl
  have hself := atR_self hm
  have htodo : fr.todo = todo := h1.todo
  unfold leaveA at hg
  split at hg
  · have r2 : fr.roundOf = none := RoR.none_iff (s := s) h1.round
    have key : (jump = none ∨ jump = some .ret) → out = .next ⟨⟨fn, nt, tm, todo, ds, .returning, kd, none⟩, as, st⟩ → OutOk E s st w fr cs tail out := by
      intro hj ho
      subst ho
      refine ⟨s, { fr.atR ⟨fr.tmps, fr.defers⟩ todo with mode := .returning }, cs, w, ?_, ⟨?_, h2, h3, h4⟩, .refl _ _ _⟩
      · refine .one ?_
        rw [htodo] at hself
        conv => lhs; rw [hself]
        exact hs hj r2
      · exact ⟨h1.fn, h1.nt, h1.tm, rfl, h1.defers, .returning, h1.kind, h1.round⟩
    split at hg
    · cases hg; exact key (.inl rfl) rfl
    · cases hg; exact key (.inr rfl) rfl
    · cases hg
  · rename_i g
    have hro := h1.round
    simp only at hro
    cases hrf : fr.roundOf with
    | none => rw [hrf] at hro; exact hro.elim
    | some l =>
      rw [hrf] at hro
      obtain ⟨cap, hl⟩ := hro
      unfold roundOut at hg
      split at hg
      · rename_i caller rest
        split at hg
        · rename_i stt pd f n t ps a b d hget
          obtain ⟨l', o, e1, e2, e3⟩ := h3.at_ g _ hget
          cases e1.symm.trans hl
          cases o with
          | loop r =>
            have e3 : LoopR s stt pd f n t ps a b d r := e3
            obtain ⟨H, k1, k2⟩ := TH.put_some hg
            have hlt := h3.lt hget hl
            have hrun := run_endRound (P := E.P) jump e2
            obtain ⟨m1, m2⟩ := Mem.turn (w' := w.putObj l (.loop { r with state := if jump.isNone then .ready else .done, pending := jump })) (o' := .loop (stateJ jump) jump f n t ps a b d) h3 hl hget e2 k2 (setObj_heap w l _ hlt)
              ⟨by cases jump <;> rfl, rfl, e3.fn, e3.nt, e3.tm, e3.params, e3.assign, e3.body, e3.defers⟩ rfl rfl rfl
            have hk : fr.kind = .normal := h1.kind
            cases h2 with
            | cons hc hrest =>
              rename_i c cs'
              have hvb : VR s (.bool (stayB jump)) (.bool jump.isNone) := by
                have : stayB jump = jump.isNone := by cases jump <;> rfl
                rw [this]; exact .bool _
              obtain ⟨a', rfl, q2⟩ := finishA_ok (E := E) hc hrest m1 h4 hvb k1
              refine ⟨s, _, cs', _, .one ?_, ⟨q2, hrest, m1, h4⟩, m2⟩
              rw [htodo] at hself
              conv => lhs; rw [hself]
              exact hr l _ _ c (cs' ++ tail) hrf hk hrun
          | _ => exact e3.elim
        · cases hg
      · cases hg

/-- Another frame is entered. -/
theorem enter_ok {s' : Ren} {w' : World} {st' : St} {f : FuncId} {args args' : Array Value} {kind : CallKind} {out : Out} {a2 : AF} {f2 : Frame} (hM : Mem s' st' w') (hE : Ev s st w s' st' w') (hg : Gl E.ng s) (ha : VRs s' args args')
    (hcs : FRels s as cs) (hf : FRel s a2 f2) (h : enterA E.P f args.toList kind (fun fr' => some (.next ⟨fr', a2 :: as, st'⟩)) = some out)
    (hs : step E.P (lone fr (cs ++ tail) w) = .next (lone (Frame.enter E.P f args' kind) (f2 :: (cs ++ tail)) w')) : OutOk E s st w fr cs tail out := by
  obtain ⟨af, h1, h2, h3⟩ := enterA_some (s := s') (args' := args') (by simpa using ha) h
  cases h1
  exact ⟨s', _, f2 :: cs, w', .one hs, ⟨h2, .cons (hf.mono hE.le) (hcs.mono hE.le), hM, hg.mono hE.le⟩, hE⟩

theorem doRet_ok {v v' : Value} {fd : Func} {out : Out} (hf : FRel s ⟨fn, nt, tm, todo, [], .returning, kd, ro⟩ fr) (hcs : FRels s as cs) (hM : Mem s st w) (hg : Gl E.ng s) (hfd : E.P.funcs[fn]? = some fd) (hr : (results fd fr.tmps).run E.P w = .ok v' w) (hv : VR s v v')
    (h : doRet kd as st v = some out) : OutOk E s st w fr cs tail out := by
  have hmode : fr.mode = .returning := by have := hf.mode; generalize fr.mode = y at this; cases this; rfl
  have hdef : fr.defers = [] := by have := hf.defers; generalize fr.defers = y at this; cases this; rfl
  have hfn : E.P.funcs[fr.fn]? = some fd := by rw [hf.fn]; exact hfd
  have hkind : fr.kind = kd := hf.kind
  unfold doRet at h
  split at h
  · rename_i caller rest
    cases hcs with
    | cons hc hrest =>
      rename_i c cs'
      obtain ⟨a', rfl, h2⟩ := finishA_ok (E := E) hc hrest hM hg hv h
      exact ⟨s, _, cs', w, .one (step_leave_returned ⟨hmode, hdef, hkind, fd, hfn, hr⟩), ⟨h2, hrest, hM, hg⟩, .refl _ _ _⟩
  · rename_i fn2 nt2 tm2 todo2 ds2 mode2 kd2 ro2 rest
    cases hcs with
    | cons hc hrest =>
      rename_i c cs'
      cases h
      exact ⟨s, { c with mode := settle c.mode }, cs', w, .one (step_going_returned hkind ⟨hmode, hdef, fd, hfn, hr⟩), ⟨⟨hc.fn, hc.nt, hc.tm, hc.todo, hc.defers, settle_ok hc.mode, hc.kind, hc.round⟩, hrest, hM, hg⟩, .refl _ _ _⟩
  · cases h
    cases hcs
    exact ⟨s, fr, w, .returned v', st, .refl _ _, ⟨hmode, hdef, hkind, fd, hfn, hr⟩, ⟨hv, rfl⟩, hM, .refl _ _ _, rfl, rfl⟩
  · cases h

theorem step_taken {P : Program} {fr : Frame} {cs : List Frame} {w w' : World} {l : Nat} {x : Array Value} {ds : List Deferred} (hm : fr.mode ≠ .run) (hd : fr.defers = ⟨.collected l, x⟩ :: ds) (hr : (Instr.takeDeferred l).run P w = .ok [] w') :
    step P (lone fr cs w) = .next (lone { fr with defers := ds } cs w') := by
  refine step_lone_go ?_
  cases hmode : fr.mode with
  | run => exact absurd hmode hm
  | returning => simp [stepG, unwind, hmode, hd, hr]
  | panicking chain => simp [stepG, unwind, hmode, hd, hr]
theorem unwindA_ok (hEo : E.Ok) {pn : Option (List PanicEntry)} {mode : FrameMode} {out : Out} (hpn : match pn with
      | none => mode = .returning
      | some ch => mode = .panicking ch) (h : CfR E s ⟨⟨fn, nt, tm, todo, ds, mode, kd, ro⟩, as, st⟩ fr cs w) (hu : unwindA pn E fn nt tm todo ds mode kd ro as st = some out) : OutOk E s st w fr cs tail out := by
  obtain ⟨h1, h2, h3, h4⟩ := h
  have hnrun : fr.mode ≠ .run := by
    have := h1.mode
    intro hr
    rw [hr] at this
    cases pn <;> simp only at hpn <;> subst hpn <;> cases this
  unfold unwindA at hu
  split at hu
  · rename_i f cap args ds0
    split at hu
    · rename_i g args2 st' hi
      have hd := h1.defers
      simp only at hd
      generalize hfd : fr.defers = y at hd
      cases hd with
      | cons hd1 hd2 =>
        rename_i d' ds'
        cases hd1 with
        | fn _ f' _ cap' _ args' q1 q2 q3 =>
          obtain ⟨s', w', args2', e1, e2, e3, e4⟩ := invokeA_ok hEo h3 q1 q2 q3 hi
          exact enter_ok (f2 := { fr with defers := ds' }) e3 e4 h4 e2 h2 (show FRel s ⟨fn, nt, tm, todo, ds0, mode, kd, ro⟩ { fr with defers := ds' } from FRel.mk (af := ⟨fn, nt, tm, todo, ds0, mode, kd, ro⟩) h1.fn h1.nt h1.tm h1.todo hd2 h1.mode h1.kind h1.round) hu (step_defer' hnrun hfd rfl e1)
    · cases hu
  · have hdef : fr.defers = [] := by have := h1.defers; generalize fr.defers = y at this; cases this; rfl
    split at hu
    · rename_i fd hfd
      have hfn : E.P.funcs[fr.fn]? = some fd := by rw [h1.fn]; exact hfd
      cases pn with
      | none =>
        simp only at hpn hu
        subst hpn
        split at hu
        · rename_i vs hvs
          obtain ⟨v', e1, e2⟩ := results_ok (P := E.P) h3 h1.tm hvs
          exact doRet_ok h1 h2 h3 h4 hfd e1 e2 hu
        · cases hu
      | some ch =>
        simp only at hpn hu
        subst hpn
        have hmode := h1.mode
        simp only at hmode
        generalize hfm : fr.mode = y at hmode
        cases hmode with
        | panicking hl =>
          rename_i ch'
          have hleave : fr.leaving E.P w (.panicked ch') := ⟨hfm, hdef, fd, hfn⟩
          split at hu
          · rename_i caller rest
            cases hu
            cases h2 with
            | cons hc hrest =>
              rename_i c cs'
              exact ⟨s, _, cs', w, .one (step_leave_panicked hleave), ⟨raise_ok hc hl, hrest, h3, h4⟩, .refl _ _ _⟩
          · cases hu
            cases h2
            exact ⟨s, fr, w, .panicked ch', st, .refl _ _, hleave, ⟨hl, rfl⟩, h3, .refl _ _ _, rfl, rfl⟩
    · cases hu
  · rename_i g args ds0
    split at hu
    · rename_i hget
      obtain ⟨H, k1, k2⟩ := TH.put_some hu
      cases k1
      have hd := h1.defers
      simp only at hd
      generalize hfd : fr.defers = y at hd
      cases hd with
      | cons hd1 hd2 =>
        rename_i d' ds'
        cases hd1 with
        | collected _ l hl =>
          obtain ⟨l', o, e1, e2, e3⟩ := h3.at_ g _ hget
          cases e1.symm.trans hl
          cases e3 with
          | deferred _ dsq hds =>
            cases hds
            have hlt := h3.lt hget hl
            have hrun := run_takeDeferred (P := E.P) e2
            obtain ⟨m1, m2⟩ := Mem.turn (w' := w.putObj l.blk (.deferred none)) (o' := .obj (.deferred none)) h3 hl hget e2 k2 (setObj_heap w l.blk _ hlt) OR.deferredNone rfl rfl rfl
            refine ⟨s, { fr with defers := ds' }, cs, _, .one (step_taken hnrun hfd hrun), ⟨FRel.mk (af := ⟨fn, nt, tm, todo, ds0, mode, kd, ro⟩) h1.fn h1.nt h1.tm h1.todo hd2 h1.mode h1.kind h1.round, h2, m1, h4⟩, m2⟩
    · cases hu
  · cases hu
end

end Go.Proofs.Ytfilbknnpjbmcaa.Cx
