/- A closed call, run: the run is the model's. No program of its own. -/
import Derived.Test.YtfilbknnpjbmcaaCxV
import Derived.Test.YtfilbknnpjbmcaaCxTM
namespace Go.Proofs.Ytfilbknnpjbmcaa.Cx
open Go Go.RowKit Go.BigFrame

section
variable {E : Env} {sub : Sub} {s : Ren} {w : World} {fn : FuncId} {nt : Nat} {tm : TV} {ds : List Deferred} {kd : CallKind} {ro : Option Nat} {as : List AF} {st : St} {fr : Frame} {cs tail : List Frame} {todo0 : List Item}

theorem rec_some {a a2 : AF} {c : Frame} {v : Value} (h : FRel s a c) (hr : recA a = some (v, a2)) (cs : List Frame) : ∃ v' c2, recoverD (c :: cs) = some (v', c2 :: cs) ∧ VR s v v' ∧ FRel s a2 c2 := by
  obtain ⟨fn, nt, tm, todo, ds, mode, kd, ro⟩ := a
  unfold recA at hr
  split at hr
  · rename_i e
    cases e
    cases hr
    have hm := h.mode
    simp only at hm
    generalize hcm : c.mode = y at hm
    cases hm with
    | panicking hl =>
      cases hl with
      | @cons _ v' _ _ _ l' hv hl =>
        refine ⟨v', { c with mode := .panicking ({ v := v', recovered := true } :: l') }, by simp only [recoverD, hcm], hv, ?_⟩
        exact ⟨h.fn, h.nt, h.tm, h.todo, h.defers, .panicking (.cons hv hl), h.kind, h.round⟩
  · cases hr
theorem rec_none {a : AF} {c : Frame} (h : FRel s a c) (hr : recA a = none) (cs : List Frame) : recoverD (c :: cs) = none := by
  obtain ⟨fn, nt, tm, todo, ds, mode, kd, ro⟩ := a
  have hm := h.mode
  simp only at hm
  generalize hcm : c.mode = y at hm
  cases hm with
  | run => simp only [recoverD, hcm]
  | returning => simp only [recoverD, hcm]
  | panicking hl =>
    cases hl with
    | nil => simp only [recoverD, hcm]
    | @cons v v' r g l l' hv hl =>
      cases r with
      | true => simp only [recoverD, hcm]
      | false =>
        cases g with
        | true => simp only [recoverD, hcm]
        | false => simp [recA] at hr

theorem opRes_ok (hmode : fr.mode = .run) {ops : Array Oper} {i : Nat} {r : List Nat} {k : List Item} {o : Oper} {res : Res} {out : Out} (h : CfR E s ⟨⟨fn, nt, tm, .inRegion ops (i :: r) :: k, ds, .run, kd, ro⟩, as, st⟩ fr cs w) (ho : ops[i]? = some o)
    (hw : Region.wanted o (yielded ops fr.tmps) = true) (hS : Snd E.P s st w (execOp (Act.eval ⟨fr.tmps, fr.defers⟩) o) res) (hres : opRes res E fn nt tm o ops r k ds kd ro as = some out) : OutOk E s st w fr cs tail out := by
  obtain ⟨h1, h2, h3, h4⟩ := h
  have htodo : fr.todo = .inRegion ops (i :: r) :: k := h1.todo
  have hself := atR_self hmode
  rw [htodo] at hself
  have hnt : fr.tmps.size = nt := h1.nt
  have stay : ∀ {a1 : Act} {ds1 : List Deferred} {v v' : Value} {s' : Ren} {w' : World} {st' : St} {as1 : List AF} {cs1 : List Frame}, a1.tmps = fr.tmps → DRs s' ds1 a1.defers → FRels s' as1 cs1 → VR s' v v' → Mem s' st' w' → Ev s st w s' st' w' →
      putT o.dst v nt tm (fun tm => some (Out.next ⟨⟨fn, nt, tm, .inRegion ops r :: k, ds1, .run, kd, ro⟩, as1, st'⟩)) = some out →
      step E.P (lone fr (cs ++ tail) w) = .next (lone (fr.atR (a1.put o.dst v') (.inRegion ops r :: k)) (cs1 ++ tail) w') → OutOk E s st w fr cs tail out := by
    intro a1 ds1 v v' s' w' st' as1 cs1 ha hds hcs hv hM hE hput hstep
    obtain ⟨tm', e1, e2, e3⟩ := putT_some hput
    cases e1
    refine ⟨s', _, cs1, w', .one hstep, ⟨mkRun h1.fn (by rw [put_size, ha]; exact hnt) (TmR.put (a := a1) (by rw [ha]; exact h1.tm.mono hE.le) (fun d hd => by rw [ha, hnt]; exact e2 d hd) hv e3) (by rw [put_defers]; exact hds) h1.kind (h1.round.mono hE.le), hcs, hM, h4.mono hE.le⟩, hE⟩
  unfold opRes at hres
  split at hres
  · -- a value
    obtain ⟨s', w', v', e1, e2, e3, e4⟩ := hS
    refine stay (a1 := ⟨fr.tmps, fr.defers⟩) rfl (h1.defers.mono e4.le) (h2.mono e4.le) e2 e3 e4 hres ?_
    conv => lhs; rw [hself]
    exact st_val ho hw e1
  · obtain ⟨s', w', e1, e3, e4⟩ := hS
    refine stay (a1 := ⟨fr.tmps, fr.defers⟩) rfl (h1.defers.mono e4.le) (h2.mono e4.le) undefR e3 e4 hres ?_
    conv => lhs; rw [hself]
    exact st_skp ho hw e1
  · cases hres
  · obtain ⟨s', w', d', e1, e2, e3, e4⟩ := hS
    split at hres
    case h_2 => cases hres
    have hb : fr.roundOf = none := RoR.none_iff (s := s) h1.round
    refine stay (a1 := ⟨fr.tmps, d' :: fr.defers⟩) rfl (.cons e2 (h1.defers.mono e4.le)) (h2.mono e4.le) undefR e3 e4 hres ?_
    conv => lhs; rw [hself]
    exact st_defer (a := ⟨fr.tmps, fr.defers⟩) hb ho hw e1
  · -- recover
    obtain ⟨s', w', e1, e3, e4⟩ := hS
    split at hres
    · rename_i c rest
      have hb : fr.roundOf = none := RoR.none_iff (s := s) h1.round
      have hk : (fr.atR ⟨fr.tmps, fr.defers⟩ (.inRegion ops (i :: r) :: k)).kind = .deferred := h1.kind
      cases h2 with
      | cons hc hrest =>
        rename_i c' cs'
        split at hres
        · rename_i v c2 hrc
          obtain ⟨v', c2', q1, q2, q3⟩ := rec_some hc hrc (cs' ++ tail)
          refine stay (a1 := ⟨fr.tmps, fr.defers⟩) (cs1 := c2' :: cs') rfl (h1.defers.mono e4.le) (.cons (q3.mono e4.le) (hrest.mono e4.le)) (q2.mono e4.le) e3 e4 hres ?_
          conv => lhs; rw [hself]
          exact st_recover_some hb ho hw e1 (by rw [tryRecover_deferred hk]; exact q1)
        · rename_i hrc
          have q1 := rec_none hc hrc (cs' ++ tail)
          refine stay (a1 := ⟨fr.tmps, fr.defers⟩) (cs1 := c' :: cs') rfl (h1.defers.mono e4.le) (.cons (hc.mono e4.le) (hrest.mono e4.le)) .nilIface e3 e4 hres ?_
          conv => lhs; rw [hself]
          exact st_recover_none hb ho hw e1 (by rw [tryRecover_deferred hk]; exact q1)
    · have hb : fr.roundOf = none := RoR.none_iff (s := s) h1.round
      have hk : (fr.atR ⟨fr.tmps, fr.defers⟩ (.inRegion ops (i :: r) :: k)).kind = .normal := h1.kind
      refine stay (a1 := ⟨fr.tmps, fr.defers⟩) rfl (h1.defers.mono e4.le) (h2.mono e4.le) .nilIface e3 e4 hres ?_
      conv => lhs; rw [hself]
      exact st_recover_none hb ho hw e1 (by unfold tryRecover; rw [hk])
    · cases hres
  · cases hres
  · cases hres

/-- A loop over a function, entered. -/
theorem loopEnter_ok {a b : Code} {psA : Array Tmp} {out : Out} {K : Nat → List Deferred → St → Option Out} (hM : Mem s st w) (h1 : FRel s ⟨fn, nt, tm, todo0, ds, .run, kd, ro⟩ fr) (h : loopEnter fn nt tm psA.toList a b ds ro st K = some out) :
    ∃ s2 w2 gl l cap mark ds2 st2, K gl ds2 st2 = some out ∧ (Instr.enterLoop fr.fn fr.tmps psA a b fr.roundOf).run E.P w = .ok (l, mark) w2 ∧ s2 gl = some ⟨l, cap⟩ ∧ DRs s2 ds2 (mark ++ fr.defers) ∧ Mem s2 st2 w2 ∧ Ev s st w s2 st2 w2 := by
  have hro := h1.round
  simp only at hro
  unfold loopEnter at h
  split at h
  · have hb : fr.roundOf = none := RoR.none_iff (s := s) hro
    obtain ⟨s1, st1, k1, m1, e1, q1⟩ := newO_ok hM h (.deferred (some [])) 0 (fun s' _ _ => OR.deferred _ _ .nil)
    obtain ⟨s2, st2, k2, m2, e2, q2⟩ := newO_ok m1 k1 (.loop { state := .ready, pending := none, fn := fr.fn, tmps := fr.tmps, params := psA, assign := a, body := b, defers := w.heap.size }) 0
      (fun s' hle _ => LoopR.mk rfl rfl h1.fn h1.nt (h1.tm.mono (e1.le.trans hle)) rfl rfl rfl ⟨_, hle _ _ q1, rfl⟩)
    refine ⟨s2, _, _, _, _, [⟨.collected w.heap.size, #[]⟩], _, st2, k2, ?_, q2, .cons (.collected _ _ (e2.le _ _ q1)) (h1.defers.mono (e1.le.trans e2.le)), m2, e1.trans e2⟩
    rw [hb, World.size_alloc]
    exact run_enterLoop_outer _ _ _ _ _
  · rename_i g
    cases hrf : fr.roundOf with
    | none => rw [hrf] at hro; exact hro.elim
    | some l0 =>
      rw [hrf] at hro
      obtain ⟨c0, hl0⟩ := hro
      split at h
      · rename_i stt pd f n t ps x y gd hget
        obtain ⟨l', o, e1, e2, e3⟩ := hM.at_ g _ hget
        cases e1.symm.trans hl0
        cases o with
        | loop r =>
          have e3 : LoopR s stt pd f n t ps x y gd r := e3
          obtain ⟨ld, d1, d2⟩ := e3.defers
          obtain ⟨s2, st2, k2, m2, e4, q2⟩ := newO_ok hM h (.loop { state := .ready, pending := none, fn := fr.fn, tmps := fr.tmps, params := psA, assign := a, body := b, defers := r.defers }) 0
            (fun s' hle _ => LoopR.mk rfl rfl h1.fn h1.nt (h1.tm.mono hle) rfl rfl rfl ⟨_, hle _ _ d1, d2⟩)
          refine ⟨s2, _, _, _, _, [], _, st2, k2, ?_, q2, h1.defers.mono e4.le, m2, e4⟩
          unfold Instr.enterLoop
          simp only [Sem.run_bind, run_getLoop e2, run_newObj_alloc, Result.andThen, Sem.run_pure]
        | _ => exact e3.elim
      · cases h
theorem bool_of {b : Bool} {v : Value} (h : VR s (.bool b) v) : v = .bool b := by cases h; rfl
theorem exCode_ok (hEo : E.Ok) (hmix : E.P.follows .mixedOrders = true) (hsub : SubOk E sub) {c : Code} {k : List Item} {out : Out} (h : CfR E s ⟨⟨fn, nt, tm, .code c :: k, ds, .run, kd, ro⟩, as, st⟩ fr cs w) (hmode : fr.mode = .run)
    (hx : exCode c k E sub fn nt tm ds kd ro as st = some out) : OutOk E s st w fr cs tail out := by
  unfold exCode at hx
  have hg := h.gl
  have htm : TmR s tm fr.tmps := h.fr.tm
  split at hx
  · exact go1_ok h hx stepR_skip
  · exact go1_ok h hx stepR_label
  · exact leaveA_ok h hx (fun _ hb => stepR_ret hb) fun l v w' c cs' q1 q2 q3 => stepR_round_ret q1 q2 q3
  · exact go1_ok h hx stepR_seq
  · rename_i cc x y
    split at hx
    · rename_i hc
      have hv := evT_ok (a := ⟨fr.tmps, fr.defers⟩) hg htm _ _ hc
      refine go1_ok h hx ?_
      have := stepR_cond (P := E.P) (b := fr) (a := ⟨fr.tmps, fr.defers⟩) (k := k) (cs := cs ++ tail) (w := w) (x := x) (y := y) (t := true) (bool_of hv)
      exact this
    · rename_i hc
      have hv := evT_ok (a := ⟨fr.tmps, fr.defers⟩) hg htm _ _ hc
      refine go1_ok h hx ?_
      have := stepR_cond (P := E.P) (b := fr) (a := ⟨fr.tmps, fr.defers⟩) (k := k) (cs := cs ++ tail) (w := w) (x := x) (y := y) (t := false) (bool_of hv)
      exact this
    · cases hx
  · exact go1_ok h hx stepR_block
  · exact go1_ok h hx stepR_loop
  · exact go1_ok h hx (step_lone_go (by simp [stepG, stepG.exec, Frame.atR]))
  · split at hx
    · rename_i k' he
      exact go1_ok h hx (stepR_exit he)
    · rename_i he
      exact leaveA_ok h hx (fun q => by rcases q with q | q <;> cases q) fun l v w' c cs' q1 q2 q3 => stepR_round_exit q1 q2 he q3
  · split at hx
    · rename_i k' he
      exact go1_ok h hx (stepR_goto he)
    · rename_i he
      exact leaveA_ok h hx (fun q => by rcases q with q | q <;> cases q) fun l v w' c cs' q1 q2 q3 => stepR_round_goto q1 q2 he q3
  · -- a loop over a function
    rename_i f ps x y
    split at hx
    · rename_i fv first cap hf
      have hfv := evT_ok (a := ⟨fr.tmps, fr.defers⟩) hg htm _ _ hf
      obtain ⟨s2, w2, gl, l, lc, mark, ds2, st2, k1, k2, k3, k4, k5, k6⟩ := loopEnter_ok (E := E) h.mem h.fr hx
      have hself := atR_self hmode
      have htodo : fr.todo = .code (.rangeFunc f ps x y) :: k := h.fr.todo
      rw [htodo] at hself
      generalize hcv : (⟨fr.tmps, fr.defers⟩ : Act).eval f = cv at hfv
      cases hfv with
      | func _ fv' _ first' _ cap' q1 q2 q3 q4 q5 =>
        have hyield : VRs s2 #[.func (.yield gl) #[] #[]] #[.func (.yield l) #[] #[]] := VRs.of_lists (vs := [.func (.yield gl) #[] #[]]) (vs' := [.func (.yield l) #[] #[]]) rfl fun j u hj => by
          cases j with
          | zero =>
            simp at hj
            subst hj
            exact ⟨_, rfl, .func _ _ _ _ _ _ (.yield gl ⟨l, lc⟩ k3) rfl (fun i h _ => absurd h (by simp)) rfl (fun i h _ => absurd h (by simp))⟩
          | succ j => simp at hj
        have hfirst : VRs s2 first first' := VRs.mono k6.le ⟨q2, q3⟩
        have hcap : VRs s2 cap cap' := VRs.mono k6.le ⟨q4, q5⟩
        split at k1
        · rename_i g2 args2 st3 hinv
          obtain ⟨s3, w3, args3, i1, i2, i3, i4⟩ := invokeA_ok hEo k5 (q1.mono k6.le) hcap (hfirst.append hyield) hinv
          split at k1
          · rename_i v4 st4 hsb
            obtain ⟨s4, w4, v', fr4, j1, j2, j3, j4, j5⟩ := hsub g2 args2 st3 v4 st4 hsb s3 w3 args3 i3 (hg.mono (k6.le.trans i4.le)) i2 (fr.atR ⟨fr.tmps, mark ++ fr.defers⟩ (.inRangeFunc l :: k) :: (cs ++ tail))
            have hres : (resolve (Act.eval ⟨fr.tmps, fr.defers⟩) (rangeCall f l) 0).run E.P w2 = .ok ⟨.fn fv' cap', first' ++ #[.func (.yield l) #[] #[]]⟩ w2 := by
              simp only [resolve, hcv]
              simp [Act.eval, Deferred.ofValue]
            have hstep := stepR_rangeFunc (P := E.P) (b := fr) (a := ⟨fr.tmps, fr.defers⟩) (k := k) (cs := cs ++ tail) (ps := ps) (assign := x) (body := y) k2 hres i1
            have hlast := step_leave_returned (c := fr.atR ⟨fr.tmps, mark ++ fr.defers⟩ (.inRangeFunc l :: k)) (cs := cs ++ tail) j2
            rw [finish_atR_inRangeFunc] at hlast
            unfold loopLeave at k1
            split at k1
            · rename_i stt pd f3 n3 t3 ps3 x3 y3 d3 hget
              cases hbz : busyS stt with
              | true => simp only [hbz, cond_true] at k1; cases k1
              | false =>
                simp only [hbz, cond_false] at k1
                obtain ⟨H, g1, g2'⟩ := TH.put_some k1
                cases g1
                have hl4 : s4 gl = some ⟨l, lc⟩ := j5.le _ _ (i4.le _ _ k3)
                obtain ⟨l', o, e1, e2, e3⟩ := j4.at_ gl _ hget
                cases e1.symm.trans hl4
                cases o with
                | loop r =>
                  have e3 : LoopR s4 stt pd f3 n3 t3 ps3 x3 y3 d3 r := e3
                  have hnb : r.state ≠ .busy := by
                    rw [e3.state]; intro q; rw [q] at hbz; cases hbz
                  have hend := run_endLoop (P := E.P) e2 hnb
                  have hlt := j4.lt hget hl4
                  obtain ⟨m1, m2⟩ := Mem.turn (w' := w4.putObj l (.loop { r with state := .exhausted })) (o' := .loop .exhausted pd f3 n3 t3 ps3 x3 y3 d3) j4 hl4 hget e2 g2' (setObj_heap w4 l _ hlt)
                    ⟨rfl, e3.pending, e3.fn, e3.nt, e3.tm, e3.params, e3.assign, e3.body, e3.defers⟩ rfl rfl rfl
                  have hle := k6.trans (i4.trans (j5.trans m2))
                  have hpd : (r.pending.map Item.code).toList ++ k = pendI pd ++ k := by
                    rw [e3.pending]; cases pd <;> rfl
                  have hfin := stepR_endRangeFunc (P := E.P) (b := fr) (a := ⟨fr.tmps, mark ++ fr.defers⟩) (k := k) (cs := cs ++ tail) hend
                  rw [hpd] at hfin
                  refine ⟨s4, fr.atR ⟨fr.tmps, mark ++ fr.defers⟩ (pendI pd ++ k), cs, _, ?_, ⟨mkRun h.fr.fn h.fr.nt (htm.mono hle.le) (k4.mono (i4.le.trans j5.le)) h.fr.kind (h.fr.round.mono hle.le), h.cs.mono hle.le, m1, hg.mono hle.le⟩, hle⟩
                  conv => arg 2; rw [hself]
                  exact .head hstep (j1.trans (.head hlast (.one hfin)))
                | _ => exact e3.elim
            · cases k1
          · cases k1
        · cases k1
    · cases hx
  · exact go1_ok h hx stepR_region
  · rename_i id ops
    split at hx
    case h_2 => cases hx
    rename_i l hl
    obtain ⟨rfl, hreg⟩ := okR_ok hl
    split at hx
    · rename_i p hp
      obtain ⟨tmF, st2, a', s', w', h1, e1, e2, e3, e4, e5, e6⟩ := late_ok hEo hsub hmix hp hx h.mem hg (a := ⟨fr.tmps, fr.defers⟩) htm h.fr.nt id k (cs ++ tail)
      cases h1
      have hself := atR_self hmode
      have htodo : fr.todo = .code (.region id ops true) :: k := h.fr.todo
      rw [htodo] at hself
      refine ⟨s', fr.atR a' k, cs, w', ?_, ⟨mkRun h.fr.fn e3 e2 (by rw [e4]; exact h.fr.defers.mono e6.le) h.fr.kind (h.fr.round.mono e6.le), h.cs.mono e6.le, e5, hg.mono e6.le⟩, e6⟩
      conv => arg 2; rw [hself]
      exact e1
    cases hroom : Nat.blt (Nat.add st.c (newsOf ops)) st.lim with
    | false => simp only [hroom, cond_false] at hx; cases hx
    | true =>
      simp only [hroom, cond_true] at hx
      have hroom : st.c + newsOf ops < st.lim := by rw [Nat.blt_eq] at hroom; exact hroom
      obtain ⟨rs, tmF, stF, h1, h2⟩ := pass_some hx
      cases hck2 : (checkAll E rs && insOk E ops rs) with
      | false => simp only [hck2, cond_false] at h1; cases h1
      | true =>
        simp only [hck2, cond_true] at h1
        rw [Bool.and_eq_true] at hck2
        obtain ⟨hck, hinsk⟩ := hck2
        obtain ⟨HF, h1, hfill⟩ := fillT_ok h1
        cases h1
        obtain ⟨a', s', w', e1, e2, e3, e4, e5, e6⟩ := region_draw hEo hsub hmix hreg hroom h2 hck hinsk hfill h.mem hg (a := ⟨fr.tmps, fr.defers⟩) htm h.fr.nt id k (cs ++ tail)
        have hself := atR_self hmode
        have htodo : fr.todo = .code (.region id ops true) :: k := h.fr.todo
        rw [htodo] at hself
        refine ⟨s', fr.atR a' k, cs, w', ?_, ⟨mkRun h.fr.fn e3 e2 (by rw [e4]; exact h.fr.defers.mono e6.le) h.fr.kind (h.fr.round.mono e6.le), h.cs.mono e6.le, e5, hg.mono e6.le⟩, e6⟩
        conv => arg 2; rw [hself]
        exact e1
  · cases hx

theorem stepA_ok (hEo : E.Ok) (hmix : E.P.follows .mixedOrders = true) (hsub : SubOk E sub) {c : Cf} {out : Out} (h : CfR E s c fr cs w) (hx : stepA E sub c = some out) : OutOk E s c.st w fr cs tail out := by
  obtain ⟨⟨fn, nt, tm, todo, ds, mode, kd, ro⟩, as, st⟩ := c
  unfold stepA at hx
  split at hx
  · rename_i e
    cases e
    have hmode : fr.mode = .run := by have := h.fr.mode; generalize fr.mode = y at this; cases this; rfl
    split at hx
    · exact leaveA_ok h hx (fun _ hb => stepR_end hb) fun l v w' c cs' q1 q2 q3 => stepR_round_end q1 q2 q3
    · rename_i x k
      unfold exItem at hx
      split at hx
      · exact exCode_ok hEo hmix hsub h hmode hx
      · exact go1_ok h hx stepR_inBlock
      · exact go1_ok h hx (step_lone_go (by simp [stepG, stepG.exec, Frame.atR]))
      · exact go1_ok h hx stepR_inLoop
      · exact go1_ok h hx stepR_region_end
      · rename_i ops i r
        split at hx
        · cases hx
        · rename_i o ho
          rw [opAt_eq] at ho
          have htm : TmR s tm fr.tmps := h.fr.tm
          have hev := evT_ok (a := ⟨fr.tmps, fr.defers⟩) h.gl htm
          have hself := atR_self hmode
          have htodo : fr.todo = .inRegion ops (i :: r) :: k := h.fr.todo
          rw [htodo] at hself
          split at hx
          · rename_i hw
            have hwant := wantA_ok htm hw
            split at hx
            · rename_i f args st' ha
              obtain ⟨s', w', args', e1, e2, e3, e4⟩ := aop_ok hEo h.mem hev ha
              split at hx
              · rename_i v hkn
                obtain ⟨w2, fr2, k1, k2, k3, k4, k5⟩ := known_ok hEo hkn e3 (h.gl.mono e4.le) e2 (fr.atR ⟨fr.tmps, fr.defers⟩ (.inRegion ops (i :: r) :: k) :: (cs ++ tail))
                have hlast := step_leave_returned (c := fr.atR ⟨fr.tmps, fr.defers⟩ (.inRegion ops (i :: r) :: k)) (cs := cs ++ tail) k2
                rw [st_finish ho] at hlast
                obtain ⟨tm', p1, p2, p3⟩ := putT_some hx
                have hnt : fr.tmps.size = nt := h.fr.nt
                cases p1
                have hle := e4.trans k5
                refine ⟨s', fr.atR ((⟨fr.tmps, fr.defers⟩ : Act).put o.dst v) (.inRegion ops r :: k), cs, w2, ?_, ⟨mkRun h.fr.fn (by rw [put_size]; exact hnt) (TmR.put (a := ⟨fr.tmps, fr.defers⟩) (htm.mono hle.le) (fun d hd => by simp only [hnt]; exact p2 d hd) k3 p3) (by rw [put_defers]; exact h.fr.defers.mono hle.le) h.fr.kind (h.fr.round.mono hle.le), h.cs.mono hle.le, k4, h.gl.mono hle.le⟩, hle⟩
                conv => arg 2; rw [hself]
                exact .head (st_enter ho hwant e1) (k1.trans (.one hlast))
              refine enter_ok (f2 := fr.atR ⟨fr.tmps, fr.defers⟩ (.inRegion ops (i :: r) :: k)) e3 e4 h.gl e2 h.cs ?_ hx ?_
              · exact mkRun h.fr.fn h.fr.nt h.fr.tm h.fr.defers h.fr.kind h.fr.round
              · conv => lhs; rw [hself]
                exact st_enter ho hwant e1
            · rename_i g f2 nt2 tm2 x y st' ha
              obtain ⟨s', w', tmps', l, e1, ⟨cap, hl⟩, e2, e3, e4, e5⟩ := aop_ok hEo h.mem hev ha
              cases hx
              refine ⟨s', Frame.round l f2 tmps' x y .normal, fr.atR ⟨fr.tmps, fr.defers⟩ (.inRegion ops (i :: r) :: k) :: cs, w', .one ?_, ⟨⟨rfl, e2, e3, rfl, .nil, .run, rfl, ⟨cap, hl⟩⟩, .cons (mkRun h.fr.fn h.fr.nt (htm.mono e5.le) (h.fr.defers.mono e5.le) h.fr.kind (h.fr.round.mono e5.le)) (h.cs.mono e5.le), e4, h.gl.mono e5.le⟩, e5⟩
              conv => lhs; rw [hself]
              exact st_round ho hwant e1
            · rename_i v st' ha
              obtain ⟨s', w', v', e1, e2, e3, e4⟩ := aop_ok hEo h.mem hev ha
              cases hx
              refine ⟨s', { fr.atR ⟨fr.tmps, fr.defers⟩ (.inRegion ops (i :: r) :: k) with mode := .panicking [{ v := v', recovered := false }] }, cs, w', .one ?_, ⟨⟨h.fr.fn, h.fr.nt, h.fr.tm.mono e4.le, rfl, h.fr.defers.mono e4.le, .panicking (.cons e2 .nil), h.fr.kind, h.fr.round.mono e4.le⟩, h.cs.mono e4.le, e3, h.gl.mono e4.le⟩, e4⟩
              conv => lhs; rw [hself]
              exact st_panic ho hwant e1
            · rename_i res hne hne1 hne2 ha
              exact opRes_ok hmode h ho hwant (aop_ok hEo h.mem hev ha) hx
            · split at hx
              · rename_i res hl
                exact opRes_ok hmode h ho hwant (lastA_ok h.mem hev hl) hx
              · cases hx
          · rename_i hw
            have hwant := wantA_ok htm hw
            obtain ⟨tm', e1, e2, e3⟩ := putT_some hx
            have hnt : fr.tmps.size = nt := h.fr.nt
            cases e1
            refine ⟨s, fr.atR ((⟨fr.tmps, fr.defers⟩ : Act).put o.dst undef) (.inRegion ops r :: k), cs, w, .one ?_, ⟨mkRun h.fr.fn (by rw [put_size]; exact hnt) (TmR.put (a := ⟨fr.tmps, fr.defers⟩) htm (fun d hd => by simp only [hnt]; exact e2 d hd) undefR e3) (by rw [put_defers]; exact h.fr.defers) h.fr.kind h.fr.round, h.cs, h.mem, h.gl⟩, .refl _ _ _⟩
            conv => lhs; rw [hself]
            exact st_skip ho hwant
          · cases hx
      · -- a round begins
        split at hx
        · rename_i g
          have hro := h.fr.round
          simp only at hro
          cases hrf : fr.roundOf with
          | none => rw [hrf] at hro; exact hro.elim
          | some l =>
            rw [hrf] at hro
            obtain ⟨cap, hl⟩ := hro
            split at hx
            · rename_i pd f n t ps x y d hget
              obtain ⟨H, k1, k2⟩ := TH.put_some hx
              cases k1
              obtain ⟨l', o, e1, e2, e3⟩ := h.mem.at_ g _ hget
              cases e1.symm.trans hl
              cases o with
              | loop r =>
                have e3 : LoopR s .ready pd f n t ps x y d r := e3
                have hlt := h.mem.lt hget hl
                obtain ⟨m1, m2⟩ := Mem.turn (w' := w.putObj l (.loop { r with state := .busy })) (o' := .loop .busy pd f n t ps x y d) h.mem hl hget e2 k2 (setObj_heap w l _ hlt)
                  ⟨rfl, e3.pending, e3.fn, e3.nt, e3.tm, e3.params, e3.assign, e3.body, e3.defers⟩ rfl rfl rfl
                have hself := atR_self hmode
                have htodo : fr.todo = .beginRound :: k := h.fr.todo
                rw [htodo] at hself
                refine ⟨s, fr.atR ⟨fr.tmps, fr.defers⟩ k, cs, _, .one ?_, ⟨mkRun h.fr.fn h.fr.nt h.fr.tm h.fr.defers h.fr.kind h.fr.round, h.cs, m1, h.gl⟩, m2⟩
                conv => lhs; rw [hself]
                exact stepR_beginRound hrf (run_beginRound e2 e3.state)
              | _ => exact e3.elim
            · cases hx
        · cases hx
      · cases hx
  · rename_i e
    cases e
    exact unwindA_ok hEo (pn := none) rfl h hx
  · rename_i e
    cases e
    exact unwindA_ok hEo (pn := some _) rfl h hx
end

/-- The function at the row's end. -/
def baseA (c : Cf) : FuncId :=
  match c.cs.getLast? with
  | some a => a.fn
  | none => c.fr.fn
theorem base_fn {a b : AF} {cs : List AF} {st st' : St} (h : a.fn = b.fn) : baseA ⟨a, cs, st⟩ = baseA ⟨b, cs, st'⟩ := by
  unfold baseA
  simp only [h]
theorem base_cons {a b : AF} {cs : List AF} {st st' : St} : baseA ⟨a, b :: cs, st⟩ = baseA ⟨b, cs, st'⟩ := by
  unfold baseA
  cases cs with
  | nil => rfl
  | cons c cs =>
    simp only [List.getLast?_cons_cons]
    rw [List.getLast?_eq_some_getLast (List.cons_ne_nil c cs)]
theorem finishA_fn {a : AF} {v : Value} {rest : List AF} {st : St} {out : Out} (h : finishA a v (fun a => some (.next ⟨a, rest, st⟩)) = some out) : ∃ a', out = .next ⟨a', rest, st⟩ ∧ a'.fn = a.fn := by
  unfold finishA at h
  split at h
  · split at h
    · obtain ⟨tm', h1, _⟩ := putT_some h
      cases h1
      exact ⟨_, rfl, rfl⟩
    · cases h
  · cases h
theorem enterA_next {P : Program} {f : FuncId} {args : List Value} {kind : CallKind} {a : AF} {as : List AF} {st : St} {out : Out} (h : enterA P f args kind (fun fr' => some (.next ⟨fr', a :: as, st⟩)) = some out) : ∃ fr', out = .next ⟨fr', a :: as, st⟩ := by
  unfold enterA at h
  split at h
  · split at h
    · obtain ⟨tm, h1, _⟩ := ofList_ok h
      rw [forceN_eq] at h1
      cases h1
      exact ⟨_, rfl⟩
    · cases h
  · cases h
theorem put_next {dst : Option Tmp} {v : Value} {nt : Nat} {tm : TV} {K : TV → AF} {cs : List AF} {st : St} {out : Out} (h : putT dst v nt tm (fun tm => some (Out.next ⟨K tm, cs, st⟩)) = some out) : ∃ tm, out = .next ⟨K tm, cs, st⟩ := by
  obtain ⟨tm', h1, _⟩ := putT_some h
  cases h1
  exact ⟨_, rfl⟩
theorem rec_fn {a a2 : AF} {v : Value} (h : recA a = some (v, a2)) : a2.fn = a.fn := by
  unfold recA at h
  split at h
  · cases h; rfl
  · cases h
theorem raise_fn (a : AF) (ch : List PanicEntry) : (raiseA a ch).fn = a.fn := by
  unfold raiseA
  split <;> rfl
theorem newO_any {β : Type} {o : AObj} {st : St} {K : Nat → St → Option β} {b : β} (h : newO o st K = some b) : ∃ g st', K g st' = some b := by
  rw [newO_eq] at h
  cases hb : Nat.blt st.c st.lim with
  | false => simp only [hb, cond_false] at h; cases h
  | true =>
    simp only [hb, cond_true] at h
    obtain ⟨H, h1, _⟩ := TH.put_some h
    exact ⟨_, _, h1⟩
theorem loopEnter_any {fn : FuncId} {nt : Nat} {tm : TV} {ps : List Tmp} {a b : Code} {ds : List Deferred} {ro : Option Nat} {st : St} {K : Nat → List Deferred → St → Option Out} {out : Out} (h : loopEnter fn nt tm ps a b ds ro st K = some out) : ∃ g ds' st', K g ds' st' = some out := by
  unfold loopEnter at h
  split at h
  · obtain ⟨g, st1, h1⟩ := newO_any h
    obtain ⟨g2, st2, h2⟩ := newO_any h1
    exact ⟨_, _, _, h2⟩
  · split at h
    · obtain ⟨g2, st2, h2⟩ := newO_any h
      exact ⟨_, _, _, h2⟩
    · cases h
theorem loopLeave_any {gl : Nat} {st : St} {K : List Item → St → Option Out} {out : Out} (h : loopLeave gl st K = some out) : ∃ js st', K js st' = some out := by
  unfold loopLeave at h
  split at h
  · rename_i stt _ _ _ _ _ _ _ _ _
    cases hb : busyS stt with
    | true => simp only [hb, cond_true] at h; cases h
    | false =>
      simp only [hb, cond_false] at h
      obtain ⟨H, h1, _⟩ := TH.put_some h
      exact ⟨_, _, h1⟩
  · cases h
theorem stepA_base {E : Env} {sub : Sub} {c c' : Cf} (h : stepA E sub c = some (Out.next c')) : baseA c' = baseA c := by
  obtain ⟨⟨fn, nt, tm, todo, ds, mode, kd, ro⟩, as, st⟩ := c
  have go : ∀ {k : List Item} {nt : Nat} {tm : TV} {ds : List Deferred} {kd : CallKind} {ro : Option Nat} {st' : St}, go1 k fn nt tm ds kd ro as st' = some (Out.next c') → baseA c' = baseA ⟨⟨fn, nt, tm, todo, ds, mode, kd, ro⟩, as, st⟩ := by
    intro k nt tm ds kd ro st' hg
    cases hg
    exact base_fn rfl
  have fix : ∀ {a : AF} {st' : St}, c' = ⟨a, as, st'⟩ → a.fn = fn → baseA c' = baseA ⟨⟨fn, nt, tm, todo, ds, mode, kd, ro⟩, as, st⟩ := by
    intro a st' e1 e2
    subst e1
    exact base_fn e2
  have leave : ∀ {jump : Option Code} {todo' : List Item}, leaveA jump fn nt tm todo' ds kd ro as st = some (Out.next c') → baseA c' = baseA ⟨⟨fn, nt, tm, todo, ds, mode, kd, ro⟩, as, st⟩ := by
    intro jump todo' hl
    unfold leaveA at hl
    split at hl
    · split at hl
      · cases hl; exact base_fn rfl
      · cases hl; exact base_fn rfl
      · cases hl
    · unfold roundOut at hl
      split at hl
      · split at hl
        · obtain ⟨H, h1, _⟩ := TH.put_some hl
          obtain ⟨a', e, hfn⟩ := finishA_fn h1
          cases e
          exact (base_fn (st' := st) hfn).trans base_cons.symm
        · cases hl
      · cases hl
  have push : ∀ {f : FuncId} {args : List Value} {kind : CallKind} {a : AF} {st' : St}, a.fn = fn → enterA E.P f args kind (fun fr' => some (Out.next ⟨fr', a :: as, st'⟩)) = some (Out.next c') → baseA c' = baseA ⟨⟨fn, nt, tm, todo, ds, mode, kd, ro⟩, as, st⟩ := by
    intro f args kind a st' ha he
    obtain ⟨fr', e⟩ := enterA_next he
    cases e
    exact base_cons.trans (base_fn (st := st) ha)
  have unw : ∀ {pn : Option (List PanicEntry)}, unwindA pn E fn nt tm todo ds mode kd ro as st = some (Out.next c') → baseA c' = baseA ⟨⟨fn, nt, tm, todo, ds, mode, kd, ro⟩, as, st⟩ := by
    intro pn hu
    unfold unwindA at hu
    split at hu
    · split at hu
      · exact push (by rfl) hu
      · cases hu
    · split at hu
      · split at hu
        · split at hu
          · unfold doRet at hu
            split at hu
            · obtain ⟨a', e, hfn⟩ := finishA_fn hu
              cases e
              exact (base_fn (st' := st) hfn).trans base_cons.symm
            · cases hu
              rw [base_cons (st' := st)]
              exact base_fn rfl
            · cases hu
            · cases hu
          · cases hu
        · split at hu
          · cases hu
            exact (base_fn (st' := st) (raise_fn _ _)).trans base_cons.symm
          · cases hu
      · cases hu
    · split at hu
      · obtain ⟨H, h1, _⟩ := TH.put_some hu
        cases h1
        exact base_fn rfl
      · cases hu
    · cases hu
  unfold stepA at h
  split at h
  · rename_i e
    cases e
    split at h
    · exact leave h
    · rename_i x k
      unfold exItem at h
      split at h
      · unfold exCode at h
        split at h
        · exact go h
        · exact go h
        · exact leave h
        · exact go h
        · split at h
          · exact go h
          · exact go h
          · cases h
        · exact go h
        · exact go h
        · exact go h
        · split at h
          · exact go h
          · exact leave h
        · split at h
          · exact go h
          · exact leave h
        · split at h
          · obtain ⟨gl, ds2, st2, h1⟩ := loopEnter_any h
            split at h1
            · split at h1
              · obtain ⟨js, st4, h2⟩ := loopLeave_any h1
                cases h2
                exact base_fn rfl
              · cases h1
            · cases h1
          · cases h
        · exact go h
        · rename_i id ops
          split at h
          case h_2 => cases h
          split at h
          · obtain ⟨tmF, st2, h1⟩ := late_any h
            cases h1; exact base_fn rfl
          cases hreg : Nat.blt (Nat.add st.c (newsOf ops)) st.lim with
          | false => simp only [hreg, cond_false] at h; cases h
          | true =>
            simp only [hreg, cond_true] at h
            obtain ⟨rs, tmF, stF, h1, _⟩ := pass_some h
            cases hck : (checkAll E rs && insOk E ops rs) with
            | false => simp only [hck, cond_false] at h1; cases h1
            | true =>
              simp only [hck, cond_true] at h1
              obtain ⟨HF, h1, _⟩ := fillT_ok h1
              cases h1; exact base_fn rfl
        · cases h
      · exact go h
      · exact go h
      · exact go h
      · exact go h
      · split at h
        · cases h
        · split at h
          · split at h
            · split at h
              · obtain ⟨tm', e⟩ := put_next h; cases e; exact base_fn rfl
              · exact push (by rfl) h
            · cases h; exact base_cons.trans (base_fn (st := st) rfl)
            · cases h; exact base_fn rfl
            · unfold opRes at h
              split at h
              · obtain ⟨tm', e⟩ := put_next h; cases e; exact base_fn rfl
              · obtain ⟨tm', e⟩ := put_next h; cases e; exact base_fn rfl
              · cases h
              · split at h
                · obtain ⟨tm', e⟩ := put_next h; cases e; exact base_fn rfl
                · cases h
              · split at h
                · split at h
                  · rename_i v c2 hrc
                    obtain ⟨tm', e⟩ := put_next h
                    cases e
                    exact (base_cons (st' := st)).trans ((base_fn (st' := st) (rec_fn hrc)).trans (base_cons (st' := st)).symm)
                  · obtain ⟨tm', e⟩ := put_next h; cases e; exact base_fn rfl
                · obtain ⟨tm', e⟩ := put_next h; cases e; exact base_fn rfl
                · cases h
              · cases h
              · cases h
            · split at h
              · unfold opRes at h
                split at h
                · obtain ⟨tm', e⟩ := put_next h; cases e; exact base_fn rfl
                · obtain ⟨tm', e⟩ := put_next h; cases e; exact base_fn rfl
                · cases h
                · split at h
                  · obtain ⟨tm', e⟩ := put_next h; cases e; exact base_fn rfl
                  · cases h
                · split at h
                  · split at h
                    · rename_i v c2 hrc
                      obtain ⟨tm', e⟩ := put_next h
                      cases e
                      exact (base_cons (st' := st)).trans ((base_fn (st' := st) (rec_fn hrc)).trans (base_cons (st' := st)).symm)
                    · obtain ⟨tm', e⟩ := put_next h; cases e; exact base_fn rfl
                  · obtain ⟨tm', e⟩ := put_next h; cases e; exact base_fn rfl
                  · cases h
                · cases h
                · cases h
              · cases h
          · obtain ⟨tm', e⟩ := put_next h; cases e; exact base_fn rfl
          · cases h
      · split at h
        · split at h
          · obtain ⟨H, h1, _⟩ := TH.put_some h
            exact go h1
          · cases h
        · cases h
      · cases h
  · rename_i e
    cases e
    exact unw h
  · rename_i e
    cases e
    exact unw h

/-- THE RUN IS THE MODEL's. -/
theorem runA_ok {E : Env} (hEo : E.Ok) (hmix : E.P.follows .mixedOrders = true) : ∀ (n : Nat) {c : Cf} {f : Fin}, runA E n c = some f → ∀ {s : Ren} {fr : Frame} {cs : List Frame} {w : World}, CfR E s c fr cs w → ∀ tail,
    ∃ s' fr' w' e st', Steps E.P (lone fr (cs ++ tail) w) (lone fr' tail w') ∧ fr'.leaving E.P w' e ∧ FinR s' f e st' ∧ Mem s' st' w' ∧ Ev s c.st w s' st' w' ∧ fr'.fn = baseA c
  | 0, c, f, h, s, fr, cs, w, hR, tail => by cases h
  | n + 1, c, f, h, s, fr, cs, w, hR, tail => by
    have h : goOn (stepA E (fun f args st => retOf (enterA E.P f args.toList .normal fun fr => runA E n ⟨fr, [], st⟩)) c) (runA E n) = some f := h
    have hsub : SubOk E (fun f args st => retOf (enterA E.P f args.toList .normal fun fr => runA E n ⟨fr, [], st⟩)) := by
      intro g args st v st' hs s w args' hM hG hA tl
      simp only [retOf] at hs
      split at hs
      · rename_i v0 st0 hen
        cases hs
        obtain ⟨af, h1, h2, h3⟩ := enterA_some (s := s) (args' := args') (by simpa using hA) hen
        obtain ⟨s', fr', w', e, st2, q1, q2, q3, q4, q5, _⟩ := runA_ok hEo hmix n h1 (s := s) (fr := Frame.enter E.P g args' .normal) (cs := []) (w := w) ⟨h2, .nil, hM, hG⟩ tl
        cases e with
        | returned v' =>
          obtain ⟨hv, rfl⟩ := q3
          exact ⟨s', w', v', fr', q1, q2, hv, q4, q5⟩
        | panicked _ => exact q3.elim
        | outgrown => exact q3.elim
      · cases hs
    unfold goOn at h
    split at h
    · rename_i c' hs
      obtain ⟨s1, fr1, cs1, w1, h1, h2, h3⟩ := stepA_ok (tail := tail) hEo hmix hsub hR hs
      obtain ⟨s2, fr2, w2, e, st2, q1, q2, q3, q4, q5, q6⟩ := runA_ok hEo hmix n h h2 tail
      exact ⟨s2, fr2, w2, e, st2, h1.trans q1, q2, q3, q4, h3.trans q5, q6.trans (stepA_base hs)⟩
    · rename_i f' hs
      cases h
      obtain ⟨s2, fr2, w2, e, st2, q1, q2, q3, q4, q5, rfl, rfl⟩ := stepA_ok (tail := tail) hEo hmix hsub hR hs
      refine ⟨s2, fr2, w2, e, st2, q1, q2, q3, q4, q5, ?_⟩
      have hcs := hR.cs
      generalize hca : c.cs = y at hcs
      cases hcs
      unfold baseA
      rw [hca]
      exact hR.fr.fn
    · cases h

/-- A closed call that comes to true, in whatever world. -/
noncomputable def topA (E : Env) (f : FuncId) (n : Nat) : Bool :=
  match enterA E.P f [] .normal fun fr => runA E n ⟨fr, [], ⟨.leaf, E.ng, 1000000000000⟩⟩ with
  | some (.ret (.bool true) _) => true
  | _ => false
theorem closed {E : Env} (hEo : E.Ok) (hmix : E.P.follows .mixedOrders = true) {f : FuncId} {n : Nat} (h : topA E f n = true) (W : World) : Calls E.P f #[] W fun e W' => e = .returned (.bool true) ∧ Below W.heap.size W W' := by
  intro cs
  unfold topA at h
  split at h
  · rename_i st0 hr
    let s0 : Ren := fun g => if g < E.ng then some ⟨g, 0⟩ else none
    obtain ⟨af, h1, h2, _⟩ := enterA_some (s := s0) (args' := #[]) VRs.nil hr
    have hM : Mem s0 ⟨.leaf, E.ng, 1000000000000⟩ W := ⟨fun g o hg => by simp [TH.get_leaf] at hg, fun g g' o o' l l' hg => by simp [TH.get_leaf] at hg, fun g hg _ => by
      have : ¬ g < E.ng := by have : E.ng ≤ g := hg; omega
      simp [s0, this]⟩
    obtain ⟨s', fr', w', e, st', q1, q2, q3, q4, q5, q6⟩ := runA_ok hEo hmix n h1 (s := s0) (fr := Frame.enter E.P f #[] .normal) (cs := []) (w := W) ⟨h2, .nil, hM, fun g hg => by simp [s0, hg]⟩ cs
    cases e with
    | returned v =>
      obtain ⟨hv, _⟩ := q3
      have hvt := bool_of hv
      subst hvt
      refine ⟨.returned (.bool true), w', fr', ⟨rfl, q5.os, q5.tape, q5.output, q5.size, fun k hk => q5.frame k hk fun g o l hg => by simp [TH.get_leaf] at hg⟩, q1, ?_, q2⟩
      rw [q6]
      unfold baseA
      have := h2.fn
      simp only [List.getLast?_nil]
      exact this.symm
    | panicked _ => exact q3.elim
    | outgrown => exact q3.elim
  · cases h

end Go.Proofs.Ytfilbknnpjbmcaa.Cx
