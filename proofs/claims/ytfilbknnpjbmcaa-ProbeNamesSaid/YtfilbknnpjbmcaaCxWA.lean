/- A closed call, run: a frame goes on by itself as far as it can, in one go. No program of its own. -/
import Derived.Test.YtfilbknnpjbmcaaCxW
namespace Go.Proofs.Ytfilbknnpjbmcaa.Cx
open Go Go.RowKit Go.BigFrame

/-- A region's operations with their numbers. -/
inductive OL where
  | nil
  | cons (i : Nat) (o : Oper) (r : OL)
noncomputable def OL.idx : OL → List Nat
  | .nil => []
  | .cons i _ r => i :: r.idx
noncomputable def olFrom : Nat → List Oper → OL
  | _, [] => .nil
  | i, o :: r => .cons i o (olFrom (Nat.succ i) r)
noncomputable def olOf (ops : Array Oper) : OL := olFrom 0 ops.toList

abbrev AK := List Item → TV → St → Option Fin
abbrev OK := OL → TV → St → Option Fin
/-- The operations of a region that draws nothing, up to the first that is not done in place. -/
noncomputable def advOL (E : Env) (nt : Nat) (ops : Array Oper) (l : OL) : TV → St → OK → Option Fin :=
  OL.rec (motive := fun _ => TV → St → OK → Option Fin) (fun tm st K => K .nil tm st)
    (fun i o r ih tm st K => match wantA ops tm o with
      | some true => match aop E (evT E.ng tm) o st with
        | some (.val v st') => putT o.dst v nt tm fun tm => ih tm st' K
        | some (.skip st') => putT o.dst undef nt tm fun tm => ih tm st' K
        | _ => K (.cons i o r) tm st
      | some false => putT o.dst undef nt tm fun tm => ih tm st K
      | none => K (.cons i o r) tm st) l
noncomputable def advL (E : Env) (nt : Nat) (ops : Array Oper) (l : List Nat) : TV → St → (List Nat → TV → St → Option Fin) → Option Fin :=
  List.rec (motive := fun _ => TV → St → (List Nat → TV → St → Option Fin) → Option Fin) (fun tm st K => K [] tm st)
    (fun i r ih tm st K => match opAt ops i with
      | some o => match wantA ops tm o with
        | some true => match aop E (evT E.ng tm) o st with
          | some (.val v st') => putT o.dst v nt tm fun tm => ih tm st' K
          | some (.skip st') => putT o.dst undef nt tm fun tm => ih tm st' K
          | _ => K (i :: r) tm st
        | some false => putT o.dst undef nt tm fun tm => ih tm st K
        | none => K (i :: r) tm st
      | none => K (i :: r) tm st) l
noncomputable def nilL (l : List Nat) (a b : Option Fin) : Option Fin :=
  match l with
  | [] => a
  | _ :: _ => b
abbrev AJ := List Item → TV → St → AK → Option Fin
noncomputable def advCode (c : Code) : Env → Nat → List Item → TV → St → AJ → AK → Option Fin :=
  match c with
  | .skip => fun _ _ k tm st ih K => ih k tm st K
  | .label _ => fun _ _ k tm st ih K => ih k tm st K
  | .seq a b => fun _ _ k tm st ih K => ih (.code a :: .code b :: k) tm st K
  | .cond c a b => fun E _ k tm st ih K => match evT E.ng tm c with
    | some (.bool true) => ih (.code a :: k) tm st K
    | some (.bool false) => ih (.code b :: k) tm st K
    | _ => none
  | .block id b => fun _ _ k tm st ih K => ih (.code b :: .inBlock id :: k) tm st K
  | .loop b => fun _ _ k tm st ih K => ih (.code b :: .inLoop b :: k) tm st K
  | .scope b => fun _ _ k tm st ih K => ih (.code b :: .inScope b :: k) tm st K
  | .exit id => fun _ _ k tm st ih K => match exitTo id k with
    | some k => ih k tm st K
    | none => K (.code (.exit id) :: k) tm st
  | .goto l => fun _ _ k tm st ih K => match gotoIn l k with
    | some k => ih k tm st K
    | none => K (.code (.goto l) :: k) tm st
  | .region _ ops false => fun E nt k tm st ih K => advOL E nt ops (olOf ops) tm st fun l tm st => nilL l.idx (ih k tm st K) (K (.inRegion ops l.idx :: k) tm st)
  | c => fun _ _ k tm st _ K => K (.code c :: k) tm st
noncomputable def advItem (x : Item) : Env → Nat → List Item → TV → St → AJ → AK → Option Fin :=
  match x with
  | .code c => advCode c
  | .inBlock _ => fun _ _ k tm st ih K => ih k tm st K
  | .inScope _ => fun _ _ k tm st ih K => ih k tm st K
  | .inLoop b => fun _ _ k tm st ih K => ih (.code b :: .inLoop b :: k) tm st K
  | .inRegion ops l => fun E nt k tm st ih K => advL E nt ops l tm st fun l tm st => nilL l (ih k tm st K) (K (.inRegion ops l :: k) tm st)
  | x => fun _ _ k tm st _ K => K (x :: k) tm st
noncomputable def advTodo (todo : List Item) : Env → Nat → TV → St → AJ → AK → Option Fin :=
  match todo with
  | [] => fun _ _ tm st _ K => K [] tm st
  | x :: k => fun E nt tm st ih K => advItem x E nt k tm st ih K
noncomputable def adv (E : Env) (nt : Nat) (n : Nat) : AJ :=
  Nat.rec (motive := fun _ => AJ) (fun todo tm st K => K todo tm st) (fun _ ih todo tm st K => advTodo todo E nt tm st ih K) n

noncomputable def fwdR (mode : FrameMode) : Env → FuncId → Nat → TV → List Item → List Deferred → CallKind → Option Nat → List AF → St → (Cf → Option Fin) → Option Fin :=
  match mode with
  | .run => fun E fn nt tm todo ds kd ro cs st K => adv E nt 1000000000 todo tm st fun todo tm st => K ⟨⟨fn, nt, tm, todo, ds, .run, kd, ro⟩, cs, st⟩
  | mode => fun _ fn nt tm todo ds kd ro cs st K => K ⟨⟨fn, nt, tm, todo, ds, mode, kd, ro⟩, cs, st⟩
noncomputable def fwd (E : Env) (c : Cf) (K : Cf → Option Fin) : Option Fin :=
  match c with
  | ⟨⟨fn, nt, tm, todo, ds, mode, kd, ro⟩, cs, st⟩ => fwdR mode E fn nt tm todo ds kd ro cs st K
/-- The run, each frame in one go. -/
noncomputable def subF (E : Env) (ih : Cf → Option Fin) : Sub := fun f args st =>
  match E.known f args.toList st with
  | some v => some (v, st)
  | none => retOf (enterA E.P f args.toList .normal fun fr => ih ⟨fr, [], st⟩)
noncomputable def runF (E : Env) (n : Nat) : Cf → Option Fin :=
  Nat.rec (motive := fun _ => Cf → Option Fin) (fun _ => none)
    (fun _ ih c => fwd E c fun c => goOn (stepA E (subF E ih) c) ih) n

/-- Steps that go through no other call. -/
inductive Goes (E : Env) : Cf → Cf → Prop where
  | refl (c : Cf) : Goes E c c
  | head {c c1 c2 : Cf} : (∀ sub, stepA E sub c = some (.next c1)) → Goes E c1 c2 → Goes E c c2
theorem Goes.trans {E : Env} {a b c : Cf} (h : Goes E a b) (h' : Goes E b c) : Goes E a c := by
  induction h with
  | refl => exact h'
  | head h1 _ ih => exact .head h1 (ih h')

section
variable {E : Env} {fn : FuncId} {nt : Nat} {ds : List Deferred} {kd : CallKind} {ro : Option Nat} {cs : List AF}
/-- A configuration of a running frame. -/
noncomputable def at_ (fn : FuncId) (nt : Nat) (ds : List Deferred) (kd : CallKind) (ro : Option Nat) (cs : List AF) (todo : List Item) (tm : TV) (st : St) : Cf := ⟨⟨fn, nt, tm, todo, ds, .run, kd, ro⟩, cs, st⟩
theorem putT_par {dst : Option Tmp} {v : Value} {nt : Nat} {tm : TV} : (∃ tm', ∀ {β : Type} (K : TV → Option β), putT dst v nt tm K = K tm') ∨ ∀ {β : Type} (K : TV → Option β), putT dst v nt tm K = none := by
  unfold putT
  cases dst with
  | none => exact .inl ⟨tm, fun _ => rfl⟩
  | some d =>
    cases hb : Nat.blt d nt with
    | false => exact .inr fun _ => by simp only [hb, cond_false]
    | true =>
      rcases TV.put_par (x := some v) (m := FUEL) (t := tm) (k := d) with ⟨u, hu⟩ | hu
      · exact .inl ⟨u, fun K => by simp only [hb, cond_true]; exact hu K⟩
      · exact .inr fun K => by simp only [hb, cond_true]; exact hu K
theorem putT_go {dst : Option Tmp} {v : Value} {nt : Nat} {tm : TV} {K : TV → Option Fin} {b : Fin} (h : putT dst v nt tm K = some b) : ∃ tm', K tm' = some b ∧ ∀ {β : Type} (K' : TV → Option β), putT dst v nt tm K' = K' tm' := by
  rcases putT_par (dst := dst) (v := v) (nt := nt) (tm := tm) with ⟨u, hu⟩ | hu
  · exact ⟨u, (hu K).symm.trans h, hu⟩
  · rw [hu] at h; cases h
theorem op_step {sub : Sub} {ops : Array Oper} {i : Nat} {r : List Nat} {k : List Item} {o : Oper} {tm tm' : TV} {st st' : St} {v : Value} (ho : opAt ops i = some o) (hw : wantA ops tm o = some true)
    (ha : aop E (evT E.ng tm) o st = some (.val v st') ∨ (aop E (evT E.ng tm) o st = some (.skip st') ∧ v = undef)) (hp : ∀ {β : Type} (K' : TV → Option β), putT o.dst v nt tm K' = K' tm') :
    stepA E sub (at_ fn nt ds kd ro cs (.inRegion ops (i :: r) :: k) tm st) = some (.next (at_ fn nt ds kd ro cs (.inRegion ops r :: k) tm' st')) := by
  rcases ha with ha | ⟨ha, hv⟩
  · simp only [stepA, at_, exItem, ho, hw, ha, opRes, hp]
  · subst hv
    simp only [stepA, at_, exItem, ho, hw, ha, opRes, hp]
theorem skip_step {sub : Sub} {ops : Array Oper} {i : Nat} {r : List Nat} {k : List Item} {o : Oper} {tm tm' : TV} {st : St} (ho : opAt ops i = some o) (hw : wantA ops tm o = some false)
    (hp : ∀ {β : Type} (K' : TV → Option β), putT o.dst undef nt tm K' = K' tm') :
    stepA E sub (at_ fn nt ds kd ro cs (.inRegion ops (i :: r) :: k) tm st) = some (.next (at_ fn nt ds kd ro cs (.inRegion ops r :: k) tm' st)) := by
  simp only [stepA, at_, exItem, ho, hw, hp, go1]
def OL.Wf (ops : Array Oper) : OL → Prop
  | .nil => True
  | .cons i o r => ops[i]? = some o ∧ r.Wf ops
theorem olFrom_wf {ops : Array Oper} : ∀ {l : List Oper} {i : Nat}, (∀ j o, l[j]? = some o → ops[i + j]? = some o) → (olFrom i l).Wf ops
  | [], i, _ => trivial
  | o :: r, i, h => ⟨by simpa using h 0 o rfl, olFrom_wf (i := i + 1) fun j o' hj => by
      have := h (j + 1) o' (by simpa using hj)
      rwa [show i + 1 + j = i + (j + 1) by omega]⟩
theorem olOf_wf (ops : Array Oper) : (olOf ops).Wf ops := olFrom_wf fun j o h => by simpa using h
theorem olFrom_idx : ∀ {l : List Oper} {i : Nat}, (olFrom i l).idx = List.range' i l.length
  | [], i => rfl
  | o :: r, i => by
    show i :: (olFrom (i + 1) r).idx = _
    rw [olFrom_idx, List.length_cons, List.range'_succ]
theorem olOf_idx (ops : Array Oper) : (olOf ops).idx = List.range ops.size := by
  unfold olOf
  rw [olFrom_idx, List.range_eq_range']
  simp
theorem advOL_ok {ops : Array Oper} {k : List Item} : ∀ {l : OL} {tm : TV} {st : St} {K : OK} {b : Fin}, l.Wf ops → advOL E nt ops l tm st K = some b →
    ∃ l' tm' st', K l' tm' st' = some b ∧ Goes E (at_ fn nt ds kd ro cs (.inRegion ops l.idx :: k) tm st) (at_ fn nt ds kd ro cs (.inRegion ops l'.idx :: k) tm' st')
  | .nil, tm, st, K, b, _, h => ⟨.nil, tm, st, h, .refl _⟩
  | .cons i o r, tm, st, K, b, hw, h => by
    have ho : opAt ops i = some o := by rw [opAt_eq]; exact hw.1
    have h : (match wantA ops tm o with
      | some true => match aop E (evT E.ng tm) o st with
        | some (.val v st') => putT o.dst v nt tm fun tm => advOL E nt ops r tm st' K
        | some (.skip st') => putT o.dst undef nt tm fun tm => advOL E nt ops r tm st' K
        | _ => K (.cons i o r) tm st
      | some false => putT o.dst undef nt tm fun tm => advOL E nt ops r tm st K
      | none => K (.cons i o r) tm st) = some b := h
    split at h
    · rename_i hwa
      split at h
      · rename_i v st' ha
        obtain ⟨tm', h1, h2⟩ := putT_go h
        obtain ⟨l', tm2, st2, h3, h4⟩ := advOL_ok (k := k) hw.2 h1
        exact ⟨l', tm2, st2, h3, .head (fun sub => op_step ho hwa (.inl ha) h2) h4⟩
      · rename_i st' ha
        obtain ⟨tm', h1, h2⟩ := putT_go h
        obtain ⟨l', tm2, st2, h3, h4⟩ := advOL_ok (k := k) hw.2 h1
        exact ⟨l', tm2, st2, h3, .head (fun sub => op_step ho hwa (.inr ⟨ha, rfl⟩) h2) h4⟩
      · exact ⟨_, _, _, h, .refl _⟩
    · rename_i hwa
      obtain ⟨tm', h1, h2⟩ := putT_go h
      obtain ⟨l', tm2, st2, h3, h4⟩ := advOL_ok (k := k) hw.2 h1
      exact ⟨l', tm2, st2, h3, .head (fun sub => skip_step ho hwa h2) h4⟩
    · exact ⟨_, _, _, h, .refl _⟩
theorem advL_ok {ops : Array Oper} {k : List Item} : ∀ {l : List Nat} {tm : TV} {st : St} {K : List Nat → TV → St → Option Fin} {b : Fin}, advL E nt ops l tm st K = some b →
    ∃ l' tm' st', K l' tm' st' = some b ∧ Goes E (at_ fn nt ds kd ro cs (.inRegion ops l :: k) tm st) (at_ fn nt ds kd ro cs (.inRegion ops l' :: k) tm' st')
  | [], tm, st, K, b, h => ⟨[], tm, st, h, .refl _⟩
  | i :: r, tm, st, K, b, h => by
    have h : (match opAt ops i with
      | some o => match wantA ops tm o with
        | some true => match aop E (evT E.ng tm) o st with
          | some (.val v st') => putT o.dst v nt tm fun tm => advL E nt ops r tm st' K
          | some (.skip st') => putT o.dst undef nt tm fun tm => advL E nt ops r tm st' K
          | _ => K (i :: r) tm st
        | some false => putT o.dst undef nt tm fun tm => advL E nt ops r tm st K
        | none => K (i :: r) tm st
      | none => K (i :: r) tm st) = some b := h
    split at h
    · rename_i o ho
      split at h
      · rename_i hwa
        split at h
        · rename_i v st' ha
          obtain ⟨tm', h1, h2⟩ := putT_go h
          obtain ⟨l', tm2, st2, h3, h4⟩ := advL_ok (k := k) h1
          exact ⟨l', tm2, st2, h3, .head (fun sub => op_step ho hwa (.inl ha) h2) h4⟩
        · rename_i st' ha
          obtain ⟨tm', h1, h2⟩ := putT_go h
          obtain ⟨l', tm2, st2, h3, h4⟩ := advL_ok (k := k) h1
          exact ⟨l', tm2, st2, h3, .head (fun sub => op_step ho hwa (.inr ⟨ha, rfl⟩) h2) h4⟩
        · exact ⟨_, _, _, h, .refl _⟩
      · rename_i hwa
        obtain ⟨tm', h1, h2⟩ := putT_go h
        obtain ⟨l', tm2, st2, h3, h4⟩ := advL_ok (k := k) h1
        exact ⟨l', tm2, st2, h3, .head (fun sub => skip_step ho hwa h2) h4⟩
      · exact ⟨_, _, _, h, .refl _⟩
    · exact ⟨_, _, _, h, .refl _⟩
theorem nilL_ok {l : List Nat} {x y : Option Fin} {b : Fin} (h : nilL l x y = some b) : (l = [] ∧ x = some b) ∨ y = some b := by
  cases l with
  | nil => exact .inl ⟨rfl, h⟩
  | cons _ _ => exact .inr h
theorem end_step {sub : Sub} {ops : Array Oper} {k : List Item} {tm : TV} {st : St} : stepA E sub (at_ fn nt ds kd ro cs (.inRegion ops [] :: k) tm st) = some (.next (at_ fn nt ds kd ro cs k tm st)) := rfl
theorem adv_ok : ∀ (n : Nat) {todo : List Item} {tm : TV} {st : St} {K : AK} {b : Fin}, adv E nt n todo tm st K = some b →
    ∃ todo' tm' st', K todo' tm' st' = some b ∧ Goes E (at_ fn nt ds kd ro cs todo tm st) (at_ fn nt ds kd ro cs todo' tm' st')
  | 0, todo, tm, st, K, b, h => ⟨todo, tm, st, h, .refl _⟩
  | n + 1, [], tm, st, K, b, h => ⟨[], tm, st, h, .refl _⟩
  | n + 1, x :: k, tm, st, K, b, h => by
    have h : advItem x E nt k tm st (adv E nt n) K = some b := h
    have go : ∀ {k' : List Item} {tm' : TV} {st' : St}, Goes E (at_ fn nt ds kd ro cs (x :: k) tm st) (at_ fn nt ds kd ro cs k' tm' st') → adv E nt n k' tm' st' K = some b →
        ∃ todo' tm' st', K todo' tm' st' = some b ∧ Goes E (at_ fn nt ds kd ro cs (x :: k) tm st) (at_ fn nt ds kd ro cs todo' tm' st') := fun h1 h2 => by
      obtain ⟨t2, tm2, st2, h3, h4⟩ := adv_ok n h2
      exact ⟨t2, tm2, st2, h3, h1.trans h4⟩
    have one : ∀ {c c' : Cf}, (∀ sub, stepA E sub c = some (.next c')) → Goes E c c' := fun h => .head h (.refl _)
    unfold advItem at h
    split at h
    · rename_i c
      unfold advCode at h
      split at h
      · exact go (one fun _ => rfl) h
      · exact go (one fun _ => rfl) h
      · exact go (one fun _ => rfl) h
      · split at h
        · rename_i hc
          refine go (one fun _ => ?_) h
          simp only [stepA, at_, exItem, exCode, hc, go1]
        · rename_i hc
          refine go (one fun _ => ?_) h
          simp only [stepA, at_, exItem, exCode, hc, go1]
        · cases h
      · exact go (one fun _ => rfl) h
      · exact go (one fun _ => rfl) h
      · exact go (one fun _ => rfl) h
      · split at h
        · rename_i hc
          refine go (one fun _ => ?_) h
          simp only [stepA, at_, exItem, exCode, hc, go1]
        · exact ⟨_, _, _, h, .refl _⟩
      · split at h
        · rename_i hc
          refine go (one fun _ => ?_) h
          simp only [stepA, at_, exItem, exCode, hc, go1]
        · exact ⟨_, _, _, h, .refl _⟩
      · rename_i id ops
        obtain ⟨l', tm', st', h1, h2⟩ := advOL_ok (fn := fn) (ds := ds) (kd := kd) (ro := ro) (cs := cs) (k := k) (olOf_wf ops) h
        rw [olOf_idx] at h2
        have h0 : Goes E (at_ fn nt ds kd ro cs (.code (.region id ops false) :: k) tm st) (at_ fn nt ds kd ro cs (.inRegion ops l'.idx :: k) tm' st') := .head (fun _ => rfl) h2
        rcases nilL_ok h1 with ⟨e, h3⟩ | h3
        · rw [e] at h0
          exact go (h0.trans (one fun _ => end_step)) h3
        · exact ⟨_, _, _, h3, h0⟩
      · exact ⟨_, _, _, h, .refl _⟩
    · exact go (one fun _ => rfl) h
    · exact go (one fun _ => rfl) h
    · exact go (one fun _ => rfl) h
    · rename_i ops l
      obtain ⟨l', tm', st', h1, h2⟩ := advL_ok (fn := fn) (ds := ds) (kd := kd) (ro := ro) (cs := cs) (k := k) h
      rcases nilL_ok h1 with ⟨e, h3⟩ | h3
      · rw [e] at h2
        exact go (h2.trans (one fun _ => end_step)) h3
      · exact ⟨_, _, _, h3, h2⟩
    · exact ⟨_, _, _, h, .refl _⟩
end
theorem fwd_ok {E : Env} {c : Cf} {K : Cf → Option Fin} {b : Fin} (h : fwd E c K = some b) : ∃ c', K c' = some b ∧ Goes E c c' := by
  obtain ⟨⟨fn, nt, tm, todo, ds, mode, kd, ro⟩, cs, st⟩ := c
  have h : fwdR mode E fn nt tm todo ds kd ro cs st K = some b := h
  unfold fwdR at h
  split at h
  · obtain ⟨todo', tm', st', h1, h2⟩ := adv_ok (fn := fn) (ds := ds) (kd := kd) (ro := ro) (cs := cs) _ h
    exact ⟨_, h1, h2⟩
  · exact ⟨_, h, .refl _⟩
theorem goes_ok {E : Env} (hEo : E.Ok) (hmix : E.P.follows .mixedOrders = true) {c c' : Cf} (h : Goes E c c') : ∀ {s : Ren} {fr : Frame} {cs : List Frame} {w : World}, CfR E s c fr cs w → ∀ tail,
    ∃ s' fr' cs' w', Steps E.P (lone fr (cs ++ tail) w) (lone fr' (cs' ++ tail) w') ∧ CfR E s' c' fr' cs' w' ∧ Ev s c.st w s' c'.st w' ∧ baseA c' = baseA c := by
  induction h with
  | refl c => intro s fr cs w hR tail; exact ⟨s, fr, cs, w, .refl _ _, hR, .refl _ _ _, rfl⟩
  | head h1 _ ih =>
    intro s fr cs w hR tail
    have hs := h1 (fun _ _ _ => none)
    obtain ⟨s1, fr1, cs1, w1, a1, a2, a3⟩ := stepA_ok (tail := tail) hEo hmix (sub := fun _ _ _ => none) (fun _ _ _ _ _ h => by cases h) hR hs
    obtain ⟨s2, fr2, cs2, w2, b1, b2, b3, b4⟩ := ih a2 tail
    exact ⟨s2, fr2, cs2, w2, a1.trans b1, b2, a3.trans b3, b4.trans (stepA_base hs)⟩
/-- THE RUN IS THE MODEL's. -/
theorem runF_ok {E : Env} (hEo : E.Ok) (hmix : E.P.follows .mixedOrders = true) : ∀ (n : Nat) {c : Cf} {f : Fin}, runF E n c = some f → ∀ {s : Ren} {fr : Frame} {cs : List Frame} {w : World}, CfR E s c fr cs w → ∀ tail,
    ∃ s' fr' w' e st', Steps E.P (lone fr (cs ++ tail) w) (lone fr' tail w') ∧ fr'.leaving E.P w' e ∧ FinR s' f e st' ∧ Mem s' st' w' ∧ Ev s c.st w s' st' w' ∧ fr'.fn = baseA c
  | 0, c, f, h, s, fr, cs, w, hR, tail => by cases h
  | n + 1, c0, f, h, s, fr, cs, w, hR, tail => by
    have h : fwd E c0 (fun c => goOn (stepA E (subF E (runF E n)) c) (runF E n)) = some f := h
    obtain ⟨c, h, hgo⟩ := fwd_ok h
    obtain ⟨s0, fr0, cs0, w0, g1, hR, g3, g4⟩ := goes_ok hEo hmix hgo hR tail
    have hsub : SubOk E (subF E (runF E n)) := by
      intro g args st v st' hs s w args' hM hG hA tl
      unfold subF at hs
      split at hs
      · rename_i v0 hkn
        cases hs
        obtain ⟨w', fr', k1, k2, k3, k4, k5⟩ := known_ok hEo hkn hM hG hA tl
        exact ⟨s, w', v, fr', k1, k2, k3, k4, k5⟩
      simp only [retOf] at hs
      split at hs
      · rename_i v0 st0 hen
        cases hs
        obtain ⟨af, h1, h2, h3⟩ := enterA_some (s := s) (args' := args') (by simpa using hA) hen
        obtain ⟨s', fr', w', e, st2, q1, q2, q3, q4, q5, _⟩ := runF_ok hEo hmix n h1 (s := s) (fr := Frame.enter E.P g args' .normal) (cs := []) (w := w) ⟨h2, .nil, hM, hG⟩ tl
        cases e with
        | returned v' =>
          obtain ⟨hv, rfl⟩ := q3
          exact ⟨s', w', v', fr', q1, q2, hv, q4, q5⟩
        | panicked _ => exact q3.elim
        | outgrown => exact q3.elim
      · cases hs
    unfold goOn at h
    split at h
    · rename_i c' hs
      obtain ⟨s1, fr1, cs1, w1, h1, h2, h3⟩ := stepA_ok (tail := tail) hEo hmix hsub hR hs
      obtain ⟨s2, fr2, w2, e, st2, q1, q2, q3, q4, q5, q6⟩ := runF_ok hEo hmix n h h2 tail
      exact ⟨s2, fr2, w2, e, st2, g1.trans (h1.trans q1), q2, q3, q4, g3.trans (h3.trans q5), q6.trans ((stepA_base hs).trans g4)⟩
    · rename_i f' hs
      cases h
      obtain ⟨s2, fr2, w2, e, st2, q1, q2, q3, q4, q5, rfl, rfl⟩ := stepA_ok (tail := tail) hEo hmix hsub hR hs
      refine ⟨s2, _, w2, e, st2, g1.trans q1, q2, q3, q4, g3.trans q5, ?_⟩
      rw [← g4]
      have hcs := hR.cs
      generalize hca : c.cs = y at hcs
      cases hcs
      unfold baseA
      rw [hca]
      exact hR.fr.fn
    · cases h

end Go.Proofs.Ytfilbknnpjbmcaa.Cx
