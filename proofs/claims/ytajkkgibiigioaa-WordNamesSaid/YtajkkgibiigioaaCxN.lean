/- A closed call, run: frames, and one step of the run. No program of its own. -/
import Derived.Test.YtajkkgibiigioaaCxM
import Derived.Orders
namespace Go.Proofs.Ytajkkgibiigioaa.Cx
open Go Go.RowKit Go.BigFrame

/-- The same value, written the same way. -/
def valEq : Nat → Value → Value → Bool
  | 0, _, _ => false
  | n + 1, a, b => match a, b with
    | .bool x, .bool y => x == y
    | .int k x, .int l y => decide (k = l) && decide (x = y)
    | .string x, .string y => decide (x.data.toList = y.data.toList)
    | .pointer none, .pointer none => true
    | .pointer (some x), .pointer (some y) => decide (x = y)
    | .slice none x y, .slice none z u => Nat.beq x z && Nat.beq y u
    | .slice (some p) x y, .slice (some q) z u => decide (p = q) && Nat.beq x z && Nat.beq y u
    | .map none, .map none => true
    | .map (some x), .map (some y) => Nat.beq x y
    | .nilFunc, .nilFunc => true
    | .nilIface, .nilIface => true
    | .iface t x, .iface u y => Nat.beq t u && valEq n x y
    | .agg x, .agg y => Nat.beq x.size y.size && (x.toList.zip y.toList).all fun p => valEq n p.1 p.2
    | .tuple x, .tuple y => Nat.beq x.size y.size && (x.toList.zip y.toList).all fun p => valEq n p.1 p.2
    | _, _ => false
theorem all_zip {α : Type} {p : α × α → Bool} (hp : ∀ x, p x = true → x.1 = x.2) : ∀ {l l' : List α}, l.length = l'.length → (l.zip l').all p = true → l = l'
  | [], [], _, _ => rfl
  | [], _ :: _, h, _ => by simp at h
  | _ :: _, [], h, _ => by simp at h
  | x :: l, y :: l', h, ha => by
    simp only [List.zip_cons_cons, List.all_cons, Bool.and_eq_true] at ha
    have e : x = y := hp _ ha.1
    rw [e, all_zip hp (by simpa using h) ha.2]
theorem valEq_eq : ∀ {n : Nat} {a b : Value}, valEq n a b = true → a = b
  | 0, _, _, h => by simp [valEq] at h
  | n + 1, a, b, h => by
    unfold valEq at h
    split at h
    all_goals first
      | rfl
      | (cases h; done)
      | (simp only [Bool.and_eq_true, decide_eq_true_eq, Nat.beq_eq, beq_iff_eq] at h)
    · rw [h]
    · rw [h.1, h.2]
    · rename_i x y
      cases x; cases y
      simp only at h
      rw [Array.toList_inj.1 h]
    · rw [h]
    · rw [h.1, h.2]
    · rw [h.1.1, h.1.2, h.2]
    · rw [h]
    · rw [h.1, valEq_eq h.2]
    · have := all_zip (fun x hx => valEq_eq (n := n) hx) (by simpa using h.1) h.2
      rw [Array.toList_inj.1 this]
    · have := all_zip (fun x hx => valEq_eq (n := n) hx) (by simpa using h.1) h.2
      rw [Array.toList_inj.1 this]

structure AF where
  fn : FuncId
  nt : Nat
  tm : T Value
  todo : List Item
  defers : List Deferred
  mode : FrameMode
  kind : CallKind
  round : Option Nat
structure Cf where
  fr : AF
  cs : List AF
  st : St
inductive Fin where
  | ret (v : Value) (st : St)
  | pan (ch : List PanicEntry) (st : St)
inductive Out where
  | next (c : Cf)
  | fin (f : Fin)

noncomputable def evC (x : Operand) : Nat → T Value → Option Value :=
  match x with
  | .tmp t => fun _ tm => tm.get t
  | .const v => fun _ _ => bif plainV FUEL v then some v else none
  | .global g => fun ng _ => bif Nat.blt g ng then some (.pointer (some ⟨g, 0, none⟩)) else none
  | .func f => fun _ _ => some (.func (.func f) #[] #[])
noncomputable def evT (ng : Nat) (tm : T Value) (x : Operand) : Option Value := evC x ng tm

/-- A slot written, if there is such a slot. -/
noncomputable def putT {β : Type} (dst : Option Tmp) (v : Value) (nt : Nat) (tm : T Value) (K : T Value → Option β) : Option β :=
  match dst with
  | none => K tm
  | some d => bif Nat.blt d nt then T.put (some v) FUEL tm d K else none

/-- Is an operation wanted? -/
noncomputable def wantA (ops : Array Oper) (tm : T Value) (o : Oper) : Option Bool :=
  match o.guard with
  | none => some true
  | some (j, want) => match ops[j]? with
    | some oj => match oj.dst with
      | some d => match tm.get d with
        | some (.bool b) => some (b == want)
        | some _ => some false
        | none => none
      | none => some false
    | none => some false

noncomputable def enterA {β : Type} (P : Program) (f : FuncId) (args : List Value) (kind : CallKind) (K : AF → Option β) : Option β :=
  match P.funcs[f]? with
  | some fn => match fn.body with
    | some c => ofList args 0 .leaf fun tm => K ⟨f, Nat.max fn.ntmps args.length, tm, [.code c], [], .run, kind, none⟩
    | none => none
  | none => none

abbrev Sub := FuncId → Array Value → St → Option (Value × St)
/-- Operations that ask nothing of memory; those that only read it. -/
noncomputable def pureK (op : Op) : Bool :=
  match op with
  | .move _ | .assign _ | .pick .. | .build .. | .nilCheck _ | .unOp .. | .makeInterface .. | .makeFunc .. | .fieldAddr .. | .field .. | .indexAddr .. | .index .. | .typeAssert .. | .extract .. => true
  | _ => false
noncomputable def readK (op : Op) : Bool :=
  match op with
  | .load .. | .lookup .. | .slice .. | .convert .. | .binOp .. => true
  | .call { callee := .builtin .len, .. } | .call { callee := .builtin .cap, .. } | .call { callee := .builtin .min, .. } | .call { callee := .builtin .max, .. } => true
  | _ => false
inductive Cls where
  | skp
  | pur
  | rd
  | eff
noncomputable def clsOf (op : Op) : Cls := bif pureK op then .pur else bif readK op then .rd else .eff
/-- An operation with its number and the numbers of those that stand ahead of it. -/
structure PR where
  i : Nat
  m : Nat
  o : Oper
/-- What became of it. -/
structure Rec where
  i : Nat
  m : Nat
  o : Oper
  tm : T Value
  cls : Cls
  v : Value
  s1 : St
  s2 : St
noncomputable def maskOf (o : Oper) (acc : List Nat) : Nat := o.after.toList.foldl (fun s e => bif Region.binds .any e then s ||| (1 <<< e.on ||| acc.getD e.on 0) else s) 0
noncomputable def masks : List Oper → List Nat → List Nat
  | [], acc => acc
  | o :: r, acc => masks r (acc ++ [maskOf o acc])
noncomputable def pre : List Oper → List Nat → Nat → List PR
  | o :: r, m :: ms, i => ⟨i, m, o⟩ :: pre r ms (Nat.succ i)
  | _, _, _ => []
noncomputable def preOf (ops : Array Oper) : List PR := pre ops.toList (masks ops.toList []) 0
noncomputable def noClash (ops : Array Oper) (p q : PR) : Bool :=
  match q.o.dst with
  | none => true
  | some d => (match p.o.dst with
      | some d' => !Nat.beq d d'
      | none => true) && (bif (p.o.looksAt ops).any (fun t => Nat.beq t d) then Nat.testBit p.m q.i || Nat.testBit q.m p.i else true)
/-- What is asked of a region once and for all. -/
noncomputable def regOk (ops : Array Oper) : Bool :=
  (preOf ops).all (fun p => p.o.after.toList.all fun e => !Region.binds .any e || Nat.blt e.on p.i) && (preOf ops).all fun p => (preOf ops).all fun q => Nat.beq p.i q.i || noClash ops p q

noncomputable def passRes {β : Type} (r : Res) : Sub → Oper → Nat → T Value → (Cls → Value → T Value → St → Option β) → Option β :=
  match r with
  | .val v st => fun _ o nt tm K => putT o.dst v nt tm fun tm => K (clsOf o.op) v tm st
  | .skip st => fun _ o nt tm K => putT o.dst undef nt tm fun tm => K .eff undef tm st
  | .enter f args st => fun sub o nt tm K => match sub f args st with
    | some (v, st) => putT o.dst v nt tm fun tm => K .eff v tm st
    | none => none
  | _ => fun _ _ _ _ _ => none
noncomputable def passOne {β : Type} (E : Env) (sub : Sub) (nt : Nat) (ops : Array Oper) (o : Oper) (tm : T Value) (st : St) (K : Cls → Value → T Value → St → Option β) : Option β :=
  match wantA ops tm o with
  | none => none
  | some false => putT o.dst undef nt tm fun tm => K .skp undef tm st
  | some true => match aop E (evT E.ng tm) o st with
    | some r => passRes r sub o nt tm K
    | none => none
/-- The operations of a drawn region, each in its turn. -/
noncomputable def pass {β : Type} (E : Env) (sub : Sub) (nt : Nat) (ops : Array Oper) (l : List PR) : T Value → St → (List Rec → T Value → St → Option β) → Option β :=
  List.rec (motive := fun _ => T Value → St → (List Rec → T Value → St → Option β) → Option β) (fun tm st K => K [] tm st)
    (fun p _ ih tm st K => passOne E sub nt ops p.o tm st fun cls v tm' st' => ih tm' st' fun rs tmF stF => K (⟨p.i, p.m, p.o, tm, cls, v, st, st'⟩ :: rs) tmF stF) l
noncomputable def isEff (r : Rec) : Bool :=
  match r.cls with
  | .eff => true
  | _ => false
noncomputable def sameAt (E : Env) (r : Rec) (s : St) : Bool :=
  match aop E (evT E.ng r.tm) r.o s with
  | some (.val v _) => valEq FUEL v r.v
  | _ => false
noncomputable def checkOne (E : Env) (effs : List Rec) (r : Rec) : Bool :=
  match r.cls with
  | .rd => effs.all fun e => bif Nat.blt e.i r.i then Nat.testBit r.m e.i || sameAt E r e.s1 else Nat.testBit e.m r.i || sameAt E r e.s2
  | .eff => effs.all fun e => bif Nat.blt e.i r.i then Nat.testBit r.m e.i else true
  | _ => true
/-- Does what was done hold in any other order? -/
noncomputable def checkAll (E : Env) (rs : List Rec) : Bool := rs.all (checkOne E (rs.filter isEff))

noncomputable def raiseA (fr : AF) (vs : List PanicEntry) : AF :=
  match fr with
  | ⟨fn, nt, tm, todo, ds, .panicking ch, kd, ro⟩ => ⟨fn, nt, tm, todo, ds, .panicking (vs ++ ch), kd, ro⟩
  | ⟨fn, nt, tm, todo, ds, _, kd, ro⟩ => ⟨fn, nt, tm, todo, ds, .panicking vs, kd, ro⟩
/-- The caller goes on with a value. -/
noncomputable def finishA (fr : AF) (v : Value) (K : AF → Option Out) : Option Out :=
  match fr with
  | ⟨fn, nt, tm, .inRegion ops (i :: r) :: k, ds, mode, kd, ro⟩ => match ops[i]? with
    | some o => putT o.dst v nt tm fun tm => K ⟨fn, nt, tm, .inRegion ops r :: k, ds, mode, kd, ro⟩
    | none => none
  | _ => none
noncomputable def settleA : FrameMode → FrameMode
  | .panicking ({ recovered := true, .. } :: older) => match older.dropWhile (!·.goexit) with
    | [] => .returning
    | rest => .panicking rest
  | m => m

noncomputable def doRet (kd : CallKind) (cs : List AF) (st : St) (v : Value) : Option Out :=
  match kd, cs with
  | .normal, caller :: rest => finishA caller v fun caller => some (.next ⟨caller, rest, st⟩)
  | .deferred, ⟨fn, nt, tm, todo, ds, mode, kd, ro⟩ :: rest => some (.next ⟨⟨fn, nt, tm, todo, ds, settleA mode, kd, ro⟩, rest, st⟩)
  | .normal, [] => some (.fin (.ret v st))
  | _, _ => none

/-- recover(), in a deferred call of a frame. -/
noncomputable def recA (caller : AF) : Option (Value × AF) :=
  match caller with
  | ⟨fn, nt, tm, todo, ds, .panicking ({ v, recovered := false, goexit := false } :: older), kd, ro⟩ => some (v, ⟨fn, nt, tm, todo, ds, .panicking ({ v, recovered := true } :: older), kd, ro⟩)
  | _ => none

noncomputable def resV (P : Program) (st : St) (tm : T Value) : ResultVar → Option Value
  | .tmp t => tm.get t
  | .cell a t => match tm.get a with
    | some (.pointer (some ⟨g, off, none⟩)) => loadV P st t g off
    | _ => none
noncomputable def resVs (P : Program) (st : St) (tm : T Value) : List ResultVar → Option (List Value)
  | [] => some []
  | r :: rs => match resV P st tm r with
    | some v => match resVs P st tm rs with
      | some vs => some (v :: vs)
      | none => none
    | none => none

/-- What an operation comes to: the frame goes on, or another one is entered. -/
noncomputable def opRes (r : Res) : Env → FuncId → Nat → T Value → Oper → Array Oper → List Nat → List Item → List Deferred → CallKind → Option Nat → List AF → Option Out :=
  match r with
  | .val v st => fun _ fn nt tm o ops r k ds kd ro cs => putT o.dst v nt tm fun tm => some (.next ⟨⟨fn, nt, tm, .inRegion ops r :: k, ds, .run, kd, ro⟩, cs, st⟩)
  | .skip st => fun _ fn nt tm o ops r k ds kd ro cs => putT o.dst undef nt tm fun tm => some (.next ⟨⟨fn, nt, tm, .inRegion ops r :: k, ds, .run, kd, ro⟩, cs, st⟩)
  | .enter _ _ _ => fun _ _ _ _ _ _ _ _ _ _ _ _ => none
  | .defer d st => fun _ fn nt tm o ops r k ds kd ro cs => match ro with
    | none => putT o.dst undef nt tm fun tm => some (.next ⟨⟨fn, nt, tm, .inRegion ops r :: k, d :: ds, .run, kd, ro⟩, cs, st⟩)
    | some _ => none
  | .recover st => fun _ fn nt tm o ops r k ds kd ro cs => match ro, kd, cs with
    | none, .deferred, c :: cs => match recA c with
      | some (v, c) => putT o.dst v nt tm fun tm => some (.next ⟨⟨fn, nt, tm, .inRegion ops r :: k, ds, .run, kd, ro⟩, c :: cs, st⟩)
      | none => putT o.dst .nilIface nt tm fun tm => some (.next ⟨⟨fn, nt, tm, .inRegion ops r :: k, ds, .run, kd, ro⟩, c :: cs, st⟩)
    | none, .normal, _ => putT o.dst .nilIface nt tm fun tm => some (.next ⟨⟨fn, nt, tm, .inRegion ops r :: k, ds, .run, kd, ro⟩, cs, st⟩)
    | _, _, _ => none
  | .panic _ _ => fun _ _ _ _ _ _ _ _ _ _ _ _ => none
  | .round _ _ _ _ _ _ => fun _ _ _ _ _ _ _ _ _ _ _ _ => none

noncomputable def leaveA (jump : Bool) (fn : FuncId) (nt : Nat) (tm : T Value) (todo : List Item) (ds : List Deferred) (kd : CallKind) (ro : Option Nat) (cs : List AF) (st : St) : Option Out :=
  match ro with
  | none => bif jump then some (.next ⟨⟨fn, nt, tm, todo, ds, .returning, kd, none⟩, cs, st⟩) else none
  | some _ => none

abbrev Ex := List Item → Env → Sub → FuncId → Nat → T Value → List Deferred → CallKind → Option Nat → List AF → St → Option Out
noncomputable def go1 (todo : List Item) (fn : FuncId) (nt : Nat) (tm : T Value) (ds : List Deferred) (kd : CallKind) (ro : Option Nat) (cs : List AF) (st : St) : Option Out :=
  some (.next ⟨⟨fn, nt, tm, todo, ds, .run, kd, ro⟩, cs, st⟩)
noncomputable def exCode (c : Code) : Ex :=
  match c with
  | .skip => fun k _ _ fn nt tm ds kd ro cs st => go1 k fn nt tm ds kd ro cs st
  | .label _ => fun k _ _ fn nt tm ds kd ro cs st => go1 k fn nt tm ds kd ro cs st
  | .ret => fun k _ _ fn nt tm ds kd ro cs st => leaveA true fn nt tm (.code .ret :: k) ds kd ro cs st
  | .seq a b => fun k _ _ fn nt tm ds kd ro cs st => go1 (.code a :: .code b :: k) fn nt tm ds kd ro cs st
  | .cond c a b => fun k E _ fn nt tm ds kd ro cs st => match evT E.ng tm c with
    | some (.bool true) => go1 (.code a :: k) fn nt tm ds kd ro cs st
    | some (.bool false) => go1 (.code b :: k) fn nt tm ds kd ro cs st
    | _ => none
  | .block id b => fun k _ _ fn nt tm ds kd ro cs st => go1 (.code b :: .inBlock id :: k) fn nt tm ds kd ro cs st
  | .loop b => fun k _ _ fn nt tm ds kd ro cs st => go1 (.code b :: .inLoop b :: k) fn nt tm ds kd ro cs st
  | .scope b => fun k _ _ fn nt tm ds kd ro cs st => go1 (.code b :: .inScope b :: k) fn nt tm ds kd ro cs st
  | .exit id => fun k _ _ fn nt tm ds kd ro cs st => match exitTo id k with
    | some k => go1 k fn nt tm ds kd ro cs st
    | none => none
  | .goto l => fun k _ _ fn nt tm ds kd ro cs st => match gotoIn l k with
    | some k => go1 k fn nt tm ds kd ro cs st
    | none => none
  | .region _ ops false => fun k _ _ fn nt tm ds kd ro cs st => go1 (.inRegion ops (List.range ops.size) :: k) fn nt tm ds kd ro cs st
  | .region _ ops true => fun k E sub fn nt tm ds kd ro cs st => bif regOk ops then pass E sub nt ops (preOf ops) tm st fun rs tm st => bif checkAll E rs then go1 k fn nt tm ds kd ro cs st else none else none
  | _ => fun _ _ _ _ _ _ _ _ _ _ _ => none
noncomputable def exItem (x : Item) : Ex :=
  match x with
  | .code c => exCode c
  | .inBlock _ => fun k _ _ fn nt tm ds kd ro cs st => go1 k fn nt tm ds kd ro cs st
  | .inScope _ => fun k _ _ fn nt tm ds kd ro cs st => go1 k fn nt tm ds kd ro cs st
  | .inLoop b => fun k _ _ fn nt tm ds kd ro cs st => go1 (.code b :: .inLoop b :: k) fn nt tm ds kd ro cs st
  | .inRegion _ [] => fun k _ _ fn nt tm ds kd ro cs st => go1 k fn nt tm ds kd ro cs st
  | .inRegion ops (i :: r) => fun k E _ fn nt tm ds kd ro cs st => match ops[i]? with
    | none => none
    | some o => match wantA ops tm o with
      | some true => match aop E (evT E.ng tm) o st with
        | some (.enter f args st) => enterA E.P f args.toList .normal fun fr' => some (.next ⟨fr', ⟨fn, nt, tm, .inRegion ops (i :: r) :: k, ds, .run, kd, ro⟩ :: cs, st⟩)
        | some (.panic v st) => some (.next ⟨⟨fn, nt, tm, .inRegion ops (i :: r) :: k, ds, .panicking [{ v, recovered := false }], kd, ro⟩, cs, st⟩)
        | some res => opRes res E fn nt tm o ops r k ds kd ro cs
        | none => none
      | some false => putT o.dst undef nt tm fun tm => go1 (.inRegion ops r :: k) fn nt tm ds kd ro cs st
      | none => none
  | _ => fun _ _ _ _ _ _ _ _ _ _ _ => none

noncomputable def tupOf (vs : List Value) : Value :=
  match vs with
  | [v] => v
  | vs => .tuple vs.toArray
noncomputable def unwindA (panicking : Option (List PanicEntry)) (E : Env) (fn : FuncId) (nt : Nat) (tm : T Value) (todo : List Item) (ds : List Deferred) (mode : FrameMode) (kd : CallKind) (ro : Option Nat) (cs : List AF) (st : St) : Option Out :=
  match ds with
  | ⟨.fn f cap, args⟩ :: ds => match invokeA E f cap args st with
    | some (.enter f args st) => enterA E.P f args.toList .deferred fun fr' => some (.next ⟨fr', ⟨fn, nt, tm, todo, ds, mode, kd, ro⟩ :: cs, st⟩)
    | _ => none
  | [] => match E.P.funcs[fn]? with
    | some fd => match panicking with
      | none => match resVs E.P st tm fd.results.toList with
        | some vs => doRet kd cs st (tupOf vs)
        | none => none
      | some ch => match cs with
        | caller :: rest => some (.next ⟨raiseA caller ch, rest, st⟩)
        | [] => some (.fin (.pan ch st))
    | none => none
  | _ => none

noncomputable def stepA (E : Env) (sub : Sub) (c : Cf) : Option Out :=
  match c with
  | ⟨⟨fn, nt, tm, todo, ds, .run, kd, ro⟩, cs, st⟩ => match todo with
    | [] => leaveA true fn nt tm [] ds kd ro cs st
    | x :: k => exItem x k E sub fn nt tm ds kd ro cs st
  | ⟨⟨fn, nt, tm, todo, ds, .returning, kd, ro⟩, cs, st⟩ => unwindA none E fn nt tm todo ds .returning kd ro cs st
  | ⟨⟨fn, nt, tm, todo, ds, .panicking ch, kd, ro⟩, cs, st⟩ => unwindA (some ch) E fn nt tm todo ds (.panicking ch) kd ro cs st

noncomputable def retOf (r : Option Fin) : Option (Value × St) :=
  match r with
  | some (.ret v st) => some (v, st)
  | _ => none
noncomputable def goOn (o : Option Out) (K : Cf → Option Fin) : Option Fin :=
  match o with
  | some (.next c) => K c
  | some (.fin f) => some f
  | none => none
/-- The run. -/
noncomputable def runA (E : Env) (n : Nat) : Cf → Option Fin :=
  Nat.rec (motive := fun _ => Cf → Option Fin) (fun _ => none)
    (fun _ ih c => goOn (stepA E (fun f args st => retOf (enterA E.P f args.toList .normal fun fr => ih ⟨fr, [], st⟩)) c) ih) n

end Go.Proofs.Ytajkkgibiigioaa.Cx
