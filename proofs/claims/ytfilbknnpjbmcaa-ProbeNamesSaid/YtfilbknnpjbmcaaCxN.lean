/- A closed call, run: frames, and one step of the run. No program of its own. -/
import Derived.Test.YtfilbknnpjbmcaaCxM
import Derived.Orders
import Derived.Laws.IdiomStrings
namespace Go.Proofs.Ytfilbknnpjbmcaa.Cx
open Go Go.RowKit Go.BigFrame

/-- The same value, written the same way. -/
noncomputable def valEq : Nat → Value → Value → Bool
  | 0, _, _ => false
  | n + 1, a, b => match a, b with
    | .bool x, .bool y => x == y
    | .int k x, .int l y => decide (k = l) && decide (x = y)
    | .string x, .string y => eqL x.data.toList y.data.toList
    | .pointer none, .pointer none => true
    | .pointer (some x), .pointer (some y) => decide (x = y)
    | .slice none x y, .slice none z u => Nat.beq x z && Nat.beq y u
    | .slice (some p) x y, .slice (some q) z u => decide (p = q) && Nat.beq x z && Nat.beq y u
    | .map none, .map none => true
    | .map (some x), .map (some y) => Nat.beq x y
    | .nilFunc, .nilFunc => true
    | .nilIface, .nilIface => true
    | .chan (some x), .chan (some y) => Nat.beq x y
    | .func (.func f) x z, .func (.func g) y u => Nat.beq f g && (Nat.beq x.size y.size && (x.toList.zip y.toList).all fun p => valEq n p.1 p.2) && (Nat.beq z.size u.size && (z.toList.zip u.toList).all fun p => valEq n p.1 p.2)
    | .func (.yield f) x z, .func (.yield g) y u => Nat.beq f g && (Nat.beq x.size y.size && (x.toList.zip y.toList).all fun p => valEq n p.1 p.2) && (Nat.beq z.size u.size && (z.toList.zip u.toList).all fun p => valEq n p.1 p.2)
    | .iface t x, .iface u y => Nat.beq t u && valEq n x y
    | .agg x, .agg y => Nat.beq x.size y.size && (x.toList.zip y.toList).all fun p => valEq n p.1 p.2
    | .tuple x, .tuple y => Nat.beq x.size y.size && (x.toList.zip y.toList).all fun p => valEq n p.1 p.2
    | _, _ => false
theorem all_zip {α : Type} {p : α × α → Bool} (hp : ∀ x, p x = true → x.1 = x.2) : ∀ {l l' : List α}, l.length = l'.length → (l.zip l').all p = true → l = l'
  | [], [], _, _ => rfl
  | [], _ :: _, h, _ => by simp at h
  | _ :: _, [], h, _ => by simp at h
  | x :: l, y :: l', h, ha => by
    simp only [List.zip_cons_cons, List.all_cons, Bool.and_eq_true] at ha
    have e : x = y := hp _ ha.1
    rw [e, all_zip hp (by simpa using h) ha.2]
theorem valEq_eq : ∀ {n : Nat} {a b : Value}, valEq n a b = true → a = b
  | 0, _, _, h => by simp [valEq] at h
  | n + 1, a, b, h => by
    unfold valEq at h
    split at h
    all_goals first
      | rfl
      | (cases h; done)
      | (simp only [eqL_eq, Bool.and_eq_true, decide_eq_true_eq, Nat.beq_eq, beq_iff_eq] at h)
    · rw [h]
    · rw [h.1, h.2]
    · rename_i x y
      cases x; cases y
      simp only at h
      rw [Array.toList_inj.1 h]
    · rw [h]
    · rw [h.1, h.2]
    · rw [h.1.1, h.1.2, h.2]
    · rw [h]
    · rw [h]
    · have h1 := all_zip (fun x hx => valEq_eq (n := n) hx) (by simpa using h.1.2.1) h.1.2.2
      have h2 := all_zip (fun x hx => valEq_eq (n := n) hx) (by simpa using h.2.1) h.2.2
      rw [h.1.1, Array.toList_inj.1 h1, Array.toList_inj.1 h2]
    · have h1 := all_zip (fun x hx => valEq_eq (n := n) hx) (by simpa using h.1.2.1) h.1.2.2
      have h2 := all_zip (fun x hx => valEq_eq (n := n) hx) (by simpa using h.2.1) h.2.2
      rw [h.1.1, Array.toList_inj.1 h1, Array.toList_inj.1 h2]
    · rw [h.1, valEq_eq h.2]
    · have := all_zip (fun x hx => valEq_eq (n := n) hx) (by simpa using h.1) h.2
      rw [Array.toList_inj.1 this]
    · have := all_zip (fun x hx => valEq_eq (n := n) hx) (by simpa using h.1) h.2
      rw [Array.toList_inj.1 this]

structure AF where
  fn : FuncId
  nt : Nat
  tm : TV
  todo : List Item
  defers : List Deferred
  mode : FrameMode
  kind : CallKind
  round : Option Nat
structure Cf where
  fr : AF
  cs : List AF
  st : St
inductive Fin where
  | ret (v : Value) (st : St)
  | pan (ch : List PanicEntry) (st : St)
  /-- stopped on the way (CxCK): the frames, without what is in their slots -/
  | cut (fr : AF) (cs : List AF)
inductive Out where
  | next (c : Cf)
  | fin (f : Fin)

noncomputable def evC (x : Operand) : Nat → TV → Option Value :=
  match x with
  | .tmp t => fun _ tm => tm.get t
  | .const v => fun _ _ => bif plainV FUEL v then some v else none
  | .global g => fun ng _ => bif Nat.blt g ng then some (.pointer (some ⟨g, 0, none⟩)) else none
  | .func f => fun _ _ => some (.func (.func f) #[] #[])
noncomputable def evT (ng : Nat) (tm : TV) (x : Operand) : Option Value := evC x ng tm

/-- A slot written, if there is such a slot. -/
noncomputable def putT {β : Type} (dst : Option Tmp) (v : Value) (nt : Nat) (tm : TV) (K : TV → Option β) : Option β :=
  match dst with
  | none => K tm
  | some d => bif Nat.blt d nt then TV.put (some v) FUEL tm d K else none

/-- A list laid into a map. -/
noncomputable def ofListT {α β : Type} : List α → Nat → T α → (T α → Option β) → Option β
  | [], _, t, K => K t
  | v :: r, i, t, K => T.put (some v) FUEL t i fun t' => ofListT r (Nat.succ i) t' K
theorem ofListT_ok {α β : Type} : ∀ {vs : List α} {i : Nat} {t : T α} {K : T α → Option β} {b : β}, ofListT vs i t K = some b →
    ∃ t', K t' = some b ∧ ∀ j, t'.get j = if i ≤ j ∧ j < i + vs.length then vs[j - i]? else t.get j
  | [], i, t, K, b, h => ⟨t, h, fun j => by rw [if_neg (by simp only [List.length_nil]; omega)]⟩
  | v :: r, i, t, K, b, h => by
    unfold ofListT at h
    obtain ⟨t1, h1, g1⟩ := T.put_some h
    obtain ⟨t2, h2, g2⟩ := ofListT_ok h1
    refine ⟨t2, h2, fun j => ?_⟩
    rw [g2, g1]
    simp only [List.length_cons]
    by_cases hj : j = i
    · subst hj
      rw [if_neg (by omega), if_pos (by omega)]
      simp
    · by_cases hc : i + 1 ≤ j ∧ j < i + 1 + r.length
      · rw [if_pos hc, if_pos (by omega)]
        have : j - i = (j - i.succ) + 1 := by omega
        rw [this]
        simp
      · rw [if_neg (by omega), if_neg hj, if_neg (by omega)]
/-- A region's operations as a map: made once. -/
noncomputable def opsT (ops : Array Oper) : Option (T Oper) := ofListT ops.toList 0 .leaf some
noncomputable def opAt (ops : Array Oper) (i : Nat) : Option Oper :=
  match opsT ops with
  | some t => t.get i
  | none => ops[i]?
theorem opAt_eq (ops : Array Oper) (i : Nat) : opAt ops i = ops[i]? := by
  unfold opAt
  split
  · rename_i t ht
    obtain ⟨t', h1, h2⟩ := ofListT_ok ht
    cases h1
    rw [h2, T.get_leaf]
    by_cases hi : i < ops.size
    · rw [if_pos (by simp; exact hi)]
      simp
    · rw [if_neg (by simp; omega)]
      rw [Array.getElem?_eq_none (by omega)]
  · rfl

/-- Is an operation wanted? -/
noncomputable def wantA (ops : Array Oper) (tm : TV) (o : Oper) : Option Bool :=
  match o.guard with
  | none => some true
  | some (j, want) => match opAt ops j with
    | some oj => match oj.dst with
      | some d => match tm.get d with
        | some (.bool b) => some (b == want)
        | some _ => some false
        | none => none
      | none => some false
    | none => some false

noncomputable def enterA {β : Type} (P : Program) (f : FuncId) (args : List Value) (kind : CallKind) (K : AF → Option β) : Option β :=
  match P.funcs[f]? with
  | some fn => match fn.body with
    | some c => ofList args 0 .leaf fun tm => forceN (Nat.max fn.ntmps args.length) fun nt => K ⟨f, nt, tm, [.code c], [], .run, kind, none⟩
    | none => none
  | none => none

/-- '[]byte(s)': new memory of a room that is not known. -/
noncomputable def bytesV (l : List UInt8) : List Value := l.map fun b => .int .u8 (b.toNat : Int)
noncomputable def strBytesA (P : Program) (src dst : TypeId) (b : ByteArray) (st : St) : Option (Value × St) :=
  match P.underlying src, P.underlying dst with
  | some .string, some (.slice e) => match P.underlying e with
    | some (.int .u8) => forceN b.data.toList.length fun n => ofList (bytesV b.data.toList) 0 .leaf fun t => newO (.cells n t e 1 true .mark) st fun g st' => some (.slice (some ⟨g, 0, none⟩) n BIG, st')
    | _ => none
  | _, _ => none
/-- Operations that are not done in regions that draw their order. -/
noncomputable def lastA (P : Program) (ev : Operand → Option Value) (o : Oper) (st : St) : Option Res :=
  match o.op with
  | .convert src dst x => match ev x with
    | some (.string b) => pairA (strBytesA P src dst b st)
    | _ => none
  | _ => none
theorem strBytesA_ok {P : Program} {s : Ren} {st st' : St} {w : World} {src dst : TypeId} {b : ByteArray} {v : Value} (hM : Mem s st w) (h : strBytesA P src dst b st = some (v, st')) : SV P s st w (convert src dst (.string b)) v st' := by
  unfold strBytesA at h
  split at h
  · rename_i e hs hd
    split at h
    · rename_i he
      rw [forceN_eq] at h
      obtain ⟨tt, h1, ht⟩ := ofList_ok h
      have hge := grownCap_ge w b.size 0 e
      have hsz : b.data.toList.length = b.size := Array.length_toList
      have hrow : (bytesRow b (grownCap w b.size 0 e)).size = grownCap w b.size 0 e := by
        have : b.data.size = b.size := rfl
        simp [bytesRow, this]
        omega
      obtain ⟨s', st1, h2, m1, e1, hs'⟩ := newO_ok (w := w.drew) (hM.draws rfl) h1 (.cells (bytesRow b (grownCap w b.size 0 e)) e ((bytesRow b (grownCap w b.size 0 e)).size, (bytesRow b (grownCap w b.size 0 e)).size + 1)) (grownCap w b.size 0 e) (fun s' hle hc => by
        refine ⟨.inr rfl, ?_, ?_, rfl⟩
        · intro k u hk hu
          rw [ht, if_pos ⟨Nat.zero_le _, by rw [Nat.zero_add, bytesV, List.length_map]; exact hk⟩] at hu
          simp only [bytesV, Nat.sub_zero, List.getElem?_map, Option.map_eq_some_iff] at hu
          obtain ⟨x, hx, rfl⟩ := hu
          refine ⟨.int .u8 x.toNat, ?_, .int _ _⟩
          obtain ⟨hk2, rfl⟩ := List.getElem?_eq_some_iff.1 hx
          have := bytesRow_at b (grownCap w b.size 0 e) k (by simpa using hk2)
          rw [this]
          simp
        · simp only [if_true]
          rw [hrow, hsz]
          exact ⟨hge, by omega, by omega⟩)
      cases h2
      have e0 : Ev s st w s st w.drew := Ev.draws rfl rfl rfl rfl
      refine ⟨s', _, .slice (some ⟨w.heap.size, 0, none⟩) b.data.toList.length (grownCap w b.size 0 e), ?_, .sliceEnd _ _ _ 0 _ _ _ hs' rfl rfl, m1, e0.trans e1⟩
      rw [hsz]
      exact run_bytes_of_string w src dst e b hs hd he
    · cases h
  · cases h
theorem lastA_ok {P : Program} {s : Ren} {st : St} {w : World} {ev : Operand → Option Value} {cev : Operand → Value} {o : Oper} {r : Res} (hM : Mem s st w) (hev : ∀ x v, ev x = some v → VR s v (cev x)) (h : lastA P ev o st = some r) :
    Snd P s st w (execOp cev o) r := by
  unfold lastA at h
  obtain ⟨dst, op, type, pos, after, guard⟩ := o
  cases op <;> simp only at h
  case convert src dst x =>
    split at h
    · rename_i b hb
      obtain ⟨v, st', e, rfl⟩ := pairA_some h
      have hx := hev _ _ hb
      have hx' : cev x = .string b := by generalize cev x = y at hx; cases hx; rfl
      have := strBytesA_ok (P := P) hM e
      rw [← hx'] at this
      exact .of_sv this
    · cases h
  all_goals cases h

abbrev Sub := FuncId → Array Value → St → Option (Value × St)
/-- Operations that ask nothing of memory; those that only read it. -/
noncomputable def pureK (op : Op) : Bool :=
  match op with
  | .move _ | .assign _ | .pick .. | .build .. | .nilCheck _ | .unOp .. | .makeInterface .. | .makeFunc .. | .fieldAddr .. | .field .. | .indexAddr .. | .index .. | .typeAssert .. | .extract .. => true
  | _ => false
noncomputable def readK (op : Op) : Bool :=
  match op with
  | .load .. | .lookup .. | .slice .. | .convert .. | .binOp .. => true
  | .call { callee := .builtin .len, .. } | .call { callee := .builtin .cap, .. } | .call { callee := .builtin .min, .. } | .call { callee := .builtin .max, .. } => true
  | _ => false
/-- Operations that make new memory out of values, and ask nothing of what is there. -/
noncomputable def newK (op : Op) : Bool :=
  match op with
  | .alloc _ | .box .. | .buildSlice .. | .makeSlice .. | .makeMap .. => true
  | _ => false
inductive Cls where
  | skp
  | pur
  | rd
  | new
  | ins
  | eff
noncomputable def clsOf (op : Op) : Cls := bif pureK op then .pur else bif readK op then .rd else bif newK op then .new else .eff
noncomputable def isE : Cls → Bool
  | .eff => true
  | _ => false
/-- An operation with its number, the numbers of those that stand ahead of it, and how many ahead of it make new memory. -/
structure PR where
  i : Nat
  m : Nat
  k : Nat
  o : Oper
/-- What became of it; 'nb': the new block; 'news': the new blocks ahead of it, each with the number of its operation. -/
structure Rec where
  i : Nat
  m : Nat
  k : Nat
  o : Oper
  tm : TV
  cls : Cls
  v : Value
  s1 : St
  s2 : St
  nb : Option (Nat × AObj)
  news : List (Nat × Nat)
noncomputable def maskOf (o : Oper) (acc : List Nat) : Nat := o.after.toList.foldl (fun s e => bif Region.binds .any e then s ||| (1 <<< e.on ||| acc.getD e.on 0) else s) 0
noncomputable def masks : List Oper → List Nat → List Nat
  | [], acc => acc
  | o :: r, acc => masks r (acc ++ [maskOf o acc])
noncomputable def pre : List Oper → List Nat → Nat → Nat → List PR
  | o :: r, m :: ms, i, k => ⟨i, m, k, o⟩ :: pre r ms (Nat.succ i) (bif newK o.op then Nat.succ k else k)
  | _, _, _, _ => []
noncomputable def preOf (ops : Array Oper) : List PR := pre ops.toList (masks ops.toList []) 0 0
noncomputable def newsIn : List Oper → Nat
  | [] => 0
  | o :: r => bif newK o.op then Nat.succ (newsIn r) else newsIn r
noncomputable def newsOf (ops : Array Oper) : Nat := newsIn ops.toList
noncomputable def noClash (ops : Array Oper) (p q : PR) : Bool :=
  match q.o.dst with
  | none => true
  | some d => (match p.o.dst with
      | some d' => !Nat.beq d d'
      | none => true) && (bif (p.o.looksAt ops).any (fun t => Nat.beq t d) then Nat.testBit p.m q.i || Nat.testBit q.m p.i else true)
/-- What is asked of a region once and for all. -/
noncomputable def regOk (ops : Array Oper) : Bool :=
  (preOf ops).all (fun p => p.o.after.toList.all fun e => !Region.binds .any e || Nat.blt e.on p.i) && (preOf ops).all fun p => (preOf ops).all fun q => Nat.beq p.i q.i || noClash ops p q

/- The same, done fast. -/
noncomputable def optN : Option Nat → Nat
  | some n => n
  | none => 0
noncomputable def maskF (o : Oper) (tr : T Nat) : Nat := o.after.toList.foldl (fun s e => bif Region.binds .any e then s ||| (1 <<< e.on ||| optN (tr.get e.on)) else s) 0
noncomputable def preG {β : Type} (o : Oper) (tr : T Nat) (i k m : Nat) (K : T Nat → PR → Option β) : Option β := T.put (some m) FUEL tr i fun tr' => K tr' ⟨i, m, k, o⟩
noncomputable def preF {β : Type} : List Oper → T Nat → Nat → Nat → (List PR → Option β) → Option β
  | [], _, _, _, K => K []
  | o :: r, tr, i, k, K => preG o tr i k (maskF o tr) fun tr' p => preF r tr' (Nat.succ i) (bif newK o.op then Nat.succ k else k) fun l => K (p :: l)
noncomputable def dstT {β : Type} : List PR → T PR → (T PR → Option β) → Option β
  | [], t, K => K t
  | p :: r, t, K => match p.o.dst with
    | none => dstT r t K
    | some d => match t.get d with
      | some _ => none
      | none => T.put (some p) FUEL t d fun t' => dstT r t' K
noncomputable def lookF (p : PR) (q : Option PR) : Bool :=
  match q with
  | none => true
  | some q => Nat.beq p.i q.i || (Nat.testBit p.m q.i || Nat.testBit q.m p.i)
noncomputable def regF (ops : Array Oper) (l : List PR) : Bool :=
  match dstT l .leaf fun t => some (l.all fun p => (p.o.after.toList.all fun e => !Region.binds .any e || Nat.blt e.on p.i) && (p.o.looksAt ops).all fun u => lookF p (t.get u)) with
  | some true => true
  | _ => false
noncomputable def okR (ops : Array Oper) : Option (List PR) :=
  match preF ops.toList .leaf 0 0 some with
  | some l => bif regF ops l then some l else none
  | none => none

/- A map that the region itself makes and fills: what fills it stands in no order, and nothing else of the region sees it. -/
noncomputable def mapK (op : Op) : Bool :=
  match op with
  | .makeMap .. => true
  | _ => false
noncomputable def insTmp (op : Op) : Option Tmp :=
  match op with
  | .insert _ (.tmp t) _ _ => some t
  | _ => none
noncomputable def tmpIs (t : Tmp) (d : Option Tmp) : Bool :=
  match d with
  | some d => Nat.beq t d
  | none => false
noncomputable def secF (ops : Array Oper) (o : Oper) : Bool := bif mapK o.op then ops.toList.any fun q => match insTmp q.op with
  | some t => tmpIs t o.dst
  | none => false
  else false
noncomputable def keyOf (ops : Array Oper) (i : Nat) (o : Oper) : Nat := bif secF ops o then ops.size else i
/-- What fills such a map: the map's block, the key, the value. -/
noncomputable def insO (E : Env) (tm : TV) (op : Op) : Option (Nat × Value × Value) :=
  match op with
  | .insert _ (.tmp t) k x => match tm.get t, evT E.ng tm k, evT E.ng tm x with
    | some (.map (some g)), some a, some b => some (g, a, b)
    | _, _, _ => none
  | _ => none
noncomputable def insF (E : Env) (n : Nat) (news : List (Nat × Nat)) (tm : TV) (op : Op) : Bool :=
  match insO E tm op with
  | some p => news.any fun q => Nat.beq q.1 n && Nat.beq q.2 p.1
  | none => false

/-- Blocks put out of sight, and back again. -/
noncomputable def hidT {β : Type} : List Nat → TH → (List (Nat × Option AObj) → TH → Option β) → Option β
  | [], H, K => K [] H
  | g :: r, H, K => TH.put none FUEL H g fun H' => hidT r H' fun l H'' => K ((g, H.get g) :: l) H''
noncomputable def mergeT {β : Type} : List (Nat × Option AObj) → TH → (TH → Option β) → Option β
  | [], H, K => K H
  | p :: r, H, K => mergeT r H fun H' => TH.put p.2 FUEL H' p.1 K
/-- The new blocks that do not stand ahead. -/
noncomputable def notAhead (m : Nat) (news : List (Nat × Nat)) : List Nat := news.filterMap fun n => bif Nat.testBit m n.1 then none else some n.2

noncomputable def passRes {β : Type} (r : Res) : Sub → Oper → Nat → TV → St → List (Nat × Option AObj) → (Cls → Value → TV → St → Option (Nat × AObj) → Option β) → Option β :=
  match r with
  | .val v S => fun _ o nt tm st l K => bif isE (clsOf o.op) then mergeT l S.H fun H => putT o.dst v nt tm fun tm => K .eff v tm ⟨H, S.c, S.lim⟩ none else putT o.dst v nt tm fun tm => K (clsOf o.op) v tm st none
  | .skip S => fun _ o nt tm _ l K => mergeT l S.H fun H => putT o.dst undef nt tm fun tm => K .eff undef tm ⟨H, S.c, S.lim⟩ none
  | .enter f args S => fun sub o nt tm _ l K => match sub f args S with
    | some (v, S) => mergeT l S.H fun H => putT o.dst v nt tm fun tm => K .eff v tm ⟨H, S.c, S.lim⟩ none
    | none => none
  | _ => fun _ _ _ _ _ _ _ => none
noncomputable def passNew {β : Type} (E : Env) (nt : Nat) (g : Nat) (o : Oper) (tm : TV) (st : St) (K : Cls → Value → TV → St → Option (Nat × AObj) → Option β) : Option β :=
  match aop E (evT E.ng tm) o ⟨.leaf, g, Nat.succ g⟩ with
  | some (.val v S) => match S.H.get g with
    | some ob => TH.put (some ob) FUEL st.H g fun H => putT o.dst v nt tm fun tm => K .new v tm ⟨H, st.c, st.lim⟩ (some (g, ob))
    | none => putT o.dst v nt tm fun tm => K .new v tm st none
  | _ => none
noncomputable def passOne {β : Type} (E : Env) (sub : Sub) (nt : Nat) (ops : Array Oper) (R0 : Nat) (p : PR) (tm : TV) (st : St) (news : List (Nat × Nat)) (K : Cls → Value → TV → St → Option (Nat × AObj) → Option β) : Option β :=
  match wantA ops tm p.o with
  | none => none
  | some false => putT p.o.dst undef nt tm fun tm => K .skp undef tm st none
  | some true => bif newK p.o.op then passNew E nt (Nat.add R0 p.k) p.o tm st K
    else bif insF E ops.size news tm p.o.op then putT p.o.dst undef nt tm fun tm => K .ins undef tm st none
    else hidT (notAhead p.m news) st.H fun l H => match aop E (evT E.ng tm) p.o ⟨H, st.c, st.lim⟩ with
      | some r => passRes r sub p.o nt tm st l K
      | none => none
noncomputable def moreNews (i : Nat) (nb : Option (Nat × AObj)) (news : List (Nat × Nat)) : List (Nat × Nat) :=
  match nb with
  | some p => (i, p.1) :: news
  | none => news
/-- The operations of a drawn region, each in its turn. -/
noncomputable def pass {β : Type} (E : Env) (sub : Sub) (nt : Nat) (ops : Array Oper) (R0 : Nat) (l : List PR) : TV → St → List (Nat × Nat) → (List Rec → TV → St → Option β) → Option β :=
  List.rec (motive := fun _ => TV → St → List (Nat × Nat) → (List Rec → TV → St → Option β) → Option β) (fun tm st _ K => K [] tm st)
    (fun p _ ih tm st news K => passOne E sub nt ops R0 p tm st news fun cls v tm' st' nb => ih tm' st' (moreNews (keyOf ops p.i p.o) nb news) fun rs tmF stF => K (⟨p.i, p.m, p.k, p.o, tm, cls, v, st, st', nb, news⟩ :: rs) tmF stF) l
noncomputable def isEff (r : Rec) : Bool :=
  match r.cls with
  | .eff => true
  | _ => false
noncomputable def sameAt (E : Env) (r : Rec) (news : List (Nat × Nat)) (s : St) : Bool :=
  match hidT (notAhead r.m news) s.H fun _ H => match aop E (evT E.ng r.tm) r.o ⟨H, s.c, s.lim⟩ with
    | some (.val v _) => some (valEq FUEL v r.v)
    | _ => none with
  | some true => true
  | _ => false
noncomputable def checkOne (E : Env) (effs : List Rec) (r : Rec) : Bool :=
  match r.cls with
  | .rd => effs.all fun e => bif Nat.blt e.i r.i then Nat.testBit r.m e.i || sameAt E r e.news e.s1 else Nat.testBit e.m r.i || sameAt E r e.news e.s2
  | .eff => effs.all fun e => bif Nat.blt e.i r.i then Nat.testBit r.m e.i else true
  | _ => true
/-- Does what was done hold in any other order? -/
noncomputable def checkAll (E : Env) (rs : List Rec) : Bool := rs.all (checkOne E (rs.filter isEff))

noncomputable def insKV (E : Env) (r : Rec) : Option (Nat × Value × Value) :=
  match r.cls with
  | .ins => insO E r.tm r.o.op
  | _ => none
/-- What fills one map. -/
noncomputable def insOf (E : Env) (g : Nat) (rs : List Rec) : List (Value × Value) := rs.filterMap fun r => match insKV E r with
  | some (g', k, v) => bif Nat.beq g g' then some (k, v) else none
  | none => none
noncomputable def isDone (o : Option Unit) : Bool :=
  match o with
  | some _ => true
  | none => false
noncomputable def isNo (o : Option Bool) : Bool :=
  match o with
  | some false => true
  | _ => false
noncomputable def insOther (E : Env) (d : TypeDesc) (g : Nat) (k : Value) (i : Nat) (q : Rec) : Bool :=
  match insKV E q with
  | some (g', k', _) => Nat.beq q.i i || (!Nat.beq g g' || isNo (Instr.sameNow d k k'))
  | none => true
noncomputable def insOne (E : Env) (rs : List Rec) (r : Rec) : Bool :=
  match insKV E r with
  | none => true
  | some (g, k, _) => match r.o.op with
    | .insert t _ _ _ => match E.P.underlying t with
      | some (.map kt _) => match E.P.underlying kt with
        | some d => plainV FUEL k && (isDone (pureRun E.P (Instr.checkKey false 10000 kt k)) && rs.all (insOther E d g k r.i))
        | none => false
      | _ => false
    | _ => false
noncomputable def freshM (nb : Option (Nat × AObj)) : Bool :=
  match nb with
  | some (_, .obj (.map es _)) => Nat.beq es.size 0
  | some _ => false
  | none => true
noncomputable def insOk (E : Env) (ops : Array Oper) (rs : List Rec) : Bool := rs.all fun r => insOne E rs r && (!secF ops r.o || freshM r.nb)
/-- The maps as they are when all is done. -/
noncomputable def fillT {β : Type} (E : Env) (ops : Array Oper) (rs : List Rec) : List Rec → TH → (TH → Option β) → Option β
  | [], H, K => K H
  | r :: l, H, K => match r.nb with
    | some (g, _) => bif secF ops r.o then TH.put (some (.umap (insOf E g rs))) FUEL H g fun H => fillT E ops rs l H K else fillT E ops rs l H K
    | none => fillT E ops rs l H K

/- A region whose last operation stores, and that stands in no order with some that only reckon, or store in other blocks: it is gone through with nothing in the store's place, and the store is done at the end. -/
noncomputable def isStoreK (op : Op) : Bool :=
  match op with
  | .store .. => true
  | _ => false
noncomputable def noD (o : Option Tmp) : Bool :=
  match o with
  | none => true
  | some _ => false
noncomputable def noGd (o : Option (Nat × Bool)) : Bool :=
  match o with
  | none => true
  | some _ => false
noncomputable def hasO (o : Option AObj) : Bool :=
  match o with
  | none => false
  | some _ => true
noncomputable def lastP : List PR → Option PR
  | [] => none
  | p :: r => match r with
    | [] => some p
    | _ :: _ => lastP r
noncomputable def lateP (l : List PR) : Option PR :=
  match lastP l with
  | some p => bif isStoreK p.o.op && (noD p.o.dst && noGd p.o.guard) && l.any (fun q => isE (clsOf q.o.op) && (!Nat.beq q.i p.i && !Nat.testBit p.m q.i)) then some p else none
  | none => none
noncomputable def noopO (o : Oper) : Oper := ⟨o.dst, .move (.const (.bool true)), o.type, o.pos, o.after, o.guard⟩
noncomputable def lateOps (ops : Array Oper) (p : PR) : Array Oper := ops.setIfInBounds p.i (noopO p.o)
noncomputable def isPur (c : Cls) : Bool :=
  match c with
  | .pur => true
  | _ => false
/-- What may come behind the store. -/
noncomputable def lateR (E : Env) (H : TH) (gX : Nat) (r : Rec) : Bool :=
  match r.o.op with
  | .store _ a _ => isE r.cls && (match evT E.ng r.tm a with
      | some (.pointer (some ⟨g, _, none⟩)) => !Nat.beq g gX && hasO (H.get g)
      | _ => false)
  | .nilCheck x => isPur r.cls && (match evT E.ng r.tm x with
      | some (.pointer (some _)) => true
      | _ => false)
  | .move _ | .assign _ | .fieldAddr .. | .indexAddr .. => isPur r.cls
  | _ => false
noncomputable def opsBit (rs : List Rec) (m : Nat) (x : Operand) : Bool :=
  match x with
  | .tmp t => rs.all fun r => !tmpIs t r.o.dst || Nat.testBit m r.i
  | _ => true
noncomputable def lateOk (E : Env) (H : TH) (rs : List Rec) (m i gX : Nat) (a x : Operand) : Bool :=
  rs.all (fun r => Nat.testBit m r.i || (Nat.beq r.i i || (noGd r.o.guard && lateR E H gX r))) && (opsBit rs m a && opsBit rs m x)
noncomputable def lateEnd {β : Type} (E : Env) (o : Oper) (i : Nat) (a x : Operand) (rs : List Rec) (tm : TV) (st : St) (K : TV → St → Option β) : Option β :=
  match rs.find? (fun r => Nat.beq r.i i), evT E.ng tm a, aop E (evT E.ng tm) o st with
  | some rn, some (.pointer (some ⟨gX, _, none⟩)), some (.skip st2) => bif isPur rn.cls && hasO (st.H.get gX) && lateOk E st.H rs rn.m i gX a x then K tm st2 else none
  | _, _, _ => none
noncomputable def lateGo {β : Type} (E : Env) (sub : Sub) (nt : Nat) (ops : Array Oper) (o : Oper) (i : Nat) (a x : Operand) (tm : TV) (st : St) (K : TV → St → Option β) : Option β :=
  match okR ops with
  | some l => bif Nat.blt (Nat.add st.c (newsOf ops)) st.lim then pass E sub nt ops st.c l tm ⟨st.H, Nat.add st.c (newsOf ops), st.lim⟩ [] fun rs tm st => bif checkAll E rs && insOk E ops rs then fillT E ops rs rs st.H fun H => lateEnd E o i a x rs tm ⟨H, st.c, st.lim⟩ K else none else none
  | none => none
noncomputable def lateAll {β : Type} (E : Env) (sub : Sub) (nt : Nat) (ops : Array Oper) (p : PR) (tm : TV) (st : St) (K : TV → St → Option β) : Option β :=
  match p.o.op with
  | .store _ a x => lateGo E sub nt (lateOps ops p) p.o p.i a x tm st K
  | _ => none

noncomputable def raiseA (fr : AF) (vs : List PanicEntry) : AF :=
  match fr with
  | ⟨fn, nt, tm, todo, ds, .panicking ch, kd, ro⟩ => ⟨fn, nt, tm, todo, ds, .panicking (vs ++ ch), kd, ro⟩
  | ⟨fn, nt, tm, todo, ds, _, kd, ro⟩ => ⟨fn, nt, tm, todo, ds, .panicking vs, kd, ro⟩
/-- The caller goes on with a value. -/
noncomputable def finishA (fr : AF) (v : Value) (K : AF → Option Out) : Option Out :=
  match fr with
  | ⟨fn, nt, tm, .inRegion ops (i :: r) :: k, ds, mode, kd, ro⟩ => match opAt ops i with
    | some o => putT o.dst v nt tm fun tm => K ⟨fn, nt, tm, .inRegion ops r :: k, ds, mode, kd, ro⟩
    | none => none
  | _ => none
noncomputable def settleA : FrameMode → FrameMode
  | .panicking ({ recovered := true, .. } :: older) => match older.dropWhile (!·.goexit) with
    | [] => .returning
    | rest => .panicking rest
  | m => m

noncomputable def doRet (kd : CallKind) (cs : List AF) (st : St) (v : Value) : Option Out :=
  match kd, cs with
  | .normal, caller :: rest => finishA caller v fun caller => some (.next ⟨caller, rest, st⟩)
  | .deferred, ⟨fn, nt, tm, todo, ds, mode, kd, ro⟩ :: rest => some (.next ⟨⟨fn, nt, tm, todo, ds, settleA mode, kd, ro⟩, rest, st⟩)
  | .normal, [] => some (.fin (.ret v st))
  | _, _ => none

/-- recover(), in a deferred call of a frame. -/
noncomputable def recA (caller : AF) : Option (Value × AF) :=
  match caller with
  | ⟨fn, nt, tm, todo, ds, .panicking ({ v, recovered := false, goexit := false } :: older), kd, ro⟩ => some (v, ⟨fn, nt, tm, todo, ds, .panicking ({ v, recovered := true } :: older), kd, ro⟩)
  | _ => none

noncomputable def resV (P : Program) (st : St) (tm : TV) : ResultVar → Option Value
  | .tmp t => tm.get t
  | .cell a t => match tm.get a with
    | some (.pointer (some ⟨g, off, none⟩)) => loadV P st t g off
    | _ => none
noncomputable def resVs (P : Program) (st : St) (tm : TV) : List ResultVar → Option (List Value)
  | [] => some []
  | r :: rs => match resV P st tm r with
    | some v => match resVs P st tm rs with
      | some vs => some (v :: vs)
      | none => none
    | none => none

/-- What an operation comes to: the frame goes on, or another one is entered. -/
noncomputable def opRes (r : Res) : Env → FuncId → Nat → TV → Oper → Array Oper → List Nat → List Item → List Deferred → CallKind → Option Nat → List AF → Option Out :=
  match r with
  | .val v st => fun _ fn nt tm o ops r k ds kd ro cs => putT o.dst v nt tm fun tm => some (.next ⟨⟨fn, nt, tm, .inRegion ops r :: k, ds, .run, kd, ro⟩, cs, st⟩)
  | .skip st => fun _ fn nt tm o ops r k ds kd ro cs => putT o.dst undef nt tm fun tm => some (.next ⟨⟨fn, nt, tm, .inRegion ops r :: k, ds, .run, kd, ro⟩, cs, st⟩)
  | .enter _ _ _ => fun _ _ _ _ _ _ _ _ _ _ _ _ => none
  | .defer d st => fun _ fn nt tm o ops r k ds kd ro cs => match ro with
    | none => putT o.dst undef nt tm fun tm => some (.next ⟨⟨fn, nt, tm, .inRegion ops r :: k, d :: ds, .run, kd, ro⟩, cs, st⟩)
    | some _ => none
  | .recover st => fun _ fn nt tm o ops r k ds kd ro cs => match ro, kd, cs with
    | none, .deferred, c :: cs => match recA c with
      | some (v, c) => putT o.dst v nt tm fun tm => some (.next ⟨⟨fn, nt, tm, .inRegion ops r :: k, ds, .run, kd, ro⟩, c :: cs, st⟩)
      | none => putT o.dst .nilIface nt tm fun tm => some (.next ⟨⟨fn, nt, tm, .inRegion ops r :: k, ds, .run, kd, ro⟩, c :: cs, st⟩)
    | none, .normal, _ => putT o.dst .nilIface nt tm fun tm => some (.next ⟨⟨fn, nt, tm, .inRegion ops r :: k, ds, .run, kd, ro⟩, cs, st⟩)
    | _, _, _ => none
  | .panic _ _ => fun _ _ _ _ _ _ _ _ _ _ _ _ => none
  | .round _ _ _ _ _ _ _ => fun _ _ _ _ _ _ _ _ _ _ _ _ => none

/-- A frame's end; of a round: it answers whether the loop goes on. -/
noncomputable def stayB : Option Code → Bool
  | none => true
  | some _ => false
noncomputable def stateJ : Option Code → LoopState
  | none => .ready
  | some _ => .done
noncomputable def roundOut (jump : Option Code) (g : Nat) (kd : CallKind) (cs : List AF) (st : St) : Option Out :=
  match kd, cs with
  | .normal, caller :: rest => match st.H.get g with
    | some (.loop _ _ f n t ps a b d) => TH.put (some (.loop (stateJ jump) jump f n t ps a b d)) FUEL st.H g fun H => finishA caller (.bool (stayB jump)) fun caller => some (.next ⟨caller, rest, ⟨H, st.c, st.lim⟩⟩)
    | _ => none
  | _, _ => none
noncomputable def leaveA (jump : Option Code) (fn : FuncId) (nt : Nat) (tm : TV) (todo : List Item) (ds : List Deferred) (kd : CallKind) (ro : Option Nat) (cs : List AF) (st : St) : Option Out :=
  match ro with
  | none => match jump with
    | none => some (.next ⟨⟨fn, nt, tm, todo, ds, .returning, kd, none⟩, cs, st⟩)
    | some .ret => some (.next ⟨⟨fn, nt, tm, todo, ds, .returning, kd, none⟩, cs, st⟩)
    | _ => none
  | some g => roundOut jump g kd cs st
/-- A loop over a function is entered: its record, and at an outermost one the block for deferred calls. -/
noncomputable def loopEnter (fn : FuncId) (nt : Nat) (tm : TV) (ps : List Tmp) (a b : Code) (ds : List Deferred) (ro : Option Nat) (st : St) (K : Nat → List Deferred → St → Option Out) : Option Out :=
  match ro with
  | none => newO (.obj (.deferred (some []))) st fun gd st => newO (.loop .ready none fn nt tm ps a b gd) st fun gl st => K gl (⟨.collected gd, #[]⟩ :: ds) st
  | some g => match st.H.get g with
    | some (.loop _ _ _ _ _ _ _ _ gd) => newO (.loop .ready none fn nt tm ps a b gd) st fun gl st => K gl ds st
    | _ => none
noncomputable def pendI : Option Code → List Item
  | none => []
  | some c => [.code c]
noncomputable def busyS : LoopState → Bool
  | .busy => true
  | _ => false
/-- It is left: what is to be done behind it. -/
noncomputable def loopLeave (gl : Nat) (st : St) (K : List Item → St → Option Out) : Option Out :=
  match st.H.get gl with
  | some (.loop stt p f n t ps a b d) => bif busyS stt then none else TH.put (some (.loop .exhausted p f n t ps a b d)) FUEL st.H gl fun H => K (pendI p) ⟨H, st.c, st.lim⟩
  | _ => none

abbrev Ex := List Item → Env → Sub → FuncId → Nat → TV → List Deferred → CallKind → Option Nat → List AF → St → Option Out
noncomputable def go1 (todo : List Item) (fn : FuncId) (nt : Nat) (tm : TV) (ds : List Deferred) (kd : CallKind) (ro : Option Nat) (cs : List AF) (st : St) : Option Out :=
  some (.next ⟨⟨fn, nt, tm, todo, ds, .run, kd, ro⟩, cs, st⟩)
noncomputable def exCode (c : Code) : Ex :=
  match c with
  | .skip => fun k _ _ fn nt tm ds kd ro cs st => go1 k fn nt tm ds kd ro cs st
  | .label _ => fun k _ _ fn nt tm ds kd ro cs st => go1 k fn nt tm ds kd ro cs st
  | .ret => fun k _ _ fn nt tm ds kd ro cs st => leaveA (some .ret) fn nt tm (.code .ret :: k) ds kd ro cs st
  | .seq a b => fun k _ _ fn nt tm ds kd ro cs st => go1 (.code a :: .code b :: k) fn nt tm ds kd ro cs st
  | .cond c a b => fun k E _ fn nt tm ds kd ro cs st => match evT E.ng tm c with
    | some (.bool true) => go1 (.code a :: k) fn nt tm ds kd ro cs st
    | some (.bool false) => go1 (.code b :: k) fn nt tm ds kd ro cs st
    | _ => none
  | .block id b => fun k _ _ fn nt tm ds kd ro cs st => go1 (.code b :: .inBlock id :: k) fn nt tm ds kd ro cs st
  | .loop b => fun k _ _ fn nt tm ds kd ro cs st => go1 (.code b :: .inLoop b :: k) fn nt tm ds kd ro cs st
  | .scope b => fun k _ _ fn nt tm ds kd ro cs st => go1 (.code b :: .inScope b :: k) fn nt tm ds kd ro cs st
  | .exit id => fun k _ _ fn nt tm ds kd ro cs st => match exitTo id k with
    | some k => go1 k fn nt tm ds kd ro cs st
    | none => leaveA (some (.exit id)) fn nt tm (.code (.exit id) :: k) ds kd ro cs st
  | .goto l => fun k _ _ fn nt tm ds kd ro cs st => match gotoIn l k with
    | some k => go1 k fn nt tm ds kd ro cs st
    | none => leaveA (some (.goto l)) fn nt tm (.code (.goto l) :: k) ds kd ro cs st
  | .rangeFunc f ps a b => fun k E sub fn nt tm ds kd ro cs st => match evT E.ng tm f with
    | some (.func fv first cap) => loopEnter fn nt tm ps.toList a b ds ro st fun gl ds st => match invokeA E fv cap (first ++ #[.func (.yield gl) #[] #[]]) st with
      | some (.enter g args st) => match sub g args st with
        | some (_, st) => loopLeave gl st fun js st => go1 (js ++ k) fn nt tm ds kd ro cs st
        | none => none
      | _ => none
    | _ => none
  | .region _ ops false => fun k _ _ fn nt tm ds kd ro cs st => go1 (.inRegion ops (List.range ops.size) :: k) fn nt tm ds kd ro cs st
  | .region _ ops true => fun k E sub fn nt tm ds kd ro cs st => match okR ops with
    | some l => match lateP l with
      | some p => lateAll E sub nt ops p tm st fun tm st => go1 k fn nt tm ds kd ro cs st
      | none => bif Nat.blt (Nat.add st.c (newsOf ops)) st.lim then pass E sub nt ops st.c l tm ⟨st.H, Nat.add st.c (newsOf ops), st.lim⟩ [] fun rs tm st => bif checkAll E rs && insOk E ops rs then fillT E ops rs rs st.H fun H => go1 k fn nt tm ds kd ro cs ⟨H, st.c, st.lim⟩ else none else none
    | none => none
  | _ => fun _ _ _ _ _ _ _ _ _ _ _ => none
noncomputable def exItem (x : Item) : Ex :=
  match x with
  | .code c => exCode c
  | .inBlock _ => fun k _ _ fn nt tm ds kd ro cs st => go1 k fn nt tm ds kd ro cs st
  | .inScope _ => fun k _ _ fn nt tm ds kd ro cs st => go1 k fn nt tm ds kd ro cs st
  | .inLoop b => fun k _ _ fn nt tm ds kd ro cs st => go1 (.code b :: .inLoop b :: k) fn nt tm ds kd ro cs st
  | .inRegion _ [] => fun k _ _ fn nt tm ds kd ro cs st => go1 k fn nt tm ds kd ro cs st
  | .inRegion ops (i :: r) => fun k E _ fn nt tm ds kd ro cs st => match opAt ops i with
    | none => none
    | some o => match wantA ops tm o with
      | some true => match aop E (evT E.ng tm) o st with
        | some (.enter f args st) => match E.known f args.toList st with
          | some v => putT o.dst v nt tm fun tm => some (.next ⟨⟨fn, nt, tm, .inRegion ops r :: k, ds, .run, kd, ro⟩, cs, st⟩)
          | none => enterA E.P f args.toList .normal fun fr' => some (.next ⟨fr', ⟨fn, nt, tm, .inRegion ops (i :: r) :: k, ds, .run, kd, ro⟩ :: cs, st⟩)
        | some (.round g f2 nt2 tm2 a b st) => some (.next ⟨⟨f2, nt2, tm2, [.code a, .beginRound, .code b], [], .run, .normal, some g⟩, ⟨fn, nt, tm, .inRegion ops (i :: r) :: k, ds, .run, kd, ro⟩ :: cs, st⟩)
        | some (.panic v st) => some (.next ⟨⟨fn, nt, tm, .inRegion ops (i :: r) :: k, ds, .panicking [{ v, recovered := false }], kd, ro⟩, cs, st⟩)
        | some res => opRes res E fn nt tm o ops r k ds kd ro cs
        | none => match lastA E.P (evT E.ng tm) o st with
          | some res => opRes res E fn nt tm o ops r k ds kd ro cs
          | none => none
      | some false => putT o.dst undef nt tm fun tm => go1 (.inRegion ops r :: k) fn nt tm ds kd ro cs st
      | none => none
  | .beginRound => fun k _ _ fn nt tm ds kd ro cs st => match ro with
    | some g => match st.H.get g with
      | some (.loop .ready p f n t ps a b d) => TH.put (some (.loop .busy p f n t ps a b d)) FUEL st.H g fun H => go1 k fn nt tm ds kd ro cs ⟨H, st.c, st.lim⟩
      | _ => none
    | none => none
  | _ => fun _ _ _ _ _ _ _ _ _ _ _ => none

noncomputable def tupOf (vs : List Value) : Value :=
  match vs with
  | [v] => v
  | vs => .tuple vs.toArray
noncomputable def unwindA (panicking : Option (List PanicEntry)) (E : Env) (fn : FuncId) (nt : Nat) (tm : TV) (todo : List Item) (ds : List Deferred) (mode : FrameMode) (kd : CallKind) (ro : Option Nat) (cs : List AF) (st : St) : Option Out :=
  match ds with
  | ⟨.fn f cap, args⟩ :: ds => match invokeA E f cap args st with
    | some (.enter f args st) => enterA E.P f args.toList .deferred fun fr' => some (.next ⟨fr', ⟨fn, nt, tm, todo, ds, mode, kd, ro⟩ :: cs, st⟩)
    | _ => none
  | [] => match E.P.funcs[fn]? with
    | some fd => match panicking with
      | none => match resVs E.P st tm fd.results.toList with
        | some vs => doRet kd cs st (tupOf vs)
        | none => none
      | some ch => match cs with
        | caller :: rest => some (.next ⟨raiseA caller ch, rest, st⟩)
        | [] => some (.fin (.pan ch st))
    | none => none
  | ⟨.collected g, _⟩ :: ds => match st.H.get g with
    | some (.obj (.deferred (some []))) => TH.put (some (.obj (.deferred none))) FUEL st.H g fun H => some (.next ⟨⟨fn, nt, tm, todo, ds, mode, kd, ro⟩, cs, ⟨H, st.c, st.lim⟩⟩)
    | _ => none
  | _ => none

noncomputable def stepA (E : Env) (sub : Sub) (c : Cf) : Option Out :=
  match c with
  | ⟨⟨fn, nt, tm, todo, ds, .run, kd, ro⟩, cs, st⟩ => match todo with
    | [] => leaveA none fn nt tm [] ds kd ro cs st
    | x :: k => exItem x k E sub fn nt tm ds kd ro cs st
  | ⟨⟨fn, nt, tm, todo, ds, .returning, kd, ro⟩, cs, st⟩ => unwindA none E fn nt tm todo ds .returning kd ro cs st
  | ⟨⟨fn, nt, tm, todo, ds, .panicking ch, kd, ro⟩, cs, st⟩ => unwindA (some ch) E fn nt tm todo ds (.panicking ch) kd ro cs st

noncomputable def retOf (r : Option Fin) : Option (Value × St) :=
  match r with
  | some (.ret v st) => some (v, st)
  | _ => none
noncomputable def goOn (o : Option Out) (K : Cf → Option Fin) : Option Fin :=
  match o with
  | some (.next c) => K c
  | some (.fin f) => some f
  | none => none
/-- The run. -/
noncomputable def runA (E : Env) (n : Nat) : Cf → Option Fin :=
  Nat.rec (motive := fun _ => Cf → Option Fin) (fun _ => none)
    (fun _ ih c => goOn (stepA E (fun f args st => retOf (enterA E.P f args.toList .normal fun fr => ih ⟨fr, [], st⟩)) c) ih) n

end Go.Proofs.Ytfilbknnpjbmcaa.Cx
