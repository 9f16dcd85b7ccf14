/- A closed call, run: one operation of a region. No program of its own. -/
import Derived.Test.YtfilbknnpjbmcaaCxL
namespace Go.Proofs.Ytfilbknnpjbmcaa.Cx
open Go Go.RowKit Go.BigFrame

noncomputable def optEv (ev : Operand → Option Value) : Option Operand → Option (Option Value)
  | none => some none
  | some x => match ev x with
    | some v => some (some v)
    | none => none
theorem optEv_ok {s : Ren} {ev : Operand → Option Value} {cev : Operand → Value} (hev : ∀ x v, ev x = some v → VR s v (cev x)) {x : Option Operand} {v : Option Value} (h : optEv ev x = some v) : OptR s v (x.map cev) := by
  unfold optEv at h
  split at h
  · cases h; trivial
  · split at h
    · rename_i v' hv
      cases h
      exact hev _ _ hv
    · cases h

/-- What a value asked of in place comes to, if it holds no place. -/
noncomputable def plain1 (P : Program) (a : Value) (f : Value → Sem Value) : Option Value :=
  bif plainV FUEL a then match pureRun P (f a) with
    | some v => bif plainV FUEL v then some v else none
    | none => none
  else none
theorem plain1_ok {P : Program} {s : Ren} {st : St} {w : World} {a a' v : Value} {f : Value → Sem Value} (hM : Mem s st w) (ha : VR s a a') (h : plain1 P a f = some v) : SV P s st w (f a') v st := by
  unfold plain1 at h
  cases hp : plainV FUEL a with
  | false => simp [hp] at h
  | true =>
    simp only [hp, cond_true] at h
    split at h
    · rename_i u hu
      cases hpu : plainV FUEL u with
      | false => simp [hpu] at h
      | true =>
        simp only [hpu, cond_true, Option.some.injEq] at h
        subst h
        rw [plainV_eq hp ha]
        exact .same hM (pureRun_ok _ hu w) (plainV_self hpu)
    · cases h
noncomputable def isStr : Value → Bool
  | .string _ => true
  | _ => false
/-- A string's bytes as a map: made once. -/
noncomputable def ofBytes : List UInt8 → Nat → TN → Option TN
  | [], _, t => some t
  | c :: r, i, t => forceN c.toNat fun m => TN.put (some m) FUEL t i fun t' => ofBytes r (Nat.succ i) t'
theorem ofBytes_ok : ∀ {l : List UInt8} {i : Nat} {t t' : TN}, ofBytes l i t = some t' → ∀ j m, t'.get j = some m → (∃ c, i ≤ j ∧ l[j - i]? = some c ∧ c.toNat = m) ∨ t.get j = some m
  | [], i, t, t', h, j, m, hj => by cases h; exact .inr hj
  | c :: r, i, t, t', h, j, m, hj => by
    have h : TN.put (some c.toNat) FUEL t i (fun t' => ofBytes r (Nat.succ i) t') = some t' := h
    obtain ⟨u, h1, h2⟩ := TN.put_some h
    rcases ofBytes_ok h1 j m hj with ⟨d, a, b, e⟩ | h3
    · refine .inl ⟨d, by omega, ?_, e⟩
      have : j - i = (j - i.succ) + 1 := by omega
      rw [this]
      simpa using b
    · rw [h2] at h3
      split at h3
      · rename_i hji
        cases h3
        exact .inl ⟨c, by omega, by rw [hji]; simp, rfl⟩
      · exact .inr h3
noncomputable def strT (b : ByteArray) : TN :=
  match ofBytes b.data.toList 0 .leaf with
  | some t => t
  | none => .leaf
theorem strT_ok {b : ByteArray} {n m : Nat} (h : (strT b).get n = some m) : ∃ c, b.data[n]? = some c ∧ c.toNat = m := by
  unfold strT at h
  split at h
  · rename_i t ht
    rcases ofBytes_ok ht n m h with ⟨c, _, h1, h2⟩ | h1
    · exact ⟨c, by simpa using h1, h2⟩
    · simp [TN.get_leaf] at h1
  · simp [TN.get_leaf] at h
/-- x[i] of a string, x[lo:hi] of a string. -/
noncomputable def strIx (P : Program) (t : TypeId) (x i : Value) : Option Value :=
  match P.underlying t, x, i with
  | some .string, .string b, .int _ (.ofNat n) => match (strT b).get n with
    | some m => some (.int .u8 (.ofNat m))
    | none => none
  | _, _, _ => none
theorem strIx_ok {P : Program} {s : Ren} {st : St} {w : World} {t : TypeId} {x x' i i' v : Value} (hM : Mem s st w) (hx : VR s x x') (hi : VR s i i') (h : strIx P t x i = some v) : SV P s st w (Instr.index t x' i') v st := by
  unfold strIx at h
  split at h
  · rename_i b k n hu
    split at h
    · rename_i m hm
      cases h
      obtain ⟨c, hc, rfl⟩ := strT_ok hm
      cases hx; cases hi
      refine .same hM (v' := .int .u8 (.ofNat c.toNat)) ?_ (.int _ _)
      have hg : b[n]? = some c := by
        obtain ⟨hn, e⟩ := Array.getElem?_eq_some_iff.1 hc
        have hn' : n < b.size := hn
        rw [getElem?_pos b n hn']
        exact congrArg some e
      simp [Instr.index, asIntOf, run_underlying hu, hg]
    · cases h
  · cases h
noncomputable def strCut (P : Program) (t : TypeId) (x : Value) (lo hi mx : Option Value) : Option Value :=
  match P.underlying t, x, mx with
  | some .string, .string b, none => match bndO lo 0, bndO hi b.size with
    | some l, some h => bif Nat.ble l h && Nat.ble h b.size then some (.string (b.extract l h)) else none
    | _, _ => none
  | _, _, _ => none
theorem strCut_ok {P : Program} {s : Ren} {st : St} {w : World} {t : TypeId} {x x' v : Value} {lo hi mx lo' hi' mx' : Option Value} (hM : Mem s st w) (hx : VR s x x') (h1 : OptR s lo lo') (h2 : OptR s hi hi') (h3 : OptR s mx mx') (h : strCut P t x lo hi mx = some v) :
    SV P s st w (Instr.sliceAt t x' lo' hi' mx') v st := by
  unfold strCut at h
  split at h
  · rename_i b hu
    have hmx' : mx' = none := by cases mx' with
      | none => rfl
      | some _ => simp [OptR] at h3
    subst hmx'
    split at h
    · rename_i l hh e1 e2
      cases hc : (Nat.ble l hh && Nat.ble hh b.size) with
      | false => simp only [hc, cond_false] at h; cases h
      | true =>
        simp only [hc, cond_true, Option.some.injEq] at h
        simp only [Bool.and_eq_true, Nat.ble_eq] at hc
        subst h
        cases hx
        have r1 := bounds_run (P := P) (isS := false) (len := b.size) (cap := b.size) (mx := none) (mx' := none) h1 h2 trivial e1 e2 rfl hc.1 hc.2 (Nat.le_refl _) (.inl rfl) w
        exact .same hM (v' := .string (b.extract l hh)) (by simp [Instr.sliceAt, Instr.slice, run_underlying hu, r1]) (.string _)
    · cases h
  · cases h

/-- A method value's receiver, as far as its type alone tells that it is none of nil. -/
noncomputable def aheadA (P : Program) (a : Option Value) (name : String) : Bool :=
  match a with
  | some (.iface t _) => match P.info? t with
    | some i => match i.methods.find? (·.name == name) with
      | some m => m.path.isEmpty && (match m.func with
        | some (_, true) => true
        | _ => false)
      | none => false
    | none => false
  | _ => false
theorem aheadA_ok {P : Program} {s : Ren} {a a' : Array Value} {name : String} (ha : VRs s a a') (h : aheadA P a[0]? name = true) (w : World) :
    ∃ t v, a'[0]? = some (.iface t v) ∧ (nilAhead (P.types.size + Made.depth) t v name).run P w = .ok (some false) w := by
  obtain ⟨n, hn⟩ : ∃ n, P.types.size + Made.depth = n + 1 := ⟨P.types.size + Made.depth - 1, by unfold Made.depth; omega⟩
  rw [hn]
  unfold aheadA at h
  split at h
  · rename_i t v ht
    obtain ⟨x', hx', hr⟩ := ha.get ht
    cases hr with
    | iface _ _ v' hv =>
      refine ⟨t, v', hx', ?_⟩
      split at h
      · rename_i i hi
        split at h
        · rename_i m hm
          rw [Bool.and_eq_true] at h
          have hpn : m.path.toList = [] := by simpa [Array.isEmpty] using h.1
          have h2 := h.2
          split at h2
          · rename_i f hfn
            simp [nilAhead, typeInfo, hi, hm, hpn, followBlind, hfn]
          · cases h2
        · cases h
      · cases h
  · cases h
noncomputable def nilCk (P : Program) (x : Value) : Option Value :=
  match x with
  | .pointer (some _) | .bool _ | .int _ _ | .string _ | .slice _ _ _ | .map _ | .iface _ _ | .agg _ | .tuple _ => some x
  | .func (.func _) _ _ => some x
  | .func (.method n) a _ => bif aheadA P a[0]? n then some x else none
  | _ => none
theorem nilCk_ok {P : Program} {s : Ren} {st : St} {w : World} {o : Oper} {xo : Operand} {cev : Operand → Value} {x v : Value} (ho : o.op = .nilCheck xo) (hM : Mem s st w) (hx : VR s x (cev xo)) (h : nilCk P x = some v) : Snd P s st w (execOp cev o) (.val v st) := by
  have hv : v = x := by
    unfold nilCk at h
    split at h
    all_goals first
      | (cases h; rfl)
      | (cases h; done)
      | (rename_i n a c
         cases hb : aheadA P a[0]? n with
         | true => rw [hb] at h; exact (Option.some.inj h).symm
         | false => rw [hb] at h; cases h)
  subst hv
  refine ⟨s, w, cev xo, ?_, hx, hM, .refl _ _ _⟩
  unfold nilCk at h
  simp only [execOp, ho]
  generalize cev xo = y at hx
  cases hx
  case ptrNil => simp at h
  case nilFunc => simp at h
  case nilIface => simp at h
  case func f f' a a' c c' hf h2 h3 h4 h5 =>
    cases hf
    case method n =>
      cases hb : aheadA P a[0]? n with
      | false => simp [hb] at h
      | true =>
        obtain ⟨t, v', e1, e2⟩ := aheadA_ok (s := s) ⟨h2, h3⟩ hb w
        simp [e1, e2]
    all_goals first | rfl | (simp at h)
  all_goals rfl

noncomputable def aopC (op : Op) : Env → (Operand → Option Value) → Oper → St → Option Res :=
  match op with
  | .move x | .assign x => fun _E ev _o st => oneA st (ev x)
  | .pick c a b => fun _E ev _o st => match ev c with
    | some (.bool true) => oneA st (ev a)
    | some (.bool false) => oneA st (ev b)
    | _ => none
  | .alloc e => fun E _ev _o st => pairA (allocA E.P e st)
  | .box e x => fun _E ev _o st => match ev x with
    | some v => pairA (boxA e v st)
    | none => none
  | .build t ps => fun E ev _o st => match evp ev ps.toList with
    | some l => oneA st (buildA E.P t l.toArray)
    | none => none
  | .buildSlice t n ps => fun E ev _o st => match evp ev ps.toList with
    | some l => pairA (buildSliceA E.P t n l.toArray st)
    | none => none
  | .load t a => fun E ev _o st => match ev a with
    | some v => pairL (loadA E.P t v st)
    | none => none
  | .store t a x => fun E ev _o st => match ev a, ev x with
    | some v, some u => skipA (storeA E.P t v u st)
    | _, _ => none
  | .nilCheck x => fun E ev _o st => match ev x with
    | some v => oneA st (nilCk E.P v)
    | none => none
  | .binOp op t x y _ => fun E ev _o st => match ev x, ev y with
    | some a, some b => oneA st (binOpA E.P op t x y a b st)
    | _, _ => none
  | .unOp op _ x => fun E ev _o st => match ev x with
    | some a => oneA st (plain1 E.P a (Op.unary op))
    | none => none
  | .convert src dst x => fun E ev _o st => match ev x with
    | some a => bif plainV FUEL a then oneA st (plain1 E.P a (convert src dst)) else oneA st (convA E.P src dst a st)
    | none => none
  | .makeInterface t x => fun E ev _o st => match ev x with
    | some a => oneA st (ifaceA E.P t a)
    | none => none
  | .makeFunc fn first cap => fun _E ev _o st => match fn, evs ev first.toList, evs ev cap.toList with
    | .func f, some a, some b => some (.val (.func (.func f) a.toArray b.toArray) st)
    | .method n, some a, some b => some (.val (.func (.method n) a.toArray b.toArray) st)
    | .methodOf t n, some a, some b => some (.val (.func (.methodOf t n) a.toArray b.toArray) st)
    | _, _, _ => none
  | .makeMap t r => fun E ev _o st => match optEv ev r with
    | some none => pairA (makeMapA st)
    | some (some (.int _ _)) => match E.P.underlying t with
      | some (.map _ _) => pairA (makeMapA st)
      | _ => none
    | _ => none
  | .makeSlice t l c => fun E ev _o st => match ev l, ev c with
    | some a, some b => pairA (makeSliceA E.P t a b st)
    | _, _ => none
  | .slice t x lo hi mx => fun E ev _o st => match ev x, optEv ev lo, optEv ev hi, optEv ev mx with
    | some a, some l, some h, some m => bif isStr a then oneA st (strCut E.P t a l h m) else oneF st (sliceA E.P t a l h m st)
    | _, _, _, _ => none
  | .fieldAddr t x f => fun E ev _o st => match ev x with
    | some a => oneA st (fieldAddrA E.P t a f)
    | none => none
  | .field t x f => fun E ev _o st => match ev x with
    | some a => oneA st (fieldA E.P t a f)
    | none => none
  | .indexAddr t x i => fun E ev _o st => match ev x, ev i with
    | some a, some b => oneA st (indexAddrA E.P t a b)
    | _, _ => none
  | .index t x i => fun E ev _o st => match ev x, ev i with
    | some a, some b => bif isStr a then oneA st (strIx E.P t a b) else oneA st (indexA E.P t a b)
    | _, _ => none
  | .lookup t x i ok => fun E ev _o st => match ev x, ev i with
    | some a, some b => oneA st (lookA E.P t a b ok st)
    | _, _ => none
  | .mapUpdate t m k x | .insert t m k x => fun E ev _o st => match ev m, ev k, ev x with
    | some a, some b, some c => skipA (updA E.P t a b c st)
    | _, _, _ => none
  | .range t x => fun E ev _o st => match ev x with
    | some a => pairA (rangeA E.P t a st)
    | none => none
  | .next it b => fun _E ev _o st => match ev it with
    | some a => pairA (nextA a b st)
    | none => none
  | .typeAssert x _ t ok => fun E ev _o st => match ev x with
    | some a => oneA st (assertA E.P a t ok)
    | none => none
  | .extract x i => fun _E ev _o st => match ev x with
    | some a => oneA st (extractA a i)
    | none => none
  | .call c => fun E ev o st => match c.callee with
    | .builtin b => match evs ev c.args.toList with
      | some l => bltA E b c.argTypes o.type (c.args.map fun | .const _ => true | _ => false) l.toArray st
      | none => none
    | .invoke recv name => match ev recv, evs ev c.args.toList with
      | some r, some l => callM E r name l.toArray st
      | _, _ => none
    | .value f => match ev f, evs ev c.args.toList with
      | some (.func fn first cap), some l => invokeA E fn cap (first ++ l.toArray) st
      | _, _ => none
  | .defer c => fun _E ev _o st => match c.callee with
    | .value f => match ev f, evs ev c.args.toList with
      | some (.func fn first cap), some l => some (.defer { target := .fn fn cap, args := first ++ l.toArray } st)
      | _, _ => none
    | _ => none
  | .panic x => fun _E ev _o st => match ev x with
    | some (.iface t v) => some (.panic (.iface t v) st)
    | _ => none
  | _ => fun _E _ev _o _st => none
noncomputable def aop (E : Env) (ev : Operand → Option Value) (o : Oper) (st : St) : Option Res := aopC o.op E ev o st

theorem aop_ok {E : Env} (hE : E.Ok) {s : Ren} {st : St} {w : World} {ev : Operand → Option Value} {cev : Operand → Value} {o : Oper} {r : Res} (hM : Mem s st w) (hev : ∀ x v, ev x = some v → VR s v (cev x)) (h : aop E ev o st = some r) :
    Snd E.P s st w (execOp cev o) r := by
  have mv : ∀ x, oneA st (ev x) = some r → Snd E.P s st w (pure (.value (cev x))) r := by
    intro x hx
    obtain ⟨v, e, rfl⟩ := oneA_some hx
    exact ⟨s, w, _, rfl, hev _ _ e, hM, .refl _ _ _⟩
  unfold aop aopC at h
  obtain ⟨dst, op, type, pos, after, guard⟩ := o
  cases op <;> simp only at h
  case move x => exact mv x h
  case assign x => exact mv x h
  case pick c a b =>
    split at h
    · rename_i hc
      have := hev _ _ hc
      have hb : cev c = .bool true := by generalize cev c = y at this; cases this; rfl
      refine .of_eq ?_ (mv a h)
      simp [execOp, hb, asBool]
    · rename_i hc
      have := hev _ _ hc
      have hb : cev c = .bool false := by generalize cev c = y at this; cases this; rfl
      refine .of_eq ?_ (mv b h)
      simp [execOp, hb, asBool]
    · cases h
  case alloc e =>
    obtain ⟨v, st', e1, rfl⟩ := pairA_some h
    exact .of_sv (allocA_ok hM e1)
  case box e x =>
    split at h
    · rename_i v hv
      obtain ⟨u, st', e1, rfl⟩ := pairA_some h
      exact .of_sv (boxA_ok hM (hev _ _ hv) e1)
    · cases h
  case build t ps =>
    split at h
    · rename_i l hl
      obtain ⟨v, e1, rfl⟩ := oneA_some h
      obtain ⟨q1, q2⟩ := evp_arr hev hl
      exact .of_sv (buildA_ok hM q1 q2 e1)
    · cases h
  case buildSlice t n ps =>
    split at h
    · rename_i l hl
      obtain ⟨v, st', e1, rfl⟩ := pairA_some h
      obtain ⟨q1, q2⟩ := evp_arr hev hl
      exact .of_sv (buildSliceA_ok hM q1 q2 e1)
    · cases h
  case load t a =>
    split at h
    · rename_i v hv
      obtain ⟨u, st', e1, rfl⟩ := pairL_some h
      exact .of_sv (loadA_ok hM (hev _ _ hv) e1)
    · cases h
  case store t a x =>
    split at h
    · rename_i v u hv hu
      obtain ⟨st', e1, rfl⟩ := skipA_some h
      exact .of_su (storeA_ok hM (hev _ _ hv) (hev _ _ hu) e1)
    · cases h
  case nilCheck x =>
    split at h
    · rename_i v hv
      obtain ⟨u, e1, rfl⟩ := oneA_some h
      exact nilCk_ok rfl hM (hev _ _ hv) e1
    · cases h
  case binOp op t x y yt =>
    split at h
    · rename_i a b ha hb
      obtain ⟨u, e1, rfl⟩ := oneA_some h
      exact .of_sv (binOpA_ok hM (hev _ _ ha) (hev _ _ hb) e1)
    · cases h
  case unOp op t x =>
    split at h
    · rename_i a ha
      obtain ⟨u, e1, rfl⟩ := oneA_some h
      exact .of_sv (plain1_ok hM (hev _ _ ha) e1)
    · cases h
  case convert src dst x =>
    split at h
    · rename_i a ha
      cases hp : plainV FUEL a with
      | true =>
        simp only [hp, cond_true] at h
        obtain ⟨u, e1, rfl⟩ := oneA_some h
        exact .of_sv (plain1_ok hM (hev _ _ ha) e1)
      | false =>
        simp only [hp, cond_false] at h
        obtain ⟨u, e1, rfl⟩ := oneA_some h
        exact .of_sv (convA_ok hM (hev _ _ ha) e1)
    · cases h
  case makeInterface t x =>
    split at h
    · rename_i a ha
      obtain ⟨u, e1, rfl⟩ := oneA_some h
      exact .of_sv (ifaceA_ok hM (hev _ _ ha) e1)
    · cases h
  case makeFunc fn first cap =>
    split at h
    · rename_i f a b ha hb
      cases h
      exact .of_sv (.same hM (v' := .func (.func f) (first.map cev) (cap.map cev)) rfl (.func _ _ _ _ _ _ (.func f) (evs_arr hev ha).1 (evs_arr hev ha).2 (evs_arr hev hb).1 (evs_arr hev hb).2))
    · rename_i f a b ha hb
      cases h
      exact .of_sv (.same hM (v' := .func (.method f) (first.map cev) (cap.map cev)) rfl (.func _ _ _ _ _ _ (.method f) (evs_arr hev ha).1 (evs_arr hev ha).2 (evs_arr hev hb).1 (evs_arr hev hb).2))
    · rename_i t f a b ha hb
      cases h
      exact .of_sv (.same hM (v' := .func (.methodOf t f) (first.map cev) (cap.map cev)) rfl (.func _ _ _ _ _ _ (.methodOf t f) (evs_arr hev ha).1 (evs_arr hev ha).2 (evs_arr hev hb).1 (evs_arr hev hb).2))
    · cases h
  case makeMap t r0 =>
    split at h
    · rename_i hr
      obtain ⟨u, st', e1, rfl⟩ := pairA_some h
      exact .of_sv (makeMapA_ok hM (optEv_ok hev hr) (fun x hx => by cases hx) (.inl rfl) e1)
    · rename_i k n hr
      split at h
      · rename_i a b hu
        obtain ⟨u, st', e1, rfl⟩ := pairA_some h
        exact .of_sv (makeMapA_ok hM (optEv_ok hev hr) (fun x hx => by cases hx; exact ⟨_, _, rfl⟩) (.inr ⟨a, b, hu⟩) e1)
      · cases h
    · cases h
  case makeSlice t l c =>
    split at h
    · rename_i a b ha hb
      obtain ⟨u, st', e1, rfl⟩ := pairA_some h
      exact .of_sv (makeSliceA_ok hM (hev _ _ ha) (hev _ _ hb) e1)
    · cases h
  case slice t x lo hi mx =>
    split at h
    · rename_i a l hh m ha hl hhh hm
      cases hp : isStr a with
      | true =>
        simp only [hp, cond_true] at h
        obtain ⟨u, e1, rfl⟩ := oneA_some h
        exact .of_sv (strCut_ok hM (hev _ _ ha) (optEv_ok hev hl) (optEv_ok hev hhh) (optEv_ok hev hm) e1)
      | false =>
        simp only [hp, cond_false] at h
        obtain ⟨u, e1, rfl⟩ := oneF_some h
        exact .of_sv (sliceA_ok hM (hev _ _ ha) (optEv_ok hev hl) (optEv_ok hev hhh) (optEv_ok hev hm) e1)
    · cases h
  case fieldAddr t x f =>
    split at h
    · rename_i a ha
      obtain ⟨u, e1, rfl⟩ := oneA_some h
      exact .of_sv (fieldAddrA_ok hM (hev _ _ ha) e1)
    · cases h
  case field t x f =>
    split at h
    · rename_i a ha
      obtain ⟨u, e1, rfl⟩ := oneA_some h
      exact .of_sv (fieldA_ok hM (hev _ _ ha) e1)
    · cases h
  case indexAddr t x i =>
    split at h
    · rename_i a b ha hb
      obtain ⟨u, e1, rfl⟩ := oneA_some h
      exact .of_sv (indexAddrA_ok hM (hev _ _ ha) (hev _ _ hb) e1)
    · cases h
  case index t x i =>
    split at h
    · rename_i a b ha hb
      cases hp : isStr a with
      | true =>
        simp only [hp, cond_true] at h
        obtain ⟨u, e1, rfl⟩ := oneA_some h
        exact .of_sv (strIx_ok hM (hev _ _ ha) (hev _ _ hb) e1)
      | false =>
        simp only [hp, cond_false] at h
        obtain ⟨u, e1, rfl⟩ := oneA_some h
        exact .of_sv (indexA_ok hM (hev _ _ ha) (hev _ _ hb) e1)
    · cases h
  case lookup t x i ok =>
    split at h
    · rename_i a b ha hb
      obtain ⟨u, e1, rfl⟩ := oneA_some h
      exact .of_sv (lookA_ok hM (hev _ _ ha) (hev _ _ hb) e1)
    · cases h
  case mapUpdate t m k x =>
    split at h
    · rename_i a b c ha hb hc
      obtain ⟨st', e1, rfl⟩ := skipA_some h
      exact .of_su (updA_ok hM (hev _ _ ha) (hev _ _ hb) (hev _ _ hc) e1)
    · cases h
  case insert t m k x =>
    split at h
    · rename_i a b c ha hb hc
      obtain ⟨st', e1, rfl⟩ := skipA_some h
      exact .of_su (updA_ok hM (hev _ _ ha) (hev _ _ hb) (hev _ _ hc) e1)
    · cases h
  case range t x =>
    split at h
    · rename_i a ha
      obtain ⟨u, st', e1, rfl⟩ := pairA_some h
      exact .of_sv (rangeA_ok hM (hev _ _ ha) e1)
    · cases h
  case next it b =>
    split at h
    · rename_i a ha
      obtain ⟨u, st', e1, rfl⟩ := pairA_some h
      exact .of_sv (nextA_ok hM (hev _ _ ha) e1)
    · cases h
  case typeAssert x xt t ok =>
    split at h
    · rename_i a ha
      obtain ⟨u, e1, rfl⟩ := oneA_some h
      exact .of_sv (assertA_ok hM (hev _ _ ha) e1)
    · cases h
  case extract x i =>
    split at h
    · rename_i a ha
      obtain ⟨u, e1, rfl⟩ := oneA_some h
      exact .of_sv (extractA_ok hM (hev _ _ ha) e1)
    · cases h
  case call c =>
    obtain ⟨callee, args, argTypes⟩ := c
    cases callee with
    | builtin b =>
      simp only at h
      split at h
      · rename_i l hl
        refine .of_eq ?_ (bltA_ok hM (evs_arr hev hl) h)
        simp only [execOp, resolve, Sem.run_bind, Sem.run_pure, Result.andThen_ok, invoke]
        rfl
      · cases h
    | invoke recv name =>
      simp only at h
      split at h
      · rename_i q l hq hl
        refine .of_eq ?_ (callM_ok hE hM (hev _ _ hq) (evs_arr hev hl) h)
        simp only [execOp, resolve, Sem.run_bind, Sem.run_pure, Result.andThen_ok, invoke]
        simp only [List.size_toArray, List.length_cons, List.length_nil, Nat.zero_add, Nat.lt_add_one, Array.getElem?_append_left, List.getElem?_toArray, List.getElem?_cons_zero]
        rw [show (#[cev recv] ++ Array.map cev args).extract 1 (#[cev recv] ++ Array.map cev args).size = Array.map cev args by
          apply Array.toList_inj.1
          simp
          exact List.take_of_length_le (by simp)]
      · cases h
    | value f =>
      simp only at h
      split at h
      · rename_i fn first cap l hf hl
        have hfv := hev _ _ hf
        generalize hcf : cev f = y at hfv
        cases hfv with
        | func _ fn' _ first' _ cap' hfn h1 h2 h3 h4 =>
          refine .of_eq ?_ (invokeA_ok hE hM hfn ⟨h3, h4⟩ (VRs.append ⟨h1, h2⟩ (evs_arr hev hl)) h)
          simp only [execOp, resolve, hcf, Deferred.ofValue, Sem.run_bind, Sem.run_pure, Result.andThen_ok]
      · cases h
  case defer c =>
    obtain ⟨callee, args, argTypes⟩ := c
    cases callee with
    | value f =>
      simp only at h
      split at h
      · rename_i fn first cap l hf hl
        cases h
        have hfv := hev _ _ hf
        generalize hcf : cev f = y at hfv
        cases hfv with
        | func _ fn' _ first' _ cap' hfn h1 h2 h3 h4 =>
          refine ⟨s, w, { target := .fn fn' cap', args := first' ++ args.map cev }, ?_, .fn _ _ _ _ _ _ hfn ⟨h3, h4⟩ (VRs.append ⟨h1, h2⟩ (evs_arr hev hl)), hM, .refl _ _ _⟩
          simp only [execOp, resolve, hcf, Deferred.ofValue, Sem.run_bind, Sem.run_pure, Result.andThen_ok]
      · cases h
    | _ => simp at h
  case panic x =>
    split at h
    · rename_i t v hv
      cases h
      have hfv := hev _ _ hv
      generalize hcx : cev x = y at hfv
      cases hfv with
      | iface _ _ v' hvv =>
        exact ⟨s, w, .iface t v', by simp [execOp, hcx, Instr.panic], .iface _ _ _ hvv, hM, .refl _ _ _⟩
    · cases h
  all_goals cases h

end Go.Proofs.Ytfilbknnpjbmcaa.Cx
