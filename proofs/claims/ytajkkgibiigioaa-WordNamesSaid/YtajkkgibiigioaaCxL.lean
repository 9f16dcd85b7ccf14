/- A closed call, run: builtins, operators, and one operation, dispatched. No program of its own. -/
import Derived.Test.YtajkkgibiigioaaCxK
import Derived.BigFrame
namespace Go.Proofs.Ytajkkgibiigioaa.Cx
open Go Go.RowKit Go.BigFrame

noncomputable def pairA (x : Option (Value × St)) : Option Res :=
  match x with
  | some (v, st) => some (.val v st)
  | none => none
noncomputable def oneA (st : St) (x : Option Value) : Option Res :=
  match x with
  | some v => some (.val v st)
  | none => none
noncomputable def plainA (st : St) (x : Option Value) : Option Res :=
  match x with
  | some v => bif plainV FUEL v then some (.val v st) else none
  | none => none
theorem pairA_some {x : Option (Value × St)} {r : Res} (h : pairA x = some r) : ∃ v st, x = some (v, st) ∧ r = .val v st := by
  unfold pairA at h
  split at h
  · cases h; exact ⟨_, _, rfl, rfl⟩
  · cases h
theorem oneA_some {st : St} {x : Option Value} {r : Res} (h : oneA st x = some r) : ∃ v, x = some v ∧ r = .val v st := by
  unfold oneA at h
  split at h
  · cases h; exact ⟨_, rfl, rfl⟩
  · cases h
theorem plainA_some {st : St} {x : Option Value} {r : Res} (h : plainA st x = some r) : ∃ v, x = some v ∧ plainV FUEL v = true ∧ r = .val v st := by
  unfold plainA at h
  split at h
  · rename_i v
    cases hp : plainV FUEL v with
    | false => simp [hp] at h
    | true => simp only [hp, cond_true, Option.some.injEq] at h; exact ⟨v, rfl, hp, h.symm⟩
  · cases h

/-- delete(m, k). -/
noncomputable def delA (P : Program) (t : TypeId) (m k : Value) (st : St) : Option (Value × St) :=
  match P.underlying t, m with
  | some (.map kt _), .map none => bif plainV FUEL k then match pureRun P (Instr.checkKey true 10000 kt k) with
    | some () => some (.tuple #[], st)
    | none => none
    else none
  | some (.map kt _), .map (some g) => match P.underlying kt, st.H.get g with
    | some d, some (.obj (.map es c)) => bif plainV FUEL k then match pureRun P (Instr.checkKey es.isEmpty 10000 kt k), Instr.findNow d k es.toList 0 with
      | some (), some (some (i, _)) => T.put (some (.obj (.map (es.eraseIdxIfInBounds i) c))) FUEL st.H g fun H => some (.tuple #[], ⟨H, st.c, st.lim⟩)
      | some (), some none => some (.tuple #[], st)
      | _, _ => none
      else none
    | _, _ => none
  | _, _ => none

noncomputable def bltA (E : Env) (b : Builtin) (ts : Array TypeId) (ty : TypeId) (cs : Array Bool) (args : Array Value) (st : St) : Option Res :=
  match b, ts.toList, args.toList with
  | .append, [t, t1], [x, y] => pairA (appendA E.P t t1 x y st)
  | .copy, [t, _], [x, y] => pairA (copyA E.P t x y st)
  | .len, t :: _, [x] => oneA st (lenA E.P t x st)
  | .cap, t :: _, [x] => oneA st (capA E.P t x)
  | .recover, _, _ => some (.recover st)
  | .unsafeString, [t, _], [x, y] => pairA (unsafeStringA E.P t x y st)
  | .unsafeSliceData, _, [x] => oneA st (sliceDataA x st)
  | .panic, _, [.iface t v] => some (.panic (.iface t v) st)
  | .min, _, _ => bif args.toList.all (plainV FUEL) then plainA st (pureRun E.P (Builtin.min_ ts ty args)) else none
  | .max, _, _ => bif args.toList.all (plainV FUEL) then plainA st (pureRun E.P (Builtin.max_ ts ty args)) else none
  | _, _, _ => none
theorem arr_of {α : Type} {a : Array α} {l : List α} (h : a.toList = l) : a = l.toArray := by rw [← Array.toArray_toList (xs := a), h]
theorem bltA_ok {E : Env} {s : Ren} {st : St} {w : World} {b : Builtin} {ts : Array TypeId} {ty : TypeId} {cs : Array Bool} {args args' : Array Value} {r : Res} (hM : Mem s st w) (ha : VRs s args args') (h : bltA E b ts ty cs args st = some r) :
    Snd E.P s st w (builtin b ts ty cs args') r := by
  unfold bltA at h
  split at h
  · rename_i t t1 x y h1 h2
    obtain ⟨v, st', e, rfl⟩ := pairA_some h
    obtain ⟨x', y', rfl, hx, hy⟩ := ha.l2 h2
    rw [arr_of h1, builtin_append]
    exact .of_sv (appendA_ok hM hx hy e)
  · rename_i t t1 x y h1 h2
    obtain ⟨v, st', e, rfl⟩ := pairA_some h
    obtain ⟨x', y', rfl, hx, hy⟩ := ha.l2 h2
    rw [arr_of h1, builtin_copy]
    exact .of_sv (copyA_ok hM hx hy e)
  · rename_i t tl x h1 h2
    obtain ⟨v, e, rfl⟩ := oneA_some h
    obtain ⟨x', rfl, hx⟩ := ha.l1 h2
    rw [builtin_len]
    exact .of_sv (lenA_ok (by rw [arr_of h1]; rfl) hM hx e)
  · rename_i t tl x h1 h2
    obtain ⟨v, e, rfl⟩ := oneA_some h
    obtain ⟨x', rfl, hx⟩ := ha.l1 h2
    rw [builtin_cap]
    exact .of_sv (capA_ok (by rw [arr_of h1]; rfl) hM hx e)
  · cases h
    exact ⟨s, w, rfl, hM, .refl _ _ _⟩
  · rename_i t t1 x y h1 h2
    obtain ⟨v, st', e, rfl⟩ := pairA_some h
    obtain ⟨x', y', rfl, hx, hy⟩ := ha.l2 h2
    rw [arr_of h1, builtin_unsafeString]
    exact .of_sv (unsafeStringA_ok hM hx hy e)
  · rename_i x h2
    obtain ⟨v, e, rfl⟩ := oneA_some h
    obtain ⟨x', rfl, hx⟩ := ha.l1 h2
    rw [builtin_unsafeSliceData]
    exact .of_sv (sliceDataA_ok hM hx e)
  · rename_i t v h2
    cases h
    obtain ⟨x', rfl, hx⟩ := ha.l1 h2
    cases hx with
    | iface _ _ v' hv => exact ⟨s, w, .iface t v', by rw [builtin_panic]; simp [Instr.panic], .iface _ _ _ hv, hM, .refl _ _ _⟩
  · cases hp : args.toList.all (plainV FUEL) with
    | false => simp only [hp, cond_false] at h; cases h
    | true =>
      simp only [hp, cond_true] at h
      obtain ⟨v, e, hv, rfl⟩ := plainA_some h
      rw [ha.plain hp, builtin_min]
      exact .of_sv (.same hM (pureRun_ok _ e w) (plainV_self hv))
  · cases hp : args.toList.all (plainV FUEL) with
    | false => simp only [hp, cond_false] at h; cases h
    | true =>
      simp only [hp, cond_true] at h
      obtain ⟨v, e, hv, rfl⟩ := plainA_some h
      rw [ha.plain hp, builtin_max]
      exact .of_sv (.same hM (pureRun_ok _ e w) (plainV_self hv))
  · cases h

/-- Whole numbers that are not negative: the everyday operators. -/
noncomputable def intFast (op : BinOp) (k : IntKind) (m n : Nat) : Option Value :=
  match op with
  | .eql => some (.bool (Nat.beq m n))
  | .neq => some (.bool (!Nat.beq m n))
  | .lss => some (.bool (Nat.blt m n))
  | .leq => some (.bool (Nat.ble m n))
  | .gtr => some (.bool (Nat.blt n m))
  | .geq => some (.bool (Nat.ble n m))
  | .add => match k with
    | .i64 => bif Nat.blt (Nat.add m n) 9223372036854775808 then some (.int .i64 (.ofNat (Nat.add m n))) else none
    | _ => none
  | .sub => match k with
    | .i64 => bif Nat.ble n m && Nat.blt m 9223372036854775808 then some (.int .i64 (.ofNat (Nat.sub m n))) else none
    | _ => none
  | _ => none
theorem guard_int {P : Program} {op : BinOp} {t : TypeId} {xo yo : Operand} {k k' : IntKind} {m n : Int} (w : World) : (eqGuard op t xo yo (.int k m) (.int k' n)).run P w = .ok () w := by
  unfold eqGuard
  cases op <;> rfl
theorem intFast_ok {P : Program} {op : BinOp} {t : TypeId} {xo yo : Operand} {k : IntKind} {m n : Nat} {v : Value} (h : intFast op k m n = some v) (w : World) :
    (do eqGuard op t xo yo (.int k (.ofNat m)) (.int k (.ofNat n)); binOp op t (.int k (.ofNat m)) (.int k (.ofNat n)) : Sem Value).run P w = .ok v w ∧ plainV FUEL v = true := by
  rw [Sem.run_bind, guard_int]
  simp only [Result.andThen_ok]
  unfold intFast at h
  split at h
  · cases h; simp [binOp, Op.intCmp, plainV, FUEL, beq_nat]
    rw [Bool.eq_iff_iff]; simp; omega
  · cases h; simp [binOp, Op.intCmp, plainV, FUEL, beq_nat]
    rw [Bool.eq_iff_iff]; simp; omega
  · cases h; simp [binOp, Op.intCmp, plainV, FUEL]
    rw [Bool.eq_iff_iff]; simp [Nat.blt_eq]
  · cases h; simp [binOp, Op.intCmp, plainV, FUEL]
    rw [Bool.eq_iff_iff]; simp [Nat.ble_eq]
  · cases h; simp [binOp, Op.intCmp, plainV, FUEL]
    rw [Bool.eq_iff_iff]; simp [Nat.blt_eq]
  · cases h; simp [binOp, Op.intCmp, plainV, FUEL]
    rw [Bool.eq_iff_iff]; simp [Nat.ble_eq]
  · split at h
    · cases hb : Nat.blt (Nat.add m n) 9223372036854775808 with
      | false => simp only [hb, cond_false] at h; cases h
      | true =>
        simp only [hb, cond_true, Option.some.injEq] at h
        rw [Nat.blt_eq] at hb
        have hb' : m + n < 9223372036854775808 := hb
        subst h
        have : IntKind.i64.wrap ((m : Int) + (n : Int)) = ((m + n : Nat) : Int) := by rw [IntWalk.i64_in _ (by omega)]; omega
        simp only [Int.ofNat_eq_natCast]
        simp [binOp, Op.intArith, plainV, FUEL, this]
    · cases h
  · split at h
    · cases hb : (Nat.ble n m && Nat.blt m 9223372036854775808) with
      | false => simp only [hb, cond_false] at h; cases h
      | true =>
        simp only [hb, cond_true, Option.some.injEq] at h
        simp only [Bool.and_eq_true, Nat.ble_eq, Nat.blt_eq] at hb
        subst h
        have : IntKind.i64.wrap ((m : Int) - (n : Int)) = ((m - n : Nat) : Int) := by rw [IntWalk.i64_in _ (by omega)]; omega
        simp only [Int.ofNat_eq_natCast]
        simp [binOp, Op.intArith, plainV, FUEL, this]
    · cases h
  · cases h

noncomputable def isAggV : Value → Bool
  | .agg _ => true
  | _ => false
noncomputable def slowOp (P : Program) (op : BinOp) (t : TypeId) (xo yo : Operand) (a b : Value) (st : St) : Option Value :=
  bif plainV FUEL a && plainV FUEL b then match pureRun P (do eqGuard op t xo yo a b; binOp op t a b) with
    | some v => bif plainV FUEL v then some v else none
    | none => none
  else bif isAggV a || isAggV b then none else match op with
    | .eql => match eqA P st 8 10000 t a b with
      | some r => some (.bool r)
      | none => none
    | .neq => match eqA P st 8 10000 t a b with
      | some r => some (.bool (!r))
      | none => none
    | _ => none
noncomputable def binOpA (P : Program) (op : BinOp) (t : TypeId) (xo yo : Operand) (a b : Value) (st : St) : Option Value :=
  match a, b with
  | .int k (.ofNat m), .int k' (.ofNat n) => bif decide (k = k') then match intFast op k m n with
    | some v => some v
    | none => slowOp P op t xo yo a b st
    else none
  | _, _ => slowOp P op t xo yo a b st
theorem guard_ok {P : Program} (op : BinOp) {t : TypeId} {xo yo : Operand} {a b : Value} (n1 : isAggV a = false) (n2 : ¬ (a = .nilIface ∧ b = .nilIface)) (w : World) : (eqGuard op t xo yo a b).run P w = .ok () w := by
  unfold eqGuard
  cases op <;> first
    | rfl
    | (cases a <;> cases b <;> first | rfl | exact absurd ⟨rfl, rfl⟩ n2 | (simp [isAggV] at n1))
theorem slowOp_ok {P : Program} {s : Ren} {st : St} {w : World} {op : BinOp} {t : TypeId} {xo yo : Operand} {a a' b b' v : Value} (hM : Mem s st w) (ha : VR s a a') (hb : VR s b b') (h : slowOp P op t xo yo a b st = some v) :
    SV P s st w (do eqGuard op t xo yo a' b'; binOp op t a' b') v st := by
  unfold slowOp at h
  cases hp : (plainV FUEL a && plainV FUEL b) with
  | true =>
    simp only [hp, cond_true] at h
    simp only [Bool.and_eq_true] at hp
    split at h
    · rename_i u hu
      cases hpu : plainV FUEL u with
      | false => simp [hpu] at h
      | true =>
        simp only [hpu, cond_true, Option.some.injEq] at h
        subst h
        rw [plainV_eq hp.1 ha, plainV_eq hp.2 hb]
        exact .same hM (pureRun_ok _ hu w) (plainV_self hpu)
    · cases h
  | false =>
    simp only [hp, cond_false] at h
    cases hag : (isAggV a || isAggV b) with
    | true => simp only [hag, cond_true] at h; cases h
    | false =>
      simp only [hag, cond_false] at h
      have hg : ∀ op, (eqGuard op t xo yo a' b').run P w = .ok () w := by
        intro op
        have n1 : isAggV a' = false := by
          simp only [Bool.or_eq_false_iff] at hag
          cases ha <;> first | rfl | (simp [isAggV] at hag)
        have n2 : ¬ (a' = .nilIface ∧ b' = .nilIface) := by
          rintro ⟨rfl, rfl⟩
          cases ha; cases hb
          simp [plainV, FUEL] at hp
        exact guard_ok op n1 n2 w
      have hbin : ∀ op, (op = .eql ∨ op = .neq) → ∀ r, eqA P st 8 10000 t a b = some r → (binOp op t a' b').run P w = .ok (.bool (if op = .eql then r else !r)) w := by
        intro op hop r hr
        have he := eqA_ok (P := P) hM ha hb hr
        have he' : (Op.equal t a' b').run P w = .ok r w := he
        have nint : ∀ k m k' n, ¬ (a' = .int k m ∧ b' = .int k' n) := by
          rintro k m k' n ⟨rfl, rfl⟩
          cases ha; cases hb
          simp [plainV, FUEL] at hp
        have nstr : ∀ m n, ¬ (a' = .string m ∧ b' = .string n) := by
          rintro m n ⟨rfl, rfl⟩
          cases ha; cases hb
          simp [plainV, FUEL] at hp
        rcases hop with rfl | rfl
        · have : binOp .eql t a' b' = (do pure (.bool (← Op.equal t a' b'))) := by
            cases ha <;> cases hb <;> first | rfl | (exact absurd ⟨rfl, rfl⟩ (nint _ _ _ _)) | (exact absurd ⟨rfl, rfl⟩ (nstr _ _))
          rw [this]
          simp [he']
        · have : binOp .neq t a' b' = (do pure (.bool (!(← Op.equal t a' b')))) := by
            cases ha <;> cases hb <;> first | rfl | (exact absurd ⟨rfl, rfl⟩ (nint _ _ _ _)) | (exact absurd ⟨rfl, rfl⟩ (nstr _ _))
          rw [this]
          simp [he']
      split at h
      · split at h
        · rename_i r hr
          cases h
          have := hbin .eql (.inl rfl) r hr
          exact .same hM (v' := .bool r) (by simp [hg, this]) (.bool _)
        · cases h
      · split at h
        · rename_i r hr
          cases h
          have := hbin .neq (.inr rfl) r hr
          exact .same hM (v' := .bool (!r)) (by simp [hg, this]) (.bool _)
        · cases h
      · cases h
theorem binOpA_ok {P : Program} {s : Ren} {st : St} {w : World} {op : BinOp} {t : TypeId} {xo yo : Operand} {a a' b b' v : Value} (hM : Mem s st w) (ha : VR s a a') (hb : VR s b b') (h : binOpA P op t xo yo a b st = some v) :
    SV P s st w (do eqGuard op t xo yo a' b'; binOp op t a' b') v st := by
  unfold binOpA at h
  split at h
  · rename_i k m k' n
    cases hk : decide (k = k') with
    | false => simp only [hk, cond_false] at h; cases h
    | true =>
      simp only [hk, cond_true] at h
      have hkk : k = k' := of_decide_eq_true hk
      subst hkk
      split at h
      · rename_i u hu
        cases h
        cases ha; cases hb
        obtain ⟨h1, h2⟩ := intFast_ok (P := P) (t := t) (xo := xo) (yo := yo) hu w
        exact .same hM h1 (plainV_self h2)
      · exact slowOp_ok hM ha hb h
  · exact slowOp_ok hM ha hb h

end Go.Proofs.Ytajkkgibiigioaa.Cx
