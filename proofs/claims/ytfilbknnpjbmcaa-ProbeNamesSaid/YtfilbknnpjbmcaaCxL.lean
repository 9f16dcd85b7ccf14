/- A closed call, run: builtins, operators, and one operation, dispatched. No program of its own. -/
import Derived.Test.YtfilbknnpjbmcaaCxK
import Derived.BigFrame
namespace Go.Proofs.Ytfilbknnpjbmcaa.Cx
open Go Go.RowKit Go.BigFrame

noncomputable def pairA (x : Option (Value × St)) : Option Res :=
  match x with
  | some (v, st) => forceV v fun v => normS st fun st => some (.val v st)
  | none => none
noncomputable def pairL (x : Option (Value × St)) : Option Res :=
  match x with
  | some (v, st) => some (.val v st)
  | none => none
noncomputable def oneF (st : St) (x : Option Value) : Option Res :=
  match x with
  | some v => forceV v fun v => some (.val v st)
  | none => none
theorem pairL_some {x : Option (Value × St)} {r : Res} (h : pairL x = some r) : ∃ v st, x = some (v, st) ∧ r = .val v st := by
  unfold pairL at h
  split at h
  · cases h; exact ⟨_, _, rfl, rfl⟩
  · cases h
theorem oneF_some {st : St} {x : Option Value} {r : Res} (h : oneF st x = some r) : ∃ v, x = some v ∧ r = .val v st := by
  unfold oneF at h
  split at h
  · rw [forceV_eq] at h; cases h; exact ⟨_, rfl, rfl⟩
  · cases h
noncomputable def skipA (x : Option St) : Option Res :=
  match x with
  | some st => normS st fun st => some (.skip st)
  | none => none
theorem skipA_some {x : Option St} {r : Res} (h : skipA x = some r) : ∃ st, x = some st ∧ r = .skip st := by
  unfold skipA at h
  split at h
  · cases h; exact ⟨_, rfl, rfl⟩
  · cases h
noncomputable def oneA (st : St) (x : Option Value) : Option Res :=
  match x with
  | some v => some (.val v st)
  | none => none
noncomputable def plainA (st : St) (x : Option Value) : Option Res :=
  match x with
  | some v => bif plainV FUEL v then some (.val v st) else none
  | none => none
theorem pairA_some {x : Option (Value × St)} {r : Res} (h : pairA x = some r) : ∃ v st, x = some (v, st) ∧ r = .val v st := by
  unfold pairA at h
  split at h
  · rw [forceV_eq] at h; cases h; exact ⟨_, _, rfl, rfl⟩
  · cases h
theorem oneA_some {st : St} {x : Option Value} {r : Res} (h : oneA st x = some r) : ∃ v, x = some v ∧ r = .val v st := by
  unfold oneA at h
  split at h
  · cases h; exact ⟨_, rfl, rfl⟩
  · cases h
theorem plainA_some {st : St} {x : Option Value} {r : Res} (h : plainA st x = some r) : ∃ v, x = some v ∧ plainV FUEL v = true ∧ r = .val v st := by
  unfold plainA at h
  split at h
  · rename_i v
    cases hp : plainV FUEL v with
    | false => simp [hp] at h
    | true => simp only [hp, cond_true, Option.some.injEq] at h; exact ⟨v, rfl, hp, h.symm⟩
  · cases h

/-- delete(m, k). -/
noncomputable def delA (P : Program) (t : TypeId) (m k : Value) (st : St) : Option (Value × St) :=
  match P.underlying t, m with
  | some (.map kt _), .map none => bif plainV FUEL k then match pureRun P (Instr.checkKey true 10000 kt k) with
    | some () => some (.tuple #[], st)
    | none => none
    else none
  | some (.map kt _), .map (some g) => match P.underlying kt, st.H.get g with
    | some d, some (.obj (.map es c)) => bif plainV FUEL k then match pureRun P (Instr.checkKey es.isEmpty 10000 kt k), Instr.findNow d k es.toList 0 with
      | some (), some (some (i, _)) => TH.put (some (.obj (.map (es.eraseIdxIfInBounds i) c))) FUEL st.H g fun H => some (.tuple #[], ⟨H, st.c, st.lim⟩)
      | some (), some none => some (.tuple #[], st)
      | _, _ => none
      else none
    | _, _ => none
  | _, _ => none

/-- clear(s), of a slice. -/
noncomputable def clearA (P : Program) (t : TypeId) (x : Value) (st : St) : Option (Value × St) :=
  match P.underlying t, x with
  | some (.slice _), .slice none _ _ => some (.tuple #[], st)
  | some (.slice _), .slice _ 0 _ => some (.tuple #[], st)
  | some (.slice e), .slice (some ⟨g, off, none⟩) n _ => match P.info? e with
    | some i => match i.zero with
      | some z => bif plainV FUEL z && Nat.blt 0 z.cells.size then storesO g off (zerosC z.cells.toList z.cells.toList (n * z.cells.size)) st fun st' => some (.tuple #[], st') else none
      | none => none
    | none => none
  | _, _ => none
theorem clearA_ok {P : Program} {s : Ren} {st st' : St} {w : World} {t ty : TypeId} {x x' v : Value} (hM : Mem s st w) (hx : VR s x x') (h : clearA P t x st = some (v, st')) :
    SV P s st w (Builtin.clear_ #[t] ty #[x']) v st' := by
  unfold clearA at h
  split at h
  · rename_i e _ _ hu
    cases h
    cases hx
    exact ⟨s, w, .tuple #[], by simp [Builtin.clear_, run_underlying hu], .tuple _ _ rfl (fun i h => absurd h (by simp)), hM, .refl _ _ _⟩
  · obtain ⟨e, hu⟩ : ∃ e, P.underlying t = some (.slice e) := ⟨_, by assumption⟩
    cases h
    refine ⟨s, w, .tuple #[], ?_, .tuple _ _ rfl (fun i h => absurd h (by simp)), hM, .refl _ _ _⟩
    cases hx <;> simp [Builtin.clear_, run_underlying hu]
  · rename_i e g off n _ hn0 hu
    split at h
    · rename_i i hi
      split at h
      · rename_i z hz
        cases hb : (plainV FUEL z && Nat.blt 0 z.cells.size) with
        | false => simp only [hb, cond_false] at h; cases h
        | true =>
          simp only [hb, cond_true] at h
          simp only [Bool.and_eq_true, Nat.blt_eq] at hb
          obtain ⟨hpl, h0⟩ := hb
          rw [zerosC_eq h0] at h
          have hzc : VRs s z.cells z.cells := (plainV_self hpl).cells
          have hzr := zerosL_rel hzc h0 (n * z.cells.size)
          have hl : ∃ l : Loc, ∃ c', s g = some l ∧ x' = .slice (some ⟨l.blk, off, none⟩) n c' := by
            cases hx with
            | slice _ _ _ _ l hl _ => exact ⟨l, _, hl, rfl⟩
            | sliceEnd _ _ _ _ _ _ l hl _ _ => exact ⟨l, _, hl, rfl⟩
            | sliceEmpty _ b _ _ c h0 _ => exact absurd h0 hn0
          obtain ⟨l, c', hl, rfl⟩ := hl
          obtain ⟨st1, w1, h1, h2, h3, h4, _⟩ := storesO_ok (P := P) hl (vs' := (zerosL z.cells (n * z.cells.size)).toList) off 0 hM rfl (fun j u hu => by
            obtain ⟨u', e1, e2⟩ := hzr.get (i := j) (v := u) (by simpa using hu)
            exact ⟨u', by simpa using e1, e2⟩) h
          cases h1
          have e4 : (zeroValue e).run P w = .ok z w := by simp [zeroValue, typeInfo, hi, hz]
          have e5 : Builtin.zeroCells z.cells n = zerosL z.cells (n * z.cells.size) := rfl
          refine ⟨s, w1, .tuple #[], ?_, .tuple _ _ rfl (fun i h => absurd h (by simp)), h3, h4⟩
          cases n with
          | zero => exact absurd rfl hn0
          | succ n => simp [Builtin.clear_, run_underlying hu, e4, e5, h2]
      · cases h
    · cases h
  · cases h

noncomputable def bltA (E : Env) (b : Builtin) (ts : Array TypeId) (ty : TypeId) (_cs : Array Bool) (args : Array Value) (st : St) : Option Res :=
  match b, ts.toList, args.toList with
  | .append, [t, t1], [x, .int .i64 (.ofNat n)] => pairA (appendZ E.P t t1 x n st)
  | .append, [t, t1], [x, y] => pairA (appendA E.P t t1 x y st)
  | .copy, [t, _], [x, y] => pairA (copyA E.P t x y st)
  | .len, t :: _, [x] => oneA st (lenA E.P t x st)
  | .cap, t :: _, [x] => oneA st (capA E.P t x)
  | .recover, _, _ => some (.recover st)
  | .clear, [t], [x] => pairA (clearA E.P t x st)
  | .unsafeString, [t, _], [x, y] => pairA (unsafeStringA E.P t x y st)
  | .unsafeSliceData, _, [x] => oneA st (sliceDataA x st)
  | .panic, _, [.iface t v] => some (.panic (.iface t v) st)
  | .min, _, _ => bif args.toList.all (plainV FUEL) then plainA st (pureRun E.P (Builtin.min_ ts ty args)) else none
  | .max, _, _ => bif args.toList.all (plainV FUEL) then plainA st (pureRun E.P (Builtin.max_ ts ty args)) else none
  | _, _, _ => none
theorem arr_of {α : Type} {a : Array α} {l : List α} (h : a.toList = l) : a = l.toArray := by rw [← Array.toArray_toList (xs := a), h]
theorem bltA_ok {E : Env} {s : Ren} {st : St} {w : World} {b : Builtin} {ts : Array TypeId} {ty : TypeId} {cs : Array Bool} {args args' : Array Value} {r : Res} (hM : Mem s st w) (ha : VRs s args args') (h : bltA E b ts ty cs args st = some r) :
    Snd E.P s st w (builtin b ts ty cs args') r := by
  unfold bltA at h
  split at h
  · rename_i t t1 x n h1 h2
    obtain ⟨v, st', e, rfl⟩ := pairA_some h
    obtain ⟨x', y', rfl, hx, hy⟩ := ha.l2 h2
    cases hy
    rw [arr_of h1, builtin_append]
    exact .of_sv (appendZ_ok hM hx e)
  · rename_i t t1 x y _ h1 h2
    obtain ⟨v, st', e, rfl⟩ := pairA_some h
    obtain ⟨x', y', rfl, hx, hy⟩ := ha.l2 h2
    rw [arr_of h1, builtin_append]
    exact .of_sv (appendA_ok hM hx hy e)
  · rename_i t t1 x y h1 h2
    obtain ⟨v, st', e, rfl⟩ := pairA_some h
    obtain ⟨x', y', rfl, hx, hy⟩ := ha.l2 h2
    rw [arr_of h1, builtin_copy]
    exact .of_sv (copyA_ok hM hx hy e)
  · rename_i t tl x h1 h2
    obtain ⟨v, e, rfl⟩ := oneA_some h
    obtain ⟨x', rfl, hx⟩ := ha.l1 h2
    rw [builtin_len]
    exact .of_sv (lenA_ok (by rw [arr_of h1]; rfl) hM hx e)
  · rename_i t tl x h1 h2
    obtain ⟨v, e, rfl⟩ := oneA_some h
    obtain ⟨x', rfl, hx⟩ := ha.l1 h2
    rw [builtin_cap]
    exact .of_sv (capA_ok (by rw [arr_of h1]; rfl) hM hx e)
  · cases h
    exact ⟨s, w, rfl, hM, .refl _ _ _⟩
  · rename_i t x h1 h2
    obtain ⟨v, st', e, rfl⟩ := pairA_some h
    obtain ⟨x', rfl, hx⟩ := ha.l1 h2
    rw [arr_of h1, builtin_clear]
    exact .of_sv (clearA_ok hM hx e)
  · rename_i t t1 x y h1 h2
    obtain ⟨v, st', e, rfl⟩ := pairA_some h
    obtain ⟨x', y', rfl, hx, hy⟩ := ha.l2 h2
    rw [arr_of h1, builtin_unsafeString]
    exact .of_sv (unsafeStringA_ok hM hx hy e)
  · rename_i x h2
    obtain ⟨v, e, rfl⟩ := oneA_some h
    obtain ⟨x', rfl, hx⟩ := ha.l1 h2
    rw [builtin_unsafeSliceData]
    exact .of_sv (sliceDataA_ok hM hx e)
  · rename_i t v h2
    cases h
    obtain ⟨x', rfl, hx⟩ := ha.l1 h2
    cases hx with
    | iface _ _ v' hv => exact ⟨s, w, .iface t v', by rw [builtin_panic]; simp [Instr.panic], .iface _ _ _ hv, hM, .refl _ _ _⟩
  · cases hp : args.toList.all (plainV FUEL) with
    | false => simp only [hp, cond_false] at h; cases h
    | true =>
      simp only [hp, cond_true] at h
      obtain ⟨v, e, hv, rfl⟩ := plainA_some h
      rw [ha.plain hp, builtin_min]
      exact .of_sv (.same hM (pureRun_ok _ e w) (plainV_self hv))
  · cases hp : args.toList.all (plainV FUEL) with
    | false => simp only [hp, cond_false] at h; cases h
    | true =>
      simp only [hp, cond_true] at h
      obtain ⟨v, e, hv, rfl⟩ := plainA_some h
      rw [ha.plain hp, builtin_max]
      exact .of_sv (.same hM (pureRun_ok _ e w) (plainV_self hv))
  · cases h

noncomputable def mkB (b : Bool) : Option Value := Bool.rec (motive := fun _ => Option Value) (some (.bool false)) (some (.bool true)) b
theorem mkB_eq (b : Bool) : mkB b = some (.bool b) := by cases b <;> rfl
noncomputable def mkI (n : Nat) : Option Value := forceN n fun n => some (.int .i64 (.ofNat n))
theorem mkI_eq (n : Nat) : mkI n = some (.int .i64 (.ofNat n)) := rfl
noncomputable def kix (k : IntKind) : Nat :=
  match k with
  | .i8 => 0 | .i16 => 1 | .i32 => 2 | .i64 => 3 | .u8 => 4 | .u16 => 5 | .u32 => 6 | .u64 => 7
theorem kix_eq (k k' : IntKind) : Nat.beq (kix k) (kix k') = decide (k = k') := by cases k <;> cases k' <;> rfl
/-- Whole numbers that are not negative: the everyday operators. -/
noncomputable def intFast (op : BinOp) (k : IntKind) (m n : Nat) : Option Value :=
  match op with
  | .eql => mkB (Nat.beq m n)
  | .neq => mkB (!Nat.beq m n)
  | .lss => mkB (Nat.blt m n)
  | .leq => mkB (Nat.ble m n)
  | .gtr => mkB (Nat.blt n m)
  | .geq => mkB (Nat.ble n m)
  | .add => match k with
    | .i64 => bif Nat.blt (Nat.add m n) 9223372036854775808 then mkI (Nat.add m n) else none
    | _ => none
  | .sub => match k with
    | .i64 => bif Nat.ble n m && Nat.blt m 9223372036854775808 then mkI (Nat.sub m n) else none
    | _ => none
  | _ => none
theorem guard_int {P : Program} {op : BinOp} {t : TypeId} {xo yo : Operand} {k k' : IntKind} {m n : Int} (w : World) : (eqGuard op t xo yo (.int k m) (.int k' n)).run P w = .ok () w := by
  unfold eqGuard
  cases op <;> rfl
theorem intFast_ok {P : Program} {op : BinOp} {t : TypeId} {xo yo : Operand} {k : IntKind} {m n : Nat} {v : Value} (h : intFast op k m n = some v) (w : World) :
    (do eqGuard op t xo yo (.int k (.ofNat m)) (.int k (.ofNat n)); binOp op t (.int k (.ofNat m)) (.int k (.ofNat n)) : Sem Value).run P w = .ok v w ∧ plainV FUEL v = true := by
  rw [Sem.run_bind, guard_int]
  simp only [Result.andThen_ok]
  unfold intFast at h
  simp only [mkB_eq, mkI_eq] at h
  split at h
  · cases h; simp [binOp, Op.intCmp, plainV, FUEL, beq_nat]
    rw [Bool.eq_iff_iff]; simp; omega
  · cases h; simp [binOp, Op.intCmp, plainV, FUEL, beq_nat]
    rw [Bool.eq_iff_iff]; simp; omega
  · cases h; simp [binOp, Op.intCmp, plainV, FUEL]
    rw [Bool.eq_iff_iff]; simp [Nat.blt_eq]
  · cases h; simp [binOp, Op.intCmp, plainV, FUEL]
    rw [Bool.eq_iff_iff]; simp [Nat.ble_eq]
  · cases h; simp [binOp, Op.intCmp, plainV, FUEL]
    rw [Bool.eq_iff_iff]; simp [Nat.blt_eq]
  · cases h; simp [binOp, Op.intCmp, plainV, FUEL]
    rw [Bool.eq_iff_iff]; simp [Nat.ble_eq]
  · split at h
    · cases hb : Nat.blt (Nat.add m n) 9223372036854775808 with
      | false => simp only [hb, cond_false] at h; cases h
      | true =>
        simp only [hb, cond_true, Option.some.injEq] at h
        rw [Nat.blt_eq] at hb
        have hb' : m + n < 9223372036854775808 := hb
        subst h
        have : IntKind.i64.wrap ((m : Int) + (n : Int)) = ((m + n : Nat) : Int) := by rw [IntWalk.i64_in _ (by omega)]; omega
        simp only [Int.ofNat_eq_natCast]
        simp [binOp, Op.intArith, plainV, FUEL, this]
    · cases h
  · split at h
    · cases hb : (Nat.ble n m && Nat.blt m 9223372036854775808) with
      | false => simp only [hb, cond_false] at h; cases h
      | true =>
        simp only [hb, cond_true, Option.some.injEq] at h
        simp only [Bool.and_eq_true, Nat.ble_eq, Nat.blt_eq] at hb
        subst h
        have : IntKind.i64.wrap ((m : Int) - (n : Int)) = ((m - n : Nat) : Int) := by rw [IntWalk.i64_in _ (by omega)]; omega
        simp only [Int.ofNat_eq_natCast]
        simp [binOp, Op.intArith, plainV, FUEL, this]
    · cases h
  · cases h

/-- The same bytes. -/
noncomputable def eqL : List UInt8 → List UInt8 → Bool
  | [], [] => true
  | c :: r, d :: q => bif Nat.beq c.toNat d.toNat then eqL r q else false
  | _, _ => false
theorem eqL_eq : ∀ (a b : List UInt8), eqL a b = decide (a = b)
  | [], [] => by simp [eqL]
  | [], _ :: _ => by simp [eqL]
  | _ :: _, [] => by simp [eqL]
  | c :: r, d :: q => by
    unfold eqL
    rw [beq_nat, eqL_eq r q]
    have : (c = d) ↔ c.toNat = d.toNat := UInt8.toNat_inj.symm
    by_cases h : c.toNat = d.toNat
    · simp [h, this]
    · simp [h, this]
noncomputable def ltL : List UInt8 → List UInt8 → Bool
  | _, [] => false
  | [], _ :: _ => true
  | c :: r, d :: q => bif Nat.blt c.toNat d.toNat then true else bif Nat.beq c.toNat d.toNat then ltL r q else false
theorem ltL_eq : ∀ (a b : List UInt8), ltL a b = Op.bytesLess a b
  | [], [] => rfl
  | _ :: _, [] => rfl
  | [], _ :: _ => rfl
  | c :: r, d :: q => by
    unfold ltL Op.bytesLess
    rw [beq_nat, ltL_eq r q]
    have h1 : Nat.blt c.toNat d.toNat = decide (c < d) := by
      rw [Bool.eq_iff_iff]; simp [Nat.blt_eq, UInt8.lt_iff_toNat_lt]
    have h2 : decide (c.toNat = d.toNat) = (c == d) := by
      rw [Bool.eq_iff_iff]; simp [UInt8.toNat_inj]
    rw [h1, h2]
    cases decide (c < d) <;> cases (c == d) <;> rfl
/-- A row of bytes, handed on cell by cell. -/
noncomputable def forceBs {β : Type} : List UInt8 → (List UInt8 → β) → β
  | [], K => K []
  | c :: r, K => forceBs r fun q => K (c :: q)
theorem forceBs_eq {β : Type} : ∀ (l : List UInt8) (K : List UInt8 → β), forceBs l K = K l
  | [], _K => rfl
  | c :: r, K => forceBs_eq r fun q => K (c :: q)
noncomputable def strFast (op : BinOp) (a b : ByteArray) : Option Value :=
  match op with
  | .eql => mkB (eqL a.data.toList b.data.toList)
  | .neq => mkB (!eqL a.data.toList b.data.toList)
  | .lss => mkB (ltL a.data.toList b.data.toList)
  | .leq => mkB (ltL a.data.toList b.data.toList || eqL a.data.toList b.data.toList)
  | .gtr => mkB (!(ltL a.data.toList b.data.toList || eqL a.data.toList b.data.toList))
  | .geq => mkB (!ltL a.data.toList b.data.toList)
  | .add => bif Nat.ble (Nat.add a.size b.size) 9223372036854775807 then forceBs (a.data.toList ++ b.data.toList) fun l => some (.string ⟨l.toArray⟩) else none
  | _ => none
theorem strFast_ok {P : Program} {op : BinOp} {t : TypeId} {xo yo : Operand} {a b : ByteArray} {v : Value} (h : strFast op a b = some v) (w : World) :
    (do eqGuard op t xo yo (.string a) (.string b); binOp op t (.string a) (.string b) : Sem Value).run P w = .ok v w ∧ plainV FUEL v = true := by
  have e : eqL a.data.toList b.data.toList = (a.toList == b.toList) := by
    rw [eqL_eq, ByteArray.toList_eq, ByteArray.toList_eq, Bool.eq_iff_iff]
    simp
  have e2 : ltL a.data.toList b.data.toList = Op.bytesLess a.toList b.toList := by
    rw [ltL_eq, ByteArray.toList_eq, ByteArray.toList_eq]
  unfold strFast at h
  simp only [mkB_eq, e, e2] at h
  split at h
  · cases h; simp [eqGuard, binOp, Op.stringOp, plainV, FUEL]
  · cases h; simp [eqGuard, binOp, Op.stringOp, plainV, FUEL]
  · cases h; simp [eqGuard, binOp, Op.stringOp, plainV, FUEL]
  · cases h; simp [eqGuard, binOp, Op.stringOp, plainV, FUEL]
  · cases h; simp [eqGuard, binOp, Op.stringOp, plainV, FUEL]
  · cases h; simp [eqGuard, binOp, Op.stringOp, plainV, FUEL]
  · cases hb : Nat.ble (Nat.add a.size b.size) 9223372036854775807 with
    | false => simp only [hb, cond_false] at h; cases h
    | true =>
      simp only [hb, cond_true, forceBs_eq] at h
      cases h
      rw [Nat.ble_eq] at hb
      have hb' : a.size + b.size ≤ 9223372036854775807 := hb
      have hn : ¬ ((9223372036854775807 : Int) < (a.size : Int) + (b.size : Int)) := by omega
      have he : (⟨(a.data.toList ++ b.data.toList).toArray⟩ : ByteArray) = a ++ b := by
        apply ByteArray.ext
        apply Array.toList_inj.1
        simp
      rw [he]
      simp [eqGuard, binOp, Op.stringOp, plainV, FUEL, IntKind.max, IntKind.signed, IntKind.bits, hn]
  · cases h

noncomputable def isAggV : Value → Bool
  | .agg _ => true
  | _ => false
noncomputable def slowOp (P : Program) (op : BinOp) (t : TypeId) (xo yo : Operand) (a b : Value) (st : St) : Option Value :=
  bif plainV FUEL a && plainV FUEL b then match pureRun P (do eqGuard op t xo yo a b; binOp op t a b) with
    | some v => bif plainV FUEL v then some v else none
    | none => none
  else bif isAggV a || isAggV b then none else match op with
    | .eql => match eqA P st 8 10000 t a b with
      | some r => some (.bool r)
      | none => none
    | .neq => match eqA P st 8 10000 t a b with
      | some r => some (.bool (!r))
      | none => none
    | _ => none
noncomputable def binOpA (P : Program) (op : BinOp) (t : TypeId) (xo yo : Operand) (a b : Value) (st : St) : Option Value :=
  match a, b with
  | .int k (.ofNat m), .int k' (.ofNat n) => bif Nat.beq (kix k) (kix k') then match intFast op k m n with
    | some v => some v
    | none => slowOp P op t xo yo a b st
    else slowOp P op t xo yo a b st
  | .string x, .string y => match strFast op x y with
    | some v => some v
    | none => slowOp P op t xo yo a b st
  | _, _ => slowOp P op t xo yo a b st
theorem guard_ok {P : Program} (op : BinOp) {t : TypeId} {xo yo : Operand} {a b : Value} (n1 : isAggV a = false) (n2 : ¬ (a = .nilIface ∧ b = .nilIface)) (w : World) : (eqGuard op t xo yo a b).run P w = .ok () w := by
  unfold eqGuard
  cases op <;> first
    | rfl
    | (cases a <;> cases b <;> first | rfl | exact absurd ⟨rfl, rfl⟩ n2 | (simp [isAggV] at n1))
theorem slowOp_ok {P : Program} {s : Ren} {st : St} {w : World} {op : BinOp} {t : TypeId} {xo yo : Operand} {a a' b b' v : Value} (hM : Mem s st w) (ha : VR s a a') (hb : VR s b b') (h : slowOp P op t xo yo a b st = some v) :
    SV P s st w (do eqGuard op t xo yo a' b'; binOp op t a' b') v st := by
  unfold slowOp at h
  cases hp : (plainV FUEL a && plainV FUEL b) with
  | true =>
    simp only [hp, cond_true] at h
    simp only [Bool.and_eq_true] at hp
    split at h
    · rename_i u hu
      cases hpu : plainV FUEL u with
      | false => simp [hpu] at h
      | true =>
        simp only [hpu, cond_true, Option.some.injEq] at h
        subst h
        rw [plainV_eq hp.1 ha, plainV_eq hp.2 hb]
        exact .same hM (pureRun_ok _ hu w) (plainV_self hpu)
    · cases h
  | false =>
    simp only [hp, cond_false] at h
    cases hag : (isAggV a || isAggV b) with
    | true => simp only [hag, cond_true] at h; cases h
    | false =>
      simp only [hag, cond_false] at h
      have hg : ∀ op, (eqGuard op t xo yo a' b').run P w = .ok () w := by
        intro op
        have n1 : isAggV a' = false := by
          simp only [Bool.or_eq_false_iff] at hag
          cases ha <;> first | rfl | (simp [isAggV] at hag)
        have n2 : ¬ (a' = .nilIface ∧ b' = .nilIface) := by
          rintro ⟨rfl, rfl⟩
          cases ha; cases hb
          simp [plainV, FUEL] at hp
        exact guard_ok op n1 n2 w
      have hbin : ∀ op, (op = .eql ∨ op = .neq) → ∀ r, eqA P st 8 10000 t a b = some r → (binOp op t a' b').run P w = .ok (.bool (if op = .eql then r else !r)) w := by
        intro op hop r hr
        have he := eqA_ok (P := P) hM ha hb hr
        have he' : (Op.equal t a' b').run P w = .ok r w := he
        have nint : ∀ k m k' n, ¬ (a' = .int k m ∧ b' = .int k' n) := by
          rintro k m k' n ⟨rfl, rfl⟩
          cases ha; cases hb
          simp [plainV, FUEL] at hp
        have nstr : ∀ m n, ¬ (a' = .string m ∧ b' = .string n) := by
          rintro m n ⟨rfl, rfl⟩
          cases ha; cases hb
          simp [plainV, FUEL] at hp
        rcases hop with rfl | rfl
        · have : binOp .eql t a' b' = (do pure (.bool (← Op.equal t a' b'))) := by
            cases ha <;> cases hb <;> first | rfl | (exact absurd ⟨rfl, rfl⟩ (nint _ _ _ _)) | (exact absurd ⟨rfl, rfl⟩ (nstr _ _))
          rw [this]
          simp [he']
        · have : binOp .neq t a' b' = (do pure (.bool (!(← Op.equal t a' b')))) := by
            cases ha <;> cases hb <;> first | rfl | (exact absurd ⟨rfl, rfl⟩ (nint _ _ _ _)) | (exact absurd ⟨rfl, rfl⟩ (nstr _ _))
          rw [this]
          simp [he']
      split at h
      · split at h
        · rename_i r hr
          cases h
          have := hbin .eql (.inl rfl) r hr
          exact .same hM (v' := .bool r) (by simp [hg, this]) (.bool _)
        · cases h
      · split at h
        · rename_i r hr
          cases h
          have := hbin .neq (.inr rfl) r hr
          exact .same hM (v' := .bool (!r)) (by simp [hg, this]) (.bool _)
        · cases h
      · cases h
theorem binOpA_ok {P : Program} {s : Ren} {st : St} {w : World} {op : BinOp} {t : TypeId} {xo yo : Operand} {a a' b b' v : Value} (hM : Mem s st w) (ha : VR s a a') (hb : VR s b b') (h : binOpA P op t xo yo a b st = some v) :
    SV P s st w (do eqGuard op t xo yo a' b'; binOp op t a' b') v st := by
  unfold binOpA at h
  split at h
  · rename_i k m k' n
    cases hk : Nat.beq (kix k) (kix k') with
    | false => simp only [hk, cond_false] at h; exact slowOp_ok hM ha hb h
    | true =>
      simp only [hk, cond_true] at h
      have hkk : k = k' := of_decide_eq_true ((kix_eq k k').symm.trans hk)
      subst hkk
      split at h
      · rename_i u hu
        cases h
        cases ha; cases hb
        obtain ⟨h1, h2⟩ := intFast_ok (P := P) (t := t) (xo := xo) (yo := yo) hu w
        exact .same hM h1 (plainV_self h2)
      · exact slowOp_ok hM ha hb h
  · rename_i x y
    split at h
    · rename_i u hu
      cases h
      cases ha; cases hb
      obtain ⟨h1, h2⟩ := strFast_ok (P := P) (t := t) (xo := xo) (yo := yo) hu w
      exact .same hM h1 (plainV_self h2)
    · exact slowOp_ok hM ha hb h
  · exact slowOp_ok hM ha hb h

end Go.Proofs.Ytfilbknnpjbmcaa.Cx
