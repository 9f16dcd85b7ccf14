/- A closed call, run: one operation, whatever it is. No program of its own. -/
import Derived.Test.YtfilbknnpjbmcaaCxJ
import Derived.Lib.Overlaps
namespace Go.Proofs.Ytfilbknnpjbmcaa.Cx
open Go Go.RowKit

inductive Res where
  | val (v : Value) (st : St)
  | skip (st : St)
  | enter (f : FuncId) (args : Array Value) (st : St)
  | round (g : Nat) (f : FuncId) (nt : Nat) (tm : TV) (a b : Code) (st : St)
  | defer (d : Deferred) (st : St)
  | recover (st : St)
  | panic (v : Value) (st : St)
noncomputable def Snd (P : Program) (s : Ren) (st : St) (w : World) (e : Sem Next) : Res → Prop
  | .val v st' => ∃ s' w' v', e.run P w = .ok (.value v') w' ∧ VR s' v v' ∧ Mem s' st' w' ∧ Ev s st w s' st' w'
  | .skip st' => ∃ s' w', e.run P w = .ok .skip w' ∧ Mem s' st' w' ∧ Ev s st w s' st' w'
  | .enter f args st' => ∃ s' w' args', e.run P w = .ok (.enter f args') w' ∧ VRs s' args args' ∧ Mem s' st' w' ∧ Ev s st w s' st' w'
  | .round g f nt tm a b st' => ∃ s' w' tmps' l, e.run P w = .ok (.round l f tmps' a b) w' ∧ (∃ cap, s' g = some ⟨l, cap⟩) ∧ tmps'.size = nt ∧ TmR s' tm tmps' ∧ Mem s' st' w' ∧ Ev s st w s' st' w'
  | .defer d st' => ∃ s' w' d', e.run P w = .ok (.defer d') w' ∧ DR s' d d' ∧ Mem s' st' w' ∧ Ev s st w s' st' w'
  | .recover st' => ∃ s' w', e.run P w = .ok .recover w' ∧ Mem s' st' w' ∧ Ev s st w s' st' w'
  | .panic v st' => ∃ s' w' v', e.run P w = .halt (.panic v') w' ∧ VR s' v v' ∧ Mem s' st' w' ∧ Ev s st w s' st' w'

structure Env where
  P : Program
  ng : Nat
  noesc : FuncId → Bool
  /-- calls that are known: what they come to -/
  known : FuncId → List Value → St → Option Value := fun _ _ _ => none
  /-- functions without a body that look at memory -/
  ext : FuncId → List Value → St → Option Value := fun _ _ _ => none
  /-- functions without a body that make bytes of a room that is not known: the element's type -/
  nz : FuncId → Option TypeId := fun _ => none
structure Env.Ok (E : Env) : Prop where
  noesc : ∀ f, E.noesc f = true → ∀ v w, (callFunc f #[v]).run E.P w = .ok (.value v) w
  known : ∀ f args st v, E.known f args st = some v → plainV FUEL v = true ∧ ∀ (s : Ren) (W : World) (args' : Array Value), Mem s st W → (∀ g, g < E.ng → s g = some ⟨g, 0⟩) → VRs s args.toArray args' →
    Calls E.P f args' W fun e W' => e = .returned v ∧ Below W.heap.size W W'
  ext : ∀ f args st v, E.ext f args st = some v → plainV FUEL v = true ∧ ∀ (s : Ren) (w : World) (args' : Array Value), Mem s st w → VRs s args.toArray args' → (callFunc f args').run E.P w = .ok (.value v) w
  nz : ∀ f e, E.nz f = some e → ∀ (n : Nat), n ≤ 281474976710656 → ∀ w, ∃ cs : Array Value, (callFunc f #[.int .i64 n]).run E.P w = .ok (.value (.slice (some ⟨w.heap.size, 0, none⟩) n cs.size)) (w.drew.drew.alloc (.cells cs e)) ∧ n ≤ cs.size

theorem Snd.of_sv {P : Program} {s : Ren} {st st' : St} {w : World} {e : Sem Value} {v : Value} (h : SV P s st w e v st') : Snd P s st w (do pure (.value (← e))) (.val v st') := by
  obtain ⟨s', w', v', h1, h2, h3, h4⟩ := h
  exact ⟨s', w', v', by simp [h1], h2, h3, h4⟩
theorem Snd.of_su {P : Program} {s : Ren} {st st' : St} {w : World} {e : Sem Unit} (h : SU P s st w e st') : Snd P s st w (do e; pure .skip) (.skip st') := by
  obtain ⟨s', w', h1, h3, h4⟩ := h
  exact ⟨s', w', by simp [h1], h3, h4⟩
theorem Snd.of_eq {P : Program} {s : Ren} {st : St} {w : World} {e e' : Sem Next} {r : Res} (h : e'.run P w = e.run P w) (hs : Snd P s st w e r) : Snd P s st w e' r := by
  cases r <;> simpa only [Snd, h] using hs

noncomputable def evs (ev : Operand → Option Value) : List Operand → Option (List Value)
  | [] => some []
  | x :: r => match ev x with
    | some v => match evs ev r with
      | some vs => some (v :: vs)
      | none => none
    | none => none
theorem evs_ok {s : Ren} {ev : Operand → Option Value} {cev : Operand → Value} (hev : ∀ x v, ev x = some v → VR s v (cev x)) : ∀ {xs : List Operand} {vs : List Value}, evs ev xs = some vs → VRs s vs.toArray (xs.map cev).toArray
  | [], vs, h => by cases h; exact VRs.nil
  | x :: r, vs, h => by
    unfold evs at h
    split at h
    · rename_i v hv
      split at h
      · rename_i vs' hvs
        cases h
        have := (VRs.of_lists (vs := [v]) (vs' := [cev x]) rfl (fun j u hj => by
          cases j with
          | zero => simp at hj; subst hj; exact ⟨_, rfl, hev _ _ hv⟩
          | succ j => simp at hj)).append (evs_ok hev hvs)
        simpa using this
      · cases h
    · cases h
theorem evs_arr {s : Ren} {ev : Operand → Option Value} {cev : Operand → Value} (hev : ∀ x v, ev x = some v → VR s v (cev x)) {xs : Array Operand} {vs : List Value} (h : evs ev xs.toList = some vs) : VRs s vs.toArray (xs.map cev) := by
  have := evs_ok hev h
  rw [← Array.toList_map, Array.toArray_toList] at this
  exact this
noncomputable def evp (ev : Operand → Option Value) : List (Nat × Operand) → Option (List (Nat × Value))
  | [] => some []
  | (i, x) :: r => match ev x with
    | some v => match evp ev r with
      | some vs => some ((i, v) :: vs)
      | none => none
    | none => none
theorem evp_ok {s : Ren} {ev : Operand → Option Value} {cev : Operand → Value} (hev : ∀ x v, ev x = some v → VR s v (cev x)) : ∀ {xs : List (Nat × Operand)} {vs : List (Nat × Value)}, evp ev xs = some vs →
    vs.length = xs.length ∧ ∀ (j : Nat) (p : Nat × Value), vs[j]? = some p → ∃ v', (xs.map fun (i, x) => (i, cev x))[j]? = some (p.1, v') ∧ VR s p.2 v'
  | [], vs, h => by cases h; exact ⟨rfl, fun j p hj => by simp at hj⟩
  | (i, x) :: r, vs, h => by
    unfold evp at h
    split at h
    · rename_i v hv
      split at h
      · rename_i vs' hvs
        cases h
        obtain ⟨h1, h2⟩ := evp_ok hev hvs
        refine ⟨by simp [h1], fun j p hj => ?_⟩
        cases j with
        | zero => simp at hj; subst hj; exact ⟨cev x, rfl, hev _ _ hv⟩
        | succ j => obtain ⟨v', e1, e2⟩ := h2 j p (by simpa using hj); exact ⟨v', by simpa using e1, e2⟩
      · cases h
    · cases h
theorem evp_arr {s : Ren} {ev : Operand → Option Value} {cev : Operand → Value} (hev : ∀ x v, ev x = some v → VR s v (cev x)) {xs : Array (Nat × Operand)} {vs : List (Nat × Value)} (h : evp ev xs.toList = some vs) :
    vs.toArray.size = (xs.map fun (i, x) => (i, cev x)).size ∧ ∀ (j : Nat) (p : Nat × Value), vs.toArray[j]? = some p → ∃ v', (xs.map fun (i, x) => (i, cev x))[j]? = some (p.1, v') ∧ VR s p.2 v' := by
  obtain ⟨h1, h2⟩ := evp_ok hev h
  refine ⟨by simpa using h1, fun j p hj => ?_⟩
  obtain ⟨v', e1, e2⟩ := h2 j p (by simpa using hj)
  refine ⟨v', ?_, e2⟩
  rw [← Array.getElem?_toList, Array.toList_map]
  exact e1

/-- Bytes that nobody has written yet. -/
noncomputable def nzA (e : TypeId) (l : List Value) (st : St) : Option Res :=
  match l with
  | [.int .i64 (.ofNat n)] => bif Nat.ble n 281474976710656 then newO (.cells n .leaf e 1 true (.upto 0)) st fun g st' => some (.val (.slice (some ⟨g, 0, none⟩) n BIG) st') else none
  | _ => none
/-- A call of a function by its number. -/
noncomputable def callF (E : Env) (f : FuncId) (args : Array Value) (st : St) : Option Res :=
  match E.P.funcs[f]? with
  | none => none
  | some fn => bif fn.name == "runtime.NumGoroutine" then none else match fn.body with
    | some _ => some (.enter f args st)
    | none => bif E.noesc f then match args.toList with
        | [v] => some (.val v st)
        | _ => none
      else match E.ext f args.toList st with
      | some v => some (.val v st)
      | none => match E.nz f with
        | some e => nzA e args.toList st
        | none => bif args.toList.all (plainV FUEL) then match pureRun E.P (callFunc f args) with
          | some (.value v) => bif plainV FUEL v then some (.val v st) else none
          | _ => none
        else none
theorem VRs.plain {s : Ren} {a a' : Array Value} (h : VRs s a a') (hp : a.toList.all (plainV FUEL) = true) : a' = a := by
  refine Array.ext h.1.symm fun i h1 h2 => plainV_eq (n := FUEL) ?_ (h.2 i h2 h1)
  exact List.all_eq_true.1 hp _ (Array.mem_toList_iff.2 (Array.getElem_mem h2))
theorem VRs.l1 {s : Ren} {a a' : Array Value} {v : Value} (h : VRs s a a') (hl : a.toList = [v]) : ∃ v', a' = #[v'] ∧ VR s v v' := by
  have ha : a = #[v] := by rw [← Array.toArray_toList (xs := a), hl]
  subst ha
  obtain ⟨v', e, r⟩ := h.get (i := 0) (v := v) rfl
  refine ⟨v', ?_, r⟩
  have hs : a'.size = 1 := h.1.symm
  refine Array.ext (by simp [hs]) fun i h1 h2 => ?_
  have : i = 0 := by omega
  subst this
  rw [Array.getElem?_eq_getElem h1] at e
  simpa using e
theorem VRs.l2 {s : Ren} {a a' : Array Value} {v u : Value} (h : VRs s a a') (hl : a.toList = [v, u]) : ∃ v' u', a' = #[v', u'] ∧ VR s v v' ∧ VR s u u' := by
  have ha : a = #[v, u] := by rw [← Array.toArray_toList (xs := a), hl]
  subst ha
  obtain ⟨v', e, r⟩ := h.get (i := 0) (v := v) rfl
  obtain ⟨u', e2, r2⟩ := h.get (i := 1) (v := u) rfl
  refine ⟨v', u', ?_, r, r2⟩
  have hs : a'.size = 2 := h.1.symm
  refine Array.ext (by simp [hs]) fun i h1 h2 => ?_
  match i, h1 with
  | 0, h1 => rw [Array.getElem?_eq_getElem h1] at e; simpa using e
  | 1, h1 => rw [Array.getElem?_eq_getElem h1] at e2; simpa using e2
  | i + 2, h1 => omega
theorem callF_ok {E : Env} (hE : E.Ok) {s : Ren} {st : St} {w : World} {f : FuncId} {args args' : Array Value} {r : Res} (hM : Mem s st w) (ha : VRs s args args') (h : callF E f args st = some r) : Snd E.P s st w (callFunc f args') r := by
  unfold callF at h
  split at h
  · cases h
  · rename_i fn hf
    cases hn : (fn.name == "runtime.NumGoroutine") with
    | true => simp [hn] at h
    | false =>
      simp only [hn, cond_false] at h
      split at h
      · rename_i c hb
        cases h
        exact ⟨s, w, args', by have hn' : ¬ fn.name = "runtime.NumGoroutine" := by simpa using hn
                               simp [callFunc, hf, hn', hb], ha, hM, .refl _ _ _⟩
      · rename_i hb
        cases hne : E.noesc f with
        | true =>
          simp only [hne, cond_true] at h
          split at h
          · rename_i v hl
            cases h
            obtain ⟨v', rfl, hv⟩ := ha.l1 hl
            exact ⟨s, w, v', hE.noesc f hne v' w, hv, hM, .refl _ _ _⟩
          · cases h
        | false =>
          simp only [hne, cond_false] at h
          split at h
          · rename_i v hx
            cases h
            obtain ⟨h1, h2⟩ := hE.ext f _ _ _ hx
            exact ⟨s, w, v, h2 s w args' hM (by simpa using ha), plainV_self h1, hM, .refl _ _ _⟩
          split at h
          · rename_i e hnz
            unfold nzA at h
            split at h
            · rename_i n hargs
              cases hle : Nat.ble n 281474976710656 with
              | false => rw [hle] at h; cases h
              | true =>
                simp only [hle, cond_true] at h
                obtain ⟨cs, k1, k2⟩ := hE.nz f e hnz n (Nat.le_of_ble_eq_true hle) w
                obtain ⟨v', rfl, hv⟩ := ha.l1 hargs
                cases hv
                obtain ⟨s', st1, h2, m1, e1, hs'⟩ := newO_ok (w := w.drew.drew) ((hM.draws rfl).draws rfl) h (.cells cs e) cs.size (fun s' hle' hc => ⟨.inr rfl, fun i v hi hv => by simp [TV.get_leaf] at hv, by simp; omega, .inl rfl⟩)
                cases h2
                have e0 : Ev s st w s st w.drew.drew := Ev.draws rfl rfl rfl rfl
                exact ⟨s', _, .slice (some ⟨w.heap.size, 0, none⟩) n cs.size, k1, .sliceEnd _ _ _ 0 _ _ _ hs' rfl rfl, m1, e0.trans e1⟩
            · cases h
          cases hp : args.toList.all (plainV FUEL) with
          | false => simp only [hp, cond_false] at h; cases h
          | true =>
            simp only [hp, cond_true] at h
            split at h
            · rename_i v hv
              cases hpv : plainV FUEL v with
              | false => simp [hpv] at h
              | true =>
                simp only [hpv, cond_true, Option.some.injEq] at h
                subst h
                rw [ha.plain hp]
                exact ⟨s, w, v, pureRun_ok _ hv w, plainV_self hpv, hM, .refl _ _ _⟩
            · cases h

/-- slices.overlaps, at two slices of two blocks. -/
noncomputable def cleanN (st : St) (g : Nat) : Bool :=
  match st.H.get g with
  | some (.cells n _ _ _ _ (.upto 0)) => Nat.blt 0 n
  | _ => false
noncomputable def ovlA (l : List Value) (st : St) : Option Value :=
  match l with
  | [.slice (some ⟨g, _, none⟩) _ _, .slice (some ⟨g2, _, none⟩) _ _] => bif !Nat.beq g g2 && cleanN st g && cleanN st g2 then some (.bool false) else none
  | _ => none
theorem cleanN_ok {s : Ren} {st : St} {w : World} {g : Nat} {l : Loc} (hM : Mem s st w) (hl : s g = some l) (h : cleanN st g = true) : (∃ e n, w.shape? l.blk = some (e, n) ∧ n ≠ 0) ∧ ∀ off q, w.frozen? ⟨l.blk, off, q⟩ = false := by
  unfold cleanN at h
  split at h
  · rename_i n t e esz opn hg
    obtain ⟨c, p, b1, b2, _, b4⟩ := blk_of hM hl hg
    rw [Nat.blt_eq] at h
    refine ⟨⟨e, c.size, by simp [World.shape?, b1], by omega⟩, fun off q => ?_⟩
    simp only [World.frozen?, b1]
    simp only [FzR] at b4
    rw [Bool.eq_false_iff]
    simp
    omega
  · cases h
theorem cleanN_live {st : St} {g : Nat} (h : cleanN st g = true) : ∃ o, st.H.get g = some o := by
  unfold cleanN at h
  split at h
  · rename_i n t e esz opn hg; exact ⟨_, hg⟩
  · cases h
theorem ovlA_ok {P : Program} {f : FuncId} {tS tR e : TypeId} {size : Nat} (ht : P.underlying tS = some (.slice e)) (hz : ∀ w, (Go.sizeOf e).run P w = .ok size w)
    (hf : ∀ args w, (callFunc f args).run P w = (((Extern.SlicesOverlaps.overlaps #[tS, tS] #[tR]) args).run P w).andThen fun v w' => .ok (.value v) w')
    {args : List Value} {st : St} {v : Value} (h : ovlA args st = some v) : plainV FUEL v = true ∧ ∀ (s : Ren) (w : World) (args' : Array Value), Mem s st w → VRs s args.toArray args' → (callFunc f args').run P w = .ok (.value v) w := by
  unfold ovlA at h
  split at h
  · rename_i g o la ca g2 o2 lb cb
    cases hb : (!Nat.beq g g2 && cleanN st g && cleanN st g2) with
    | false => simp only [hb, cond_false] at h; cases h
    | true =>
      simp only [hb, cond_true, Option.some.injEq] at h
      subst h
      simp only [Bool.and_eq_true, Bool.not_eq_true'] at hb
      obtain ⟨⟨hne, hc1⟩, hc2⟩ := hb
      refine ⟨by simp [plainV, FUEL], fun s w args' hM ha => ?_⟩
      obtain ⟨x', y', rfl, hx, hy⟩ := ha.l2 (by simp; exact ⟨rfl, rfl⟩)
      rw [hf]
      have hgo : ∀ (a b : Addr) (la' lb' c1 c2 : Nat), x' = .slice (some a) la' c1 → y' = .slice (some b) lb' c2 → (la' = 0 ∨ lb' = 0) → ((Extern.SlicesOverlaps.overlaps #[tS, tS] #[tR]) #[x', y']).run P w = .ok (.bool false) w := by
        intro a b la' lb' c1 c2 e1 e2 h0
        subst e1 e2
        change Sem.run P (α := Value) (do
          let some t := (#[tS, tS] : Array TypeId)[0]? | stuck "slices.overlaps: no parameter types"
          let .slice elem ← underlying t | stuck "slices.overlaps: slice type expected"
          let size ← sizeOf elem
          match (some a : Option Addr), (some b : Option Addr) with
          | some a, some b =>
            if la' = 0 ∨ lb' = 0 ∨ size = 0 then pure (Value.bool false)
            else if a.block != b.block && (← frozen a) && (← frozen b) then unsupported .addressObserved
            else do
              if a.block != b.block then do
                noView a; noView b
                if ← mayBeOne a b then return Value.bool ((← choose (.extern "sameAddr.stringBytes" 2)) == 1)
              pure (Value.bool (a.block == b.block && a.off < b.off + lb' * size && b.off < a.off + la' * size))
          | _, _ => pure (Value.bool false)) w = _
        have h0' : la' = 0 ∨ lb' = 0 ∨ size = 0 := by omega
        simp [run_underlying ht, hz, h0']
      have hl1 : (∃ b c', la = 0 ∧ x' = .slice (some b) la c') ∨ ∃ l : Loc, ∃ c', s g = some l ∧ x' = .slice (some ⟨l.blk, o, none⟩) la c' := by
        cases hx with
        | slice _ _ _ _ l hl _ => exact .inr ⟨l, _, hl, rfl⟩
        | sliceEnd _ _ _ _ _ _ l hl _ _ => exact .inr ⟨l, _, hl, rfl⟩
        | sliceEmpty _ b _ _ c h0 _ => exact .inl ⟨b, c, h0, rfl⟩
      have hl2 : (∃ b c', lb = 0 ∧ y' = .slice (some b) lb c') ∨ ∃ l : Loc, ∃ c', s g2 = some l ∧ y' = .slice (some ⟨l.blk, o2, none⟩) lb c' := by
        cases hy with
        | slice _ _ _ _ l hl _ => exact .inr ⟨l, _, hl, rfl⟩
        | sliceEnd _ _ _ _ _ _ l hl _ _ => exact .inr ⟨l, _, hl, rfl⟩
        | sliceEmpty _ b _ _ c h0 _ => exact .inl ⟨b, c, h0, rfl⟩
      have hrun : ((Extern.SlicesOverlaps.overlaps #[tS, tS] #[tR]) #[x', y']).run P w = .ok (.bool false) w := by
        rcases hl1 with ⟨b, c', h0, e1⟩ | ⟨l, c', q1, e1⟩
        · rcases hl2 with ⟨b2, c2', h02, e2⟩ | ⟨l2, c2', q2, e2⟩
          · exact hgo _ _ _ _ _ _ e1 e2 (.inl h0)
          · exact hgo _ _ _ _ _ _ e1 e2 (.inl h0)
        · rcases hl2 with ⟨b2, c2', h02, e2⟩ | ⟨l2, c2', q2, e2⟩
          · exact hgo _ _ _ _ _ _ e1 e2 (.inr h02)
          · subst e1 e2
            obtain ⟨⟨t1, n1, s1, _⟩, z1⟩ := cleanN_ok hM q1 hc1
            obtain ⟨⟨t2, n2, s2, k2⟩, _⟩ := cleanN_ok hM q2 hc2
            obtain ⟨o1, w1⟩ := cleanN_live hc1
            obtain ⟨o2, w2⟩ := cleanN_live hc2
            refine Lib.run_overlaps_apart w tS tR e ht size hz _ _ _ _ _ _ (fun hbb => ?_) _ _ _ _ s1 s2 k2 (z1 _ _) (z1 _ _)
            have := hM.inj g g2 _ _ _ _ w1 w2 q1 q2 hbb
            subst this
            simp at hne
      rw [hrun]
      rfl
  · cases h

/-- A method, found by its name. -/
noncomputable def methodA (P : Program) (t : TypeId) (v : Value) (name : String) : Option (FuncId × Value) :=
  match P.info? t with
  | some i => match i.methods.find? (·.name == name) with
    | some m => bif m.path.isEmpty then match m.func, P.underlying t with
      | some (f, true), some (.pointer _) => some (f, v)
      | some (_, true), _ => none
      | some (_, false), some (.pointer _) => none
      | some (f, false), some _ => some (f, v)
      | _, _ => none
      else none
    | none => none
  | none => none
theorem methodA_ok {P : Program} {s : Ren} {t : TypeId} {v v' r : Value} {name : String} {f : FuncId} (hv : VR s v v') (h : methodA P t v name = some (f, r)) (w : World) :
    ∃ r', (method (P.types.size + Made.depth) t v' name).run P w = .ok (f, r') w ∧ VR s r r' := by
  obtain ⟨n, hn⟩ : ∃ n, P.types.size + Made.depth = n + 1 := ⟨P.types.size + Made.depth - 1, by unfold Made.depth; omega⟩
  rw [hn]
  unfold methodA at h
  split at h
  · rename_i i hi
    split at h
    · rename_i m hm
      cases hp : m.path.isEmpty with
      | false => simp [hp] at h
      | true =>
        simp only [hp, cond_true] at h
        have hpn : m.path.toList = [] := by simpa [Array.isEmpty] using hp
        split at h
        · rename_i g e hfn hu
          cases h
          exact ⟨v', by simp [method, typeInfo, hi, hm, hpn, follow, hfn, receiverAt, run_underlying hu, Place.get], hv⟩
        · cases h
        · cases h
        · rename_i g d hnp hfn hu
          cases h
          refine ⟨v', ?_, hv⟩
          cases d with
          | pointer e => exact (hnp e rfl).elim
          | _ => simp [method, typeInfo, hi, hm, hpn, follow, hfn, receiverAt, run_underlying hu, Place.get]
        · cases h
    · cases h
  · cases h
noncomputable def callM (E : Env) (recv : Value) (name : String) (args : Array Value) (st : St) : Option Res :=
  match recv with
  | .iface t v => match methodA E.P t v name with
    | some (f, r) => callF E f (#[r] ++ args) st
    | none => none
  | _ => none
theorem callM_ok {E : Env} (hE : E.Ok) {s : Ren} {st : St} {w : World} {recv recv' : Value} {name : String} {args args' : Array Value} {r : Res} (hM : Mem s st w) (hr : VR s recv recv') (ha : VRs s args args') (h : callM E recv name args st = some r) :
    Snd E.P s st w (callMethod recv' name args') r := by
  unfold callM at h
  split at h
  · rename_i t v
    split at h
    · rename_i f q hq
      cases hr with
      | iface _ _ v' hv =>
        obtain ⟨q', h1, h2⟩ := methodA_ok hv hq w
        have hq1 : VRs s #[q] #[q'] := VRs.of_lists (vs := [q]) (vs' := [q']) rfl fun j u hj => by
          cases j with
          | zero => simp at hj; subst hj; exact ⟨_, rfl, h2⟩
          | succ j => simp at hj
        refine .of_eq ?_ (callF_ok hE hM (hq1.append ha) h)
        simp [callMethod, h1]
    · cases h
  · cases h
/-- A round's parameters, put into its slots. -/
noncomputable def putPs {β : Type} (nt : Nat) : List Tmp → List Value → TV → (TV → Option β) → Option β
  | t :: ts, v :: vs, tm, K => bif Nat.blt t nt then TV.put (some v) FUEL tm t fun tm => putPs nt ts vs tm K else none
  | [], [], tm, K => K tm
  | _, _, _, _ => none
theorem putPs_ok {β : Type} {s : Ren} {nt : Nat} {K : TV → Option β} {b : β} : ∀ {ts : List Tmp} {vs vs' : List Value} {tm : TV} {a : Array Value}, a.size = nt → TmR s tm a → vs.length = vs'.length →
    (∀ (j : Nat) (v : Value), vs[j]? = some v → ∃ v', vs'[j]? = some v' ∧ VR s v v') → putPs nt ts vs tm K = some b →
    ∃ tm', K tm' = some b ∧ ts.length = vs.length ∧ ((ts.zip vs').foldl (fun tmps (x : Tmp × Value) => tmps.setIfInBounds x.1 x.2) a).size = nt ∧ TmR s tm' ((ts.zip vs').foldl (fun tmps (x : Tmp × Value) => tmps.setIfInBounds x.1 x.2) a)
  | [], [], vs', tm, a, hs, ht, hl, _, h => by
    have : vs' = [] := List.eq_nil_of_length_eq_zero (by simpa using hl.symm)
    subst this
    exact ⟨tm, h, rfl, hs, ht⟩
  | [], v :: vs, vs', tm, a, hs, ht, hl, _, h => by cases h
  | t :: ts, [], vs', tm, a, hs, ht, hl, _, h => by cases h
  | t :: ts, v :: vs, [], tm, a, hs, ht, hl, _, h => by simp at hl
  | t :: ts, v :: vs, v' :: vs', tm, a, hs, ht, hl, hv, h => by
    unfold putPs at h
    cases hb : Nat.blt t nt with
    | false => simp only [hb, cond_false] at h; cases h
    | true =>
      simp only [hb, cond_true] at h
      rw [Nat.blt_eq] at hb
      obtain ⟨t1, h1, h2⟩ := TV.put_some h
      have hv0 : VR s v v' := by
        obtain ⟨u, e, hu⟩ := hv 0 v rfl
        simp at e; subst e; exact hu
      obtain ⟨tm', k1, k2, k3, k4⟩ := putPs_ok (s := s) (ts := ts) (vs := vs) (vs' := vs') (tm := t1) (a := a.setIfInBounds t v') (by simpa using hs) (fun j u hu => by
        rw [h2] at hu
        split at hu
        · rename_i hj
          subst hj
          cases hu
          exact ⟨v', by simp [hs, hb], hv0⟩
        · rename_i hj
          obtain ⟨u', e, r⟩ := ht j u hu
          exact ⟨u', by rw [Array.getElem?_setIfInBounds_ne (fun q => hj q.symm)]; exact e, r⟩) (by simpa using hl) (fun j u hu => by
        obtain ⟨u', e1, e2⟩ := hv (j + 1) u (by simpa using hu)
        exact ⟨u', by simpa using e1, e2⟩) h1
      exact ⟨tm', k1, by simp [k2], by simpa using k3, by simpa using k4⟩
noncomputable def invokeA (E : Env) (fn : Fn) (cap args : Array Value) (st : St) : Option Res :=
  match fn with
  | .func f => callF E f (args ++ cap) st
  | .method name => match args[0]? with
    | some recv => callM E recv name (args.extract 1 args.size) st
    | none => none
  | .methodOf t name => match args[0]?, E.P.underlying t with
    | some recv, some (.interface _) => callM E recv name (args.extract 1 args.size) st
    | some recv, some _ => callM E (.iface t recv) name (args.extract 1 args.size) st
    | _, _ => none
  | .yield g => match st.H.get g with
    | some (.loop _ _ fn nt tm ps a b _) => putPs nt ps args.toList tm fun tm => some (.round g fn nt tm a b st)
    | _ => none
  | _ => none
theorem invokeA_ok {E : Env} (hE : E.Ok) {s : Ren} {st : St} {w : World} {fn fn' : Fn} {cap cap' args args' : Array Value} {r : Res} (hM : Mem s st w) (hf : FnR s fn fn') (hc : VRs s cap cap') (ha : VRs s args args') (h : invokeA E fn cap args st = some r) :
    Snd E.P s st w (invoke (.fn fn' cap') args') r := by
  unfold invokeA at h
  split at h
  · cases hf
    exact .of_eq (by simp [invoke]) (callF_ok hE hM (ha.append hc) h)
  · cases hf
    split at h
    · rename_i recv hr
      obtain ⟨recv', e, hv⟩ := ha.get hr
      refine .of_eq ?_ (callM_ok hE hM hv (ha.extract 1 args.size) h)
      simp [invoke, e, ha.1]
    · cases h
  · rename_i t name
    cases hf
    split at h
    · rename_i recv ms hr hu
      obtain ⟨recv', e, hv⟩ := ha.get hr
      refine .of_eq ?_ (callM_ok hE hM hv (ha.extract 1 args.size) h)
      simp [invoke, e, ha.1, run_underlying hu]
    · rename_i recv d hni hr hu
      obtain ⟨recv', e, hv⟩ := ha.get hr
      refine .of_eq ?_ (callM_ok hE hM (.iface t _ _ hv) (ha.extract 1 args.size) h)
      cases d with
      | interface ms => exact (hni ms rfl).elim
      | _ => simp [invoke, e, ha.1, run_underlying hu]
    · cases h
  · rename_i g
    split at h
    · rename_i stt pd lf nt tm ps x y gd hg
      cases hf with
      | yield _ l hl =>
        obtain ⟨l', o, e1, e2, e3⟩ := hM.at_ g _ hg
        cases e1.symm.trans hl
        cases o with
        | loop r =>
          have e3 : LoopR s stt pd lf nt tm ps x y gd r := e3
          obtain ⟨tm', k1, k2, k3, k4⟩ := putPs_ok (s := s) (vs' := args'.toList) e3.nt e3.tm (by simp [ha.1]) (fun j u hu => by
            obtain ⟨u', q1, q2⟩ := ha.get (i := j) (v := u) (by simpa using hu)
            exact ⟨u', by simpa using q1, q2⟩) h
          cases k1
          have hget : (getObj l.blk).run E.P w = .ok (.loop r) w := by simp [getObj, Sem.run, e2]
          have hps : r.params.size = args'.size := by
            have h1 := congrArg List.length e3.params
            have h2 := ha.1
            simp at h1 k2
            omega
          have hsz : ¬ (args'.size ≠ r.params.size) := by omega
          have hfold : (r.params.zip args').foldl (fun tmps (x : Tmp × Value) => tmps.setIfInBounds x.1 x.2) r.tmps = (ps.zip args'.toList).foldl (fun tmps (x : Tmp × Value) => tmps.setIfInBounds x.1 x.2) r.tmps := by
            rw [← Array.foldl_toList, Array.toList_zip, e3.params]
          refine ⟨s, w, _, l.blk, ?_, ⟨l.cap, hl⟩, k3, k4, hM, .refl _ _ _⟩
          simp only [invoke, Instr.yield, Instr.getLoop, Sem.run_bind, hget, Result.andThen_ok, Sem.run_pure, if_neg hsz]
          rw [← e3.fn, ← e3.assign, ← e3.body, ← hfold]
        | _ => exact e3.elim
    · cases h
  · cases h

end Go.Proofs.Ytfilbknnpjbmcaa.Cx
