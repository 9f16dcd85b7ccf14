/- A closed call, run: maps, and strings gone through. No program of its own. -/
import Derived.Test.YtfilbknnpjbmcaaCxI
namespace Go.Proofs.Ytfilbknnpjbmcaa.Cx
open Go Go.RowKit

theorem sameNow_eq {s : Ren} {d : TypeDesc} {k e e' : Value} {b : Bool} (hk : plainV FUEL k = true) (he : VR s e e') (h : Instr.sameNow d k e = some b) : e' = e := by
  unfold Instr.sameNow at h
  split at h
  · cases he; rfl
  · cases he; rfl
  · cases he; rfl
  · cases h
/-- Entries that stand for entries. -/
noncomputable def EsR (s : Ren) (es es' : List MapEntry) : Prop := es.length = es'.length ∧ ∀ (i : Nat) (e : MapEntry), es[i]? = some e → ∃ e', es'[i]? = some e' ∧ VR s e.key e'.key ∧ VR s e.val e'.val ∧ e'.born = e.born
theorem EsR.of {s : Ren} {es es' : Array MapEntry} (h : es.size = es'.size) (h2 : ∀ i (h : i < es.size) (h' : i < es'.size), VR s es[i].key es'[i].key ∧ VR s es[i].val es'[i].val ∧ es'[i].born = es[i].born) : EsR s es.toList es'.toList := by
  refine ⟨by simpa using h, fun i e he => ?_⟩
  simp only [Array.getElem?_toList] at he
  obtain ⟨hi, rfl⟩ := Array.getElem?_eq_some_iff.1 he
  have hi' : i < es'.size := h ▸ hi
  exact ⟨es'[i], by simp [Array.getElem?_eq_getElem hi'], h2 i hi hi'⟩
theorem EsR.to {s : Ren} {es es' : Array MapEntry} (h : EsR s es.toList es'.toList) : es.size = es'.size ∧ ∀ i (h : i < es.size) (h' : i < es'.size), VR s es[i].key es'[i].key ∧ VR s es[i].val es'[i].val ∧ es'[i].born = es[i].born := by
  refine ⟨by simpa using h.1, fun i h1 h2 => ?_⟩
  obtain ⟨e', q, r⟩ := h.2 i es[i] (by simp [Array.getElem?_eq_getElem h1])
  simp only [Array.getElem?_toList, Array.getElem?_eq_getElem h2, Option.some.injEq] at q
  subst q
  exact r

theorem findNow_rel {s : Ren} {d : TypeDesc} {k : Value} (hk : plainV FUEL k = true) : ∀ {es es' : List MapEntry} {i : Nat} {r : Option (Nat × Value)}, EsR s es es' → Instr.findNow d k es i = some r →
    (r = none ∧ Instr.findNow d k es' i = some none) ∨ ∃ j v v', r = some (j, v) ∧ Instr.findNow d k es' i = some (some (j, v')) ∧ VR s v v' ∧ i ≤ j ∧ j - i < es.length ∧ ∃ e e', es[j - i]? = some e ∧ es'[j - i]? = some e' ∧ e'.key = e.key ∧ e.val = v ∧ Instr.sameNow d k e.key = some true
  | [], es', i, r, he, h => by
    have : es' = [] := List.eq_nil_of_length_eq_zero (by simpa using he.1.symm)
    subst this
    cases h
    exact .inl ⟨rfl, rfl⟩
  | e :: es, [], i, r, he, h => by simp [EsR] at he
  | e :: es, e' :: es', i, r, he, h => by
    obtain ⟨e2, q, hkey, hval, hborn⟩ := he.2 0 e rfl
    simp at q
    subst q
    have htail : EsR s es es' := ⟨by simpa using he.1, fun j x hx => by simpa using he.2 (j + 1) x (by simpa using hx)⟩
    unfold Instr.findNow at h
    split at h
    · rename_i hs
      cases h
      have hke := sameNow_eq hk hkey hs
      refine .inr ⟨i, e.val, e'.val, rfl, ?_, hval, Nat.le_refl _, by simp, e, e', by simp, by simp, hke, rfl, hs⟩
      unfold Instr.findNow
      rw [hke, hs]
    · rename_i hs
      have hke := sameNow_eq hk hkey hs
      rcases findNow_rel hk htail h with ⟨h1, h2⟩ | ⟨j, v, v', h1, h2, h3, h4, h5, a, a', h6, h7, h8⟩
      · refine .inl ⟨h1, ?_⟩
        unfold Instr.findNow
        rw [hke, hs]
        exact h2
      · refine .inr ⟨j, v, v', h1, ?_, h3, by omega, by simp; omega, a, a', ?_, ?_, h8⟩
        · unfold Instr.findNow
          rw [hke, hs]
          exact h2
        · rw [show j - i = (j - (i + 1)) + 1 by omega]; simpa using h6
        · rw [show j - i = (j - (i + 1)) + 1 by omega]; simpa using h7
    · cases h

/-- A map's entries. -/
noncomputable def entriesA (m : Value) (st : St) : Option (Array MapEntry) :=
  match m with
  | .map none => some #[]
  | .map (some g) => match st.H.get g with
    | some (.obj (.map es _)) => some es
    | _ => none
  | _ => none
noncomputable def zeroA (P : Program) (t : TypeId) : Option Value :=
  match P.info? t with
  | some i => match i.zero with
    | some z => bif plainV FUEL z then some z else none
    | none => none
  | none => none
theorem zeroA_ok {P : Program} {t : TypeId} {z : Value} (h : zeroA P t = some z) : plainV FUEL z = true ∧ ∀ w, (zeroValue t).run P w = .ok z w := by
  unfold zeroA at h
  split at h
  · rename_i i hi
    split at h
    · rename_i z' hz
      cases hp : plainV FUEL z' with
      | false => simp [hp] at h
      | true =>
        simp only [hp, cond_true, Option.some.injEq] at h
        subst h
        exact ⟨hp, fun w => by simp [zeroValue, typeInfo, hi, hz]⟩
    · cases h
  · cases h

noncomputable def lookM (P : Program) (t : TypeId) (m k : Value) (ok : Bool) (st : St) : Option Value :=
  match P.underlying t, entriesA m st with
  | some (.map kt e), some es => match P.underlying kt with
    | some d => bif plainV FUEL k then match pureRun P (Instr.checkKey es.isEmpty 10000 kt k), Instr.findNow d k es.toList 0 with
      | some (), some (some (_, v)) => some (bif ok then .tuple #[v, .bool true] else v)
      | some (), some none => match zeroA P e with
        | some z => some (bif ok then .tuple #[z, .bool false] else z)
        | none => none
      | _, _ => none
      else none
    | none => none
  | _, _ => none
theorem tuple2 {s : Ren} {v v' : Value} (h : VR s v v') (b : Bool) : VR s (.tuple #[v, .bool b]) (.tuple #[v', .bool b]) := by
  refine .tuple _ _ rfl fun i h1 h2 => ?_
  match i, h1 with
  | 0, _ => exact h
  | 1, _ => exact .bool _
theorem lookM_ok {P : Program} {s : Ren} {st : St} {w : World} {t : TypeId} {m m' k k' v : Value} {ok : Bool} (hM : Mem s st w) (hm : VR s m m') (hk : VR s k k') (h : lookM P t m k ok st = some v) : SV P s st w (Instr.lookup t m' k' ok) v st := by
  unfold lookM at h
  split at h
  · rename_i kt e es hu hes
    split at h
    · rename_i d hd
      cases hpk : plainV FUEL k with
      | false => simp [hpk] at h
      | true =>
        simp only [hpk, cond_true] at h
        have hke := plainV_eq hpk hk
        subst hke
        have key : ∃ es' : Array MapEntry, EsR s es.toList es'.toList ∧ ((m' = .map none ∧ es' = #[]) ∨ ∃ r c, m' = .map (some r) ∧ (getObj r).run P w = .ok (.map es' c) w) := by
          unfold entriesA at hes
          split at hes
          · cases hes; cases hm
            exact ⟨#[], ⟨rfl, fun i e h => by simp at h⟩, .inl ⟨rfl, rfl⟩⟩
          · rename_i g
            split at hes
            · rename_i es0 c hg
              cases hes
              cases hm with
              | map _ l hl =>
                obtain ⟨es', r1, r2, r3, r4⟩ := getObj_map (P := P) hM hl hg
                exact ⟨es', .of r3 r4, .inr ⟨l.blk, c, rfl, r1⟩⟩
            · cases hes
          · cases hes
        obtain ⟨es', hrel, hrun⟩ := key
        have hemp : es'.isEmpty = es.isEmpty := by
          have := hrel.1
          simp at this
          simp [Array.isEmpty, this]
        split at h
        · rename_i r1 v0 hck hfn
          cases h
          have hck' := pureRun_ok _ hck w
          rcases findNow_rel hpk hrel hfn with ⟨h1, _⟩ | ⟨j, u, u', h1, h2, h3, _⟩
          · cases h1
          · cases h1
            refine .same hM (v' := bif ok then .tuple #[u', .bool true] else u') ?_ ?_
            · rcases hrun with ⟨rfl, rfl⟩ | ⟨r, c, rfl, hr⟩
              · simp at h2; cases h2
              · cases ok <;> simp [Instr.lookup, run_underlying hu, hr, hemp, hck', Instr.findKey, run_underlying hd, h2]
            · cases ok
              · exact h3
              · exact tuple2 h3 true
        · rename_i hck hfn
          split at h
          · rename_i z hz
            cases h
            obtain ⟨hz1, hz2⟩ := zeroA_ok hz
            have hck' := pureRun_ok _ hck w
            rcases findNow_rel hpk hrel hfn with ⟨_, h2⟩ | ⟨j, u, u', h1, _⟩
            · refine .same hM (v' := bif ok then .tuple #[z, .bool false] else z) ?_ ?_
              · rcases hrun with ⟨rfl, rfl⟩ | ⟨r, c, rfl, hr⟩
                · have hck2 : (Instr.checkKey true 10000 kt k').run P w = .ok () w := by rw [← hemp] at hck'; exact hck'
                  cases ok <;> simp [Instr.lookup, run_underlying hu, hck2, Instr.findKey, run_underlying hd, Instr.findNow, hz2]
                · cases ok <;> simp [Instr.lookup, run_underlying hu, hr, hemp, hck', Instr.findKey, run_underlying hd, h2, hz2]
              · cases ok
                · exact plainV_self hz1
                · exact tuple2 (plainV_self hz1) false
            · cases h1
          · cases h
        · cases h
    · cases h
  · cases h

/-- m[k] = v. -/
noncomputable def updM (P : Program) (t : TypeId) (m k v : Value) (st : St) : Option St :=
  match P.underlying t, m with
  | some (.map kt _), .map (some g) => match P.underlying kt, st.H.get g with
    | some d, some (.obj (.map es c)) => bif plainV FUEL k then match pureRun P (Instr.checkKey false 10000 kt k), Instr.findNow d k es.toList 0 with
      | some (), some (some (i, _)) => TH.put (some (.obj (.map (es.modify i fun e => { e with key := k, val := v }) c))) FUEL st.H g fun H => some ⟨H, st.c, st.lim⟩
      | some (), some none => TH.put (some (.obj (.map (es.push { key := k, val := v, born := c }) (c + 1)))) FUEL st.H g fun H => some ⟨H, st.c, st.lim⟩
      | _, _ => none
      else none
    | _, _ => none
  | _, _ => none
theorem ba_eq {a b : ByteArray} (h : (a == b) = true) : a = b := by
  obtain ⟨x⟩ := a
  obtain ⟨y⟩ := b
  have e : x = y := by simpa using (show (x == y) = true from h)
  rw [e]
theorem sameBits_of {d : TypeDesc} {k e : Value} (h : Instr.sameNow d k e = some true) : Instr.sameBits 10000 e k = true := by
  unfold Instr.sameNow at h
  split at h
  · split at h
    · rename_i hk
      subst hk
      simp only [Option.some.injEq, beq_iff_eq] at h
      simp [Instr.sameBits, h]
    · cases h
  · rename_i a b
    simp only [Option.some.injEq] at h
    have := ba_eq h
    subst this
    simpa [Instr.sameBits] using h
  · simp only [Option.some.injEq, beq_iff_eq] at h
    simp [Instr.sameBits, h]
  · cases h
theorem obj_at {s : Ren} {st : St} {w : World} {g : Nat} {l : Loc} {es : Array MapEntry} {c : Nat} (hM : Mem s st w) (hl : s g = some l) (hg : st.H.get g = some (.obj (.map es c))) : l.blk < w.heap.size := hM.lt hg hl
theorem setObj_heap (w : World) (b : Nat) (o : Obj) (hb : b < w.heap.size) (k : Nat) : ({ w with heap := w.heap.setIfInBounds b o } : World).heap[k]? = if k = b then some o else w.heap[k]? := by
  by_cases hk : k = b
  · subst hk; simp [hb]
  · simp [hk, Array.getElem?_setIfInBounds_ne (fun e => hk e.symm)]
theorem updM_ok {P : Program} {s : Ren} {st st' : St} {w : World} {t : TypeId} {m m' k k' v v' : Value} (hM : Mem s st w) (hm : VR s m m') (hk : VR s k k') (hv : VR s v v') (h : updM P t m k v st = some st') : SU P s st w (Instr.mapUpdate t m' k' v') st' := by
  unfold updM at h
  split at h
  · rename_i kt e g hu
    split at h
    · rename_i d es c hd hg
      cases hpk : plainV FUEL k with
      | false => simp [hpk] at h
      | true =>
        simp only [hpk, cond_true] at h
        have hke := plainV_eq hpk hk
        subst hke
        cases hm with
        | map _ l hl =>
          obtain ⟨es', r1, r2, r3, r4⟩ := getObj_map (P := P) hM hl hg
          have hrel := EsR.of r3 r4
          have hlt := hM.lt hg hl
          split at h
          · rename_i i v0 hck hfn
            obtain ⟨H, h1, hH⟩ := TH.put_some h
            cases h1
            have hck' := pureRun_ok _ hck w
            rcases findNow_rel hpk hrel hfn with ⟨h1, _⟩ | ⟨j, u, u', h1, h2, h3, _, h5, a, a', h6, h7, h8, h9, h10⟩
            · cases h1
            · cases h1
              simp only [Nat.sub_zero] at h6 h7
              have h7' : es'[i]? = some a' := by simpa using h7
              have hset : (setObj l.blk (.map (es'.modify i fun e => { e with key := k', val := v' }) c)).run P w = .ok () { w with heap := w.heap.setIfInBounds l.blk (.map (es'.modify i fun e => { e with key := k', val := v' }) c) } := by
                simp [setObj, Sem.run, r2]
              obtain ⟨m1, m2⟩ := Mem.turn (w' := { w with heap := w.heap.setIfInBounds l.blk (.map (es'.modify i fun e => { e with key := k', val := v' }) c) }) (o' := .obj (.map (es.modify i fun e => { e with key := k', val := v }) c)) hM hl hg r2 hH (setObj_heap w l.blk _ hlt)
                (.map _ _ _ (by simp [r3]) fun q q1 q2 => by
                  simp only [Array.getElem_modify]
                  have q1' : q < es.size := by simpa using q1
                  have q2' : q < es'.size := by simpa using q2
                  by_cases hq : i = q
                  · subst hq
                    simp only [if_true]
                    exact ⟨plainV_self hpk, hv, (r4 i q1' q2').2.2⟩
                  · simp only [hq, if_false]
                    exact r4 q q1' q2') rfl rfl rfl
              refine ⟨s, _, ?_, m1, m2⟩
              have hstay : (Instr.keyThatStays (((es'[i]?).map (·.key)).getD k') k').run P w = .ok k' w := by
                simp only [h7', Option.map_some, Option.getD_some, Instr.keyThatStays, h8, sameBits_of h10, if_true, Sem.run_pure]
              simp only [Instr.mapUpdate, Sem.run_bind, run_underlying hu, Result.andThen_ok, r1, hck', Instr.findKey, run_underlying hd, h2, Sem.run_pure, hstay, hset]
          · rename_i hck hfn
            obtain ⟨H, h1, hH⟩ := TH.put_some h
            cases h1
            have hck' := pureRun_ok _ hck w
            rcases findNow_rel hpk hrel hfn with ⟨_, h2⟩ | ⟨j, u, u', h1, _⟩
            · have hset : (setObj l.blk (.map (es'.push { key := k', val := v', born := c }) (c + 1))).run P w = .ok () { w with heap := w.heap.setIfInBounds l.blk (.map (es'.push { key := k', val := v', born := c }) (c + 1)) } := by
                simp [setObj, Sem.run, r2]
              obtain ⟨m1, m2⟩ := Mem.turn (w' := { w with heap := w.heap.setIfInBounds l.blk (.map (es'.push { key := k', val := v', born := c }) (c + 1)) }) (o' := .obj (.map (es.push { key := k', val := v, born := c }) (c + 1))) hM hl hg r2 hH (setObj_heap w l.blk _ hlt)
                (.map _ _ _ (by simp [r3]) fun q q1 q2 => by
                  simp only [Array.getElem_push]
                  by_cases hq : q < es.size
                  · simp only [hq, dif_pos, r3 ▸ hq]
                    exact r4 q hq (r3 ▸ hq)
                  · have hq' : ¬ q < es'.size := r3 ▸ hq
                    simp only [hq, hq', dif_neg, not_false_eq_true]
                    exact ⟨plainV_self hpk, hv, trivial⟩) rfl rfl rfl
              refine ⟨s, _, ?_, m1, m2⟩
              simp only [Instr.mapUpdate, Sem.run_bind, run_underlying hu, Result.andThen_ok, r1, hck', Instr.findKey, run_underlying hd, h2, Sem.run_pure, hset]
            · cases h1
          · cases h
    · cases h
  · cases h

/-- Maps whose entries stand in no known order. -/
noncomputable def isU (m : Value) (st : St) : Bool :=
  match m with
  | .map (some g) => match st.H.get g with
    | some (.umap _) => true
    | _ => false
  | _ => false
noncomputable def unlike (d : TypeDesc) (k : Value) (es : List (Value × Value)) : Bool := es.all fun p => match Instr.sameNow d k p.1 with
  | some false => true
  | _ => false
noncomputable def pickU (d : TypeDesc) (k : Value) : List (Value × Value) → Option (Option Value)
  | [] => some none
  | p :: r => match Instr.sameNow d k p.1 with
    | some true => bif unlike d k r then some (some p.2) else none
    | some false => pickU d k r
    | none => none
theorem unlike_at {d : TypeDesc} {k : Value} {es : List (Value × Value)} (h : unlike d k es = true) {p : Value × Value} (hp : p ∈ es) : Instr.sameNow d k p.1 = some false := by
  have := List.all_eq_true.1 h p hp
  split at this
  · rename_i h1; exact h1
  · cases this
theorem findNow_none {d : TypeDesc} {k : Value} : ∀ {es : List MapEntry} {i : Nat}, (∀ e ∈ es, Instr.sameNow d k e.key = some false) → Instr.findNow d k es i = some none
  | [], _, _ => rfl
  | e :: es, i, h => by
    unfold Instr.findNow
    rw [h e (by simp)]
    exact findNow_none fun e he => h e (by simp [he])
theorem findNow_one {d : TypeDesc} {k : Value} {e0 : MapEntry} (h0 : Instr.sameNow d k e0.key = some true) : ∀ {es : List MapEntry} {i : Nat}, e0 ∈ es → (∀ e ∈ es, Instr.sameNow d k e.key = some false ∨ e = e0) → ∃ j, Instr.findNow d k es i = some (some (j, e0.val))
  | [], _, hm, _ => by simp at hm
  | e :: es, i, hm, h => by
    unfold Instr.findNow
    rcases h e (by simp) with h1 | h1
    · rw [h1]
      have : e0 ∈ es := by
        rcases List.mem_cons.1 hm with h2 | h2
        · subst h2; rw [h0] at h1; cases h1
        · exact h2
      exact findNow_one h0 this fun e he => h e (by simp [he])
    · subst h1
      rw [h0]
      exact ⟨i, rfl⟩
/-- What is found in entries, in whatever order they stand. -/
theorem pickU_ok {s : Ren} {d : TypeDesc} {k : Value} : ∀ {es : List (Value × Value)} {p : List MapEntry} {r : Option Value}, UZ s es p → pickU d k es = some r →
    (r = none ∧ ∀ e ∈ p, Instr.sameNow d k e.key = some false) ∨ ∃ v e0, r = some v ∧ e0 ∈ p ∧ Instr.sameNow d k e0.key = some true ∧ VR s v e0.val ∧ ∀ e ∈ p, Instr.sameNow d k e.key = some false ∨ e = e0
  | [], [], r, _, h => by cases h; exact .inl ⟨rfl, fun e he => by simp at he⟩
  | _ :: _, [], r, hz, _ => by cases hz
  | [], _ :: _, r, hz, _ => by cases hz
  | q :: es, e :: p, r, hz, h => by
    cases hz with
    | cons h1 h2 h3 =>
      unfold pickU at h
      split at h
      · rename_i hs
        cases hu : unlike d k es with
        | false => rw [hu] at h; cases h
        | true =>
          rw [hu] at h
          simp only [cond_true, Option.some.injEq] at h
          refine .inr ⟨_, e, h.symm, by simp, by rw [h1]; exact hs, h2, fun e' he' => ?_⟩
          rcases List.mem_cons.1 he' with h4 | h4
          · exact .inr h4
          · obtain ⟨v', h5, _⟩ := h3.mem h4
            exact .inl (unlike_at hu h5)
      · rename_i hs
        rcases pickU_ok h3 h with ⟨a, b⟩ | ⟨v, e0, a, b, c, f, g⟩
        · refine .inl ⟨a, fun e' he' => ?_⟩
          rcases List.mem_cons.1 he' with h4 | h4
          · subst h4; rw [h1]; exact hs
          · exact b e' h4
        · refine .inr ⟨v, e0, a, by simp [b], c, f, fun e' he' => ?_⟩
          rcases List.mem_cons.1 he' with h4 | h4
          · subst h4; rw [h1]; exact .inl hs
          · exact g e' h4
      · cases h
theorem getObj_umap {P : Program} {s : Ren} {st : St} {w : World} {g : Nat} {l : Loc} {es : List (Value × Value)} (hM : Mem s st w) (hl : s g = some l) (hg : st.H.get g = some (.umap es)) :
    ∃ (es' : Array MapEntry) (c : Nat) (p : List MapEntry), (getObj l.blk).run P w = .ok (.map es' c) w ∧ w.heap[l.blk]? = some (.map es' c) ∧ es'.toList.Perm p ∧ UZ s es p := by
  obtain ⟨l', x, e1, e2, e3⟩ := hM.at_ g _ hg
  cases e1.symm.trans hl
  cases x with
  | map es' c =>
    obtain ⟨p, h1, h2⟩ := e3
    exact ⟨es', c, p, by simp [getObj, Sem.run, e2], e2, h1, h2⟩
  | _ => exact e3.elim
noncomputable def lookU (P : Program) (t : TypeId) (m k : Value) (ok : Bool) (st : St) : Option Value :=
  match P.underlying t, m with
  | some (.map kt e), .map (some g) => match P.underlying kt, st.H.get g with
    | some d, some (.umap es) => bif plainV FUEL k then match pureRun P (Instr.checkKey es.isEmpty 10000 kt k), pickU d k es with
      | some (), some (some v) => some (bif ok then .tuple #[v, .bool true] else v)
      | some (), some none => match zeroA P e with
        | some z => some (bif ok then .tuple #[z, .bool false] else z)
        | none => none
      | _, _ => none
      else none
    | _, _ => none
  | _, _ => none
theorem UZ.len {s : Ren} {es : List (Value × Value)} {p : List MapEntry} (h : UZ s es p) : p.length = es.length := by
  induction h with
  | nil => rfl
  | cons _ _ _ ih => simp [ih]
theorem lookU_ok {P : Program} {s : Ren} {st : St} {w : World} {t : TypeId} {m m' k k' v : Value} {ok : Bool} (hM : Mem s st w) (hm : VR s m m') (hk : VR s k k') (h : lookU P t m k ok st = some v) : SV P s st w (Instr.lookup t m' k' ok) v st := by
  unfold lookU at h
  split at h
  · rename_i kt e g hu
    split at h
    · rename_i d es hd hg
      cases hpk : plainV FUEL k with
      | false => simp [hpk] at h
      | true =>
        simp only [hpk, cond_true] at h
        have hke := plainV_eq hpk hk
        subst hke
        cases hm with
        | map _ l hl =>
          obtain ⟨es', c, p, r1, _, r3, r4⟩ := getObj_umap (P := P) hM hl hg
          have hemp : es'.isEmpty = es.isEmpty := by
            have h1 := r3.length_eq
            have h2 := r4.len
            have h3 : es'.size = es.length := by simpa using h1.trans h2
            cases es <;> simp_all [Array.isEmpty]
          split at h
          · rename_i v0 hck hpick
            cases h
            have hck' := pureRun_ok _ hck w
            rcases pickU_ok r4 hpick with ⟨a, _⟩ | ⟨u, e0, a, b, c0, f, gg⟩
            · cases a
            · cases a
              obtain ⟨j, hj⟩ := findNow_one (i := 0) c0 (r3.mem_iff.2 b) fun e he => gg e (r3.mem_iff.1 he)
              refine .same hM (v' := bif ok then .tuple #[e0.val, .bool true] else e0.val) ?_ ?_
              · cases ok <;> simp [Instr.lookup, run_underlying hu, r1, hemp, hck', Instr.findKey, run_underlying hd, hj]
              · cases ok
                · exact f
                · exact tuple2 f true
          · rename_i hck hpick
            split at h
            · rename_i z hz
              cases h
              obtain ⟨hz1, hz2⟩ := zeroA_ok hz
              have hck' := pureRun_ok _ hck w
              rcases pickU_ok r4 hpick with ⟨_, b⟩ | ⟨u, e0, a, _⟩
              · have hj := findNow_none (es := es'.toList) (i := 0) fun e he => b e (r3.mem_iff.1 he)
                refine .same hM (v' := bif ok then .tuple #[z, .bool false] else z) ?_ ?_
                · cases ok <;> simp [Instr.lookup, run_underlying hu, r1, hemp, hck', Instr.findKey, run_underlying hd, hj, hz2]
                · cases ok
                  · exact plainV_self hz1
                  · exact tuple2 (plainV_self hz1) false
              · cases a
            · cases h
          · cases h
    · cases h
  · cases h
noncomputable def lookA (P : Program) (t : TypeId) (m k : Value) (ok : Bool) (st : St) : Option Value := bif isU m st then lookU P t m k ok st else lookM P t m k ok st
theorem lookA_ok {P : Program} {s : Ren} {st : St} {w : World} {t : TypeId} {m m' k k' v : Value} {ok : Bool} (hM : Mem s st w) (hm : VR s m m') (hk : VR s k k') (h : lookA P t m k ok st = some v) : SV P s st w (Instr.lookup t m' k' ok) v st := by
  unfold lookA at h
  cases hu : isU m st with
  | true => rw [hu] at h; exact lookU_ok hM hm hk h
  | false => rw [hu] at h; exact lookM_ok hM hm hk h
noncomputable def updU (P : Program) (t : TypeId) (m k v : Value) (st : St) : Option St :=
  match P.underlying t, m with
  | some (.map kt _), .map (some g) => match P.underlying kt, st.H.get g with
    | some d, some (.umap es) => bif plainV FUEL k then match pureRun P (Instr.checkKey false 10000 kt k) with
      | some () => bif unlike d k es then TH.put (some (.umap (es ++ [(k, v)]))) FUEL st.H g fun H => some ⟨H, st.c, st.lim⟩ else none
      | none => none
      else none
    | _, _ => none
  | _, _ => none
theorem updU_ok {P : Program} {s : Ren} {st st' : St} {w : World} {t : TypeId} {m m' k k' v v' : Value} (hM : Mem s st w) (hm : VR s m m') (hk : VR s k k') (hv : VR s v v') (h : updU P t m k v st = some st') : SU P s st w (Instr.mapUpdate t m' k' v') st' := by
  unfold updU at h
  split at h
  · rename_i kt e g hu
    split at h
    · rename_i d es hd hg
      cases hpk : plainV FUEL k with
      | false => simp [hpk] at h
      | true =>
        simp only [hpk, cond_true] at h
        have hke := plainV_eq hpk hk
        subst hke
        cases hm with
        | map _ l hl =>
          obtain ⟨es', c, p, r1, r2, r3, r4⟩ := getObj_umap (P := P) hM hl hg
          have hlt := hM.lt hg hl
          split at h
          · rename_i hck
            cases hun : unlike d k' es with
            | false => rw [hun] at h; cases h
            | true =>
              rw [hun] at h
              simp only [cond_true] at h
              obtain ⟨H, h1, hH⟩ := TH.put_some h
              cases h1
              have hck' := pureRun_ok _ hck w
              have h2 := findNow_none (d := d) (k := k') (es := es'.toList) (i := 0) fun e he => by
                obtain ⟨v0, a, _⟩ := r4.mem (r3.mem_iff.1 he)
                exact unlike_at hun a
              have hset : (setObj l.blk (.map (es'.push { key := k', val := v', born := c }) (c + 1))).run P w = .ok () { w with heap := w.heap.setIfInBounds l.blk (.map (es'.push { key := k', val := v', born := c }) (c + 1)) } := by
                simp [setObj, Sem.run, r2]
              obtain ⟨m1, m2⟩ := Mem.turn (w' := { w with heap := w.heap.setIfInBounds l.blk (.map (es'.push { key := k', val := v', born := c }) (c + 1)) }) (o' := .umap (es ++ [(k', v)])) hM hl hg r2 hH (setObj_heap w l.blk _ hlt)
                (show UR s _ _ from ⟨p ++ [{ key := k', val := v', born := c }], by rw [Array.toList_push]; exact r3.append_right _, r4.append (.cons rfl hv .nil)⟩) rfl rfl rfl
              refine ⟨s, _, ?_, m1, m2⟩
              simp only [Instr.mapUpdate, Sem.run_bind, run_underlying hu, Result.andThen_ok, r1, hck', Instr.findKey, run_underlying hd, h2, Sem.run_pure, hset]
          · cases h
    · cases h
  · cases h
noncomputable def updA (P : Program) (t : TypeId) (m k v : Value) (st : St) : Option St := bif isU m st then updU P t m k v st else updM P t m k v st
theorem updA_ok {P : Program} {s : Ren} {st st' : St} {w : World} {t : TypeId} {m m' k k' v v' : Value} (hM : Mem s st w) (hm : VR s m m') (hk : VR s k k') (hv : VR s v v') (h : updA P t m k v st = some st') : SU P s st w (Instr.mapUpdate t m' k' v') st' := by
  unfold updA at h
  cases hu : isU m st with
  | true => rw [hu] at h; exact updU_ok hM hm hk hv h
  | false => rw [hu] at h; exact updM_ok hM hm hk hv h

noncomputable def makeMapA (st : St) : Option (Value × St) := newO (.obj (.map #[] 0)) st fun g st' => some (.map (some g), st')
theorem makeMapA_ok {P : Program} {s : Ren} {st st' : St} {w : World} {t : TypeId} {v : Value} {r r' : Option Value} (hM : Mem s st w) (hr : OptR s r r') (hn : ∀ x, r = some x → ∃ k n, x = .int k n) (ht : r = none ∨ ∃ a b, P.underlying t = some (.map a b)) (h : makeMapA st = some (v, st')) : SV P s st w (Instr.makeMap t r') v st' := by
  obtain ⟨s', st1, h1, m1, e1, hs⟩ := newO_ok hM h (.map #[] 0) 0 (fun s' _ _ => OR.map _ _ _ rfl (fun i h => absurd h (by simp)))
  cases h1
  refine ⟨s', _, _, ?_, .map _ _ hs, m1, e1⟩
  cases r <;> cases r' <;> simp only [OptR] at hr
  · simp [Instr.makeMap]
  · obtain ⟨k, n, rfl⟩ := hn _ rfl
    cases hr
    rcases ht with h | ⟨a, b, hu⟩
    · cases h
    · simp [Instr.makeMap, run_underlying hu, asInt, asIntOf]

/-- range over a string, its next rune. -/
noncomputable def rangeA (P : Program) (t : TypeId) (x : Value) (st : St) : Option (Value × St) :=
  match P.underlying t, x with
  | some .string, .string b => newO (.obj (.stringIter b 0)) st fun g st' => some (pt g, st')
  | _, _ => none
theorem rangeA_ok {P : Program} {s : Ren} {st st' : St} {w : World} {t : TypeId} {x x' v : Value} (hM : Mem s st w) (hx : VR s x x') (h : rangeA P t x st = some (v, st')) : SV P s st w (Instr.range t x') v st' := by
  unfold rangeA at h
  split at h
  · rename_i b hu
    cases hx
    obtain ⟨s', st1, h1, m1, e1, hs⟩ := newO_ok hM h (.stringIter b 0) 0 (fun s' _ _ => OR.strIter _ _)
    cases h1
    exact ⟨s', _, _, by simp [Instr.range, run_underlying hu], .ptr _ _ _ hs, m1, e1⟩
  · cases h
noncomputable def nextA (it : Value) (isString : Bool) (st : St) : Option (Value × St) :=
  match it, isString with
  | .pointer (some ⟨g, 0, none⟩), true => match st.H.get g with
    | some (.obj (.stringIter b p)) => bif Nat.blt p b.size then
        match Utf8.decode b p with
        | (c, wd) => TH.put (some (.obj (.stringIter b (p + wd)))) FUEL st.H g fun H => some (.tuple #[.bool true, .int .i64 p, .int .i32 c], ⟨H, st.c, st.lim⟩)
      else some (.tuple #[.bool false], st)
    | _ => none
  | _, _ => none
theorem nextA_ok {P : Program} {s : Ren} {st st' : St} {w : World} {ty : TypeId} {it it' v : Value} {b : Bool} (hM : Mem s st w) (hx : VR s it it') (h : nextA it b st = some (v, st')) : SV P s st w (Instr.next it' b ty) v st' := by
  unfold nextA at h
  split at h
  · rename_i g
    split at h
    · rename_i bs p hg
      cases hx with
      | ptr _ _ l hl =>
        obtain ⟨l', x, e1, e2, e3⟩ := hM.at_ g _ hg
        cases e1.symm.trans hl
        cases e3 with
        | strIter =>
          have hlt := hM.lt hg hl
          have hget : (getObj l.blk).run P w = .ok (.stringIter bs p) w := by simp [getObj, Sem.run, e2]
          cases hb : Nat.blt p bs.size with
          | true =>
            simp only [hb, cond_true] at h
            rw [Nat.blt_eq] at hb
            generalize hdec : Utf8.decode bs p = cw at h
            obtain ⟨c, wd⟩ := cw
            obtain ⟨H, h1, hH⟩ := TH.put_some h
            cases h1
            obtain ⟨m1, m2⟩ := Mem.turn (w' := { w with heap := w.heap.setIfInBounds l.blk (.stringIter bs (p + wd)) }) (o' := .obj (.stringIter bs (p + wd))) hM hl hg e2 hH (setObj_heap w l.blk _ hlt) (.strIter _ _) rfl rfl rfl
            refine ⟨s, _, .tuple #[.bool true, .int .i64 p, .int .i32 c], ?_, .tuple _ _ rfl fun i h1 h2 => ?_, m1, m2⟩
            · simp [Instr.next, hget, hb, hdec, setObj, Sem.run, e2, goInt]
            · match i, h1 with
              | 0, _ => exact .bool _
              | 1, _ => exact .int _ _
              | 2, _ => exact .int _ _
          | false =>
            simp only [hb, cond_false, Option.some.injEq, Prod.mk.injEq] at h
            obtain ⟨rfl, rfl⟩ := h
            have hge : ¬ p < bs.size := by
              intro q
              rw [show Nat.blt p bs.size = true by rw [Nat.blt_eq]; exact q] at hb
              cases hb
            refine .same hM (v' := .tuple #[.bool false]) ?_ (.tuple _ _ rfl fun i h1 h2 => ?_)
            · simp [Instr.next, hget, hge]
            · match i, h1 with
              | 0, _ => exact .bool _
    · cases h
  · cases h

end Go.Proofs.Ytfilbknnpjbmcaa.Cx
