/- A closed call, run: structs, arrays, interfaces, addresses; slices cut. No program of its own. -/
import Derived.Test.YtfilbknnpjbmcaaCxC
namespace Go.Proofs.Ytfilbknnpjbmcaa.Cx
open Go Go.RowKit

theorem VRs.extract {s : Ren} {a a' : Array Value} (h : VRs s a a') (i j : Nat) : VRs s (a.extract i j) (a'.extract i j) := by
  refine ⟨by simp [h.1], fun k h1 h2 => ?_⟩
  rw [Array.getElem_extract, Array.getElem_extract]
  exact h.2 _ (by simp at h1; omega) (by simp at h2; omega)

/-- A part of a struct, or of an array. -/
noncomputable def partA (P : Program) (t : TypeId) (cs : Array Value) (off : Nat) : Option Value :=
  match aggO P t with
  | some true => match szO P t with
    | some n => some (.agg (cs.extract off (off + n)))
    | none => none
  | some false => cs[off]?
  | none => none
theorem partA_ok {P : Program} {s : Ren} {t : TypeId} {cs cs' : Array Value} {off : Nat} {v : Value} (hc : VRs s cs cs') (h : partA P t cs off = some v) (w : World) : ∃ v', (part t cs' off).run P w = .ok v' w ∧ VR s v v' := by
  unfold partA at h
  split at h
  · rename_i ha
    split at h
    · rename_i n hn
      cases h
      refine ⟨.agg (cs'.extract off (off + n)), by simp [part, run_aggO ha, run_szO hn], .agg _ _ (hc.extract _ _).1 (hc.extract _ _).2⟩
    · cases h
  · rename_i ha
    obtain ⟨v', e, r⟩ := hc.get h
    exact ⟨v', by simp [part, run_aggO ha, e], r⟩
  · cases h

noncomputable def fieldA (P : Program) (t : TypeId) (x : Value) (f : Nat) : Option Value :=
  match P.underlying t, x with
  | some (.struct fs), .agg cs => match fs[f]? with
    | some fd => partA P fd.type cs fd.offset
    | none => none
  | _, _ => none
theorem fieldA_ok {P : Program} {s : Ren} {st : St} {w : World} {t : TypeId} {x x' v : Value} {f : Nat} (hM : Mem s st w) (hx : VR s x x') (h : fieldA P t x f = some v) : SV P s st w (Instr.field t x' f) v st := by
  unfold fieldA at h
  split at h
  · rename_i fs cs hu
    split at h
    · rename_i fd hf
      cases hx with
      | agg _ cs' h1 h2 =>
        obtain ⟨v', e, r⟩ := partA_ok ⟨h1, h2⟩ h w
        exact .same hM (by simp [Instr.field, run_underlying hu, hf, asAgg, e]) r
    · cases h
  · cases h

/-- A number that is an index. -/
noncomputable def natO : Value → Option Nat
  | .int _ (.ofNat n) => some n
  | _ => none
theorem natO_ok {s : Ren} {v v' : Value} {n : Nat} (h : natO v = some n) (hv : VR s v v') : ∃ k, v' = .int k (n : Int) := by
  unfold natO at h
  split at h
  · cases h
    cases hv
    exact ⟨_, rfl⟩
  · cases h

noncomputable def indexA (P : Program) (t : TypeId) (x i : Value) : Option Value :=
  match P.underlying t, x, natO i with
  | some (.array len e), .agg cs, some n => bif Nat.blt n len then match szO P e with
    | some k => partA P e cs (n * k)
    | none => none
    else none
  | _, _, _ => none
theorem indexA_ok {P : Program} {s : Ren} {st : St} {w : World} {t : TypeId} {x x' i i' v : Value} (hM : Mem s st w) (hx : VR s x x') (hi : VR s i i') (h : indexA P t x i = some v) : SV P s st w (Instr.index t x' i') v st := by
  unfold indexA at h
  split at h
  · rename_i len e cs n hu hn
    cases hb : Nat.blt n len with
    | false => simp [hb] at h
    | true =>
      simp only [hb, cond_true] at h
      rw [Nat.blt_eq] at hb
      split at h
      · rename_i k hk
        obtain ⟨kk, rfl⟩ := natO_ok hn hi
        cases hx with
        | agg _ cs' h1 h2 =>
          obtain ⟨v', e1, r⟩ := partA_ok ⟨h1, h2⟩ h w
          refine .same hM (v' := v') ?_ r
          simp [Instr.index, asIntOf, run_underlying hu, hb, run_szO hk, e1]
      · cases h
  · cases h

noncomputable def extractA (x : Value) (i : Nat) : Option Value :=
  match x with
  | .tuple vs => vs[i]?
  | _ => none
theorem extractA_ok {P : Program} {s : Ren} {st : St} {w : World} {x x' v : Value} {i : Nat} (hM : Mem s st w) (hx : VR s x x') (h : extractA x i = some v) : SV P s st w (Instr.extract x' i) v st := by
  unfold extractA at h
  split at h
  · cases hx with
    | tuple _ cs' h1 h2 =>
      obtain ⟨v', e, r⟩ := VRs.get ⟨h1, h2⟩ h
      exact .same hM (by simp [Instr.extract, e]) r
  · cases h

noncomputable def buildA (P : Program) (t : TypeId) (parts : Array (Nat × Value)) : Option Value :=
  match P.info? t with
  | some i => match i.zero with
    | some z => bif plainV FUEL z then match pureRun P (Instr.build t parts) with
      | some (.agg cs) => some (.agg cs)
      | _ => none
      else none
    | none => none
  | none => none
theorem fill_arr {s : Ren} {place : Nat → Option (Nat × Nat)} {ps ps' : Array (Nat × Value)} {cs cs' r : Array Value} (hc : VRs s cs cs') (hl : ps.size = ps'.size)
    (hp : ∀ (j : Nat) (p : Nat × Value), ps[j]? = some p → ∃ v', ps'[j]? = some (p.1, v') ∧ VR s p.2 v') (h : Instr.fill place cs ps.toList = some r) : ∃ r', Instr.fill place cs' ps'.toList = some r' ∧ VRs s r r' :=
  fill_rel hc (by simpa using hl) (fun j p hj => by
    obtain ⟨v', e, r⟩ := hp j p (by simpa using hj)
    exact ⟨v', by simpa using e, r⟩) h

theorem pureRun_bind {α β : Type} {P : Program} (e : Sem α) {f : α → Sem β} : pureRun P (e.bind f) = (pureRun P e).bind fun a => pureRun P (f a) := by
  induction e with
  | pure a => rfl
  | program k ih => exact ih P
  | mark m k ih => exact ih
  | _ => rfl
theorem pureRun_bind' {α β : Type} {P : Program} (e : Sem α) {f : α → Sem β} : pureRun P (e >>= f) = (pureRun P e).bind fun a => pureRun P (f a) := pureRun_bind e
theorem pureRun_pure {α : Type} {P : Program} (a : α) : pureRun P (Pure.pure a : Sem α) = some a := rfl

theorem buildA_ok {P : Program} {s : Ren} {st : St} {w : World} {t : TypeId} {ps ps' : Array (Nat × Value)} {v : Value} (hM : Mem s st w) (hl : ps.size = ps'.size)
    (hp : ∀ (j : Nat) (p : Nat × Value), ps[j]? = some p → ∃ v', ps'[j]? = some (p.1, v') ∧ VR s p.2 v') (h : buildA P t ps = some v) : SV P s st w (Instr.build t ps') v st := by
  unfold buildA at h
  split at h
  · rename_i i hi
    split at h
    · rename_i z hz
      cases hpl : plainV FUEL z with
      | false => simp [hpl] at h
      | true =>
        simp only [hpl, cond_true] at h
        split at h
        · rename_i cs hr
          cases h
          have hzc : VRs s z.cells z.cells := (plainV_self hpl).cells
          have e1 : ∀ w, (zeroValue t).run P w = .ok z w := fun w => by simp [zeroValue, typeInfo, hi, hz]
          have e2 : pureRun P (zeroValue t) = some z := by simp [zeroValue, typeInfo, program, pureRun_bind', pureRun, hi, hz, pureRun_pure]
          unfold Instr.build at hr
          simp only [pureRun_bind', e2, Option.bind_some] at hr
          obtain ⟨d, hd, hr⟩ := Option.bind_eq_some_iff.1 hr
          have hu : P.underlying t = some d := by
            simp only [underlying, program, pureRun_bind', pureRun, Option.bind_some] at hd
            split at hd
            · rename_i d' hd'
              simp only [pureRun_pure, Option.some.injEq] at hd
              rw [hd', hd]
            · cases hd
          split at hr
          · rename_i fields
            simp only [pureRun_bind'] at hr
            obtain ⟨places, hpl', hr⟩ := Option.bind_eq_some_iff.1 hr
            split at hr
            · rename_i r hr'
              simp only [pureRun_pure, Option.some.injEq, Value.agg.injEq] at hr
              subst hr
              obtain ⟨r', hr1, hr2⟩ := fill_arr hzc hl hp hr'
              refine .same hM (v' := .agg r') ?_ (.agg _ _ hr2.1 hr2.2)
              have := pureRun_ok _ hpl' w
              simp only [Instr.build, Sem.run_bind, e1, Result.andThen_ok, run_underlying hu, this, hr1, Sem.run_pure]
            · cases hr
          · rename_i len elem
            simp only [pureRun_bind'] at hr
            obtain ⟨size, hs', hr⟩ := Option.bind_eq_some_iff.1 hr
            split at hr
            · rename_i r hr'
              simp only [pureRun_pure, Option.some.injEq, Value.agg.injEq] at hr
              subst hr
              obtain ⟨r', hr1, hr2⟩ := fill_arr hzc hl hp hr'
              refine .same hM (v' := .agg r') ?_ (.agg _ _ hr2.1 hr2.2)
              have := pureRun_ok _ hs' w
              simp only [Instr.build, Sem.run_bind, e1, Result.andThen_ok, run_underlying hu, this, hr1, Sem.run_pure]
            · cases hr
          · cases hr
        · cases h
    · cases h
  · cases h

/-- Zeros in a row. -/
noncomputable def zerosL (z : Array Value) (n : Nat) : Array Value := (Array.range n).map (z[· % z.size]!)
theorem zerosL_rel {s : Ren} {z : Array Value} (hz : VRs s z z) (hp : 0 < z.size) (n : Nat) : VRs s (zerosL z n) (zerosL z n) := by
  refine ⟨rfl, fun i h1 _ => ?_⟩
  simp only [zerosL, Array.getElem_map, Array.getElem_range]
  have : i % z.size < z.size := Nat.mod_lt _ hp
  rw [getElem!_pos z (i % z.size) this]
  exact hz.2 _ this this

/-- The same, made cell by cell. -/
noncomputable def zerosC (z : List Value) : List Value → Nat → List Value
  | _, 0 => []
  | [], n + 1 => match z with
    | [] => []
    | v :: r => v :: zerosC z r n
  | v :: r, n + 1 => v :: zerosC z r n
theorem zerosC_at {z : List Value} (hp : 0 < z.length) : ∀ (n k : Nat), k ≤ z.length → (zerosC z (z.drop k) n).length = n ∧ ∀ i, i < n → (zerosC z (z.drop k) n)[i]? = z[(k + i) % z.length]?
  | 0, k, _ => ⟨rfl, fun i h => absurd h (by omega)⟩
  | n + 1, k, hk => by
    rcases Nat.lt_or_ge k z.length with h | h
    · have e : z.drop k = z[k] :: z.drop (k + 1) := List.drop_eq_getElem_cons h
      obtain ⟨h1, h2⟩ := zerosC_at hp n (k + 1) (by omega)
      rw [e]
      refine ⟨by simp [zerosC, h1], fun i hi => ?_⟩
      cases i with
      | zero => simp [zerosC, Nat.mod_eq_of_lt h]
      | succ i =>
        have := h2 i (by omega)
        simp only [zerosC, List.getElem?_cons_succ]
        rw [this]
        congr 2
        omega
    · have hkk : k = z.length := by omega
      have e : z.drop k = [] := List.drop_eq_nil_of_le (by omega)
      obtain ⟨h1, h2⟩ := zerosC_at hp n 1 (by omega)
      rw [e]
      obtain ⟨v, r, hz⟩ : ∃ v r, z = v :: r := by
        cases z with
        | nil => simp at hp
        | cons v r => exact ⟨v, r, rfl⟩
      have e2 : zerosC z [] (n + 1) = v :: zerosC z (z.drop 1) n := by
        subst hz
        rfl
      rw [e2]
      refine ⟨by rw [List.length_cons, h1], fun i hi => ?_⟩
      cases i with
      | zero => rw [hkk]; simp [hz]
      | succ i =>
        have := h2 i (by omega)
        rw [List.getElem?_cons_succ, this]
        congr 1
        rw [hkk, Nat.add_mod_left]
        congr 1
        omega
theorem zerosC_eq {z : Array Value} (hp : 0 < z.size) (n : Nat) : zerosC z.toList z.toList n = (zerosL z n).toList := by
  obtain ⟨h1, h2⟩ := zerosC_at (z := z.toList) (by simpa using hp) n 0 (by omega)
  rw [List.drop_zero] at h1 h2
  apply List.ext_getElem?
  intro i
  rcases Nat.lt_or_ge i n with h | h
  · rw [h2 i h]
    have hm : i % z.size < z.size := Nat.mod_lt _ hp
    simp [zerosL, h, hm]
  · rw [List.getElem?_eq_none (by omega), List.getElem?_eq_none (by simp [zerosL]; omega)]

noncomputable def buildSliceA (P : Program) (t : TypeId) (len : Nat) (parts : Array (Nat × Value)) (st : St) : Option (Value × St) :=
  match P.underlying t with
  | some (.slice e) => match P.info? e with
    | some i => match i.zero with
      | some z => bif plainV FUEL z && Nat.blt 0 i.size && Nat.beq z.cells.size i.size && Nat.ble (len * i.size) 16777216 && Nat.blt len BIG then
          match Instr.fill (fun k => some (k * i.size, i.size)) (zerosL z.cells (len * i.size)) parts.toList with
          | some cs => newCells e i.size cs.toList st fun g st' => some (.slice (some ⟨g, 0, none⟩) len len, st')
          | none => none
        else none
      | none => none
    | none => none
  | _ => none
theorem buildSliceA_ok {P : Program} {s : Ren} {st st' : St} {w : World} {t : TypeId} {len : Nat} {ps ps' : Array (Nat × Value)} {v : Value} (hM : Mem s st w) (hl : ps.size = ps'.size)
    (hp : ∀ (j : Nat) (p : Nat × Value), ps[j]? = some p → ∃ v', ps'[j]? = some (p.1, v') ∧ VR s p.2 v') (h : buildSliceA P t len ps st = some (v, st')) : SV P s st w (Instr.buildSlice t len ps') v st' := by
  unfold buildSliceA at h
  split at h
  · rename_i e hu
    split at h
    · rename_i i hi
      split at h
      · rename_i z hz
        cases hb : (plainV FUEL z && Nat.blt 0 i.size && Nat.beq z.cells.size i.size && Nat.ble (len * i.size) 16777216 && Nat.blt len BIG) with
        | false => simp [hb] at h
        | true =>
          simp only [hb, cond_true] at h
          simp only [Bool.and_eq_true, Nat.blt_eq, Nat.beq_eq, Nat.ble_eq] at hb
          obtain ⟨⟨⟨⟨hpl, h0⟩, hzs⟩, hle⟩, hbig⟩ := hb
          split at h
          · rename_i cs hf
            have hzc : VRs s z.cells z.cells := (plainV_self hpl).cells
            obtain ⟨cs', hf', hcs⟩ := fill_arr (zerosL_rel hzc (by omega) _) hl hp hf
            obtain ⟨s', st1, h1, m1, e1, hs⟩ := newCells_ok (vs' := cs') hM (by simpa using hcs) h
            cases h1
            refine ⟨s', _, _, ?_, .slice _ _ _ _ _ hs hbig, m1, e1⟩
            have e3 : (sizeOf e).run P w = .ok i.size w := by simp [sizeOf, typeInfo, hi]
            have e4 : (zeroValue e).run P w = .ok z w := by simp [zeroValue, typeInfo, hi, hz]
            have e5 : ¬ (len * i.size > 2 ^ 24) := by omega
            by_cases hz0 : len * i.size = 0
            · have : (Array.map (fun x => (#[] : Array Value)[x % (#[] : Array Value).size]!) (Array.range (len * i.size))) = zerosL z.cells (len * i.size) := by simp [hz0, zerosL]
              simp only [Instr.buildSlice, Sem.run_bind, run_underlying hu, Result.andThen_ok, e3, if_neg e5, if_pos hz0, Sem.run_pure, this, hf', newRow, run_newObj]
              rfl
            · simp only [Instr.buildSlice, Sem.run_bind, run_underlying hu, Result.andThen_ok, e3, if_neg e5, if_neg hz0, e4, Sem.run_pure]
              rw [show (Array.map (fun x => z.cells[x % z.cells.size]!) (Array.range (len * i.size))) = zerosL z.cells (len * i.size) from rfl, hf']
              simp only [Sem.run_bind, newRow, run_newObj, Result.andThen_ok, Sem.run_pure]
              rfl
          · cases h
      · cases h
    · cases h
  · cases h

noncomputable def fieldAddrA (P : Program) (t : TypeId) (x : Value) (f : Nat) : Option Value :=
  match P.underlying t, x with
  | some (.struct fs), .pointer (some ⟨g, off, none⟩) => match fs[f]? with
    | some fd => match szO P fd.type with
      | some (_ + 1) => some (.pointer (some ⟨g, off + fd.offset, none⟩))
      | _ => none
    | none => none
  | _, _ => none
theorem fieldAddrA_ok {P : Program} {s : Ren} {st : St} {w : World} {t : TypeId} {x x' v : Value} {f : Nat} (hM : Mem s st w) (hx : VR s x x') (h : fieldAddrA P t x f = some v) : SV P s st w (Instr.fieldAt t x' f) v st := by
  unfold fieldAddrA at h
  split at h
  · rename_i fs g off hu
    split at h
    · rename_i fd hf
      split at h
      · rename_i n hn
        cases h
        cases hx with
        | ptr _ _ l hl =>
          refine .same hM (v' := .pointer (some ⟨l.blk, off + fd.offset, none⟩)) ?_ (.ptr _ _ _ hl)
          simp [Instr.fieldAt, run_underlying hu, hf, Instr.sureAddr, fieldPlace, run_szO hn, addr_add]
      · cases h
    · cases h
  · cases h

noncomputable def indexAddrA (P : Program) (t : TypeId) (x i : Value) : Option Value :=
  match P.underlying t, x, natO i with
  | some (.array len e), .pointer (some ⟨g, off, none⟩), some n => bif Nat.blt n len then match szO P e with
    | some k => some (.pointer (some ⟨g, off + n * k, none⟩))
    | none => none
    else none
  | some (.slice e), .slice (some ⟨g, off, none⟩) len _, some n => bif Nat.blt n len then match szO P e with
    | some k => some (.pointer (some ⟨g, off + n * k, none⟩))
    | none => none
    else none
  | _, _, _ => none
theorem indexAddrA_ok {P : Program} {s : Ren} {st : St} {w : World} {t : TypeId} {x x' i i' v : Value} (hM : Mem s st w) (hx : VR s x x') (hi : VR s i i') (h : indexAddrA P t x i = some v) : SV P s st w (Instr.indexAt t x' i') v st := by
  unfold indexAddrA at h
  split at h
  · rename_i len e g off n hu hn
    cases hb : Nat.blt n len with
    | false => simp [hb] at h
    | true =>
      simp only [hb, cond_true] at h
      rw [Nat.blt_eq] at hb
      split at h
      · rename_i k hk
        cases h
        obtain ⟨kk, rfl⟩ := natO_ok hn hi
        cases hx with
        | ptr _ _ l hl =>
          refine .same hM (v' := .pointer (some ⟨l.blk, off + n * k, none⟩)) ?_ (.ptr _ _ _ hl)
          simp [Instr.indexAt, asIntOf, run_underlying hu, Instr.sureAddr, hb, run_szO hk, addr_add]
      · cases h
  · rename_i e g off len c n hu hn
    cases hb : Nat.blt n len with
    | false => simp [hb] at h
    | true =>
      simp only [hb, cond_true] at h
      rw [Nat.blt_eq] at hb
      split at h
      · rename_i k hk
        cases h
        obtain ⟨kk, rfl⟩ := natO_ok hn hi
        have key : ∀ (l : Loc) (c' : Nat), s g = some l → SV P s st w (Instr.indexAt t (.slice (some ⟨l.blk, off, none⟩) len c') (.int kk (n : Int))) (.pointer (some ⟨g, off + n * k, none⟩)) st := by
          intro l c' hl
          refine .same hM (v' := .pointer (some ⟨l.blk, off + n * k, none⟩)) ?_ (.ptr _ _ _ hl)
          simp [Instr.indexAt, asIntOf, run_underlying hu, hb, run_szO hk, addr_add]
        cases hx with
        | slice _ _ _ _ l hl hc => exact key l _ hl
        | sliceEnd _ _ _ c _ _ l hl _ _ => exact key l _ hl
        | sliceEmpty _ _ _ _ _ h0 _ => omega
      · cases h
  · cases h

noncomputable def ifaceA (P : Program) (t : TypeId) (x : Value) : Option Value :=
  match P.underlying t with
  | some (.interface _) => none
  | some _ => some (.iface t x)
  | none => none
theorem ifaceA_ok {P : Program} {s : Ren} {st : St} {w : World} {t : TypeId} {x x' v : Value} (hM : Mem s st w) (hx : VR s x x') (h : ifaceA P t x = some v) : SV P s st w (Instr.makeInterface t x') v st := by
  unfold ifaceA at h
  split at h
  · cases h
  · rename_i d hn hu
    cases h
    refine .same hM (v' := .iface t x') ?_ (.iface _ _ _ hx)
    simp only [Instr.makeInterface, Sem.run_bind, run_underlying hu, Result.andThen_ok]
    all_goals first
      | (split <;> first | rfl | (rename_i ms; exact absurd hu (hn ms)))
      | rfl
  · cases h

noncomputable def failA (P : Program) (t : TypeId) (ok : Bool) : Option Value :=
  bif ok then match P.info? t with
    | some i => match i.zero with
      | some z => bif plainV FUEL z then some (.tuple #[z, .bool false]) else none
      | none => none
    | none => none
  else none
noncomputable def holdA (ok : Bool) (v : Value) : Value := bif ok then .tuple #[v, .bool true] else v
noncomputable def assertA (P : Program) (x : Value) (asserted : TypeId) (ok : Bool) : Option Value :=
  match P.underlying asserted, x with
  | some (.interface want), .iface t _ => match P.info? t with
    | some i => match Instr.missingMethod want i.methods with
      | none => some (holdA ok x)
      | some _ => failA P asserted ok
    | none => none
  | some _, .nilIface => failA P asserted ok
  | some _, .iface t v => bif Nat.beq t asserted then some (holdA ok v) else failA P asserted ok
  | _, _ => none
theorem failA_ok {P : Program} {s : Ren} {st : St} {w : World} {t : TypeId} {ok : Bool} {v : Value} (hM : Mem s st w) (h : failA P t ok = some v) (e : Sem Value) :
    SV P s st w (if ok = true then do pure (.tuple #[← zeroValue t, .bool false]) else e) v st := by
  unfold failA at h
  cases ok with
  | false => simp at h
  | true =>
    simp only [cond_true] at h
    split at h
    · rename_i i hi
      split at h
      · rename_i z hz
        cases hpl : plainV FUEL z with
        | false => simp [hpl] at h
        | true =>
          simp only [hpl, cond_true] at h
          cases h
          refine .same hM (v' := .tuple #[z, .bool false]) ?_ (.tuple _ _ rfl fun i h1 h2 => ?_)
          · simp [zeroValue, typeInfo, hi, hz]
          · match i, h1 with
            | 0, _ => exact plainV_self hpl
            | 1, _ => exact .bool _
      · cases h
    · cases h
theorem holdA_ok {P : Program} {s : Ren} {st : St} {w : World} {ok : Bool} {v v' : Value} (hM : Mem s st w) (h : VR s v v') : SV P s st w (pure (if ok = true then .tuple #[v', .bool true] else v')) (holdA ok v) st := by
  cases ok with
  | false => exact .same hM rfl h
  | true =>
    refine .same hM rfl (.tuple _ _ rfl fun i h1 h2 => ?_)
    match i, h1 with
    | 0, _ => exact h
    | 1, _ => exact .bool _
theorem SV.of_eq {P : Program} {s : Ren} {st st' : St} {w : World} {e e' : Sem Value} {v : Value} (h : e'.run P w = e.run P w) (hv : SV P s st w e v st') : SV P s st w e' v st' := by
  obtain ⟨s', w', v', h1, r⟩ := hv
  exact ⟨s', w', v', h.trans h1, r⟩
theorem assertA_ok {P : Program} {s : Ren} {st : St} {w : World} {x x' v : Value} {xt asserted : TypeId} {ok : Bool} (hM : Mem s st w) (hx : VR s x x') (h : assertA P x asserted ok = some v) : SV P s st w (Instr.typeAssert x' xt asserted ok) v st := by
  unfold assertA at h
  split at h
  · rename_i want t u hu
    split at h
    · rename_i i hi
      cases hx with
      | iface _ _ u' hv =>
        split at h
        · rename_i hm
          cases h
          refine .of_eq ?_ (holdA_ok (ok := ok) hM (.iface t _ _ hv))
          simp [Instr.typeAssert, run_underlying hu, typeInfo, hi, hm]
        · rename_i m hm
          refine .of_eq ?_ (failA_ok hM h (runtimePanic (.typeAssertion none (some t) asserted m)))
          simp [Instr.typeAssert, run_underlying hu, typeInfo, hi, hm]
    · cases h
  · rename_i d hu
    cases hx
    have : ∃ a b c, (Instr.typeAssert .nilIface xt asserted ok).run P w = (if ok = true then do pure (.tuple #[← zeroValue asserted, .bool false]) else runtimePanic (.typeAssertion a b asserted c) : Sem Value).run P w := by
      cases d with
      | interface ms => exact ⟨none, none, "", by simp [Instr.typeAssert, run_underlying hu]⟩
      | _ => exact ⟨some xt, none, "", by simp [Instr.typeAssert, run_underlying hu]⟩
    obtain ⟨a, b, c, e⟩ := this
    exact .of_eq e (failA_ok hM h _)
  · rename_i d t u hn hu
    cases hx with
    | iface _ _ u' hv =>
      cases hb : Nat.beq t asserted with
      | true =>
        simp only [hb, cond_true] at h
        cases h
        have ht : t = asserted := by simpa using hb
        refine .of_eq ?_ (holdA_ok (ok := ok) hM hv)
        cases d with
        | interface ms => exact (hn ms rfl).elim
        | _ => simp [Instr.typeAssert, run_underlying hu, ht]
      | false =>
        simp only [hb, cond_false] at h
        have ht : ¬ t = asserted := by rw [beq_nat] at hb; simpa using hb
        refine .of_eq ?_ (failA_ok hM h (runtimePanic (.typeAssertion (some xt) (some t) asserted "")))
        cases d with
        | interface ms => exact (hn ms rfl).elim
        | _ => simp [Instr.typeAssert, run_underlying hu, ht]
  · cases h

end Go.Proofs.Ytfilbknnpjbmcaa.Cx
