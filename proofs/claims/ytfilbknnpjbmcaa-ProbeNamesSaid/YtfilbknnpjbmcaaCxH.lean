/- A closed call, run: append, dispatched; copy, make, len, cap; bytes that become strings; what is the same. No program of its own. -/
import Derived.Test.YtfilbknnpjbmcaaCxG
namespace Go.Proofs.Ytfilbknnpjbmcaa.Cx
open Go Go.RowKit

noncomputable def inPlaceA (size : Nat) (base : Option Addr) (len need cap : Nat) (news : List Value) (st : St) : Option (Value × St) :=
  match base with
  | some ⟨g, off, none⟩ => storesO g (off + len * size) news st fun st' => some (.slice base need cap, st')
  | none => some (.slice none need cap, st)
  | _ => none
noncomputable def growFrom (P : Program) (e : TypeId) (i : TypeInfo) (base : Option Addr) (len need : Nat) (news : List Value) (st : St) : Option (Value × St) :=
  match base with
  | some ⟨g, off, none⟩ => match loadsO st g off (len * i.size) with
    | some olds => growA P e i need (olds ++ news) st
    | none => none
  | none => growA P e i need ([] ++ news) st
  | _ => none
/-- append(s, x...). -/
noncomputable def appendA (P : Program) (t t1 : TypeId) (sv x : Value) (st : St) : Option (Value × St) :=
  match P.underlying t, sv with
  | some (.slice e), .slice base len cap => match P.info? e with
    | some i => match lenOfA x with
      | some n => match firstA st i.size n x with
        | some news => bif notInt P t1 then
            bif Nat.blt cap BIG then
              bif Nat.ble (len + n) cap then inPlaceA i.size base len (len + n) cap news st
              else growFrom P e i base len (len + n) news st
            else match base with
              | some ⟨g, off, none⟩ => match kn st g i.size with
                | some k => bif Nat.ble (Nat.sub cap BIG + (len + n)) k && Nat.blt (Nat.sub cap BIG) BIG then inPlaceA i.size base len (len + n) cap news st
                  else bif Nat.beq off 0 && Nat.beq cap BIG then openA P e i g len (len + n) news st else none
                | none => none
              | _ => none
          else none
        | none => none
      | none => none
    | none => none
  | _, _ => none
theorem inPlaceA_ok {P : Program} {s : Ren} {st st' : St} {w : World} {e : TypeId} {i : TypeInfo} {t t1 ty : TypeId} {base base' : Option Addr} {len cap cap' n : Nat} {x x' v : Value} {news : List Value} (hM : Mem s st w)
    (hu : P.underlying t = some (.slice e)) (hi : P.info? e = some i) (hz : (∃ e', P.underlying t1 = some (.slice e')) ∨ P.underlying t1 = some .string) (hx : VR s x x') (hlen : lenOfA x = some n) (hfirst : firstA st i.size n x = some news)
    (hb : VR s (.slice base len cap) (.slice base' len cap')) (hv : VR s (.slice base (len + n) cap) (.slice base' (len + n) cap')) (hcap : len + n ≤ cap') (hne : cap ≠ BIG + BIG) (h : inPlaceA i.size base len (len + n) cap news st = some (v, st')) :
    SV P s st w (Builtin.append_ #[t, t1] ty #[.slice base' len cap', x']) v st' := by
  obtain ⟨news', r1, r2⟩ := firstA_ok (P := P) hM hx (fun m e => by rw [hlen] at e; cases e; exact Nat.le_refl _) hfirst
  have hn := lenOfA_ok (P := P) hlen hx w
  unfold inPlaceA at h
  split at h
  · rename_i g off
    have hl : ∃ l : Loc, s g = some l ∧ base' = some ⟨l.blk, off, none⟩ := by
      cases hb with
      | slice _ _ _ _ l hl _ => exact ⟨l, hl, rfl⟩
      | sliceEnd _ _ _ _ _ _ l hl _ _ => exact ⟨l, hl, rfl⟩
      | sliceEmpty _ _ _ _ _ _ h2 => exact absurd h2 hne
    obtain ⟨l, hl, rfl⟩ := hl
    obtain ⟨st1, w1, h1, h2, h3, h4, _⟩ := storesO_ok (P := P) hl (vs' := news'.toList) (off + len * i.size) 0 hM (by simpa using r2.1) (fun j u hu => by
      obtain ⟨u', e1, e2⟩ := r2.get (i := j) (v := u) (by simpa using hu)
      exact ⟨u', by simpa using e1, e2⟩) h
    cases h1
    refine ⟨s, w1, _, append_room hu hi hz hn r1 hcap ?_, hv, h3, h4⟩
    simp only [addr_add]
    exact h2
  · cases h
    cases hb
    exact ⟨s, w, _, append_room hu hi hz hn r1 hcap rfl, hv, hM, .refl _ _ _⟩
  · cases h
theorem appendA_ok {P : Program} {s : Ren} {st st' : St} {w : World} {t t1 ty : TypeId} {sv sv' x x' v : Value} (hM : Mem s st w) (hs : VR s sv sv') (hx : VR s x x') (h : appendA P t t1 sv x st = some (v, st')) :
    SV P s st w (Builtin.append_ #[t, t1] ty #[sv', x']) v st' := by
  unfold appendA at h
  split at h
  · rename_i e base len cap hu
    split at h
    · rename_i i hi
      split at h
      · rename_i n hn
        split at h
        · rename_i news hnews
          cases hni : notInt P t1 with
          | false => simp only [hni, cond_false] at h; cases h
          | true =>
            simp only [hni, cond_true] at h
            have hz := notInt_ok hni
            cases hcap : Nat.blt cap BIG with
            | true =>
              simp only [hcap, cond_true] at h
              rw [Nat.blt_eq] at hcap
              have key : ∀ base', VR s (.slice base len cap) (.slice base' len cap) → (∀ m, VR s (.slice base m cap) (.slice base' m cap)) → SV P s st w (Builtin.append_ #[t, t1] ty #[.slice base' len cap, x']) v st' := by
                intro base' hb hb2
                cases hroom : Nat.ble (len + n) cap with
                | true =>
                  simp only [hroom, cond_true] at h
                  exact inPlaceA_ok hM hu hi hz hx hn hnews hb (hb2 _) (by rwa [Nat.ble_eq] at hroom) (by omega) h
                | false =>
                  simp only [hroom, cond_false] at h
                  have hlt : cap < len + n := by
                    rcases Nat.lt_or_ge cap (len + n) with q | q
                    · exact q
                    · rw [show Nat.ble (len + n) cap = true by rw [Nat.ble_eq]; exact q] at hroom; cases hroom
                  obtain ⟨news', r1, r2⟩ := firstA_ok (P := P) hM hx (fun m e => by rw [hn] at e; cases e; exact Nat.le_refl _) hnews
                  have r1d := firstCells_drew hM hx (fun m e => by rw [hn] at e; cases e; exact Nat.le_refl _) hnews r1
                  unfold growFrom at h
                  split at h
                  · rename_i g off
                    split at h
                    · rename_i olds hol
                      have hf : firstA st i.size len (.slice (some ⟨g, off, none⟩) len cap) = some olds := hol
                      obtain ⟨olds', q1, q2⟩ := firstA_ok (P := P) hM hb (fun m e => by cases e; exact Nat.le_refl _) hf
                      exact growA_ok hM hu hi hz rfl (fun w => lenOfA_ok hn hx w) (firstCells_drew hM hb (fun m e => by cases e; exact Nat.le_refl _) hf q1) r1d q2 r2 rfl hlt h
                    · cases h
                  · have hf : firstA st i.size len (.slice none len cap) = some [] := rfl
                    obtain ⟨olds', q1, q2⟩ := firstA_ok (P := P) hM hb (fun m e => by cases e; exact Nat.le_refl _) hf
                    exact growA_ok hM hu hi hz rfl (fun w => lenOfA_ok hn hx w) (firstCells_drew hM hb (fun m e => by cases e; exact Nat.le_refl _) hf q1) r1d q2 r2 rfl hlt h
                  · cases h
              cases hs with
              | sliceNil _ _ hc => exact key _ (.sliceNil _ _ hc) fun m => .sliceNil _ _ hc
              | slice g o _ _ l hl hc => exact key _ (.slice g o _ _ l hl hc) fun m => .slice g o _ _ l hl hc
              | sliceEnd => omega
              | sliceEmpty _ _ _ _ _ _ h2 => omega
            | false =>
              simp only [hcap, cond_false] at h
              split at h
              · rename_i g off
                split at h
                · rename_i k hk
                  have hge : BIG ≤ cap := by
                    rcases Nat.lt_or_ge cap BIG with q | q
                    · rw [show Nat.blt cap BIG = true by rw [Nat.blt_eq]; exact q] at hcap; cases hcap
                    · exact q
                  obtain ⟨c0, rfl⟩ : ∃ c0, cap = BIG + c0 := ⟨cap - BIG, by omega⟩
                  have hc0 : Nat.sub (BIG + c0) BIG = c0 := by show BIG + c0 - BIG = c0; omega
                  rw [hc0] at h
                  have hlx : c0 ≠ BIG → ∃ l : Loc, s g = some l ∧ sv' = .slice (some ⟨l.blk, off, none⟩) len (l.cap - c0) := by
                    intro hcb
                    cases hs with
                    | slice _ _ _ _ l hl hc => omega
                    | sliceEmpty _ _ _ _ _ _ h2 => omega
                    | sliceEnd _ _ _ c _ _ l hl hk1 hk2 =>
                      have : c = c0 := by omega
                      subst this
                      subst hk2
                      exact ⟨l, hl, rfl⟩
                  cases hroom : (Nat.ble (c0 + (len + n)) k && Nat.blt c0 BIG) with
                  | true =>
                    simp only [hroom, cond_true] at h
                    simp only [Bool.and_eq_true, Nat.ble_eq, Nat.blt_eq] at hroom
                    obtain ⟨hroom, hcb⟩ := hroom
                    obtain ⟨l, hl, rfl⟩ := hlx (by omega)
                    have hkn := kn_ok hM hl hk
                    exact inPlaceA_ok hM hu hi hz hx hn hnews hs (.sliceEnd _ _ _ c0 _ _ l hl rfl rfl) (by omega) (by omega) h
                  | false =>
                    simp only [hroom, cond_false] at h
                    cases hz2 : (Nat.beq off 0 && Nat.beq (BIG + c0) BIG) with
                    | false => simp only [hz2, cond_false] at h; cases h
                    | true =>
                      simp only [hz2, cond_true] at h
                      simp only [Bool.and_eq_true, Nat.beq_eq] at hz2
                      obtain ⟨rfl, hcc⟩ := hz2
                      have : c0 = 0 := by omega
                      subst this
                      obtain ⟨l, hl, rfl⟩ := hlx (by unfold BIG; omega)
                      exact openA_ok hM hl hu hi hz hx hn hnews rfl h
                · cases h
              · cases h
        · cases h
      · cases h
    · cases h
  · cases h

/-- append(s, make([]T, n)...). -/
noncomputable def isIntT (P : Program) (t : TypeId) : Bool :=
  match P.underlying t with
  | some (.int _) => true
  | _ => false
noncomputable def appendZ (P : Program) (t t1 : TypeId) (sv : Value) (n : Nat) (st : St) : Option (Value × St) :=
  match P.underlying t, sv with
  | some (.slice e), .slice base len cap => match P.info? e with
    | some i => match i.zero with
      | some z => bif isIntT P t1 && plainV FUEL z && Nat.blt 0 i.size && Nat.beq z.cells.size i.size && Nat.blt n 4611686018427387904 && Nat.ble (n * i.bytes) 281474976710656 && Nat.blt cap BIG then
          bif Nat.ble (len + n) cap then inPlaceA i.size base len (len + n) cap (zerosC z.cells.toList z.cells.toList (n * i.size)) st
          else growFrom P e i base len (len + n) (zerosC z.cells.toList z.cells.toList (n * i.size)) st
        else none
      | none => none
    | none => none
  | _, _ => none

theorem isIntT_ok {P : Program} {t : TypeId} (h : isIntT P t = true) : ∃ k, P.underlying t = some (.int k) := by
  unfold isIntT at h
  split at h
  · rename_i k hk; exact ⟨k, hk⟩
  · cases h
/-- What append of zeros comes to where the room suffices. -/
theorem append_roomZ {P : Program} {e : TypeId} {i : TypeInfo} {k : IntKind} {t t1 ty : TypeId} {base : Option Addr} {len cap n : Nat} {z : Value} {w w' : World}
    (hu : P.underlying t = some (.slice e)) (hi : P.info? e = some i) (hz : P.underlying t1 = some (.int k)) (hzero : i.zero = some z) (_h0 : 0 < i.size) (hzs : z.cells.size = i.size) (hn : n < 4611686018427387904) (hby : n * i.bytes ≤ 281474976710656) (hcap : len + n ≤ cap)
    (hs : (match base with
      | some a => storeCells (a.add (len * i.size)) (zerosL z.cells (n * i.size)).toList
      | none => pure () : Sem Unit).run P w = .ok () w') :
    (Builtin.append_ #[t, t1] ty #[.slice base len cap, .int .i64 (.ofNat n)]).run P w = .ok (.slice base (len + n) cap) w' := by
  have wn : IntKind.i64.wrap (n : Int) = n := IntWalk.i64_in _ (by omega)
  have hnn : ¬ ((n : Int) < 0) := by omega
  have hb1 : ¬ ((281474976710656 : Int) < (n : Int) * (i.bytes : Int)) := by rw [← Int.natCast_mul]; omega
  have hzz : Builtin.zeroCells z.cells n = zerosL z.cells (n * i.size) := by unfold Builtin.zeroCells zerosL; rw [hzs]
  by_cases hn0 : n * i.size = 0
  · have hnil : zerosL z.cells (n * i.size) = #[] := by rw [hn0]; simp [zerosL]
    rw [hnil] at hs
    cases base with
    | none =>
      simp only [Sem.run_pure, Result.ok.injEq, true_and] at hs
      subst hs
      simp [Builtin.append_, run_underlying hu, run_underlying hz, sizeOf, typeInfo, hi, asInt, asIntOf, wn, hnn, hb1, hcap, hn0]
    | some a =>
      simp only [] at hs
      simp [Builtin.append_, run_underlying hu, run_underlying hz, sizeOf, typeInfo, hi, asInt, asIntOf, wn, hnn, hb1, hcap, hn0, hs]
  · cases base with
    | none =>
      simp only [Sem.run_pure, Result.ok.injEq, true_and] at hs
      subst hs
      simp [Builtin.append_, run_underlying hu, run_underlying hz, sizeOf, typeInfo, zeroValue, hi, hzero, asInt, asIntOf, wn, hnn, hb1, hcap, hzz]
    | some a =>
      simp only [] at hs
      simp [Builtin.append_, run_underlying hu, run_underlying hz, sizeOf, typeInfo, zeroValue, hi, hzero, asInt, asIntOf, wn, hnn, hb1, hcap, hn0, hzz, hs]
theorem growZ_ok {P : Program} {s : Ren} {st st' : St} {w : World} {e : TypeId} {i : TypeInfo} {k : IntKind} {need n len cap : Nat} {olds : List Value} {olds' : Array Value} {t t1 ty : TypeId} {v z : Value} {base : Option Addr}
    (hM : Mem s st w) (hu : P.underlying t = some (.slice e)) (hi : P.info? e = some i) (hz : P.underlying t1 = some (.int k)) (hzero : i.zero = some z) (_hpl0 : plainV FUEL z = true) (hn : n < 4611686018427387904) (hbn : n * i.bytes ≤ 281474976710656)
    (ho : (Builtin.firstCells i.size len (.slice base len cap)).run P w.drew = .ok olds' w.drew) (ro : VRs s olds.toArray olds')
    (hneed : need = len + n) (hcap : cap < need) (h : growA P e i need (olds ++ (zerosL z.cells (n * i.size)).toList) st = some (v, st')) : SV P s st w (Builtin.append_ #[t, t1] ty #[.slice base len cap, .int .i64 (.ofNat n)]) v st' := by
  unfold growA at h
  rw [hzero] at h
  simp only at h
  cases hb : (plainV FUEL z && Nat.blt 0 i.size && Nat.beq z.cells.size i.size && Nat.ble (need * i.bytes) 140737488355328 && Nat.ble need 4611686018427387904 && Nat.beq (olds ++ (zerosL z.cells (n * i.size)).toList).length (need * i.size)) with
  | false => simp only [hb, cond_false] at h; cases h
  | true =>
    simp only [hb, cond_true] at h
    simp only [Bool.and_eq_true, Nat.blt_eq, Nat.beq_eq, Nat.ble_eq] at hb
    obtain ⟨⟨⟨⟨⟨hpl, h0⟩, hzs⟩, hby⟩, hmax⟩, hlen⟩ := hb
    obtain ⟨tt, h1, ht⟩ := ofList_ok h
    have hge := grownCap_ge w need cap e
    have hzc : VRs s z.cells z.cells := (plainV_self hpl).cells
    have hzr := zerosL_rel hzc (by omega) (n * i.size)
    have hcells : VRs s (olds ++ (zerosL z.cells (n * i.size)).toList).toArray (olds' ++ zerosL z.cells (n * i.size)) := by
      have he : (olds ++ (zerosL z.cells (n * i.size)).toList).toArray = olds.toArray ++ zerosL z.cells (n * i.size) := by rw [← List.append_toArray, Array.toArray_toList]
      rw [he]
      exact ro.append hzr
    have hcsz : (olds' ++ zerosL z.cells (n * i.size)).size = need * i.size := by rw [← hcells.1]; simpa using hlen
    obtain ⟨s', st1, h2, m1, e1, hs⟩ := newO_ok (w := w.drew) (hM.draws rfl) h1 (.cells (olds' ++ zerosL z.cells (n * i.size) ++ Builtin.zeroCells z.cells (grownCap w need cap e - need)) e) (grownCap w need cap e) (fun s' hle hc => by
      refine ⟨.inr rfl, ?_, ?_, .inl rfl⟩
      · have hca := cellsAt_list (hcells.mono hle) ht
        intro k u hk hu
        obtain ⟨u', q1, q2⟩ := hca k u (by omega) hu
        refine ⟨u', ?_, q2⟩
        rw [Array.getElem?_append_left (by omega)]
        exact q1
      · have hsz : (olds' ++ zerosL z.cells (n * i.size) ++ Builtin.zeroCells z.cells (grownCap w need cap e - need)).size = grownCap w need cap e * i.size := by
          rw [Array.size_append, hcsz, show (Builtin.zeroCells z.cells (grownCap w need cap e - need)).size = (grownCap w need cap e - need) * z.cells.size by simp [Builtin.zeroCells], hzs, ← Nat.add_mul]
          congr 1
          omega
        simp only [if_true]
        refine ⟨?_, h0, hsz⟩
        rw [hsz]
        exact Nat.mul_le_mul_right _ hge)
    cases h2
    have e0 : Ev s st w s st w.drew := Ev.draws rfl rfl rfl rfl
    refine ⟨s', _, .slice (some ⟨w.heap.size, 0, none⟩) need (grownCap w need cap e), ?_, .sliceEnd _ _ _ 0 _ _ _ hs rfl rfl, m1, e0.trans e1⟩
    have hfit := growslice_fits (need := need) (old := cap) (bytes := i.bytes) hcap hby
    have hni : ¬ (len + n ≤ cap) := by omega
    have e2 : ¬ ((281474976710656 : Nat) < Builtin.nextslicecap (len + n) cap * i.bytes) := by rw [← hneed]; omega
    have e3 : ¬ ((9223372036854775807 : Int) < ((len + n : Nat) : Int)) := by omega
    have e3' : ¬ ((9223372036854775807 : Int) < (len : Int) + (n : Int)) := by omega
    have wn : IntKind.i64.wrap (n : Int) = n := IntWalk.i64_in _ (by omega)
    have hnn : ¬ ((n : Int) < 0) := by omega
    have hb1 : ¬ ((281474976710656 : Int) < (n : Int) * (i.bytes : Int)) := by rw [← Int.natCast_mul]; omega
    have hzz : Builtin.zeroCells z.cells n = zerosL z.cells (n * i.size) := by unfold Builtin.zeroCells zerosL; rw [hzs]
    subst hneed
    by_cases hn0 : n * i.size = 0
    · have hnil : zerosL z.cells (n * i.size) = #[] := by rw [hn0]; simp [zerosL]
      simp [Builtin.append_, run_underlying hu, run_underlying hz, sizeOf, typeInfo, zeroValue, hi, hzero, asInt, asIntOf, wn, hnn, hb1, hni, e2, e3', Question.forced, ho, newRow, grownCap, IntKind.max, IntKind.signed, IntKind.bits, hn0, show zerosL z.cells 0 = #[] by simp [zerosL]]
    · simp [Builtin.append_, run_underlying hu, run_underlying hz, sizeOf, typeInfo, zeroValue, hi, hzero, asInt, asIntOf, wn, hnn, hb1, hni, e2, e3', Question.forced, ho, newRow, grownCap, IntKind.max, IntKind.signed, IntKind.bits, hn0, hzz]
theorem appendZ_ok {P : Program} {s : Ren} {st st' : St} {w : World} {t t1 ty : TypeId} {sv sv' v : Value} {n : Nat} (hM : Mem s st w) (hs : VR s sv sv') (h : appendZ P t t1 sv n st = some (v, st')) :
    SV P s st w (Builtin.append_ #[t, t1] ty #[sv', .int .i64 (.ofNat n)]) v st' := by
  unfold appendZ at h
  split at h
  · rename_i e base len cap hu
    split at h
    · rename_i i hi
      split at h
      · rename_i z hzero
        cases hb : (isIntT P t1 && plainV FUEL z && Nat.blt 0 i.size && Nat.beq z.cells.size i.size && Nat.blt n 4611686018427387904 && Nat.ble (n * i.bytes) 281474976710656 && Nat.blt cap BIG) with
        | false => simp only [hb, cond_false] at h; cases h
        | true =>
          simp only [hb, cond_true] at h
          simp only [Bool.and_eq_true, Nat.blt_eq, Nat.beq_eq, Nat.ble_eq] at hb
          obtain ⟨⟨⟨⟨⟨⟨hint, hpl⟩, h0⟩, hzs⟩, hn⟩, hby⟩, hcap⟩ := hb
          rw [zerosC_eq (by omega)] at h
          obtain ⟨k, hz⟩ := isIntT_ok hint
          have hzc : VRs s z.cells z.cells := (plainV_self hpl).cells
          have hzr := zerosL_rel hzc (by omega) (n * i.size)
          have key : ∀ base', VR s (.slice base len cap) (.slice base' len cap) → (∀ m, VR s (.slice base m cap) (.slice base' m cap)) → SV P s st w (Builtin.append_ #[t, t1] ty #[.slice base' len cap, .int .i64 (.ofNat n)]) v st' := by
            intro base' hb hb2
            cases hroom : Nat.ble (len + n) cap with
            | true =>
              simp only [hroom, cond_true] at h
              rw [Nat.ble_eq] at hroom
              unfold inPlaceA at h
              split at h
              · rename_i g off
                have hl : ∃ l : Loc, s g = some l ∧ base' = some ⟨l.blk, off, none⟩ := by
                  cases hb with
                  | slice _ _ _ _ l hl _ => exact ⟨l, hl, rfl⟩
                  | sliceEnd _ _ _ _ _ _ l hl _ _ => exact ⟨l, hl, rfl⟩
                  | sliceEmpty _ _ _ _ _ _ h2 => omega
                obtain ⟨l, hl, rfl⟩ := hl
                obtain ⟨st1, w1, h1, h2, h3, h4, _⟩ := storesO_ok (P := P) hl (vs' := (zerosL z.cells (n * i.size)).toList) (off + len * i.size) 0 hM rfl (fun j u hu => by
                  obtain ⟨u', e1, e2⟩ := hzr.get (i := j) (v := u) (by simpa using hu)
                  exact ⟨u', by simpa using e1, e2⟩) h
                cases h1
                refine ⟨s, w1, _, append_roomZ hu hi hz hzero h0 hzs hn hby hroom ?_, hb2 _, h3, h4⟩
                simp only [addr_add]
                exact h2
              · cases h
                cases hb
                exact ⟨s, w, _, append_roomZ hu hi hz hzero h0 hzs hn hby hroom rfl, hb2 _, hM, .refl _ _ _⟩
              · cases h
            | false =>
              simp only [hroom, cond_false] at h
              have hlt : cap < len + n := by
                rcases Nat.lt_or_ge cap (len + n) with q | q
                · exact q
                · rw [show Nat.ble (len + n) cap = true by rw [Nat.ble_eq]; exact q] at hroom; cases hroom
              unfold growFrom at h
              split at h
              · rename_i g off
                split at h
                · rename_i olds hol
                  have hf : firstA st i.size len (.slice (some ⟨g, off, none⟩) len cap) = some olds := hol
                  obtain ⟨olds', q1, q2⟩ := firstA_ok (P := P) hM hb (fun m e => by cases e; exact Nat.le_refl _) hf
                  exact growZ_ok hM hu hi hz hzero hpl hn hby (firstCells_drew hM hb (fun m e => by cases e; exact Nat.le_refl _) hf q1) q2 rfl hlt h
                · cases h
              · have hf : firstA st i.size len (.slice none len cap) = some [] := rfl
                obtain ⟨olds', q1, q2⟩ := firstA_ok (P := P) hM hb (fun m e => by cases e; exact Nat.le_refl _) hf
                exact growZ_ok hM hu hi hz hzero hpl hn hby (firstCells_drew hM hb (fun m e => by cases e; exact Nat.le_refl _) hf q1) q2 rfl hlt h
              · cases h
          cases hs with
          | sliceNil _ _ hc => exact key _ (.sliceNil _ _ hc) fun m => .sliceNil _ _ hc
          | slice g o _ _ l hl hc => exact key _ (.slice g o _ _ l hl hc) fun m => .slice g o _ _ l hl hc
          | sliceEnd => omega
          | sliceEmpty _ _ _ _ _ _ h2 => omega
      · cases h
    · cases h
  · cases h

/-- copy(d, x). -/
noncomputable def copyA (P : Program) (t : TypeId) (dv x : Value) (st : St) : Option (Value × St) :=
  match P.underlying t, dv with
  | some (.slice e), .slice base dl _ => match szO P e, lenOfA x with
    | some size, some m => match firstA st size (Nat.min m dl) x with
      | some news => match base with
        | some ⟨g, off, none⟩ => storesO g off news st fun st' => some (.int .i64 (Nat.min m dl : Nat), st')
        | none => some (.int .i64 (Nat.min m dl : Nat), st)
        | _ => none
      | none => none
    | _, _ => none
  | _, _ => none
theorem copyA_ok {P : Program} {s : Ren} {st st' : St} {w : World} {t t1 ty : TypeId} {dv dv' x x' v : Value} (hM : Mem s st w) (hs : VR s dv dv') (hx : VR s x x') (h : copyA P t dv x st = some (v, st')) :
    SV P s st w (Builtin.copy_ #[t, t1] ty #[dv', x']) v st' := by
  unfold copyA at h
  split at h
  · rename_i e base dl c hu
    split at h
    · rename_i size m hsz hm
      split at h
      · rename_i news hnews
        obtain ⟨news', r1, r2⟩ := firstA_ok (P := P) hM hx (fun q e => by rw [hm] at e; cases e; exact Nat.min_le_left _ _) hnews
        have hn := lenOfA_ok (P := P) hm hx w
        split at h
        · rename_i g off
          have hl : (dl = 0 ∧ ∃ b c', dv' = .slice (some b) dl c') ∨ ∃ l : Loc, ∃ c', s g = some l ∧ dv' = .slice (some ⟨l.blk, off, none⟩) dl c' := by
            cases hs with
            | slice _ _ _ _ l hl _ => exact .inr ⟨l, _, hl, rfl⟩
            | sliceEnd _ _ _ _ _ _ l hl _ _ => exact .inr ⟨l, _, hl, rfl⟩
            | sliceEmpty _ b _ _ c h0 _ => exact .inl ⟨h0, b, c, rfl⟩
          rcases hl with ⟨rfl, b, c', rfl⟩ | ⟨l, c', hl, rfl⟩
          · have hz0 : Nat.min m 0 = 0 := Nat.min_zero m
            rw [hz0] at hnews r1 h
            have hv0 : news = [] := by
              cases x with
              | string b => simp [firstA, byteVals] at hnews; exact hnews
              | slice b2 n2 c2 => 
                match b2 with
                | none => simp [firstA] at hnews; exact hnews
                | some ⟨g2, o2, none⟩ => simp [firstA, loadsO] at hnews; exact hnews
                | some ⟨g2, o2, some _⟩ => simp [firstA] at hnews
              | _ => simp [firstA] at hnews
            subst hv0
            have hn0 : news' = #[] := by
              have := r2.1
              simp at this
              exact Array.eq_empty_of_size_eq_zero this.symm
            subst hn0
            cases h
            refine ⟨s, w, .int .i64 (0 : Nat), ?_, .int _ _, hM, .refl _ _ _⟩
            simp [Builtin.copy_, run_underlying hu, hn, run_szO hsz, r1, goInt, storeCells]
          obtain ⟨st1, w1, h1, h2, h3, h4, _⟩ := storesO_ok (P := P) hl (vs' := news'.toList) off 0 hM (by simpa using r2.1) (fun j u hu => by
            obtain ⟨u', e1, e2⟩ := r2.get (i := j) (v := u) (by simpa using hu)
            exact ⟨u', by simpa using e1, e2⟩) h
          cases h1
          refine ⟨s, w1, .int .i64 (Nat.min m dl : Nat), ?_, .int _ _, h3, h4⟩
          simp [Builtin.copy_, run_underlying hu, hn, run_szO hsz, r1, h2, goInt]
        · cases h
          cases hs
          refine ⟨s, w, .int .i64 (Nat.min m dl : Nat), ?_, .int _ _, hM, .refl _ _ _⟩
          simp [Builtin.copy_, run_underlying hu, hn, run_szO hsz, r1, goInt]
        · cases h
      · cases h
    · cases h
  · cases h

/-- make([]T, n, c). -/
noncomputable def makeSliceA (P : Program) (t : TypeId) (lv cv : Value) (st : St) : Option (Value × St) :=
  match P.underlying t, natO lv, natO cv with
  | some (.slice e), some l, some c => match P.info? e with
    | some i => match i.zero with
      | some z => bif plainV FUEL z && Nat.blt 0 i.size && Nat.beq z.cells.size i.size && Nat.ble l c && Nat.blt c BIG && Nat.ble (i.bytes * c) 281474976710656 then
          newCells e i.size (zerosC z.cells.toList z.cells.toList (c * i.size)) st fun g st' => some (.slice (some ⟨g, 0, none⟩) l c, st')
        else none
      | none => none
    | none => none
  | _, _, _ => none
theorem makeSliceA_ok {P : Program} {s : Ren} {st st' : St} {w : World} {t : TypeId} {lv lv' cv cv' v : Value} (hM : Mem s st w) (h1 : VR s lv lv') (h2 : VR s cv cv') (h : makeSliceA P t lv cv st = some (v, st')) :
    SV P s st w (Instr.makeSlice t lv' cv') v st' := by
  unfold makeSliceA at h
  split at h
  · rename_i e l c hu hl hc
    split at h
    · rename_i i hi
      split at h
      · rename_i z hz
        cases hb : (plainV FUEL z && Nat.blt 0 i.size && Nat.beq z.cells.size i.size && Nat.ble l c && Nat.blt c BIG && Nat.ble (i.bytes * c) 281474976710656) with
        | false => simp only [hb, cond_false] at h; cases h
        | true =>
          simp only [hb, cond_true] at h
          simp only [Bool.and_eq_true, Nat.blt_eq, Nat.beq_eq, Nat.ble_eq] at hb
          obtain ⟨⟨⟨⟨⟨hpl, h0⟩, hzs⟩, hlc⟩, hbig⟩, hby⟩ := hb
          rw [zerosC_eq (by omega)] at h
          have hbig' : c < 1152921504606846976 := hbig
          obtain ⟨k1, rfl⟩ := natO_ok hl h1
          obtain ⟨k2, rfl⟩ := natO_ok hc h2
          have hzc : VRs s z.cells z.cells := (plainV_self hpl).cells
          obtain ⟨s', st1, g1, m1, e1, hs⟩ := newCells_ok (vs' := zerosL z.cells (c * i.size)) hM (by simpa using zerosL_rel hzc (by omega) _) h
          cases g1
          refine ⟨s', _, .slice (some ⟨w.heap.size, 0, none⟩) l c, ?_, .slice _ _ _ _ _ hs hbig, m1, e1⟩
          have wl : IntKind.i64.wrap (l : Int) = l := IntWalk.i64_in _ (by omega)
          have wc : IntKind.i64.wrap (c : Int) = c := IntWalk.i64_in _ (by omega)
          have hb1 : ¬ ((281474976710656 : Int) < (i.bytes : Int) * (c : Int)) := by rw [← Int.natCast_mul]; omega
          have r0 : Array.range 0 = #[] := rfl
          have hnn : ¬ ((c : Int) < 0) := by omega
          have hnl : ¬ ((l : Int) < 0) := by omega
          have hlc' : ¬ ((c : Int) < (l : Int)) := by omega
          have hlc2 : ¬ (c < l) := by omega
          have e4 : (zeroValue e).run P w = .ok z w := by simp [zeroValue, typeInfo, hi, hz]
          have e5 : (sizeOf e).run P w = .ok i.size w := by simp [sizeOf, typeInfo, hi]
          by_cases hz0 : c * i.size = 0
          · have hnil : (Array.map (fun x => (#[] : Array Value)[x % (#[] : Array Value).size]!) (Array.range (c * i.size))) = zerosL z.cells (c * i.size) := by simp [hz0, zerosL]
            have hnil' : (Array.map (fun x => (default : Value)) (Array.range (c * i.size))) = zerosL z.cells (c * i.size) := by simp [hz0, zerosL]
            simp [Instr.makeSlice, run_underlying hu, asInt, asIntOf, typeInfo, hi, wl, wc, hb1, hnn, hnl, hlc', e5, hz0, newRow, zerosL, r0]
          · simp [Instr.makeSlice, run_underlying hu, asInt, asIntOf, typeInfo, hi, wl, wc, hb1, hnn, hnl, hlc', e4, e5, hz0, newRow, zerosL]
      · cases h
    · cases h
  · cases h

/-- len(x), cap(x). -/
noncomputable def lenA (P : Program) (t : TypeId) (x : Value) (st : St) : Option Value :=
  match P.underlying t, x with
  | some .string, .string b => some (.int .i64 (b.size : Nat))
  | some (.array n _), _ => some (.int .i64 (n : Nat))
  | some (.slice _), .slice _ n _ => some (.int .i64 (n : Nat))
  | some (.pointer arr), _ => match P.underlying arr with
    | some (.array n _) => some (.int .i64 (n : Nat))
    | _ => none
  | some (.map _ _), .map none => some (.int .i64 0)
  | some (.map _ _), .map (some g) => match st.H.get g with
    | some (.obj (.map es _)) => some (.int .i64 (es.size : Nat))
    | _ => none
  | _, _ => none
theorem getObj_map {P : Program} {s : Ren} {st : St} {w : World} {g : Nat} {l : Loc} {es : Array MapEntry} {c : Nat} (hM : Mem s st w) (hl : s g = some l) (hg : st.H.get g = some (.obj (.map es c))) :
    ∃ es', (getObj l.blk).run P w = .ok (.map es' c) w ∧ w.heap[l.blk]? = some (.map es' c) ∧ es.size = es'.size ∧ ∀ i (h : i < es.size) (h' : i < es'.size), VR s es[i].key es'[i].key ∧ VR s es[i].val es'[i].val ∧ es'[i].born = es[i].born := by
  obtain ⟨l', x, e1, e2, e3⟩ := hM.at_ g _ hg
  cases e1.symm.trans hl
  cases e3 with
  | map _ es' _ h1 h2 => exact ⟨es', by simp [getObj, Sem.run, e2], e2, h1, h2⟩
theorem lenA_ok {P : Program} {s : Ren} {st : St} {w : World} {t ty : TypeId} {ts : Array TypeId} {x x' v : Value} (ht : ts[0]? = some t) (hM : Mem s st w) (hx : VR s x x') (h : lenA P t x st = some v) : SV P s st w (Builtin.len_ ts ty #[x']) v st := by
  unfold lenA at h
  split at h
  · rename_i b hu
    cases h; cases hx
    exact .same hM (by simp [Builtin.len_, ht, run_underlying hu, goInt]) (.int _ _)
  · rename_i n e hu
    cases h
    exact .same hM (v' := .int .i64 (n : Nat)) (by simp [Builtin.len_, ht, run_underlying hu, goInt]) (.int _ _)
  · rename_i e b n c hu
    cases h
    cases hx <;> exact .same hM (v' := .int .i64 (n : Nat)) (by simp [Builtin.len_, ht, run_underlying hu, goInt]) (.int _ _)
  · rename_i arr hu
    split at h
    · rename_i n e hu2
      cases h
      exact .same hM (v' := .int .i64 (n : Nat)) (by simp [Builtin.len_, ht, run_underlying hu, run_underlying hu2, goInt]) (.int _ _)
    · cases h
  · rename_i k e hu
    cases h; cases hx
    exact .same hM (v' := .int .i64 0) (by simp [Builtin.len_, ht, run_underlying hu, goInt]) (.int _ _)
  · rename_i k e g hu
    split at h
    · rename_i es c hg
      cases h
      cases hx with
      | map _ l hl =>
        obtain ⟨es', r1, _, r2, _⟩ := getObj_map (P := P) hM hl hg
        exact .same hM (v' := .int .i64 (es.size : Nat)) (by simp [Builtin.len_, ht, run_underlying hu, r1, goInt, r2]) (.int _ _)
    · cases h
  · cases h
noncomputable def capA (P : Program) (t : TypeId) (x : Value) : Option Value :=
  match P.underlying t, x with
  | some (.slice _), .slice _ _ c => bif Nat.blt c BIG then some (.int .i64 (c : Nat)) else none
  | _, _ => none
theorem capA_ok {P : Program} {s : Ren} {st : St} {w : World} {t ty : TypeId} {ts : Array TypeId} {x x' v : Value} (ht : ts[0]? = some t) (hM : Mem s st w) (hx : VR s x x') (h : capA P t x = some v) : SV P s st w (Builtin.cap_ ts ty #[x']) v st := by
  unfold capA at h
  split at h
  · rename_i e b n c hu
    cases hb : Nat.blt c BIG with
    | false => simp [hb] at h
    | true =>
      simp only [hb, cond_true, Option.some.injEq] at h
      rw [Nat.blt_eq] at hb
      subst h
      cases hx with
      | sliceEnd => omega
      | sliceEmpty _ _ _ _ _ _ h2 => omega
      | _ => exact .same hM (v' := .int .i64 (c : Nat)) (by simp [Builtin.cap_, ht, run_underlying hu, goInt]) (.int _ _)
  · cases h

end Go.Proofs.Ytfilbknnpjbmcaa.Cx
