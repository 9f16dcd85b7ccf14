/- A closed call, run: append in all its ways; copy, make, len, cap; bytes that become strings. No program of its own. -/
import Derived.Test.YtfilbknnpjbmcaaCxF
import Derived.Laws.IdiomStrings
namespace Go.Proofs.Ytfilbknnpjbmcaa.Cx
open Go Go.RowKit

/-- What append comes to where the room suffices. -/
theorem append_room {P : Program} {e : TypeId} {i : TypeInfo} {t t1 ty : TypeId} {base : Option Addr} {len cap n : Nat} {x' : Value} {news' : Array Value} {w w' : World}
    (hu : P.underlying t = some (.slice e)) (hi : P.info? e = some i) (hz : (∃ e', P.underlying t1 = some (.slice e')) ∨ P.underlying t1 = some .string) (hn : (Builtin.lenOf x').run P w = .ok n w)
    (hw : (Builtin.firstCells i.size n x').run P w = .ok news' w) (hcap : len + n ≤ cap)
    (hs : (match base with
      | some a => storeCells (a.add (len * i.size)) news'.toList
      | none => pure () : Sem Unit).run P w = .ok () w') :
    (Builtin.append_ #[t, t1] ty #[.slice base len cap, x']).run P w = .ok (.slice base (len + n) cap) w' := by
  rcases hz with ⟨e', hd1⟩ | hd1 <;> cases base with
  | none =>
    simp only [Sem.run_pure, Result.ok.injEq, true_and] at hs
    subst hs
    simp [Builtin.append_, run_underlying hu, run_underlying hd1, sizeOf, typeInfo, hi, hn, hcap, hw]
  | some a =>
    simp only at hs
    simp [Builtin.append_, run_underlying hu, run_underlying hd1, sizeOf, typeInfo, hi, hn, hcap, hw, hs]

theorem firstCells_drew {P : Program} {s : Ren} {st : St} {w : World} {size n : Nat} {x x' : Value} {vs : List Value} {vs' : Array Value} (hM : Mem s st w) (hx : VR s x x') (hle : ∀ m, lenOfA x = some m → n ≤ m) (h : firstA st size n x = some vs) (hr : (Builtin.firstCells size n x').run P w = .ok vs' w) :
    (Builtin.firstCells size n x').run P w.drew = .ok vs' w.drew := by
  have hMd : Mem s st w.drew := hM.draws rfl
  cases x with
  | string b => cases hx; simp [Builtin.firstCells] at hr ⊢; exact hr
  | slice base2 n2 c2 =>
    match base2 with
    | none => cases hx; simp [Builtin.firstCells] at hr ⊢; exact hr
    | some ⟨g2, off2, none⟩ =>
      have hl2 : (n = 0 ∧ ∃ b c2', x' = .slice (some b) n2 c2') ∨ ∃ l2 : Loc, ∃ c2', s g2 = some l2 ∧ x' = .slice (some ⟨l2.blk, off2, none⟩) n2 c2' := by
        cases hx with
        | slice _ _ _ _ l2 h2' _ => exact .inr ⟨l2, _, h2', rfl⟩
        | sliceEnd _ _ _ _ _ _ l2 h2' _ _ => exact .inr ⟨l2, _, h2', rfl⟩
        | sliceEmpty _ b _ _ c h0 _ => exact .inl ⟨by have := hle n2 rfl; omega, b, c, rfl⟩
      rcases hl2 with ⟨rfl, b, c2', rfl⟩ | ⟨l2, c2', hl2, rfl⟩
      · simp [Builtin.firstCells, loadCells, loadCellsFrom] at hr ⊢
        exact hr
      obtain ⟨va, f1, f2, _, f4, _⟩ := loads_run (P := P) hM hl2 h
      obtain ⟨vb, f1', f2', _, f4', _⟩ := loads_run (P := P) hMd hl2 h
      have : vb = va := by
        apply List.ext_getElem?
        intro j
        by_cases hj : j < n * size
        · have u1 := f4' j _ (List.getElem?_eq_getElem (by omega))
          have u2 := f4 j _ (List.getElem?_eq_getElem (by omega))
          simp only [World.cell?_drew] at u1
          rw [u1] at u2
          rw [List.getElem?_eq_getElem (by omega), List.getElem?_eq_getElem (by omega)]
          exact u2
        · rw [List.getElem?_eq_none (by omega), List.getElem?_eq_none (by omega)]
      subst this
      simp [Builtin.firstCells, f1] at hr
      subst hr
      simp [Builtin.firstCells, f1']
    | some ⟨g2, off2, some q⟩ => simp [firstA] at h
  | _ => simp [firstA] at h

noncomputable def notInt (P : Program) (t : TypeId) : Bool :=
  match P.underlying t with
  | some (.slice _) | some .string => true
  | _ => false
theorem notInt_ok {P : Program} {t : TypeId} (h : notInt P t = true) : (∃ e', P.underlying t = some (.slice e')) ∨ P.underlying t = some .string := by
  unfold notInt at h
  split at h
  · rename_i e he; exact .inl ⟨e, he⟩
  · rename_i he; exact .inr he
  · cases h

/-- A row whose end is not known, and that may grow: what was it stays, under another number. -/
noncomputable def openA (_P : Program) (e : TypeId) (i : TypeInfo) (g len need : Nat) (news : List Value) (st : St) : Option (Value × St) :=
  match st.H.get g with
  | some (.cells n _t e' esz true (.upto k)) => match i.zero with
    | some z => bif plainV FUEL z && Nat.blt 0 i.size && Nat.beq z.cells.size i.size && Nat.ble (need * i.bytes) 140737488355328 && Nat.ble need 4611686018427387904 && Nat.beq esz i.size && Nat.beq e' e && Nat.ble k (len * i.size) && Nat.ble (len * i.size) n && Nat.beq (len * i.size + news.length) (need * i.size) && news.all oneV then
        match loadsO st g 0 (len * i.size) with
        | some olds => TH.put none FUEL st.H g fun H1 => ofList (olds ++ news) 0 .leaf fun tt => newO (.cells (need * i.size) tt e i.size true (.upto k)) ⟨H1, st.c, st.lim⟩ fun g' st' => some (.slice (some ⟨g', 0, none⟩) need BIG, st')
        | none => none
      else none
    | none => none
  | _ => none
theorem openA_ok {P : Program} {s : Ren} {st st' : St} {w : World} {e : TypeId} {i : TypeInfo} {g len need n : Nat} {l : Loc} {news : List Value} {t t1 ty : TypeId} {x x' v : Value} (hM : Mem s st w) (hl : s g = some l)
    (hu : P.underlying t = some (.slice e)) (hi : P.info? e = some i) (hz : (∃ e', P.underlying t1 = some (.slice e')) ∨ P.underlying t1 = some .string) (hx : VR s x x') (hlen : lenOfA x = some n) (hfirst : firstA st i.size n x = some news)
    (hneed : need = len + n) (h : openA P e i g len need news st = some (v, st')) : SV P s st w (Builtin.append_ #[t, t1] ty #[.slice (some ⟨l.blk, 0, none⟩) len l.cap, x']) v st' := by
  unfold openA at h
  split at h
  · rename_i n0 t0 e' esz k hg
    split at h
    · rename_i z hzero
      cases hb : (plainV FUEL z && Nat.blt 0 i.size && Nat.beq z.cells.size i.size && Nat.ble (need * i.bytes) 140737488355328 && Nat.ble need 4611686018427387904 && Nat.beq esz i.size && Nat.beq e' e && Nat.ble k (len * i.size) && Nat.ble (len * i.size) n0 && Nat.beq (len * i.size + news.length) (need * i.size) && news.all oneV) with
      | false => simp only [hb, cond_false] at h; cases h
      | true =>
        simp only [hb, cond_true] at h
        simp only [Bool.and_eq_true, Nat.blt_eq, Nat.beq_eq, Nat.ble_eq] at hb
        obtain ⟨⟨⟨⟨⟨⟨⟨⟨⟨⟨hpl, h0⟩, hzs⟩, hby⟩, hmax⟩, hesz⟩, hee⟩, hk⟩, hn0⟩, hnl⟩, hone⟩ := hb
        subst hesz hee
        split at h
        · rename_i olds hol
          have hrun := h
          obtain ⟨H1, h1, hH1⟩ := TH.put_some h
          obtain ⟨olds', q1, q2, q3, q4, q5, q6⟩ := loads_run (P := P) hM hl hol
          obtain ⟨news', r1, r2⟩ := firstA_ok (P := P) hM hx (fun m e => by rw [hlen] at e; cases e; exact Nat.le_refl _) hfirst
          have hn := fun w => lenOfA_ok (P := P) hlen hx w
          have hcells : VRs s (olds ++ news).toArray (olds'.toArray ++ news') := by
            have := q5.append r2
            simpa using this
          have hcsz : (olds ++ news).length = need * i.size := by rw [List.length_append, q3]; exact hnl
          by_cases hroom : need ≤ l.cap
          · -- in place
            obtain ⟨tt, h2, htt⟩ := ofList_ok h1
            obtain ⟨l', xo, a1, a2, a3⟩ := hM.at_ g _ hg
            cases a1.symm.trans hl
            cases xo with
            | cells c e'' p =>
              obtain ⟨b1, b2, b3, b4⟩ := a3
              simp only [if_true] at b3
              obtain ⟨b3a, b3b, b3c⟩ := b3
              have hnsz : news'.size = news.length := by simpa using r2.1.symm
              have hfit : len * i.size + 0 + news'.toList.length ≤ c.size := by
                rw [b3c, Array.length_toList, hnsz, Nat.add_zero, hnl]
                exact Nat.mul_le_mul_right _ hroom
              obtain ⟨w', c', s1, s2, s3, s4, s5, s6, s7⟩ := storeRaw (P := P) l.blk (len * i.size) e'' p news'.toList 0 w c a2 hfit (fun kk hkk hp => by
                simp only [FzR] at b4
                omega) (fun u hu => by
                  obtain ⟨j, hj, rfl⟩ := List.mem_iff_getElem.1 hu
                  have hj' : j < news.length := by simpa [hnsz] using hj
                  have := r2.2 j (by simpa using hj') (by simpa using hj)
                  refine oneV_of (by simpa using this) ?_
                  exact List.all_eq_true.1 hone _ (List.getElem_mem hj'))
              rw [newO_eq] at h2
              cases hlim : Nat.blt st.c st.lim with
              | false => simp [hlim] at h2
              | true =>
              simp only [hlim, cond_true] at h2
              rw [Nat.blt_eq] at hlim
              obtain ⟨H2, h3, hH2⟩ := TH.put_some h2
              simp only [Option.some.injEq, Prod.mk.injEq] at h3
              obtain ⟨rfl, rfl⟩ := h3
              obtain ⟨s', m1, m2, m3⟩ := Mem.swap (w' := w') (x' := .cells c' e'' p) (o' := .cells (need * i.size) tt e' i.size true (.upto k)) (H := H2) hM hlim hl hg (fun j => by rw [hH2, hH1]) s2 (fun s' hle hs' => by
                refine ⟨b1, ?_, ?_, by rw [s6]; exact b4⟩
                · have hca := cellsAt_list (hcells.mono hle) htt
                  intro j u hj hu
                  obtain ⟨u', d1, d2⟩ := hca j u (by omega) hu
                  refine ⟨u', ?_, d2⟩
                  rw [s7]
                  by_cases hjl : j < len * i.size
                  · rw [if_neg (by omega)]
                    rw [Array.getElem?_append_left (by simpa [q2] using hjl)] at d1
                    have d1' : olds'[j]? = some u' := by simpa using d1
                    have := q4 j u' d1'
                    simp only [Nat.zero_add, World.cell?, a2] at this
                    simpa using this
                  · rw [if_pos (by rw [Array.length_toList, hnsz]; omega)]
                    rw [Array.getElem?_append_right (by simp [q2]; omega)] at d1
                    simp only [List.size_toArray, q2] at d1
                    simpa using d1
                · simp only [if_true]
                  rw [s6, b3c]
                  exact ⟨Nat.mul_le_mul_right _ hroom, b3b, rfl⟩) s3 s4 s5
              refine ⟨s', w', .slice (some ⟨l.blk, 0, none⟩) need l.cap, ?_, .sliceEnd _ _ _ 0 _ _ _ m3 rfl rfl, m1, m2⟩
              subst hneed
              refine append_room hu hi hz (hn w) r1 hroom ?_
              simp only [addr_add, Nat.zero_add]
              exact s1
            | _ => exact a3.elim
          · -- new memory
            obtain ⟨k1, k2⟩ := Mem.kill hM hH1 (fun o ho => by rw [hg] at ho; cases ho; rfl)
            -- the block's bound on what is shared is wider than it need be
            obtain ⟨tt, h2, htt⟩ := ofList_ok h1
            have hge := grownCap_ge w need l.cap e'
            have hcsz' : (olds'.toArray ++ news').size = need * i.size := by rw [← hcells.1]; simpa using hcsz
            obtain ⟨s', st1, g1, g2, g3, g4⟩ := newO_ok (w := w.drew) (k1.draws rfl) h2 (.cells (olds'.toArray ++ news' ++ Builtin.zeroCells z.cells (grownCap w need l.cap e' - need)) e') (grownCap w need l.cap e') (fun s' hle hc => by
              refine ⟨.inr rfl, ?_, ?_, .inl rfl⟩
              · have hca := cellsAt_list (hcells.mono hle) htt
                intro j u hj hu
                obtain ⟨u', d1, d2⟩ := hca j u (by omega) hu
                refine ⟨u', ?_, d2⟩
                rw [Array.getElem?_append_left (by omega)]
                exact d1
              · have hsz : (olds'.toArray ++ news' ++ Builtin.zeroCells z.cells (grownCap w need l.cap e' - need)).size = grownCap w need l.cap e' * i.size := by
                  rw [Array.size_append, hcsz', show (Builtin.zeroCells z.cells (grownCap w need l.cap e' - need)).size = (grownCap w need l.cap e' - need) * z.cells.size by simp [Builtin.zeroCells], hzs, ← Nat.add_mul]
                  congr 1
                  omega
                simp only [if_true]
                refine ⟨?_, h0, hsz⟩
                rw [hsz]
                exact Nat.mul_le_mul_right _ hge)
            cases g1
            have e0 : Ev s ⟨H1, st.c, st.lim⟩ w s ⟨H1, st.c, st.lim⟩ w.drew := Ev.draws rfl rfl rfl rfl
            refine ⟨s', _, .slice (some ⟨w.heap.size, 0, none⟩) need (grownCap w need l.cap e'), ?_, .sliceEnd _ _ _ 0 _ _ _ g4 rfl rfl, g2, k2.trans (e0.trans g3)⟩
            have hMd : Mem s st w.drew := hM.draws rfl
            obtain ⟨ol2, z1, z2, _, z4, _⟩ := loads_run (P := P) hMd hl hol
            have hol2 : ol2 = olds' := by
              apply List.ext_getElem?
              intro j
              by_cases hj : j < len * i.size
              · have u1 := z4 j _ (List.getElem?_eq_getElem (by omega))
                have u2 := q4 j _ (List.getElem?_eq_getElem (by omega))
                simp only [World.cell?_drew] at u1
                rw [u1] at u2
                rw [List.getElem?_eq_getElem (by omega), List.getElem?_eq_getElem (by omega)]
                exact u2
              · rw [List.getElem?_eq_none (by omega), List.getElem?_eq_none (by omega)]
            subst hol2
            have hfw := firstCells_drew hM hx (fun m e => by rw [hlen] at e; cases e; exact Nat.le_refl _) hfirst r1
            have hfo : (Builtin.firstCells i.size len (.slice (some ⟨l.blk, 0, none⟩) len l.cap)).run P w.drew = .ok ol2.toArray w.drew := by simp [Builtin.firstCells, z1]
            have hfit := growslice_fits (need := need) (old := l.cap) (bytes := i.bytes) (by omega) hby
            have hni : ¬ (len + n ≤ l.cap) := by omega
            have e2 : ¬ ((281474976710656 : Nat) < Builtin.nextslicecap (len + n) l.cap * i.bytes) := by rw [← hneed]; omega
            have e3 : ¬ ((9223372036854775807 : Int) < ((len + n : Nat) : Int)) := by omega
            have e3' : ¬ ((9223372036854775807 : Int) < (len : Int) + (n : Int)) := by omega
            subst hneed
            rcases hz with ⟨e'', hd1⟩ | hd1
            all_goals simp [Builtin.append_, run_underlying hu, run_underlying hd1, sizeOf, typeInfo, zeroValue, hi, hzero, hn, hni, e2, e3', Question.forced, hfo, hfw, newRow, grownCap, IntKind.max, IntKind.signed, IntKind.bits]
        · cases h
    · cases h
  · cases h

end Go.Proofs.Ytfilbknnpjbmcaa.Cx
