/- A closed call, run: bytes that become strings, shared memory, what is the same. No program of its own. -/
import Derived.Test.YtfilbknnpjbmcaaCxH
import Derived.Lib.UnsafeStr
namespace Go.Proofs.Ytfilbknnpjbmcaa.Cx
open Go Go.RowKit

noncomputable def bytesL : List Value → Option (List UInt8)
  | [] => some []
  | .int .u8 (.ofNat m) :: r => bif Nat.blt m 256 then match bytesL r with
    | some l => some (UInt8.ofNat m :: l)
    | none => none
    else none
  | _ => none
theorem bytesL_ok {s : Ren} : ∀ {vs : List Value} {l : List UInt8}, bytesL vs = some l → l.length = vs.length ∧ ∀ (j : Nat) (v' : Value) (v : Value), vs[j]? = some v → VR s v v' → ∃ b, l[j]? = some b ∧ v' = .int .u8 (b.toNat : Int)
  | [], l, h => by cases h; exact ⟨rfl, fun j v' v hj _ => by simp at hj⟩
  | x :: r, l, h => by
    unfold bytesL at h
    split at h
    · rename_i h0; cases h0
    · rename_i m r0 h0
      cases h0
      cases hb : Nat.blt m 256 with
      | false => simp [hb] at h
      | true =>
        simp only [hb, cond_true] at h
        rw [Nat.blt_eq] at hb
        split at h
        · rename_i l' hl'
          cases h
          obtain ⟨h1, h2⟩ := bytesL_ok (s := s) hl'
          refine ⟨by simp [h1], fun j v' v hj hv => ?_⟩
          cases j with
          | zero =>
            simp at hj
            subst hj
            cases hv
            refine ⟨_, rfl, ?_⟩
            simp [Nat.mod_eq_of_lt hb]
          | succ j => exact h2 j v' v (by simpa using hj) hv
        · cases h
    · cases h
theorem bytes_cells {s : Ren} {w : World} {vs vs' : List Value} {l : List UInt8} {b off n : Nat} (h : bytesL vs = some l) (h1 : vs.length = n) (h2 : vs'.length = n) (hc : ∀ (j : Nat) (v' : Value), vs'[j]? = some v' → w.cell? ⟨b, off + j, none⟩ = some v')
    (hr : ∀ (j : Nat) (v : Value), vs[j]? = some v → ∃ v', vs'[j]? = some v' ∧ VR s v v') : l.length = n ∧ ∀ j (hj : j < l.length), w.cell? ⟨b, off + j, none⟩ = some (.int .u8 (l[j].toNat : Int)) := by
  obtain ⟨e1, e2⟩ := bytesL_ok (s := s) h
  refine ⟨by omega, fun j hj => ?_⟩
  obtain ⟨v', q1, q2⟩ := hr j _ (List.getElem?_eq_getElem (show j < vs.length by omega))
  obtain ⟨c, q3, q4⟩ := e2 j v' _ (List.getElem?_eq_getElem (by omega)) q2
  rw [hc j v' q1, q4]
  rw [List.getElem?_eq_getElem hj] at q3
  cases q3
  rfl

theorem blk_of {s : Ren} {st : St} {w : World} {g n e esz : Nat} {t : TV} {opn : Bool} {fz : Fz} {l : Loc} (hM : Mem s st w) (hl : s g = some l) (hg : st.H.get g = some (.cells n t e esz opn fz)) (hro : roF fz = false := by rfl) :
    ∃ c p, w.heap[l.blk]? = some (.cells c e p) ∧ n ≤ c.size ∧ (opn = false → c.size = n) ∧ FzR fz c.size p := by
  obtain ⟨l', x, e1, e2, e3⟩ := hM.at_ g _ hg
  cases e1.symm.trans hl
  cases x with
  | cells c e' p =>
    obtain ⟨b1, b2, b3, b4⟩ := e3
    obtain rfl : e' = e := by
      rcases b1 with h | h
      · rw [hro] at h; cases h
      · exact h
    refine ⟨c, p, e2, ?_, ?_, b4⟩
    · cases opn
      · simp at b3; omega
      · simp at b3; exact b3.1
    · intro h; subst h; simpa using b3
  | _ => exact e3.elim

/-- Conversions of what holds places. -/
noncomputable def convA (P : Program) (src dst : TypeId) (x : Value) (st : St) : Option Value :=
  match P.underlying src, P.underlying dst, x with
  | some (.slice e), some .string, .slice (some ⟨g, off, none⟩) n _ => match P.underlying e with
    | some (.int .u8) => match loadsO st g off n with
      | some vs => match bytesL vs with
        | some l => some (.string ⟨l.toArray⟩)
        | none => none
      | none => none
    | _ => none
  | some (.slice e), some .string, .slice none _ _ => match P.underlying e with
    | some (.int .u8) => some (.string ⟨#[]⟩)
    | _ => none
  | some (.pointer t), some .unsafePointer, .pointer (some ⟨g, off, none⟩) => match szO P t, st.H.get g with
    | some (_ + 1), some (.cells n _ _ _ _ fz) => bif Nat.blt off n && !roF fz then some x else none
    | _, _ => none
  | some .unsafePointer, some (.pointer u), .pointer (some ⟨g, off, none⟩) => match szO P u, st.H.get g with
    | some _, some (.cells n _ e _ false fz) => bif liesAt P P.depth e (n / P.cellsOf e) off u 1 && !roF fz then some x else none
    | _, _ => none
  | some .unsafePointer, some .unsafePointer, .pointer _ => some x
  | _, _, _ => none
theorem convA_ok {P : Program} {s : Ren} {st : St} {w : World} {src dst : TypeId} {x x' v : Value} (hM : Mem s st w) (hx : VR s x x') (h : convA P src dst x st = some v) : SV P s st w (convert src dst x') v st := by
  unfold convA at h
  split at h
  · rename_i e g off n c hs hd
    split at h
    · rename_i he
      split at h
      · rename_i vs hvs
        split at h
        · rename_i bs hbs
          cases h
          have hl : (n = 0 ∧ ∃ b c', x' = .slice (some b) n c') ∨ ∃ l : Loc, ∃ c', s g = some l ∧ x' = .slice (some ⟨l.blk, off, none⟩) n c' := by
            cases hx with
            | slice _ _ _ _ l hl _ => exact .inr ⟨l, _, hl, rfl⟩
            | sliceEnd _ _ _ _ _ _ l hl _ _ => exact .inr ⟨l, _, hl, rfl⟩
            | sliceEmpty _ b _ _ c h0 _ => exact .inl ⟨h0, b, c, rfl⟩
          rcases hl with ⟨rfl, b, c', rfl⟩ | ⟨l, c', hl, rfl⟩
          · cases hvs
            cases hbs
            refine .same hM (v' := .string ⟨#[]⟩) ?_ (.string _)
            have := run_convert_bytes_back (P := P) w src dst e b c' [] hs he hd (fun j hj => by simp at hj)
            simpa using this
          obtain ⟨vs', q1, q2, q3, q4, _, q6⟩ := loads_run (P := P) hM hl hvs
          obtain ⟨h1, h2⟩ := bytes_cells hbs q3 q2 q4 q6
          have := run_convert_bytes_back (P := P) w src dst e ⟨l.blk, off, none⟩ c' bs hs he hd (fun j hj => by rw [addr_add]; exact h2 j hj)
          rw [h1] at this
          exact .same hM this (.string _)
        · cases h
      · cases h
    · cases h
  · rename_i e n c hs hd
    split at h
    · rename_i he
      cases h
      cases hx
      refine .same hM (v' := .string ⟨#[]⟩) ?_ (.string _)
      simp [convert, run_underlying hs, run_underlying hd, run_underlying he, Conv.bytesToString]
      rfl
    · cases h
  · rename_i t g off hs hd
    split at h
    · rename_i k n tt e esz opn fz hk hg
      cases hb : (Nat.blt off n && !roF fz) with
      | false => simp only [hb, cond_false] at h; cases h
      | true =>
        simp only [hb, cond_true, Option.some.injEq] at h
        simp only [Bool.and_eq_true, Nat.blt_eq, Bool.not_eq_true'] at hb
        obtain ⟨hb, hro⟩ := hb
        subst h
        cases hx with
        | ptr _ _ l hl =>
          obtain ⟨c, p, b1, b2, _, _⟩ := blk_of hM hl hg hro
          refine .same hM ?_ (.ptr _ _ _ hl)
          have hsh : w.shape? l.blk = some (e, c.size) := by simp [World.shape?, b1]
          have hn : ¬ (c.size ≤ off) := by omega
          simp [convert, run_underlying hs, run_underlying hd, Conv.unsafePointer, Conv.seenAt, viewAt, cellsIn, hsh, run_szO hk, hn]
    · cases h
  · rename_i u g off hs hd
    split at h
    · rename_i k n tt e esz fz hk hg
      cases hb : (liesAt P P.depth e (n / P.cellsOf e) off u 1 && !roF fz) with
      | false => simp only [hb, cond_false] at h; cases h
      | true =>
        simp only [hb, cond_true, Option.some.injEq] at h
        simp only [Bool.and_eq_true, Bool.not_eq_true'] at hb
        obtain ⟨hb, hro⟩ := hb
        subst h
        cases hx with
        | ptr _ _ l hl =>
          obtain ⟨c, p, b1, b2, b3, _⟩ := blk_of hM hl hg hro
          refine .same hM ?_ (.ptr _ _ _ hl)
          have hcs := b3 rfl
          have hsh : w.shape? l.blk = some (e, n) := by simp [World.shape?, b1, hcs]
          simp [convert, run_underlying hs, run_underlying hd, Conv.unsafePointer, Conv.seenAt, viewAt, hsh, run_szO hk, variablesAt, hb]
    · cases h
  · rename_i a hs hd
    cases h
    refine .same hM (v' := x') ?_ hx
    cases hx <;> simp [convert, run_underlying hs, run_underlying hd, Conv.unsafePointer]
  · cases h

/-- unsafe.String(p, n), unsafe.SliceData(s). -/
noncomputable def unsafeStringA (P : Program) (pt : TypeId) (p nv : Value) (st : St) : Option (Value × St) :=
  match nv with
  | .int .i64 (.ofNat 0) => match p with
    | .pointer _ => some (.string .empty, st)
    | _ => none
  | .int .i64 (.ofNat (n + 1)) => match p, P.underlying pt with
    | .pointer (some ⟨g, 0, none⟩), some (.pointer u) => match st.H.get g with
      | some (.cells m t e esz opn (.upto k)) => bif Nat.beq e u && Nat.beq (P.cellsOf u) 1 && Nat.ble (n + 1) m && Nat.blt n 4611686018427387904 then
        match loadsO st g 0 (n + 1) with
        | some vs => match bytesL vs with
          | some l => TH.put (some (.cells m t e esz opn (.upto (Nat.max k (n + 1))))) FUEL st.H g fun H => some (.string ⟨l.toArray⟩, ⟨H, st.c, st.lim⟩)
          | none => none
        | none => none
        else none
      | _ => none
    | _, _ => none
  | _ => none
theorem unsafeStringA_ok {P : Program} {s : Ren} {st st' : St} {w : World} {pt it ty : TypeId} {p p' nv nv' v : Value} (hM : Mem s st w) (hp : VR s p p') (hn : VR s nv nv') (h : unsafeStringA P pt p nv st = some (v, st')) :
    SV P s st w (Builtin.unsafeString_ #[pt, it] ty #[p', nv']) v st' := by
  unfold unsafeStringA at h
  split at h
  · cases hn
    split at h
    · cases h
      cases hp with
      | ptrNil => exact .same hM (Lib.run_unsafeString_none w pt it ty none) (.string _)
      | ptr _ _ l _ => exact .same hM (Lib.run_unsafeString_none w pt it ty (some _)) (.string _)
    · cases h
  · rename_i n
    cases hn
    split at h
    · rename_i g u hu
      split at h
      · rename_i m t e esz opn k hg
        cases hb : (Nat.beq e u && Nat.beq (P.cellsOf u) 1 && Nat.ble (n + 1) m && Nat.blt n 4611686018427387904) with
        | false => simp only [hb, cond_false] at h; cases h
        | true =>
          simp only [hb, cond_true] at h
          simp only [Bool.and_eq_true, Nat.blt_eq, Nat.beq_eq, Nat.ble_eq] at hb
          obtain ⟨⟨⟨rfl, hc1⟩, hle⟩, hmax⟩ := hb
          split at h
          · rename_i vs hvs
            split at h
            · rename_i bs hbs
              obtain ⟨H, h1, hH⟩ := TH.put_some h
              cases h1
              cases hp with
              | ptr _ _ l hl =>
                obtain ⟨vs', q1, q2, q3, q4, _, q6⟩ := loads_run (P := P) hM hl hvs
                obtain ⟨z1, z2⟩ := bytes_cells hbs q3 q2 q4 q6
                obtain ⟨l', x, e1, e2, e3⟩ := hM.at_ g _ hg
                cases e1.symm.trans hl
                cases x with
                | cells c e' p =>
                  obtain ⟨b1, b2, b3, b4⟩ := e3
                  have hsz : m ≤ c.size := by
                    cases opn
                    · simp at b3; omega
                    · simp at b3; exact b3.1
                  obtain rfl : e' = e := by
                    rcases b1 with h | h
                    · cases h
                    · exact h
                  obtain ⟨m1, m2⟩ := Mem.turn (w' := w.freeze ⟨l.blk, 0, none⟩ (n + 1)) (x' := .cells c e' (if p.1 == p.2 then (0, 0 + (n + 1)) else (min p.1 0, max p.2 (0 + (n + 1))))) (o' := .cells m t e' esz opn (.upto (Nat.max k (n + 1)))) hM hl hg e2 hH (fun j => by
                    simp only [World.freeze, Nat.add_one_ne_zero, if_false, Array.getElem?_modify]
                    by_cases hj : j = l.blk
                    · subst hj
                      obtain ⟨lo, hi⟩ := p
                      simp [e2]
                    · have : ¬ l.blk = j := fun h => hj h.symm
                      simp [hj, this]) ⟨.inr rfl, b2, b3, by
                    simp only [FzR] at b4 ⊢
                    have hm : Nat.max k (n + 1) = max k (n + 1) := rfl
                    rw [hm]
                    by_cases hpp : p.1 = p.2
                    · simp only [hpp, beq_self_eq_true, if_true]; right; omega
                    · have : (p.1 == p.2) = false := by simpa using hpp
                      simp only [this, Bool.false_eq_true, if_false]
                      right
                      omega⟩ (by simp [World.freeze]) (by simp [World.freeze]) (by simp [World.freeze])
                  refine ⟨s, _, .string ⟨bs.toArray⟩, ?_, .string _, m1, m2⟩
                  have hsh : w.shape? l.blk = some (e', c.size) := by simp [World.shape?, e2]
                  have hne : bs ≠ [] := fun h => by rw [h] at z1; cases z1
                  have := Lib.run_unsafeString_row (P := P) w pt it ty e' hu hc1 l.blk c.size hsh bs hne (by omega) (by omega) (fun j x hj => by
                    obtain ⟨hj', rfl⟩ := List.getElem?_eq_some_iff.1 hj
                    rw [addr_add]
                    exact z2 j hj')
                  rw [z1] at this
                  exact this
                | _ => exact e3.elim
            · cases h
          · cases h
      · cases h
    · cases h
  · cases h
noncomputable def sliceDataA (x : Value) (st : St) : Option Value :=
  match x with
  | .slice none _ _ => some (.pointer none)
  | .slice (some ⟨g, off, none⟩) _ c => bif Nat.blt c BIG then (bif Nat.beq c 0 then none else some (.pointer (some ⟨g, off, none⟩))) else match st.H.get g with
    | some (.cells n _ _ esz true _) => bif Nat.blt (Nat.sub c BIG) (Nat.div n esz) && Nat.blt 0 esz && Nat.blt (Nat.sub c BIG) BIG then some (.pointer (some ⟨g, off, none⟩)) else none
    | _ => none
  | _ => none
theorem sliceDataA_ok {P : Program} {s : Ren} {st : St} {w : World} {ty : TypeId} {ts : Array TypeId} {x x' v : Value} (hM : Mem s st w) (hx : VR s x x') (h : sliceDataA x st = some v) : SV P s st w (Builtin.unsafeSliceData_ ts ty #[x']) v st := by
  unfold sliceDataA at h
  split at h
  · cases h
    cases hx
    exact .same hM (Lib.run_unsafeSliceData_nil w ts ty _ _) .ptrNil
  · rename_i g off n c
    cases hc : Nat.blt c BIG with
    | true =>
      simp only [hc, cond_true] at h
      rw [Nat.blt_eq] at hc
      cases hz : Nat.beq c 0 with
      | true => simp [hz] at h
      | false =>
        simp only [hz, cond_false, Option.some.injEq] at h
        subst h
        rw [beq_nat] at hz
        have hz' : ¬ c = 0 := by simpa using hz
        cases hx with
        | slice _ _ _ _ l hl _ => exact .same hM (Lib.run_unsafeSliceData_row w ts ty _ _ _ hz') (.ptr _ _ _ hl)
        | sliceEnd => omega
        | sliceEmpty _ _ _ _ _ _ h2 => omega
    | false =>
      simp only [hc, cond_false] at h
      have hge : BIG ≤ c := by
        rcases Nat.lt_or_ge c BIG with q | q
        · rw [show Nat.blt c BIG = true by rw [Nat.blt_eq]; exact q] at hc; cases hc
        · exact q
      split at h
      · rename_i m t e esz fz hg
        cases hb : (Nat.blt (Nat.sub c BIG) (Nat.div m esz) && Nat.blt 0 esz && Nat.blt (Nat.sub c BIG) BIG) with
        | false => simp only [hb, cond_false] at h; cases h
        | true =>
          simp only [hb, cond_true, Option.some.injEq] at h
          subst h
          simp only [Bool.and_eq_true, Nat.blt_eq] at hb
          obtain ⟨hb, hb3⟩ := hb
          have h1 : c - BIG < m / esz := hb.1
          have h3 : c - BIG < BIG := hb3
          cases hx with
          | slice => omega
          | sliceEmpty _ _ _ _ _ _ h2 => omega
          | sliceEnd _ _ _ c0 _ _ l hl hk hk' =>
            obtain ⟨l', xo, e1, e2, e3⟩ := hM.at_ g _ hg
            cases e1.symm.trans hl
            cases xo with
            | cells cc e' p =>
              obtain ⟨_, _, b3, _⟩ := e3
              simp only [if_true] at b3
              have : m / esz ≤ l.cap := by
                calc m / esz ≤ l.cap * esz / esz := Nat.div_le_div_right (by omega)
                  _ = l.cap := Nat.mul_div_cancel _ hb.2
              have hne : ¬ (l.cap - c0 = 0) := by omega
              subst hk'
              exact .same hM (Lib.run_unsafeSliceData_row w ts ty _ _ _ hne) (.ptr _ _ _ hl)
            | _ => exact e3.elim
      · cases h
  · cases h

/-- Is nothing of a block shared by strings? -/
noncomputable def cleanB (st : St) (g : Nat) : Bool :=
  match st.H.get g with
  | some (.cells _ _ _ _ _ (.upto 0)) => true
  | _ => false
theorem cleanB_ok {s : Ren} {st : St} {w : World} {g : Nat} {l : Loc} (hM : Mem s st w) (hl : s g = some l) (h : cleanB st g = true) : (∃ e n, w.shape? l.blk = some (e, n)) ∧ ∀ off q, w.frozen? ⟨l.blk, off, q⟩ = false := by
  unfold cleanB at h
  split at h
  · rename_i n t e esz opn hg
    obtain ⟨c, p, b1, _, _, b4⟩ := blk_of hM hl hg
    refine ⟨⟨e, c.size, by simp [World.shape?, b1]⟩, fun off q => ?_⟩
    simp only [World.frozen?, b1]
    simp only [FzR] at b4
    rw [Bool.eq_false_iff]
    simp
    omega
  · cases h
/-- Are two values the same? -/
noncomputable def eqA (P : Program) (st : St) : Nat → Nat → TypeId → Value → Value → Option Bool
  | n + 1, d + 1, t, x, y =>
    bif plainV FUEL x && plainV FUEL y then pureRun P (Op.equalIn (d + 1) t x y)
    else match P.underlying t, x, y with
    | some (.pointer _), .pointer none, .pointer (some _) => some false
    | some (.pointer _), .pointer (some _), .pointer none => some false
    | some (.pointer e), .pointer (some ⟨g, o, none⟩), .pointer (some ⟨g', o', none⟩) => match szO P e with
      | some (_ + 1) => bif Nat.beq g g' then some (Nat.beq o o') else bif cleanB st g && cleanB st g' && (match st.H.get g, st.H.get g' with | some _, some _ => true | _, _ => false) then some false else none
      | _ => none
    | some (.slice _), .slice none _ _, .slice (some _) _ _ => some false
    | some (.slice _), .slice (some _) _ _, .slice none _ _ => some false
    | some (.map _ _), .map none, .map (some _) => some false
    | some (.map _ _), .map (some _), .map none => some false
    | some (.func _ _ _), .nilFunc, .func _ _ _ => some false
    | some (.func _ _ _), .func _ _ _, .nilFunc => some false
    | some (.interface _), .nilIface, .iface _ _ => some false
    | some (.interface _), .iface _ _, .nilIface => some false
    | some (.interface _), .iface tx vx, .iface ty vy => bif Nat.beq tx ty then match P.info? tx with
      | some i => bif i.comparable then eqA P st n d tx vx vy else none
      | none => none
      else some false
    | _, _, _ => none
  | _, _, _, _, _ => none
set_option maxHeartbeats 1000000 in
theorem eqA_ok {P : Program} {s : Ren} {st : St} {w : World} (hM : Mem s st w) : ∀ {n d : Nat} {t : TypeId} {x y x' y' : Value} {b : Bool}, VR s x x' → VR s y y' → eqA P st n d t x y = some b → (Op.equalIn d t x' y').run P w = .ok b w
  | 0, _, _, _, _, _, _, _, _, _, h => by simp [eqA] at h
  | _ + 1, 0, _, _, _, _, _, _, _, _, h => by simp [eqA] at h
  | n + 1, d + 1, t, x, y, x', y', b, hx, hy, h => by
    unfold eqA at h
    cases hp : (plainV FUEL x && plainV FUEL y) with
    | true =>
      simp only [hp, cond_true] at h
      simp only [Bool.and_eq_true] at hp
      rw [plainV_eq hp.1 hx, plainV_eq hp.2 hy]
      exact pureRun_ok _ h w
    | false =>
      simp only [hp, cond_false] at h
      split at h
      · rename_i hu; cases h; cases hx; cases hy; simp [Op.equalIn, run_underlying hu]
      · rename_i hu; cases h; cases hx; cases hy; simp [Op.equalIn, run_underlying hu]
      · rename_i e g o g' o' hu
        split at h
        · rename_i k hk
          cases hx with
          | ptr _ _ l hl =>
            cases hy with
            | ptr _ _ l' hl' =>
              cases hg : Nat.beq g g' with
              | true =>
                simp only [hg, cond_true, Option.some.injEq] at h
                have hgg : g = g' := by simpa using hg
                subst hgg
                cases hl.symm.trans hl'
                subst h
                simp [Op.equalIn, run_underlying hu, run_szO hk, sameAddr, beq_nat]
                rw [Bool.eq_iff_iff]
                simp
              | false =>
                simp only [hg, cond_false] at h
                cases hc : (cleanB st g && cleanB st g' && (match st.H.get g, st.H.get g' with | some _, some _ => true | _, _ => false)) with
                | false => simp only [hc, cond_false] at h; cases h
                | true =>
                  simp only [hc, cond_true, Option.some.injEq] at h
                  subst h
                  simp only [Bool.and_eq_true] at hc
                  obtain ⟨⟨c1, c2⟩, c3⟩ := hc
                  obtain ⟨⟨e1, n1, s1⟩, f1⟩ := cleanB_ok hM hl c1
                  obtain ⟨⟨e2, n2, s2⟩, f2⟩ := cleanB_ok hM hl' c2
                  split at c3
                  · rename_i q1 q2 hq1 hq2
                    have hne : ¬ l.blk = l'.blk := by
                      intro he
                      have := hM.inj _ _ _ _ _ _ hq1 hq2 hl hl' he
                      rw [beq_nat] at hg
                      simp [this] at hg
                    simp [Op.equalIn, run_underlying hu, run_szO hk, sameAddr, hne, f1, f2, noView, viewAt, s1, s2, mayBeOne, stringish]
                  · cases c3
        · cases h
      · rename_i hu; cases h; cases hx; cases hy <;> simp [Op.equalIn, run_underlying hu]
      · rename_i hu; cases h; cases hy; cases hx <;> simp [Op.equalIn, run_underlying hu]
      · rename_i hu; cases h; cases hx; cases hy; simp [Op.equalIn, run_underlying hu]
      · rename_i hu; cases h; cases hy; cases hx; simp [Op.equalIn, run_underlying hu]
      · rename_i hu; cases h; cases hx; cases hy; simp [Op.equalIn, run_underlying hu]
      · rename_i hu; cases h; cases hy; cases hx; simp [Op.equalIn, run_underlying hu]
      · rename_i hu; cases h; cases hx; cases hy; simp [Op.equalIn, run_underlying hu]
      · rename_i hu; cases h; cases hy; cases hx; simp [Op.equalIn, run_underlying hu]
      · rename_i ms tx vx ty vy hu
        cases hx with
        | iface _ _ vx' hvx =>
          cases hy with
          | iface _ _ vy' hvy =>
            cases ht : Nat.beq tx ty with
            | false =>
              simp only [ht, cond_false, Option.some.injEq] at h
              subst h
              rw [beq_nat] at ht
              have : ¬ tx = ty := by simpa using ht
              simp [Op.equalIn, run_underlying hu, this]
            | true =>
              simp only [ht, cond_true] at h
              have htt : tx = ty := by simpa using ht
              subst htt
              split at h
              · rename_i i hi
                cases hc : i.comparable with
                | false => simp [hc] at h
                | true =>
                  simp only [hc, cond_true] at h
                  have ih := eqA_ok hM hvx hvy h
                  simp [Op.equalIn, run_underlying hu, typeInfo, hi, hc, ih]
              · cases h
      · cases h

end Go.Proofs.Ytfilbknnpjbmcaa.Cx
