/- Walks of lex: cut and Tokens. -/
import Derived.Test.YtlingnajbhlpdaaDoorLexC
import Derived.Test.YtlingnajbhlpdaaDoorLib
import Derived.Laws.EntriesVeiled
import Derived.Deep.RegionWith
import Derived.Deep.RegionLaw
import Derived.Deep.DeepCutAuto
import Derived.StillTailTactics
namespace Go.Proofs.YtlingnajbhlpdaaDoor
open Go.RowKit Lx

/-- The cells of a list of tokens. -/
def tokCells : List Lx.Tok → List Value
  | [] => []
  | t :: ts => .int .u8 t.kind.toNat :: .string ⟨t.text.toArray⟩ :: .int .i64 t.at_ :: tokCells ts
/-- What comes of a list's rest, behind tokens that are there. -/
def behind (ts : List Lx.Tok) : Sum Nat (List Lx.Tok) → Sum Nat (List Lx.Tok)
  | .inl q => .inl q
  | .inr us => .inr (ts ++ us)
/-- What cut hands back: tokens in memory of its own, or none and a place. -/
def Cuts (s : ByteArray) (R : Sum Nat (List Lx.Tok)) (w : World) (e : Ending) (w' : World) : Prop :=
  Below w.heap.size w w' ∧ match R with
    | .inl q => e = .returned (.tuple #[.slice none 0 0, .int .i64 q])
    | .inr ts => ∃ v, e = .returned (.tuple #[v, .int .i64 s.size]) ∧ w'.ownsRow w.heap.size 31 3 v ts.length (tokCells ts)

theorem tokCells_len : ∀ ts : List Lx.Tok, (tokCells ts).length = ts.length * 3
  | [] => rfl
  | t :: ts => by simp only [tokCells, List.length_cons, tokCells_len ts]; omega
theorem tokCells_snoc : ∀ (ts : List Lx.Tok) (t : Lx.Tok), tokCells (ts ++ [t]) = tokCells ts ++ [.int .u8 t.kind.toNat, .string ⟨t.text.toArray⟩, .int .i64 t.at_]
  | [], t => rfl
  | u :: ts, t => by simp only [List.cons_append, tokCells, tokCells_snoc ts t]
theorem behind_cons (ts : List Lx.Tok) (t : Lx.Tok) (x : Sum Nat (List Lx.Tok)) : behind ts (x.map id (t :: ·)) = behind (ts ++ [t]) x := by
  cases x <;> simp [behind, Sum.map]
theorem behind_nil (x : Sum Nat (List Lx.Tok)) : behind [] x = x := by cases x <;> rfl
theorem Table.below {B : Nat} {w w' : World} (h : Table w) (hb : Below B w w') (hB : 0 < B) : Table w' := by
  obtain ⟨t, fr, h⟩ := h
  exact ⟨t, fr, by rw [hb.block _ hB]; exact h⟩

/-- WHAT HOLDS AT THE HEAD OF cut's LOOP: j the place, ts the tokens up to there. -/
structure CutInv (s : ByteArray) (R : Sum Nat (List Lx.Tok)) (B : Nat) (w2 : World) (v i : Value) (wr : World) (j f : Nat) (ts : List Lx.Tok) : Prop where
  le : j ≤ s.size
  fuel : s.size - j < f
  at_ : i = .int .i64 j
  few : ts.length ≤ j
  own : wr.ownsRow (B + 2) 31 3 v ts.length (tokCells ts)
  below : Below (B + 2) w2 wr
  gap : Lx.gap false (s.data.toList.drop j) = 0
  rest : R = behind ts (Lx.toks f j (s.data.toList.drop j))
theorem CutInv.drew {s : ByteArray} {R : Sum Nat (List Lx.Tok)} {B : Nat} {w2 : World} {v i : Value} {wr : World} {j f : Nat} {ts : List Lx.Tok} (h : CutInv s R B w2 v i wr j f ts) : CutInv s R B w2 v i wr.drew j f ts :=
  ⟨h.le, h.fuel, h.at_, h.few, h.own, h.below.drew, h.gap, h.rest⟩
theorem CutInv.next {s : ByteArray} {R : Sum Nat (List Lx.Tok)} {B : Nat} {w2 : World} {v i : Value} {wr : World} {j f : Nat} {ts : List Lx.Tok} (h : CutInv s R B w2 v i wr j f ts) {w1 : World} {v' : Value}
    (t : Lx.Tok) (n : Nat) (hn : 1 ≤ n) (hj : j + n ≤ s.size) (hstep : ∀ f', Lx.toks (f' + 1) j (s.data.toList.drop j) = (Lx.toks f' (j + n) (s.data.toList.drop (j + n))).map id (t :: ·))
    (hown : w1.ownsRow (B + 2) 31 3 v' (ts.length + 1) (tokCells ts ++ [.int .u8 t.kind.toNat, .string ⟨t.text.toArray⟩, .int .i64 t.at_])) (hb : Below (B + 2) w2 w1) :
    CutInv s R B w2 v' (.int .i64 ↑(j + n + Lx.gap false (s.data.toList.drop (j + n)))) w1 (j + n + Lx.gap false (s.data.toList.drop (j + n))) (f - 1) (ts ++ [t]) := by
  have hgl : Lx.gap false (s.data.toList.drop (j + n)) ≤ s.size - (j + n) := by have := Lx.gap_le (s.data.toList.drop (j + n)) false; rwa [len_drop] at this
  have h1 := h.fuel
  have h2 := h.few
  obtain ⟨f', rfl⟩ : ∃ f', f = f' + 1 := ⟨f - 1, by omega⟩
  refine ⟨by omega, by omega, rfl, by simp; omega, ?_, hb, ?_, ?_⟩
  · rw [tokCells_snoc, List.length_append]; exact hown
  · rw [← List.drop_drop]; exact Lx.gap_gap _
  · rw [h.rest, hstep, behind_cons, Lx.toks_gap, List.drop_drop]; rfl
theorem info_tok : (Tryd.prog.info? 31).map (fun i => (i.zero, i.size, i.bytes)) = some (some (.agg #[.int .u8 0, .string ⟨#[]⟩, .int .i64 0]), 3, 32) := by kernel_rfl

set_option maxHeartbeats 2000000 in
theorem cut_any (s : ByteArray) (w : World) (hs : s.size ≤ 100000) (hT : Table w) :
    Calls Tryd.prog 16 #[.string s] w (Cuts s (Lx.toks (s.size + 1) 0 s.data.toList) w) := by
  obtain ⟨i0, hi0, hz0, hz1, hz2⟩ := info_parts info_tok
  obtain ⟨R, hR⟩ : ∃ R, R = Lx.toks (s.size + 1) 0 s.data.toList := ⟨_, rfl⟩
  rw [← hR]
  have HR := Lib.hid hR
  have HT := Lib.hid hT
  clear hR hT
  have hg0 : Lx.gap false (s.data.toList.drop 0) ≤ s.size := by have := Lx.gap_le (s.data.toList.drop 0) false; rwa [len_drop, Nat.sub_zero] at this
  go_enter Tryd.func16, Tryd.ntmps16
  go_wp2_with fail
  refine (skipGap_any s 0 _ hs (Nat.zero_le _)).mono ?_
  rintro e w' ⟨rfl, rfl⟩
  go_wp2_with fail
  have hB2 : Below w.heap.size w ((w.alloc (Obj.cells #[Value.string s] 9)).alloc (Obj.cells #[Value.func (Fn.func 21) #[] #[Value.pointer (some { block := w.heap.size, off := 0 })]] 46)) :=
    ((Below.refl _ _).alloc (Nat.le_refl _) _).alloc (by simp) _
  have hc1 : ((w.alloc (Obj.cells #[Value.string s] 9)).alloc (Obj.cells #[Value.func (Fn.func 21) #[] #[Value.pointer (some { block := w.heap.size, off := 0 })]] 46)).cell? ⟨w.heap.size, 0, none⟩ = some (.string s) := by go_simp
  have hc2 : ((w.alloc (Obj.cells #[Value.string s] 9)).alloc (Obj.cells #[Value.func (Fn.func 21) #[] #[Value.pointer (some { block := w.heap.size, off := 0 })]] 46)).cell? ⟨w.heap.size + 1, 0, none⟩ = some (opFn w.heap.size) := by unfold opFn; go_simp
  have hsz : ((w.alloc (Obj.cells #[Value.string s] 9)).alloc (Obj.cells #[Value.func (Fn.func 21) #[] #[Value.pointer (some { block := w.heap.size, off := 0 })]] 46)).heap.size = w.heap.size + 2 := by simp
  have hT2 : Table ((w.alloc (Obj.cells #[Value.string s] 9)).alloc (Obj.cells #[Value.func (Fn.func 21) #[] #[Value.pointer (some { block := w.heap.size, off := 0 })]] 46)) := by
    obtain ⟨t, fr, h⟩ := HT.out
    exact ⟨t, fr, by rw [hB2.block 0 (by rcases Nat.eq_zero_or_pos w.heap.size with h0 | h0; · rw [Array.getElem?_eq_none (by omega)] at h; cases h
                                         · exact h0)]; exact h⟩
  generalize ((w.alloc (Obj.cells #[Value.string s] 9)).alloc (Obj.cells #[Value.func (Fn.func 21) #[] #[Value.pointer (some { block := w.heap.size, off := 0 })]] 46)) = w2 at *
  have HB2 := Lib.hid hB2
  have HC1 := Lib.hid hc1
  have HC2 := Lib.hid hc2
  have HSZ := Lib.hid hsz
  have HT2 := Lib.hid hT2
  clear hB2 hc1 hc2 hsz hT2
  generalize hBq : w.heap.size = B at *
  have HBQ := Lib.hid hBq
  clear hBq
  go_loopw [6, 7] (fun v i wr => ∃ (j f : Nat) (ts : List Lx.Tok), CutInv s R B w2 v i wr j f ts) (fun _ i _ => s.size - (intOf i).toNat)
  case atStart =>
    refine ⟨Lx.gap false s.data.toList, s.size + 1, [], ⟨hg0, by omega, rfl, Nat.zero_le _, World.ownsRow_nil _ _ _ _, Below.refl _ _, Lx.gap_gap _, ?_⟩⟩
    rw [behind_nil, HR.out, Lx.toks_gap, Nat.zero_add]
  case round =>
    obtain ⟨j, f, ts, HI⟩ := hrel
    obtain rfl := HI.at_
    have HL := Lib.hid HI
    have hc1 : wr.cell? ⟨B, 0, none⟩ = some (.string s) := (HI.below.cell (by simp)).trans HC1.out
    have hc2 : wr.cell? ⟨B + 1, 0, none⟩ = some (opFn B) := (HI.below.cell (by simp)).trans HC2.out
    have HTr := Lib.hid (HT2.out.below HI.below (by omega))
    have hj := HI.le
    clear HI HR HT
    unfold opFn at hc2
    by_cases hlt : j < s.size
    · have HC := Lib.hid (Lx.at_cons s j hlt)
      have HE := Lib.hid (op_empty s[j] (s.data.toList.drop (j + 1)))
      have hown := HL.out.own
      have hsz := HL.out.below.size
      cases h10 : ((s[j].toNat : Int) == 10) with
      | true =>
        have H10 : Hid (s[j] = 10) := Lib.hid (Lx.u8 10 (by simpa using h10) rfl)
        have hgl : Lx.gap false (s.data.toList.drop (j + 1)) ≤ s.size - (j + 1) := by have := Lx.gap_le (s.data.toList.drop (j + 1)) false; rwa [len_drop] at this
        have hA1 : ∀ o, (wr.alloc o).cell? ⟨B, 0, none⟩ = some (.string s) := fun o => (World.cell?_alloc_lt wr o _ (by have := HSZ.out; simp; omega)).trans hc1
        have hfew := HL.out.few
        have hszB : B + 2 ≤ wr.heap.size := by have := HSZ.out; omega
        go_wp2_with (first | (go_at_call 21; refine (opAt_any _ _ _ _ hs hj hc1 HTr.out).mono ?_; rintro e w' ⟨rfl, rfl⟩) | (at_builtin; refine wpList_append_block _ rfl (.tmp 54) (.tmp 56) 25 rfl (B + 2) 31 i0 _ 3 32 Tryd.underlying25 hi0 hz0 hz1 hz2 rfl (by decide) (by decide) _ _ _ rfl ((hown.alloc _).alloc _) (wr.heap.size + 1) _ _ _ rfl (heap_alloc2 _ _ _) rfl rfl (by omega) (by simp; omega) ?_; intro v' w1 hown1 hgrow1; have hb1 := below_append2 HL.out.below hszB hown hgrow1; have hk1 := cell_of_row w1 _ 1 _ _ _ (block_append2 hown hgrow1); have hcs := (hb1.cell (p := ⟨B, 0, none⟩) (by simp)).trans HC1.out; clear hgrow1) | (go_at_call 25; refine (skipGap_int s _ (j + 1) _ (by simp) hs (by omega)).mono ?_; rintro e w' ⟨rfl, rfl⟩))
        have hnext := HL.out.next ⟨1, [10], j⟩ 1 (by omega) (by omega) (fun f' => by rw [HC.out, H10.out, Lx.toks_line]) hown1 hb1
        go_roundw
        case rel => exact ⟨_, _, _, hnext⟩
        case measure => simp [intOf]; omega
      | false =>
        have H10 : Hid (s[j] ≠ 10) := Lib.hid (by intro h; rw [h] at h10; revert h10; decide)
        have hA1 : ∀ o, (wr.alloc o).cell? ⟨B, 0, none⟩ = some (.string s) := fun o => (World.cell?_alloc_lt wr o _ (by have := HSZ.out; simp; omega)).trans hc1
        have hfew := HL.out.few
        have hszB : B + 2 ≤ wr.heap.size := by have := HSZ.out; omega
        cases hoc : Lx.opc s[j] with
        | true =>
          have hE : List.isEmpty (Lx.op (s.data.toList.drop j)) = false := by rw [HC.out, HE.out, hoc]; rfl
          have hlen := Lx.op_len s[j] (s.data.toList.drop (j + 1)) hoc
          rw [← HC.out, len_drop] at hlen
          go_wp2_with (first | (go_at_call 21; refine (opAt_any _ _ _ _ hs hj hc1 HTr.out).mono ?_; rintro e w' ⟨rfl, rfl⟩) | (at_builtin; refine wpList_append_block _ rfl (.tmp 54) (.tmp 56) 25 rfl (B + 2) 31 i0 _ 3 32 Tryd.underlying25 hi0 hz0 hz1 hz2 rfl (by decide) (by decide) _ _ _ rfl ((hown.alloc _).alloc _) (wr.heap.size + 1) _ _ _ rfl (heap_alloc2 _ _ _) rfl rfl (by omega) (by simp; omega) ?_; intro v' w1 hown1 hgrow1; have hb1 := below_append2 HL.out.below hszB hown hgrow1; have hk1 := cell_of_row w1 _ 1 _ _ _ (block_append2 hown hgrow1); have hcs := (hb1.cell (p := ⟨B, 0, none⟩) (by simp)).trans HC1.out; clear hgrow1) | (go_at_call 25; refine (skipGap_int s _ (j + (Lx.op (s.data.toList.drop j)).length) _ (by simp) hs (by omega)).mono ?_; rintro e w' ⟨rfl, rfl⟩))
          have hnext := HL.out.next ⟨2, Lx.op (s.data.toList.drop j), j⟩ (Lx.op (s.data.toList.drop j)).length (by omega) (by omega) (fun f' => by rw [HC.out, Lx.toks_op _ _ _ _ hoc, ← HC.out, List.drop_drop]) hown1 hb1
          go_roundw
          case rel => exact ⟨_, _, _, hnext⟩
          case measure => simp [intOf]; omega
        | false =>
          have hE : List.isEmpty (Lx.op (s.data.toList.drop j)) = true := by rw [HC.out, HE.out, hoc]; rfl
          have hg := HL.out.gap
          rw [HC.out] at hg
          have hbl : Lx.blank s[j] = false := by
            cases hb : Lx.blank s[j] with
            | false => rfl
            | true => rw [Lx.gap_blank hb] at hg; omega
          have hst : Lx.stop s[j] = false := by
            have := H10.out
            simp [Lx.stop, hbl, hoc, this]
          have HW := Lib.hid (Lx.word_bounds (s.data.toList.drop j) j)
          have HP := Lib.hid (Lx.word_pos j (s.data.toList.drop (j + 1)) hst)
          have HG := Lib.hid hg
          have HOC := Lib.hid hoc
          have HH := Lib.hid h10
          have hA2 : ∀ o, (wr.alloc o).cell? ⟨B + 1, 0, none⟩ = some (.func (.func 21) #[] #[.pointer (some ⟨B, 0, none⟩)]) := fun o => (World.cell?_alloc_lt wr o _ (by have := HSZ.out; simp; omega)).trans hc2
          have HTA : ∀ o, Hid (Table (wr.alloc o)) := fun o => Lib.hid (HTr.out.below ((Below.refl wr.heap.size wr).alloc (Nat.le_refl _) o) (by omega))
          obtain ⟨n, ok, hw⟩ : ∃ n ok, Lx.word 0 j 0 (s.data.toList.drop j) = (n, ok) := ⟨_, _, rfl⟩
          have HWD := Lib.hid hw
          rw [← HC.out, hw] at HP
          rw [hw, len_drop] at HW
          clear hg hbl hst hoc hw
          cases ok with
          | false =>
            go_wp2_with (first | (go_at_call 21; refine (opAt_any _ _ _ _ hs hj hc1 HTr.out).mono ?_; rintro e w' ⟨rfl, rfl⟩) | (go_at_call 26; refine (wordEnd_at _ _ _ _ _ _ _ hs hj (hA1 _) (hA2 _) (HTA _).out HWD.out).mono ?_; rintro e w' ⟨rfl, rfl⟩))
            go_ret2
            have h := HL.out
            have hr : R = .inl n := by
              obtain ⟨f', hf⟩ : ∃ f', f = f' + 1 := ⟨f - 1, by have := h.fuel; omega⟩
              rw [h.rest, hf, HC.out, Lx.toks_word _ _ _ _ HG.out HOC.out H10.out, ← HC.out, HWD.out]; rfl
            refine ⟨by rw [HBQ.out]; exact (HB2.out.trans (h.below.mono (by omega))).alloc (by omega) _, ?_⟩
            rw [hr]
            rfl
          | true =>
            have hn1 : j < n := HP.out rfl
            have hn2 : n ≤ s.size := by have := (HW.out.1 rfl).2; simp at this; omega
            have hn0 : j ≤ n := by omega
            go_wp2_with (first | (go_at_call 21; refine (opAt_any _ _ _ _ hs hj hc1 HTr.out).mono ?_; rintro e w' ⟨rfl, rfl⟩) | (go_at_call 26; refine (wordEnd_at _ _ _ _ _ _ _ hs hj (hA1 _) (hA2 _) (HTA _).out HWD.out).mono ?_; rintro e w' ⟨rfl, rfl⟩))
            obtain ⟨wd, hwd⟩ : ∃ wd, wd = wr.drew := ⟨_, rfl⟩
            have HD : Hid (CutInv s R B w2 u6 (.int .i64 ↑j) wd j f ts) := Lib.hid (hwd ▸ HL.out.drew)
            have hownd := HD.out.own
            have hszd : B + 2 ≤ wd.heap.size := by rw [hwd]; exact hszB
            have HWd := Lib.hid hwd
            clear hwd
            go_cut [] from 43 to 53 (fun wx => wx = wd.alloc (Obj.cells #[.int .u8 (Lx.kindOf ((s.data.toList.drop j).take (n - j))).toNat, .string (s.extract j n), .int .i64 j] 31))
            case first =>
              go_region_with (go_at_call 27; refine (wordKind_any _ _).mono ?_; rintro e w' ⟨rfl, rfl⟩)
              all_goals (go_wp2_with fail; go_meet; rw [HWd.out]; rfl)
            case rest =>
              subst hcut
              rw [show wr.heap.size = wd.heap.size from by rw [HWd.out]; rfl]
              have hlen : (s.extract j n).size = n - j := by rw [Lib.size_eq, Lib.extract_data, List.length_take, len_drop]; omega
              go_wp2_with (first | (at_builtin; refine wpList_append_block _ rfl (.tmp 54) (.tmp 56) 25 rfl (B + 2) 31 i0 _ 3 32 Tryd.underlying25 hi0 hz0 hz1 hz2 rfl (by decide) (by decide) _ _ _ rfl ((hownd.alloc _).alloc _) (wd.heap.size + 1) _ _ _ rfl (heap_alloc2 _ _ _) rfl rfl (by omega) (by simp; omega) ?_; intro v' w1 hown1 hgrow1; have hb1 := below_append2 HD.out.below hszd hownd hgrow1; have hk1 := cell_of_row w1 _ 1 _ _ _ (block_append2 hownd hgrow1); have hcs := (hb1.cell (p := ⟨B, 0, none⟩) (by simp)).trans HC1.out; clear hgrow1) | (go_at_call 25; refine (skipGap_int s _ (j + (n - j)) _ (by omega) hs (by omega)).mono ?_; rintro e w' ⟨rfl, rfl⟩))
              rw [Lib.extract_eq] at hown1
              have hnext := HD.out.next ⟨Lx.kindOf ((s.data.toList.drop j).take (n - j)), (s.data.toList.drop j).take (n - j), j⟩ (n - j) (by omega) (by omega)
                (fun f' => by rw [HC.out, Lx.toks_word _ _ _ _ HG.out HOC.out H10.out, ← HC.out, HWD.out]; show Sum.map id _ (Lx.toks f' n ((s.data.toList.drop j).drop (n - j))) = _; rw [List.drop_drop, show j + (n - j) = n from by omega]) hown1 hb1
              rw [show j + (n - j) = n from by omega] at hnext
              go_roundw
              case rel => exact ⟨_, _, _, hnext⟩
              case measure => simp [intOf]; omega
    · go_wp2_with fail
      go_quiet (fail)
      go_wp2
      go_ret2
      have h := HL.out
      have hr : R = .inr ts := by rw [h.rest, at_end _ _ (by omega), Lx.toks_nil]; simp [behind]
      refine ⟨by rw [HBQ.out]; exact below_drewN (HB2.out.trans (h.below.mono (by omega))) _, ?_⟩
      rw [hr]
      exact ⟨_, rfl, by rw [HBQ.out]; exact own_drewN (own_base h.own (by omega)) _⟩
theorem nul_index : ∀ l : Lx.B, (Lx.nul l : Int) = if Lib.indexByte l 0 = -1 then (l.length : Int) else Lib.indexByte l 0
  | [] => by simp [Lx.nul, Lib.indexByte]
  | c :: r => by
    have ih := nul_index r
    have hg := Lib.indexByte_ge r 0
    unfold Lx.nul at ih ⊢
    rw [List.idxOf_cons, Lib.indexByte]
    by_cases h : c = 0
    · simp [h]
    · have h' : (c == 0) = false := by simpa using h
      simp only [h', cond_false, Bool.false_eq_true, if_false, List.length_cons]
      by_cases h2 : Lib.indexByte r 0 = -1
      · rw [if_pos h2] at ih; simp [h2]; omega
      · rw [if_neg h2] at ih; simp only [beq_iff_eq, h2, if_false]; rw [if_neg (by omega)]; omega

theorem firstNul_any (s : ByteArray) (w : World) (_hs : s.size ≤ 100000) :
    Calls Tryd.prog 18 #[.string s] w fun e w' => e = .returned (.int .i64 ↑(Lx.nul s.data.toList)) ∧ w = w' := by
  have hn := nul_index s.data.toList
  have hx := Lib.indexByte_ge s.data.toList 0
  have hl : s.data.toList.length = s.size := (Lib.size_eq s).symm
  rw [hl] at hn
  generalize Lx.nul s.data.toList = g at hn ⊢
  generalize hxd : Lib.indexByte s.data.toList 0 = x at hn hx
  have HX := Lib.hid hxd
  have HN := Lib.hid hn
  clear hxd hl hn
  by_cases hx1 : x < 0
  · go_enter Tryd.func18, Tryd.ntmps18
    go_wp2_with (go_at_call 29; refine (Tryd.strings_IndexByte _ _ _).mono ?_; rintro e w' ⟨rfl, rfl⟩; rw [show (Int.toNat 0).toUInt8 = 0 from rfl, HX.out])
    go_ret
    have := HN.out
    rw [if_pos (by omega)] at this
    exact ⟨ret_int (by omega), rfl⟩
  · go_enter Tryd.func18, Tryd.ntmps18
    go_wp2_with (go_at_call 29; refine (Tryd.strings_IndexByte _ _ _).mono ?_; rintro e w' ⟨rfl, rfl⟩; rw [show (Int.toNat 0).toUInt8 = 0 from rfl, HX.out])
    go_ret
    have := HN.out
    rw [if_neg (by omega)] at this
    exact ⟨ret_int (by omega), rfl⟩

theorem clone_any (s : ByteArray) (w : World) (hs : s.size ≤ 100000) :
    Calls Tryd.prog 17 #[.string s] w fun e w' => e = .returned (.string s) ∧ Below w.heap.size w w' := by
  go_enter Tryd.func17, Tryd.ntmps17
  go_wp2_with (go_at_call 28; refine (Tryd.stringslite_Clone _ _ (by omega)).mono ?_; rintro e w' ⟨rfl, hb⟩)
  go_ret
  exact ⟨rfl, hb⟩

end Go.Proofs.YtlingnajbhlpdaaDoor
