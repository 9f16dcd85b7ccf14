/- Walks of the reference for lex: Tokens. -/
import Derived.Test.YtlingnajbhlpdaaDoorLexG
namespace Go.Proofs.YtlingnajbhlpdaaDoor
open Go.RowKit Lx

theorem toks_blank {c : UInt8} (f p : Nat) (r : Lx.B) (h : Lx.blank c = true) : Lx.toks f p (c :: r) = Lx.toks f (p + 1) r := by
  rw [Lx.toks_gap, Lx.toks_gap f (p + 1) r, Lx.gap_blank h, show p + (1 + Lx.gap false r) = p + 1 + Lx.gap false r from by omega, Nat.add_comm 1, List.drop_succ_cons]
theorem toks_skip (f p : Nat) (r : Lx.B) : Lx.toks f p (92 :: 10 :: r) = Lx.toks f (p + 2) r := by
  rw [Lx.toks_gap, Lx.toks_gap f (p + 2) r, Lx.gap_line, show p + (2 + Lx.gap false r) = p + 2 + Lx.gap false r from by omega, Nat.add_comm 2]; rfl
theorem toks_rem (f p : Nat) (r : Lx.B) : Lx.toks f p (35 :: r) = Lx.toks f (p + Lx.gap true (35 :: r)) ((35 :: r).drop (Lx.gap true (35 :: r))) := by
  rw [Lx.toks_gap, Lx.gap_rem, Lx.gap_true]; rfl

theorem below_append1 {B : Nat} {a w w' : World} {e : TypeId} {size : Nat} {v : Value} {n : Nat} {xs : List Value} {o1 : Obj} (h : Below B a w) (hB : B ≤ w.heap.size) (hown : w.ownsRow B e size v n xs)
    (hg : (w.alloc o1).grownBy w' v.ownBlock) : Below B a w' :=
  (h.alloc hB o1).grown hg (by simp; omega) fun _ hk => (own_where hown hk).1

/-- WHAT HOLDS AT THE HEAD OF THE REFERENCE's LOOP. -/
structure RefInv (s : ByteArray) (R : Sum Nat (List Lx.Tok)) (w : World) (v i : Value) (wr : World) (j f : Nat) (ts : List Lx.Tok) : Prop where
  le : j ≤ s.size
  fuel : s.size - j < f
  at_ : i = .int .i64 j
  few : ts.length ≤ j
  own : wr.ownsRow w.heap.size 31 3 v ts.length (tokCells ts)
  below : Below w.heap.size w wr
  rest : R = behind ts (Lx.toks f j (s.data.toList.drop j))
theorem RefInv.skip {s : ByteArray} {R : Sum Nat (List Lx.Tok)} {w : World} {v i : Value} {wr w1 : World} {j f : Nat} {ts : List Lx.Tok} (h : RefInv s R w v i wr j f ts) (m : Nat) (hm : j ≤ m) (hm2 : m ≤ s.size)
    (ho : wr.ownsRow w.heap.size 31 3 v ts.length (tokCells ts) → w1.ownsRow w.heap.size 31 3 v ts.length (tokCells ts)) (hb : Below w.heap.size wr w1)
    (hstep : Lx.toks f j (s.data.toList.drop j) = Lx.toks f m (s.data.toList.drop m)) : RefInv s R w v (.int .i64 m) w1 m f ts := by
  have h1 := h.fuel
  have h2 := h.few
  exact ⟨hm2, by omega, rfl, by omega, ho h.own, h.below.trans hb, by rw [h.rest, hstep]⟩
theorem RefInv.next {s : ByteArray} {R : Sum Nat (List Lx.Tok)} {w : World} {v i : Value} {wr : World} {j f : Nat} {ts : List Lx.Tok} (h : RefInv s R w v i wr j f ts) {w1 : World} {v' : Value}
    (t : Lx.Tok) (n : Nat) (hn : 1 ≤ n) (hj : j + n ≤ s.size) (hstep : ∀ f', Lx.toks (f' + 1) j (s.data.toList.drop j) = (Lx.toks f' (j + n) (s.data.toList.drop (j + n))).map id (t :: ·))
    (hown : w1.ownsRow w.heap.size 31 3 v' (ts.length + 1) (tokCells ts ++ [.int .u8 t.kind.toNat, .string ⟨t.text.toArray⟩, .int .i64 t.at_])) (hb : Below w.heap.size w w1) :
    RefInv s R w v' (.int .i64 ↑(j + n)) w1 (j + n) (f - 1) (ts ++ [t]) := by
  have h1 := h.fuel
  have h2 := h.few
  obtain ⟨f', rfl⟩ : ∃ f', f = f' + 1 := ⟨f - 1, by omega⟩
  refine ⟨by omega, by omega, rfl, by simp; omega, ?_, hb, ?_⟩
  · rw [tokCells_snoc, List.length_append]; exact hown
  · rw [h.rest, hstep, behind_cons]; rfl
/-- An owned row is kept over what changes nothing below its world's end. -/
theorem own_below {w w1 : World} {base : Nat} {e : TypeId} {size : Nat} {v : Value} {n : Nat} {xs : List Value} (h : w.ownsRow base e size v n xs) (hb : Below w.heap.size w w1) : w1.ownsRow base e size v n xs := by
  refine ⟨h.1, ?_⟩
  have hw : ∀ k, v.ownBlock = some k → base ≤ k ∧ k < w.heap.size := fun k hk => own_where h hk
  rcases h.2 with h | ⟨g, cap, cur, hv, hg, hh, r⟩
  · exact .inl h
  · refine .inr ⟨g, cap, cur, hv, hg, ?_, r⟩
    rw [hb.block g (hw g (by rw [hv]; rfl)).2]; exact hh

theorem nul_cons (c : UInt8) (r : Lx.B) : Lx.nul (c :: r) = if c = 0 then 0 else Lx.nul r + 1 := by
  unfold Lx.nul
  rw [List.idxOf_cons]
  by_cases h : c = 0
  · simp [h]
  · rw [if_neg h, show (c == 0) = false from by simpa using h]; rfl

theorem wordRef_ok (s : ByteArray) (k n : Nat) (w : World) (hs : s.size ≤ 100000) (hk : k ≤ s.size) (hw : Lx.word 0 k 0 (s.data.toList.drop k) = (n, true)) :
    Calls Tryd.prog 20 #[.string s, .int .i64 k] w fun e w' => e = .returned (.tuple #[.int .i64 n, .int .i64 (-1)]) ∧ Below w.heap.size w w' := by
  have := wordRef_any s k w hs hk
  rw [hw] at this
  exact this.mono fun e w' h => ⟨h.2, h.1⟩
theorem wordRef_bad (s : ByteArray) (k n : Nat) (w : World) (hs : s.size ≤ 100000) (hk : k ≤ s.size) (hw : Lx.word 0 k 0 (s.data.toList.drop k) = (n, false)) :
    Calls Tryd.prog 20 #[.string s, .int .i64 k] w fun e w' => e = .returned (.tuple #[.int .i64 n, .int .i64 n]) ∧ Below w.heap.size w w' := by
  have := wordRef_any s k w hs hk
  rw [hw] at this
  exact this.mono fun e w' h => ⟨h.2, h.1⟩

set_option maxRecDepth 100000 in
set_option maxHeartbeats 4000000 in
theorem tokensRef_any (s : ByteArray) (w : World) (hs : s.size ≤ 100000) :
    Calls Tryd.prog 12 #[.string s] w (Told s.data.toList w) := by
  obtain ⟨i0, hi0, hz0, hz1, hz2⟩ := info_parts info_tok
  have HL : Hid (s.data.toList.length = s.size) := Lib.hid (Lib.size_eq s).symm
  by_cases hbig : 16384 < s.size
  · go_enter Tryd.func12, Tryd.ntmps12
    go_wp2
    go_ret3
    exact Told.of (by rw [Lx.tokens, if_pos (by rw [HL.out]; exact hbig)]) rfl rfl (World.ownsRow_nil _ _ _ _) (Below.refl _ _)
  · have HTK : Hid (Lx.tokens s.data.toList = match Lx.toks (s.size + 1) 0 s.data.toList with
        | .inl q => ([], min q (Lx.nul s.data.toList), 63)
        | .inr ts => if Lx.nul s.data.toList < s.size then ([], Lx.nul s.data.toList, 63) else (ts, 0, 0)) := Lib.hid (by rw [Lx.tokens, if_neg (by rw [HL.out]; exact hbig), HL.out]; cases Lx.toks (s.size + 1) 0 s.data.toList <;> rfl)
    have hn := Lx.nul_le s.data.toList
    rw [HL.out] at hn
    go_enter Tryd.func12, Tryd.ntmps12
    go_wp2_with fail
    go_loop [5, 6] (fun nn i => ∃ m : Nat, m ≤ s.size ∧ i = .int .i64 ((m : Int) - 1) ∧ ∃ q : Nat, nn = .int .i64 q ∧ Hid (q = m + Lx.nul (s.data.toList.drop m))) (fun _ i => (intOf i + 1).toNat)
    case atStart => exact ⟨s.size, Nat.le_refl _, by go_num, s.size, rfl, Lib.hid (by rw [at_end _ _ (Nat.le_refl _)]; rfl)⟩
    case round =>
      obtain ⟨m, hm, rfl, q, rfl, HQ⟩ := hrel
      cases m with
      | succ m =>
        have HC := Lib.hid (Lx.at_cons s m (by omega))
        have hlt : m < s.size := by omega
        cases hz : ((s[m].toNat : Int) == 0) with
        | true =>
          have HZ : Hid (s[m] = 0) := Lib.hid (Lx.u8 0 (by simpa using hz) rfl)
          go_wp2
          go_round
          case rel => exact ⟨m, by omega, by go_num, m, by go_num, Lib.hid (by rw [HC.out, HZ.out, nul_cons]; rfl)⟩
          case measure => simp [intOf]
        | false =>
          have HZ : Hid (s[m] ≠ 0) := Lib.hid (by intro h; rw [h] at hz; revert hz; decide)
          go_wp2
          go_round
          case rel => exact ⟨m, by omega, by go_num, q, rfl, Lib.hid (by rw [HQ.out, HC.out, nul_cons, if_neg HZ.out]; omega)⟩
          case measure => simp [intOf]
      | zero =>
        go_wp2_with fail
        have hq : q = Lx.nul s.data.toList := by rw [HQ.out, Nat.zero_add]; rfl
        rw [← hq] at HTK hn
        clear HQ hq
        generalize hR : Lx.toks (s.size + 1) 0 s.data.toList = R at HTK
        have HR := Lib.hid hR
        clear hR
        go_loopw [7, 8] (fun v i wr => ∃ (j f : Nat) (ts : List Lx.Tok), RefInv s R w v i wr j f ts) (fun _ i _ => s.size - (intOf i).toNat)
        case atStart => exact ⟨0, s.size + 1, [], Nat.zero_le _, by omega, rfl, Nat.zero_le _, World.ownsRow_nil _ _ _ _, Below.refl _ _, by rw [behind_nil, ← HR.out]; rfl⟩
        case round =>
          obtain ⟨j, f, ts, HI⟩ := hrel
          obtain rfl := HI.at_
          have HX := Lib.hid HI
          have hj := HI.le
          have hfew := HI.few
          have hown := HI.own
          have hszB := HI.below.size
          clear HI HR
          by_cases hlt : j < s.size
          · have HC := Lib.hid (Lx.at_cons s j hlt)
            have stay : ∀ m, j ≤ m → m ≤ s.size → Lx.toks f j (s.data.toList.drop j) = Lx.toks f m (s.data.toList.drop m) → RefInv s R w u7 (.int .i64 m) wr m f ts := fun m h1 h2 h3 => HX.out.skip m h1 h2 id (Below.refl _ _) h3
            have ST := Lib.hid stay
            clear stay
            cases h32 : ((s[j].toNat : Int) == 32) with
            | true =>
              have H : Hid (s[j] = 32) := Lib.hid (Lx.u8 32 (by simpa using h32) rfl)
              go_wp2
              have hnext := ST.out (j + 1) (by omega) (by omega) (by rw [HC.out, H.out, toks_blank _ _ _ rfl])
              go_roundw
              case rel => exact ⟨_, _, _, hnext⟩
              case measure => simp [intOf]; omega
            | false =>
            cases h9 : ((s[j].toNat : Int) == 9) with
            | true =>
              have H : Hid (s[j] = 9) := Lib.hid (Lx.u8 9 (by simpa using h9) rfl)
              go_wp2
              have hnext := ST.out (j + 1) (by omega) (by omega) (by rw [HC.out, H.out, toks_blank _ _ _ rfl])
              go_roundw
              case rel => exact ⟨_, _, _, hnext⟩
              case measure => simp [intOf]; omega
            | false =>
            cases hI : isAt s.data.toList j [92, 10] with
            | true =>
              have hI2 := hI
              rw [isAt_prefix (by simp)] at hI2
              have HS := Lib.hid (skip_line hlt (by rw [List.take_of_length_le (by rw [len_drop]; exact Nat.le_refl _)]; exact hI2))
              have HP : Hid (Lib.hasPrefix (s.data.toList.drop j) [92, 10] = true) := Lib.hid hI2
              clear hI2
              go_wp2_with (go_at_call 15; refine (is_any s _ _ j _ rfl hs (by decide) (by omega)).mono ?_; rintro e w' ⟨rfl, rfl⟩)
              have hnext := ST.out (j + 2) (by omega) HS.out.1 (by
                obtain ⟨r, hr⟩ := List.isPrefixOf_iff_prefix.1 HP.out
                have hd : s.data.toList.drop (j + 2) = r := by rw [← List.drop_drop, ← hr]; rfl
                rw [hd, ← hr]; exact toks_skip _ _ _)
              go_roundw
              case rel => exact ⟨_, _, _, hnext⟩
              case measure => simp [intOf]; omega
            | false =>
            have HNI : Hid (¬ (s[j] = 92 ∧ (s.data.toList.drop (j + 1)).head? = some 10)) := Lib.hid (skip_not hlt (by rw [List.take_of_length_le (by rw [len_drop]; exact Nat.le_refl _), ← isAt_prefix (by simp)]; exact hI))
            cases h35 : ((s[j].toNat : Int) == 35) with
            | true =>
              have H : Hid (s[j] = 35) := Lib.hid (Lx.u8 35 (by simpa using h35) rfl)
              go_wp2_with (go_at_call 15; refine (is_any s _ _ j _ rfl hs (by decide) (by omega)).mono ?_; rintro e w' ⟨rfl, rfl⟩)
              go_loop [8] (fun i => ∃ m : Nat, j ≤ m ∧ m ≤ s.size ∧ i = .int .i64 m ∧ Hid (m + Lx.gap true (s.data.toList.drop m) = j + Lx.gap true (s.data.toList.drop j))) (fun i => s.size - (intOf i).toNat)
              case atStart => exact ⟨j, Nat.le_refl _, hj, rfl, Lib.hid rfl⟩
              case round =>
                obtain ⟨m, hm1, hm2, rfl, HM⟩ := hrel
                have HG : Hid (1 ≤ Lx.gap true (s.data.toList.drop j)) := Lib.hid (by rw [HC.out, H.out, Lx.gap_true, if_neg (by decide)]; omega)
                have hgap : Lx.toks f j (s.data.toList.drop j) = Lx.toks f (j + Lx.gap true (s.data.toList.drop j)) (s.data.toList.drop (j + Lx.gap true (s.data.toList.drop j))) := by
                  rw [← List.drop_drop, HC.out, H.out]; exact toks_rem _ _ _
                have HGG := Lib.hid hgap
                clear hgap
                by_cases hml : m < s.size
                · have HCM := Lib.hid (Lx.at_cons s m hml)
                  cases hm10 : ((s[m].toNat : Int) == 10) with
                  | true =>
                    have hm10' : ((s[m].toNat : Int) != 10) = false := by simp at hm10; simp [hm10]
                    have HH : Hid (s[m] = 10) := Lib.hid (Lx.u8 10 (by simpa using hm10) rfl)
                    have hme : m = j + Lx.gap true (s.data.toList.drop j) := by rw [← HM.out, HCM.out, HH.out, Lx.gap_true]; rfl
                    have hjm : j < m := by have := HG.out; omega
                    have hnext := ST.out m hm1 hm2 (by rw [hme]; exact HGG.out)
                    have HN := Lib.hid hnext
                    clear hme hnext
                    go_wp2
                    go_roundw
                    case rel => exact ⟨_, _, _, HN.out⟩
                    case measure => simp [intOf]; omega
                  | false =>
                    have hm10' : ((s[m].toNat : Int) != 10) = true := by simp at hm10; simp [hm10]
                    have HH : Hid ((s[m] == 10) = false) := Lib.hid (by rw [Lx.beq8]; simpa using hm10)
                    go_wp2
                    go_round
                    case rel => exact ⟨m + 1, by omega, by omega, by go_num, Lib.hid (by rw [← HM.out, HCM.out, Lx.gap_true, HH.out, if_neg (by decide)]; omega)⟩
                    case measure => simp [intOf]; omega
                · have hme : m = j + Lx.gap true (s.data.toList.drop j) := by rw [← HM.out, at_end _ m (by omega), Lx.gap_nil]; rfl
                  have hjm : j < m := by have := HG.out; omega
                  have hnext := ST.out m hm1 hm2 (by rw [hme]; exact HGG.out)
                  have HN := Lib.hid hnext
                  clear hme hnext
                  go_wp2
                  go_roundw
                  case rel => exact ⟨_, _, _, HN.out⟩
                  case measure => simp [intOf]; omega
            | false =>
            have HN35 : Hid (s[j] ≠ 35) := Lib.hid (by intro h; rw [h] at h35; revert h35; decide)
            have HBL : Hid (Lx.blank s[j] = false) := Lib.hid (by rw [Lx.blank, Lx.beq8, Lx.beq8]; simp at h32 h9; simp; exact ⟨by omega, by omega⟩)
            cases h10 : ((s[j].toNat : Int) == 10) with
            | true =>
              have H : Hid (s[j] = 10) := Lib.hid (Lx.u8 10 (by simpa using h10) rfl)
              go_wp2_with (first | (go_at_call 15; refine (is_any s _ _ j _ rfl hs (by decide) (by omega)).mono ?_; rintro e w' ⟨rfl, rfl⟩) | (at_builtin; refine wpList_append_block _ rfl (.tmp 70) (.tmp 73) 25 rfl w.heap.size 31 i0 _ 3 32 Tryd.underlying25 hi0 hz0 hz1 hz2 rfl (by decide) (by decide) _ _ _ rfl (hown.alloc _) (wr.heap.size) _ _ _ rfl (heap_alloc1 _ _) rfl rfl (by omega) (by simp; omega) ?_; intro v' wn hown1 hgrow1))
              have hb1 := below_append1 HX.out.below hszB hown hgrow1
              clear hgrow1
              go_wp2
              have hnext := HX.out.next ⟨1, [10], j⟩ 1 (by omega) (by omega) (fun f' => by rw [HC.out, H.out, Lx.toks_line]) hown1 hb1
              go_roundw
              case rel => exact ⟨_, _, _, hnext⟩
              case measure => simp [intOf]; omega
            | false =>
            have HN10 : Hid (s[j] ≠ 10) := Lib.hid (by intro h; rw [h] at h10; revert h10; decide)
            cases hoc : Lx.opc s[j] with
            | true =>
              have hE : List.isEmpty (Lx.op (s.data.toList.drop j)) = false := by rw [HC.out, op_empty, hoc]; rfl
              have hlen := Lx.op_len s[j] (s.data.toList.drop (j + 1)) hoc
              rw [← HC.out, len_drop] at hlen
              have HO := Lib.hid hoc
              clear hoc
              go_wp2_with (go_at_call 15; refine (is_any s _ _ j _ rfl hs (by decide) (by omega)).mono ?_; rintro e w' ⟨rfl, rfl⟩)
              refine (opRef_any s j _ hs hj).mono ?_
              rintro e w1 ⟨rfl, hb1⟩
              have HB1 := Lib.hid hb1
              clear hb1
              go_wp2_with fail
              refine (opRef_any s j _ hs hj).mono ?_
              rintro e w2 ⟨rfl, hb2⟩
              have HB2 := Lib.hid hb2
              clear hb2
              have hb12 : Below wr.heap.size wr w2 := HB1.out.trans (HB2.out.mono HB1.out.size)
              have hown2 := own_below hown hb12
              have hbw2 : Below w.heap.size w w2 := HX.out.below.trans (hb12.mono hszB)
              have hszB2 : w.heap.size ≤ w2.heap.size := hbw2.size
              have HBW := Lib.hid hbw2
              clear hb12 hbw2
              go_wp2_with (first | (at_builtin; refine wpList_append_block _ rfl (.tmp 81) (.tmp 87) 25 rfl w.heap.size 31 i0 _ 3 32 Tryd.underlying25 hi0 hz0 hz1 hz2 rfl (by decide) (by decide) _ _ _ rfl (hown2.alloc _) (w2.heap.size) _ _ _ rfl (heap_alloc1 _ _) rfl rfl (by omega) (by simp; omega) ?_; intro v' wn hown1 hgrow1))
              have hb1 := below_append1 HBW.out hszB2 hown2 hgrow1
              clear hgrow1
              go_wp2_with fail
              refine (opRef_any s j _ hs hj).mono ?_
              rintro e w3 ⟨rfl, hb3⟩
              have hb3' := hb1.trans (hb3.mono hb1.size)
              have hown3 := own_below hown1 hb3
              clear hb3
              go_wp2_with fail
              have hnext := HX.out.next ⟨2, Lx.op (s.data.toList.drop j), j⟩ (Lx.op (s.data.toList.drop j)).length (by omega) (by omega) (fun f' => by rw [HC.out, Lx.toks_op _ _ _ _ HO.out, ← HC.out, List.drop_drop]) hown3 hb3'
              go_roundw
              case rel => exact ⟨_, _, _, hnext⟩
              case measure => simp [intOf]; omega
            | false =>
            have hE : List.isEmpty (Lx.op (s.data.toList.drop j)) = true := by rw [HC.out, op_empty, hoc]; rfl
            have HO := Lib.hid hoc
            clear hoc
            have HG : Hid (Lx.gap false (s[j] :: s.data.toList.drop (j + 1)) = 0) := Lib.hid (Lx.gap_none HBL.out HNI.out HN35.out)
            have HW := Lib.hid (Lx.word_bounds (s.data.toList.drop j) j)
            have HP := Lib.hid (Lx.word_pos j (s.data.toList.drop (j + 1)) (show Lx.stop s[j] = false from by have := HN10.out; simp [Lx.stop, HBL.out, HO.out, this]))
            obtain ⟨n, ok, hw⟩ : ∃ n ok, Lx.word 0 j 0 (s.data.toList.drop j) = (n, ok) := ⟨_, _, rfl⟩
            have HWD := Lib.hid hw
            rw [← HC.out, hw] at HP
            rw [hw, len_drop] at HW
            clear hw
            go_wp2_with (go_at_call 15; refine (is_any s _ _ j _ rfl hs (by decide) (by omega)).mono ?_; rintro e w' ⟨rfl, rfl⟩)
            refine (opRef_any s j _ hs hj).mono ?_
            rintro e w1 ⟨rfl, hb1⟩
            have HB1 := Lib.hid hb1
            clear hb1
            go_wp2_with fail
            cases ok with
            | false =>
              refine (wordRef_bad s j n _ hs hj HWD.out).mono ?_
              rintro e w2 ⟨rfl, hb2⟩
              have HB2 := Lib.hid hb2
              clear hb2
              have HR : Hid (R = .inl n) := Lib.hid (by
                obtain ⟨f', hf⟩ : ∃ f', f = f' + 1 := ⟨f - 1, by have := HX.out.fuel; omega⟩
                rw [HX.out.rest, hf, HC.out, Lx.toks_word _ _ _ _ HG.out HO.out HN10.out, ← HC.out, HWD.out]; rfl)
              have HTK2 : Hid (Lx.tokens s.data.toList = ([], min n q, 63)) := Lib.hid (by rw [HTK.out, HR.out])
              clear HTK
              go_wp2_with fail
              go_ret3
              exact Told.of HTK2.out (ret_vii (by omega)) rfl (World.ownsRow_nil _ _ _ _) (HX.out.below.trans ((HB1.out.trans (HB2.out.mono HB1.out.size)).mono hszB))
            | true =>
              have hn1 : j < n := HP.out rfl
              have hn2 : n ≤ s.size := by have := (HW.out.1 rfl).2; simp at this; omega
              have hn0 : j ≤ n := by omega
              refine (wordRef_ok s j n _ hs hj HWD.out).mono ?_
              rintro e w2 ⟨rfl, hb2⟩
              have HB2 := Lib.hid hb2
              clear hb2
              have hb12 : Below wr.heap.size wr w2 := HB1.out.trans (HB2.out.mono HB1.out.size)
              have hown2 := own_below hown hb12
              have hbw2 : Below w.heap.size w w2 := HX.out.below.trans (hb12.mono hszB)
              have hszB2 : w.heap.size ≤ w2.heap.size := hbw2.size
              have HBW := Lib.hid hbw2
              clear hb12 hbw2
              have hkd : Lx.kindOf ((s.data.toList.drop j).take (n - j)) = if ((s.extract j n).toList == [33]) || ((s.extract j n).toList == [123]) || ((s.extract j n).toList == [125]) then 2 else 3 := by
                rw [Lib.extract_toList]; rfl
              cases e33 : ((s.extract j n).toList == [33]) with
              | true =>
                have HK : Hid (Lx.kindOf ((s.data.toList.drop j).take (n - j)) = 2) := Lib.hid (by rw [hkd, e33]; simp)
                clear hkd
                go_wp2_with (first | (at_builtin; refine wpList_append_block _ rfl (.tmp 126) (.tmp 128) 25 rfl w.heap.size 31 i0 _ 3 32 Tryd.underlying25 hi0 hz0 hz1 hz2 rfl (by decide) (by decide) _ _ _ rfl ((hown2.alloc _).alloc _) (w2.heap.size + 1) _ _ _ rfl (heap_alloc2 _ _ _) rfl rfl (by omega) (by simp; omega) ?_; intro v' wn hown1 hgrow1))
                have hb1 := below_append2 HBW.out hszB2 hown2 hgrow1
                clear hgrow1
                go_wp2_with fail
                have hown1' : wn.ownsRow w.heap.size 31 3 v' (ts.length + 1) (tokCells ts ++ [.int .u8 (Lx.kindOf ((s.data.toList.drop j).take (n - j))).toNat, .string ⟨((s.data.toList.drop j).take (n - j)).toArray⟩, .int .i64 j]) := by
                  rw [HK.out, ← Lib.extract_eq]
                  simpa using hown1
                have hnext := HX.out.next ⟨Lx.kindOf ((s.data.toList.drop j).take (n - j)), (s.data.toList.drop j).take (n - j), j⟩ (n - j) (by omega) (by omega)
                  (fun f' => by rw [HC.out, Lx.toks_word _ _ _ _ HG.out HO.out HN10.out, ← HC.out, HWD.out]; show Sum.map id _ (Lx.toks f' n ((s.data.toList.drop j).drop (n - j))) = _; rw [List.drop_drop, show j + (n - j) = n from by omega]) hown1' hb1
                rw [show j + (n - j) = n from by omega] at hnext
                go_roundw
                case rel => exact ⟨_, _, _, hnext⟩
                case measure => simp [intOf]; omega
              | false =>
              cases e123 : ((s.extract j n).toList == [123]) with
              | true =>
                have HK : Hid (Lx.kindOf ((s.data.toList.drop j).take (n - j)) = 2) := Lib.hid (by rw [hkd, e123]; simp)
                clear hkd
                go_wp2_with (first | (at_builtin; refine wpList_append_block _ rfl (.tmp 126) (.tmp 128) 25 rfl w.heap.size 31 i0 _ 3 32 Tryd.underlying25 hi0 hz0 hz1 hz2 rfl (by decide) (by decide) _ _ _ rfl ((hown2.alloc _).alloc _) (w2.heap.size + 1) _ _ _ rfl (heap_alloc2 _ _ _) rfl rfl (by omega) (by simp; omega) ?_; intro v' wn hown1 hgrow1))
                have hb1 := below_append2 HBW.out hszB2 hown2 hgrow1
                clear hgrow1
                go_wp2_with fail
                have hown1' : wn.ownsRow w.heap.size 31 3 v' (ts.length + 1) (tokCells ts ++ [.int .u8 (Lx.kindOf ((s.data.toList.drop j).take (n - j))).toNat, .string ⟨((s.data.toList.drop j).take (n - j)).toArray⟩, .int .i64 j]) := by
                  rw [HK.out, ← Lib.extract_eq]
                  simpa using hown1
                have hnext := HX.out.next ⟨Lx.kindOf ((s.data.toList.drop j).take (n - j)), (s.data.toList.drop j).take (n - j), j⟩ (n - j) (by omega) (by omega)
                  (fun f' => by rw [HC.out, Lx.toks_word _ _ _ _ HG.out HO.out HN10.out, ← HC.out, HWD.out]; show Sum.map id _ (Lx.toks f' n ((s.data.toList.drop j).drop (n - j))) = _; rw [List.drop_drop, show j + (n - j) = n from by omega]) hown1' hb1
                rw [show j + (n - j) = n from by omega] at hnext
                go_roundw
                case rel => exact ⟨_, _, _, hnext⟩
                case measure => simp [intOf]; omega
              | false =>
              cases e125 : ((s.extract j n).toList == [125]) with
              | true =>
                have HK : Hid (Lx.kindOf ((s.data.toList.drop j).take (n - j)) = 2) := Lib.hid (by rw [hkd, e125]; simp)
                clear hkd
                go_wp2_with (first | (at_builtin; refine wpList_append_block _ rfl (.tmp 126) (.tmp 128) 25 rfl w.heap.size 31 i0 _ 3 32 Tryd.underlying25 hi0 hz0 hz1 hz2 rfl (by decide) (by decide) _ _ _ rfl ((hown2.alloc _).alloc _) (w2.heap.size + 1) _ _ _ rfl (heap_alloc2 _ _ _) rfl rfl (by omega) (by simp; omega) ?_; intro v' wn hown1 hgrow1))
                have hb1 := below_append2 HBW.out hszB2 hown2 hgrow1
                clear hgrow1
                go_wp2_with fail
                have hown1' : wn.ownsRow w.heap.size 31 3 v' (ts.length + 1) (tokCells ts ++ [.int .u8 (Lx.kindOf ((s.data.toList.drop j).take (n - j))).toNat, .string ⟨((s.data.toList.drop j).take (n - j)).toArray⟩, .int .i64 j]) := by
                  rw [HK.out, ← Lib.extract_eq]
                  simpa using hown1
                have hnext := HX.out.next ⟨Lx.kindOf ((s.data.toList.drop j).take (n - j)), (s.data.toList.drop j).take (n - j), j⟩ (n - j) (by omega) (by omega)
                  (fun f' => by rw [HC.out, Lx.toks_word _ _ _ _ HG.out HO.out HN10.out, ← HC.out, HWD.out]; show Sum.map id _ (Lx.toks f' n ((s.data.toList.drop j).drop (n - j))) = _; rw [List.drop_drop, show j + (n - j) = n from by omega]) hown1' hb1
                rw [show j + (n - j) = n from by omega] at hnext
                go_roundw
                case rel => exact ⟨_, _, _, hnext⟩
                case measure => simp [intOf]; omega
              | false =>
                have HK : Hid (Lx.kindOf ((s.data.toList.drop j).take (n - j)) = 3) := Lib.hid (by rw [hkd, e33, e123, e125]; rfl)
                clear hkd
                go_wp2_with (first | (at_builtin; refine wpList_append_block _ rfl (.tmp 126) (.tmp 128) 25 rfl w.heap.size 31 i0 _ 3 32 Tryd.underlying25 hi0 hz0 hz1 hz2 rfl (by decide) (by decide) _ _ _ rfl ((hown2.alloc _).alloc _) (w2.heap.size + 1) _ _ _ rfl (heap_alloc2 _ _ _) rfl rfl (by omega) (by simp; omega) ?_; intro v' wn hown1 hgrow1))
                have hb1 := below_append2 HBW.out hszB2 hown2 hgrow1
                clear hgrow1
                go_wp2_with fail
                have hown1' : wn.ownsRow w.heap.size 31 3 v' (ts.length + 1) (tokCells ts ++ [.int .u8 (Lx.kindOf ((s.data.toList.drop j).take (n - j))).toNat, .string ⟨((s.data.toList.drop j).take (n - j)).toArray⟩, .int .i64 j]) := by
                  rw [HK.out, ← Lib.extract_eq]
                  simpa using hown1
                have hnext := HX.out.next ⟨Lx.kindOf ((s.data.toList.drop j).take (n - j)), (s.data.toList.drop j).take (n - j), j⟩ (n - j) (by omega) (by omega)
                  (fun f' => by rw [HC.out, Lx.toks_word _ _ _ _ HG.out HO.out HN10.out, ← HC.out, HWD.out]; show Sum.map id _ (Lx.toks f' n ((s.data.toList.drop j).drop (n - j))) = _; rw [List.drop_drop, show j + (n - j) = n from by omega]) hown1' hb1
                rw [show j + (n - j) = n from by omega] at hnext
                go_roundw
                case rel => exact ⟨_, _, _, hnext⟩
                case measure => simp [intOf]; omega
          · have HE : Hid (R = .inr ts) := Lib.hid (by rw [HX.out.rest, at_end _ _ (by omega), Lx.toks_nil]; simp [behind])
            have HTK2 := HTK.out
            rw [HE.out] at HTK2
            by_cases hql : q < s.size
            · have HTK3 := Lib.hid (HTK2.trans (if_pos hql))
              clear HTK2 HTK
              go_wp2_with fail
              go_ret3
              exact Told.of HTK3.out rfl rfl (World.ownsRow_nil _ _ _ _) HX.out.below
            · have HTK3 := Lib.hid (HTK2.trans (if_neg hql))
              clear HTK2 HTK
              go_wp2_with fail
              go_ret3
              exact Told.of HTK3.out rfl rfl hown HX.out.below
end Go.Proofs.YtlingnajbhlpdaaDoor
