/- Walks for lex: LexTwo. -/
import Derived.Test.YtlingnajbhlpdaaDoorLexK
import Derived.Test.YtlingnajbhlpdaaDoorLexQ
import Derived.Test.YtlingnajbhlpdaaDoorLib2
namespace Go.Proofs.YtlingnajbhlpdaaDoor
open Go.RowKit Lx

theorem tokCells_app : ∀ (a b : List Lx.Tok), tokCells (a ++ b) = tokCells a ++ tokCells b
  | [], _ => rfl
  | t :: a, b => by simp only [List.cons_append, tokCells, tokCells_app a b]
theorem tokCells_one : ∀ (ts : List Lx.Tok), (tokCells ts).all (·.oneCell') = true
  | [] => rfl
  | t :: ts => by simp only [tokCells, List.all_cons, tokCells_one ts]; rfl
theorem tokCells_set (d : Nat) : ∀ (k : Nat) (us : List Lx.Tok) (h : k < us.length), (tokCells (Lx.mv d k us)).set (k * 3 + 2) (.int .i64 ↑(us[k].at_ + d)) = tokCells (Lx.mv d (k + 1) us)
  | 0, t :: us, _ => by simp [Lx.mv, tokCells, Lx.moved]
  | k + 1, t :: us, h => by
    have := tokCells_set d k us (by simpa using h)
    rw [show (k + 1) * 3 + 2 = k * 3 + 2 + 1 + 1 + 1 from by omega]
    simp only [Lx.mv, tokCells, List.set_cons_succ]
    rw [← this]; simp

theorem mv_tok (d k : Nat) (us : List Lx.Tok) (h : k < us.length) : (tokCells (Lx.mv d k us))[k * 3 + 2]? = some (.int .i64 us[k].at_) := by
  have h1 := Lx.mv_at d k us
  have hk : k < (Lx.mv d k us).length := by rw [Lx.mv_len]; exact h
  rw [List.getElem?_eq_getElem hk, List.getElem?_eq_getElem h] at h1
  rw [(tok_at (Lx.mv d k us) k hk).2.2, Option.some.inj h1]

/-- The last byte of a text. -/
theorem last_byte (s : ByteArray) (h : 0 < s.size) : s.data.toList.getLast? = some (s[s.size - 1]) := by
  rw [List.getLast?_eq_getElem?, ← Lib.size_eq, List.getElem?_eq_getElem (by rw [← Lib.size_eq]; omega)]; rfl

theorem cat_data (s t : ByteArray) : (s ++ (⟨#[10]⟩ : ByteArray) ++ t).data.toList = s.data.toList ++ 10 :: t.data.toList := by
  simp
theorem cat_size (s t : ByteArray) : (s ++ (⟨#[10]⟩ : ByteArray) ++ t).size = s.size + 1 + t.size := by
  rw [Lib.size_eq, cat_data, List.length_append, List.length_cons, ← Lib.size_eq, ← Lib.size_eq]; omega
/-- What the document says of two scripts, at what the walk asks. -/
theorem two_bytes (s t : ByteArray) (hs : s.size ≤ 8000) (ht : t.size ≤ 8000) (he : ((Lx.tokens s.data.toList).2.2 != 0) = false) (hc : Lx.Clean s.data.toList) :
    Lx.tokens (s ++ (⟨#[10]⟩ : ByteArray) ++ t).data.toList = if (Lx.tokens t.data.toList).2.2 = 0 then
      ((Lx.tokens s.data.toList).1 ++ ⟨1, [10], s.size⟩ :: (Lx.tokens t.data.toList).1.map (Lx.moved (s.size + 1)), 0, 0)
    else ([], s.size + 1 + (Lx.tokens t.data.toList).2.1, (Lx.tokens t.data.toList).2.2) := by
  have he : (Lx.tokens s.data.toList).2.2 = 0 := by simpa using he
  have h1 : s.data.toList.length = s.size := (Lib.size_eq s).symm
  have h2 : t.data.toList.length = t.size := (Lib.size_eq t).symm
  rw [cat_data, Lx.two s.data.toList t.data.toList (Lx.tokens s.data.toList).1 (Lx.tokens s.data.toList).2.1 (by rw [← he]) hc (by rw [List.length_append, List.length_cons]; omega), h1]

set_option maxRecDepth 100000 in
set_option maxHeartbeats 4000000 in
theorem law_two (s t : ByteArray) (w : World) (hT : Table w) :
    Calls Tryd.prog 6 #[.string s, .string t] w fun e w' => e = .returned (.bool true) ∧ Below w.heap.size w w' := by
  obtain ⟨i0, hi0, hz0, hz1, hz2⟩ := info_parts info_tok
  have HT := Lib.hid hT
  clear hT
  by_cases hbig : s.size ≤ 8000 ∧ t.size ≤ 8000
  · obtain ⟨hs, ht⟩ := hbig
    go_enter Tryd.func6, Tryd.ntmps6
    go_wp2_with fail
    refine (works_any w HT.out).mono ?_
    rintro e w1 ⟨rfl, hb1⟩
    have HB1 := Lib.hid hb1
    clear hb1
    go_wp2_with fail
    refine (tokens_any s w1 (by omega) (HT.out.grows HB1.out)).mono ?_
    rintro e w2 ⟨va, rfl, hoa, hba⟩
    have HOA := Lib.hid hoa
    have HB2 := Lib.hid (HB1.out.trans (hba.mono HB1.out.size))
    have hs1 : w1.heap.size ≤ w2.heap.size := hba.size
    clear hoa hba
    go_wp2_with fail
    refine (tokens_any t w2 (by omega) (HT.out.grows HB2.out)).mono ?_
    rintro e w3 ⟨vb, rfl, hob, hbb⟩
    have HOB := Lib.hid hob
    have HBB := Lib.hid hbb
    have HB3 := Lib.hid (HB2.out.trans (hbb.mono HB2.out.size))
    have hs2 : w2.heap.size ≤ w3.heap.size := hbb.size
    clear hob hbb
    cases he : ((Lx.tokens s.data.toList).2.2 != 0) with
    | true =>
      go_wp2_with fail
      go_ret
      exact ⟨rfl, HB3.out⟩
    | false =>
      by_cases h0 : 0 < s.size
      · cases h92 : (((s[s.size - 1]).toNat : Int) == 92) with
        | true =>
          go_wp2_with fail
          go_ret
          exact ⟨rfl, HB3.out⟩
        | false =>
          go_wp2_with fail
          have HCL : Hid (Lx.Clean s.data.toList) := Lib.hid (by unfold Lx.Clean; rw [last_byte s h0]; intro h; injection h with h; rw [h] at h92; revert h92; decide)
          have HTW := Lib.hid (two_bytes s t hs ht he HCL.out)
          have hsz := cat_size s t
          refine (tokens_any (s ++ (⟨#[10]⟩ : ByteArray) ++ t) w3 (by omega) (HT.out.grows HB3.out)).mono ?_
          clear hsz
          rintro e w4 ⟨vc, rfl, hoc, hbc⟩
          rw [HTW.out] at hoc ⊢
          have HB4 := Lib.hid (HB3.out.trans (hbc.mono HB3.out.size))
          cases hf : ((Lx.tokens t.data.toList).2.2 != 0) with
          | true =>
            have hfn : ¬ (Lx.tokens t.data.toList).2.2 = 0 := by simpa using hf
            rw [if_neg hfn]
            have hpl := Lx.tokens_place t.data.toList
            rw [← Lib.size_eq] at hpl
            clear hoc hbc hfn
            go_wp2_with fail
            go_ret
            refine ⟨ret_bool ?_, HB4.out⟩
            simp
          | false =>
            have hfn : (Lx.tokens t.data.toList).2.2 = 0 := by simpa using hf
            rw [if_pos hfn] at hoc ⊢
            have hfew := Lx.tokens_few s.data.toList
            have hfew2 := Lx.tokens_few t.data.toList
            rw [← Lib.size_eq] at hfew hfew2
            have HWH := Lib.hid (Lx.tokens_where t.data.toList)
            rw [← Lib.size_eq] at HWH
            clear hfn
            generalize (Lx.tokens s.data.toList).1 = ts at *
            generalize (Lx.tokens t.data.toList).1 = us at *
            simp only at hoc
            have HBC := Lib.hid hbc
            have HOC := Lib.hid hoc
            have hs3 : w3.heap.size ≤ w4.heap.size := hbc.size
            have hoa4 := own_below HOA.out ((HBB.out.trans (hbc.mono HBB.out.size)))
            have hszw : w1.heap.size ≤ w4.heap.size := by omega
            clear hbc hoc
            go_wp2_with (first | (at_builtin; refine wpList_append_block_at _ rfl (.tmp 78) (.tmp 82) 25 rfl w1.heap.size 31 i0 _ 3 32 Tryd.underlying25 hi0 hz0 hz1 hz2 rfl (by decide) (by decide) _ _ _ rfl (hoa4.alloc _) w4.heap.size _ _ _ rfl (heap_alloc1 _ _) rfl rfl (by omega) (by simp; omega) ?_; intro va' w5 hoa5 hg5 hat5))
            have hoa2 := HOA.out
            have hob3 := HOB.out
            have hob4 := own_below hob3 (Below.trans (Below.refl _ w3) (show Below w3.heap.size w3 w4 from HBC.out))
            have hoc4 := HOC.out
            have nb : vb.ownBlock = none ∨ vb.ownBlock ≠ va.ownBlock := own_apart hoa2 hob3 (Nat.le_refl _)
            have nc : vc.ownBlock = none ∨ vc.ownBlock ≠ va.ownBlock := own_apart hoa2 hoc4 hs2
            have hob5 := World.ownsRow.kept (hob4.alloc _) hg5 nb
            have hoc5 := World.ownsRow.kept (hoc4.alloc _) hg5 nc
            have hb5 : Below w.heap.size w w5 := below_append1 (HB4.out.mono (Nat.le_refl _)) HB4.out.size (own_base hoa4 HB1.out.size) hg5
            have na : ∀ g, vb.ownBlock = some g → va'.ownBlock ≠ some g := by
              intro g hg he2
              have hgb := own_where hob3 hg
              rcases hat5 with h5 | h5
              · have := own_where hoa2 (h5.symm.trans he2); omega
              · rw [h5] at he2; simp at he2; omega
            have nc2 : ∀ g, vb.ownBlock = some g → vc.ownBlock ≠ some g := by
              intro g hg he2
              have hgb := own_where hob3 hg
              have := own_where hoc4 he2; omega
            have nv : vc.ownBlock = none ∨ vc.ownBlock ≠ va'.ownBlock := by
              rcases hat5 with h5 | h5
              · rw [h5]; exact nc
              · cases hvc : vc.ownBlock with
                | none => exact .inl rfl
                | some q =>
                  refine .inr fun he2 => ?_
                  have := own_where hoc4 hvc
                  rw [h5] at he2; simp at he2; omega
            have NV := Lib.hid nv
            clear nv
            have NA := Lib.hid na
            have NC := Lib.hid nc2
            have HA5 := Lib.hid hoa5
            have HBB5 := Lib.hid hob5
            have HCC5 := Lib.hid hoc5
            have HW5 := Lib.hid hb5
            clear hoa5 hob5 hoc5 hb5 na nc2 nb nc hat5 hg5 hob4 hoc4 hob3 hoa2 hoa4
            obtain ⟨A, cap, rfl, hcap, hAb⟩ := own_slice HBB5.out
            have HAb := Lib.hid hAb
            clear hAb
            generalize hun : us.length = n at *
            have HUN := Lib.hid hun
            clear hun
            go_loopw [14] (fun i wr => ∃ k : Nat, k ≤ n ∧ i = .int .i64 k ∧ Hid (Below w.heap.size w wr) ∧ Hid (wr.ownsRow w1.heap.size 31 3 va' (ts.length + 1) (tokCells ts ++ [.int .u8 1, .string ⟨#[10]⟩, .int .i64 s.size])) ∧
                Hid (wr.ownsRow w3.heap.size 31 3 vc (ts ++ ⟨1, [10], s.size⟩ :: us.map (Lx.moved (s.size + 1))).length (tokCells (ts ++ ⟨1, [10], s.size⟩ :: us.map (Lx.moved (s.size + 1))))) ∧
                Hid (wr.ownsRow w2.heap.size 31 3 (.slice A n cap) n (tokCells (Lx.mv (s.size + 1) k us)))) (fun i _ => n - (intOf i).toNat)
            case atStart => exact ⟨0, Nat.zero_le _, rfl, HW5, HA5, HCC5, HBB5⟩
            case round =>
              obtain ⟨k, hk, rfl, HR1, HR2, HR3, HR4⟩ := hrel
              by_cases hkn : k < n
              · have hku : k < us.length := by rw [HUN.out]; exact hkn
                obtain ⟨g, rfl, _, _, _, _⟩ := HAb.out (by omega)
                obtain ⟨A2, cap2, he2, _, hg2⟩ := own_slice HR4.out
                obtain ⟨g2, hA2, _, _, ⟨cur, hh, hcs⟩, hcell⟩ := hg2 (by omega)
                obtain ⟨hA3, -, rfl⟩ : some (⟨g, 0, none⟩ : Addr) = A2 ∧ n = n ∧ cap = cap2 := by simpa using he2
                obtain rfl : g = g2 := by rw [hA2] at hA3; injection hA3 with h; injection h
                have c2 := hcell _ _ (mv_tok (s.size + 1) k us hku)
                have hfz : wr.frozen? ⟨g, k * 3 + 2, none⟩ = false := by simp [World.frozen?, hh]
                have hat : us[k].at_ ≤ 8000 := by have := HWH.out us[k] (List.getElem_mem _); omega
                have HST := Lib.hid (World.ownsRow.stored HR4.out (k * 3 + 2) (.int .i64 ↑(us[k].at_ + (s.size + 1))))
                have HSE := Lib.hid (tokCells_set (s.size + 1) k us hku)
                clear he2 hg2 hA2 hA3 hcell hh hcs
                generalize us[k].at_ = at_ at *
                go_wp2_with fail
                rw [show ((at_ : Int) + s.size + 1) = ↑(at_ + (s.size + 1)) from by omega]
                have hst := HST.out
                rw [HSE.out] at hst
                have hfar1 := own_far HR2.out g (k * 3 + 2) (.int .i64 ↑(at_ + (s.size + 1))) (NA.out g rfl)
                have hfar2 := own_far HR3.out g (k * 3 + 2) (.int .i64 ↑(at_ + (s.size + 1))) (NC.out g rfl)
                have hgw : w.heap.size ≤ g := by
                  have h1 := (own_where HR4.out (k := g) rfl).1
                  have h2 := HB2.out.size
                  omega
                have hbw := HR1.out.setCell (p := ⟨g, k * 3 + 2, none⟩) hgw (.int .i64 ↑(at_ + (s.size + 1)))
                go_roundw
                case rel => exact ⟨k + 1, by omega, by go_num, Lib.hid hbw, Lib.hid hfar1, Lib.hid hfar2, Lib.hid hst.1⟩
                case measure => simp [intOf]; omega
              · obtain rfl : k = n := by omega
                have h2 := HR2.out
                have h4 := HR4.out
                have hsw : w1.heap.size ≤ wr.heap.size := by
                  rcases h2.2 with ⟨_, h0⟩ | ⟨g, c1, c2, hv, hg, hh, _⟩
                  · omega
                  · have := own_where h2 (k := g) (by rw [hv]; rfl)
                    omega
                go_wp2_with (first | (at_builtin; refine wpList_append_row_want _ (.tmp 107) (.tmp 108) 25 rfl rfl w1.heap.size 31 i0 _ 3 32 Tryd.underlying25 hi0 hz0 hz1 hz2 rfl (by decide) (by decide) _ _ _ rfl h2 w2.heap.size _ _ _ rfl h4 (tokCells_one _) (by omega) hsw ?_; intro va2 w6 hoa6 hg6 _))
                have hlist : tokCells (ts ++ ⟨1, [10], s.size⟩ :: us.map (Lx.moved (s.size + 1))) = (tokCells ts ++ [.int .u8 1, .string ⟨#[10]⟩, .int .i64 s.size]) ++ tokCells (Lx.mv (s.size + 1) k us) := by
                  rw [tokCells_app, ← HUN.out, Lx.mv_all]; simp [tokCells]
                have hlen : (ts ++ (⟨1, [10], s.size⟩ : Lx.Tok) :: us.map (Lx.moved (s.size + 1))).length = ts.length + 1 + k := by simp [HUN.out]; omega
                have hcv := World.ownsRow.kept HR3.out hg6 NV.out
                have hbf := HR1.out.grown hg6 HR1.out.size (fun q hq => by have := (own_where h2 hq).1; have := HB1.out.size; omega)
                have HBF := Lib.hid hbf
                refine (same_any vc va2 (ts ++ ⟨1, [10], s.size⟩ :: us.map (Lx.moved (s.size + 1))) w3.heap.size w1.heap.size w6 (by omega) hcv (by rw [hlist, hlen]; exact hoa6)).mono ?_
                rintro e w7 ⟨rfl, m, rfl⟩
                clear hlist hlen hcv hbf
                go_wp2_with fail
                go_ret
                exact ⟨rfl, below_drewN HBF.out _⟩
      · have HCL : Hid (Lx.Clean s.data.toList) := Lib.hid (by unfold Lx.Clean; rw [show s.data.toList = [] from List.eq_nil_of_length_eq_zero (by rw [← Lib.size_eq]; omega)]; simp)
        go_wp2_with fail
        have HTW := Lib.hid (two_bytes s t hs ht he HCL.out)
        have hsz := cat_size s t
        refine (tokens_any (s ++ (⟨#[10]⟩ : ByteArray) ++ t) w3 (by omega) (HT.out.grows HB3.out)).mono ?_
        clear hsz
        rintro e w4 ⟨vc, rfl, hoc, hbc⟩
        rw [HTW.out] at hoc ⊢
        have HB4 := Lib.hid (HB3.out.trans (hbc.mono HB3.out.size))
        cases hf : ((Lx.tokens t.data.toList).2.2 != 0) with
        | true =>
          have hfn : ¬ (Lx.tokens t.data.toList).2.2 = 0 := by simpa using hf
          rw [if_neg hfn]
          have hpl := Lx.tokens_place t.data.toList
          rw [← Lib.size_eq] at hpl
          clear hoc hbc hfn
          go_wp2_with fail
          go_ret
          refine ⟨ret_bool ?_, HB4.out⟩
          simp
        | false =>
          have hfn : (Lx.tokens t.data.toList).2.2 = 0 := by simpa using hf
          rw [if_pos hfn] at hoc ⊢
          have hfew := Lx.tokens_few s.data.toList
          have hfew2 := Lx.tokens_few t.data.toList
          rw [← Lib.size_eq] at hfew hfew2
          have HWH := Lib.hid (Lx.tokens_where t.data.toList)
          rw [← Lib.size_eq] at HWH
          clear hfn
          generalize (Lx.tokens s.data.toList).1 = ts at *
          generalize (Lx.tokens t.data.toList).1 = us at *
          simp only at hoc
          have HBC := Lib.hid hbc
          have HOC := Lib.hid hoc
          have hs3 : w3.heap.size ≤ w4.heap.size := hbc.size
          have hoa4 := own_below HOA.out ((HBB.out.trans (hbc.mono HBB.out.size)))
          have hszw : w1.heap.size ≤ w4.heap.size := by omega
          clear hbc hoc
          go_wp2_with (first | (at_builtin; refine wpList_append_block_at _ rfl (.tmp 78) (.tmp 82) 25 rfl w1.heap.size 31 i0 _ 3 32 Tryd.underlying25 hi0 hz0 hz1 hz2 rfl (by decide) (by decide) _ _ _ rfl (hoa4.alloc _) w4.heap.size _ _ _ rfl (heap_alloc1 _ _) rfl rfl (by omega) (by simp; omega) ?_; intro va' w5 hoa5 hg5 hat5))
          have hoa2 := HOA.out
          have hob3 := HOB.out
          have hob4 := own_below hob3 (Below.trans (Below.refl _ w3) (show Below w3.heap.size w3 w4 from HBC.out))
          have hoc4 := HOC.out
          have nb : vb.ownBlock = none ∨ vb.ownBlock ≠ va.ownBlock := own_apart hoa2 hob3 (Nat.le_refl _)
          have nc : vc.ownBlock = none ∨ vc.ownBlock ≠ va.ownBlock := own_apart hoa2 hoc4 hs2
          have hob5 := World.ownsRow.kept (hob4.alloc _) hg5 nb
          have hoc5 := World.ownsRow.kept (hoc4.alloc _) hg5 nc
          have hb5 : Below w.heap.size w w5 := below_append1 (HB4.out.mono (Nat.le_refl _)) HB4.out.size (own_base hoa4 HB1.out.size) hg5
          have na : ∀ g, vb.ownBlock = some g → va'.ownBlock ≠ some g := by
            intro g hg he2
            have hgb := own_where hob3 hg
            rcases hat5 with h5 | h5
            · have := own_where hoa2 (h5.symm.trans he2); omega
            · rw [h5] at he2; simp at he2; omega
          have nc2 : ∀ g, vb.ownBlock = some g → vc.ownBlock ≠ some g := by
            intro g hg he2
            have hgb := own_where hob3 hg
            have := own_where hoc4 he2; omega
          have nv : vc.ownBlock = none ∨ vc.ownBlock ≠ va'.ownBlock := by
            rcases hat5 with h5 | h5
            · rw [h5]; exact nc
            · cases hvc : vc.ownBlock with
              | none => exact .inl rfl
              | some q =>
                refine .inr fun he2 => ?_
                have := own_where hoc4 hvc
                rw [h5] at he2; simp at he2; omega
          have NV := Lib.hid nv
          clear nv
          have NA := Lib.hid na
          have NC := Lib.hid nc2
          have HA5 := Lib.hid hoa5
          have HBB5 := Lib.hid hob5
          have HCC5 := Lib.hid hoc5
          have HW5 := Lib.hid hb5
          clear hoa5 hob5 hoc5 hb5 na nc2 nb nc hat5 hg5 hob4 hoc4 hob3 hoa2 hoa4
          obtain ⟨A, cap, rfl, hcap, hAb⟩ := own_slice HBB5.out
          have HAb := Lib.hid hAb
          clear hAb
          generalize hun : us.length = n at *
          have HUN := Lib.hid hun
          clear hun
          go_loopw [14] (fun i wr => ∃ k : Nat, k ≤ n ∧ i = .int .i64 k ∧ Hid (Below w.heap.size w wr) ∧ Hid (wr.ownsRow w1.heap.size 31 3 va' (ts.length + 1) (tokCells ts ++ [.int .u8 1, .string ⟨#[10]⟩, .int .i64 s.size])) ∧
              Hid (wr.ownsRow w3.heap.size 31 3 vc (ts ++ ⟨1, [10], s.size⟩ :: us.map (Lx.moved (s.size + 1))).length (tokCells (ts ++ ⟨1, [10], s.size⟩ :: us.map (Lx.moved (s.size + 1))))) ∧
              Hid (wr.ownsRow w2.heap.size 31 3 (.slice A n cap) n (tokCells (Lx.mv (s.size + 1) k us)))) (fun i _ => n - (intOf i).toNat)
          case atStart => exact ⟨0, Nat.zero_le _, rfl, HW5, HA5, HCC5, HBB5⟩
          case round =>
            obtain ⟨k, hk, rfl, HR1, HR2, HR3, HR4⟩ := hrel
            by_cases hkn : k < n
            · have hku : k < us.length := by rw [HUN.out]; exact hkn
              obtain ⟨g, rfl, _, _, _, _⟩ := HAb.out (by omega)
              obtain ⟨A2, cap2, he2, _, hg2⟩ := own_slice HR4.out
              obtain ⟨g2, hA2, _, _, ⟨cur, hh, hcs⟩, hcell⟩ := hg2 (by omega)
              obtain ⟨hA3, -, rfl⟩ : some (⟨g, 0, none⟩ : Addr) = A2 ∧ n = n ∧ cap = cap2 := by simpa using he2
              obtain rfl : g = g2 := by rw [hA2] at hA3; injection hA3 with h; injection h
              have c2 := hcell _ _ (mv_tok (s.size + 1) k us hku)
              have hfz : wr.frozen? ⟨g, k * 3 + 2, none⟩ = false := by simp [World.frozen?, hh]
              have hat : us[k].at_ ≤ 8000 := by have := HWH.out us[k] (List.getElem_mem _); omega
              have HST := Lib.hid (World.ownsRow.stored HR4.out (k * 3 + 2) (.int .i64 ↑(us[k].at_ + (s.size + 1))))
              have HSE := Lib.hid (tokCells_set (s.size + 1) k us hku)
              clear he2 hg2 hA2 hA3 hcell hh hcs
              generalize us[k].at_ = at_ at *
              go_wp2_with fail
              rw [show ((at_ : Int) + s.size + 1) = ↑(at_ + (s.size + 1)) from by omega]
              have hst := HST.out
              rw [HSE.out] at hst
              have hfar1 := own_far HR2.out g (k * 3 + 2) (.int .i64 ↑(at_ + (s.size + 1))) (NA.out g rfl)
              have hfar2 := own_far HR3.out g (k * 3 + 2) (.int .i64 ↑(at_ + (s.size + 1))) (NC.out g rfl)
              have hgw : w.heap.size ≤ g := by
                have h1 := (own_where HR4.out (k := g) rfl).1
                have h2 := HB2.out.size
                omega
              have hbw := HR1.out.setCell (p := ⟨g, k * 3 + 2, none⟩) hgw (.int .i64 ↑(at_ + (s.size + 1)))
              go_roundw
              case rel => exact ⟨k + 1, by omega, by go_num, Lib.hid hbw, Lib.hid hfar1, Lib.hid hfar2, Lib.hid hst.1⟩
              case measure => simp [intOf]; omega
            · obtain rfl : k = n := by omega
              have h2 := HR2.out
              have h4 := HR4.out
              have hsw : w1.heap.size ≤ wr.heap.size := by
                rcases h2.2 with ⟨_, h0⟩ | ⟨g, c1, c2, hv, hg, hh, _⟩
                · omega
                · have := own_where h2 (k := g) (by rw [hv]; rfl)
                  omega
              go_wp2_with (first | (at_builtin; refine wpList_append_row_want _ (.tmp 107) (.tmp 108) 25 rfl rfl w1.heap.size 31 i0 _ 3 32 Tryd.underlying25 hi0 hz0 hz1 hz2 rfl (by decide) (by decide) _ _ _ rfl h2 w2.heap.size _ _ _ rfl h4 (tokCells_one _) (by omega) hsw ?_; intro va2 w6 hoa6 hg6 _))
              have hlist : tokCells (ts ++ ⟨1, [10], s.size⟩ :: us.map (Lx.moved (s.size + 1))) = (tokCells ts ++ [.int .u8 1, .string ⟨#[10]⟩, .int .i64 s.size]) ++ tokCells (Lx.mv (s.size + 1) k us) := by
                rw [tokCells_app, ← HUN.out, Lx.mv_all]; simp [tokCells]
              have hlen : (ts ++ (⟨1, [10], s.size⟩ : Lx.Tok) :: us.map (Lx.moved (s.size + 1))).length = ts.length + 1 + k := by simp [HUN.out]; omega
              have hcv := World.ownsRow.kept HR3.out hg6 NV.out
              have hbf := HR1.out.grown hg6 HR1.out.size (fun q hq => by have := (own_where h2 hq).1; have := HB1.out.size; omega)
              have HBF := Lib.hid hbf
              refine (same_any vc va2 (ts ++ ⟨1, [10], s.size⟩ :: us.map (Lx.moved (s.size + 1))) w3.heap.size w1.heap.size w6 (by omega) hcv (by rw [hlist, hlen]; exact hoa6)).mono ?_
              rintro e w7 ⟨rfl, m, rfl⟩
              clear hlist hlen hcv hbf
              go_wp2_with fail
              go_ret
              exact ⟨rfl, below_drewN HBF.out _⟩
  · go_enter Tryd.func6, Tryd.ntmps6
    go_wp2_with fail
    refine (works_any w HT.out).mono ?_
    rintro e w1 ⟨rfl, hb1⟩
    have HB1 := Lib.hid hb1
    clear hb1
    have hbg : (8000 : Int) < s.size ∨ ((s.size : Int) ≤ 8000 ∧ (8000 : Int) < t.size) := by omega
    rcases hbg with hbg | ⟨hbg, hbg2⟩
    · go_wp2_with fail
      refine (works_any w1 (HT.out.grows HB1.out)).mono ?_
      rintro e w2 ⟨rfl, hb2⟩
      have HB2 := Lib.hid hb2
      clear hb2
      go_wp2_with fail
      go_ret
      exact ⟨rfl, HB1.out.trans (HB2.out.mono HB1.out.size)⟩
    · go_wp2_with fail
      refine (works_any w1 (HT.out.grows HB1.out)).mono ?_
      rintro e w2 ⟨rfl, hb2⟩
      have HB2 := Lib.hid hb2
      clear hb2
      go_wp2_with fail
      go_ret
      exact ⟨rfl, HB1.out.trans (HB2.out.mono HB1.out.size)⟩
end Go.Proofs.YtlingnajbhlpdaaDoor
