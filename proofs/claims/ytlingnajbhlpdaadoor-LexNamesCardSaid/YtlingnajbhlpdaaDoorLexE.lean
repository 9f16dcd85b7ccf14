/- Walks of lex: Tokens. -/
import Derived.Test.YtlingnajbhlpdaaDoorLexD
namespace Go.Proofs.YtlingnajbhlpdaaDoor
open Go.RowKit Lx

theorem Table.pos {w : World} (h : Table w) : 0 < w.heap.size := by
  obtain ⟨t, fr, h⟩ := h
  rcases Nat.lt_or_ge 0 w.heap.size with h0 | h0
  · exact h0
  · rw [Array.getElem?_eq_none h0] at h; cases h
theorem Table.grows {w w' : World} (h : Table w) (hb : Below w.heap.size w w') : Table w' := h.below hb h.pos

/-- What Tokens hands back: the tokens in memory of its own, a place, an error. -/
def Told (l : Lx.B) (w : World) (e : Ending) (w' : World) : Prop :=
  ∃ v, e = .returned (.tuple #[v, .int .i64 (Lx.tokens l).2.1, .int .i64 (Lx.tokens l).2.2]) ∧ w'.ownsRow w.heap.size 31 3 v (Lx.tokens l).1.length (tokCells (Lx.tokens l).1) ∧ Below w.heap.size w w'
theorem Told.of {l : Lx.B} {w : World} {e : Ending} {w' : World} {ts : List Lx.Tok} {p : Nat} {r : Int} {v : Value} {n : Nat} (h : Lx.tokens l = (ts, p, r)) (he : e = .returned (.tuple #[v, .int .i64 p, .int .i64 r]))
    (hn : n = ts.length) (ho : w'.ownsRow w.heap.size 31 3 v n (tokCells ts)) (hb : Below w.heap.size w w') : Told l w e w' := by
  subst hn; exact ⟨v, by rw [h]; exact he, by rw [h]; exact ho, hb⟩

theorem ret_vii {v : Value} {a b c : Int} (h : a = b) : Ending.returned (.tuple #[v, .int .i64 a, .int .i64 c]) = Ending.returned (.tuple #[v, .int .i64 b, .int .i64 c]) := by rw [h]
theorem tokens_any (s : ByteArray) (w : World) (hs : s.size ≤ 100000) (hT : Table w) :
    Calls Tryd.prog 10 #[.string s] w (Told s.data.toList w) := by
  have HT := Lib.hid hT
  clear hT
  have HL : Hid (s.data.toList.length = s.size) := Lib.hid (Lib.size_eq s).symm
  by_cases hbig : 16384 < s.size
  · go_enter Tryd.func10, Tryd.ntmps10
    go_wp2
    go_ret3
    exact Told.of (by rw [Lx.tokens, if_pos (by rw [HL.out]; exact hbig)]) rfl rfl (World.ownsRow_nil _ _ _ _) (Below.refl _ _)
  · have HTK : Hid (Lx.tokens s.data.toList = match Lx.toks (s.size + 1) 0 s.data.toList with
        | .inl q => ([], min q (Lx.nul s.data.toList), 63)
        | .inr ts => if Lx.nul s.data.toList < s.size then ([], Lx.nul s.data.toList, 63) else (ts, 0, 0)) := Lib.hid (by rw [Lx.tokens, if_neg (by rw [HL.out]; exact hbig), HL.out]; cases Lx.toks (s.size + 1) 0 s.data.toList <;> rfl)
    have hq := Lx.toks_lt (s.size + 1) 0 s.data.toList
    have hn := Lx.nul_le s.data.toList
    rw [HL.out] at hn hq
    generalize hR : Lx.toks (s.size + 1) 0 s.data.toList = R at HTK hq
    have HR := Lib.hid hR
    clear hR
    cases R with
    | inl q =>
      have hq := hq q rfl
      rw [Nat.zero_add] at hq
      have HTK2 : Hid (Lx.tokens s.data.toList = ([], min q (Lx.nul s.data.toList), 63)) := Lib.hid HTK.out
      clear HTK
      generalize hnl : Lx.nul s.data.toList = nl at hn HTK2
      have HNL := Lib.hid hnl
      clear hnl
      have hmin : min (q : Int) nl < s.size := by omega
      go_enter Tryd.func10, Tryd.ntmps10
      go_wp2_with fail
      refine (clone_any s w hs).mono ?_
      rintro e w1 ⟨rfl, hb1⟩
      have HB1 := Lib.hid hb1
      clear hb1
      go_wp2_with fail
      refine (cut_any s w1 hs (HT.out.grows HB1.out)).mono ?_
      rw [HR.out]
      rintro e w2 ⟨hb2, rfl⟩
      have HB2 := Lib.hid hb2
      clear hb2
      go_wp2_with fail
      refine (firstNul_any s w2 hs).mono ?_
      rintro e w3 ⟨rfl, rfl⟩
      rw [HNL.out]
      go_wp2_with fail
      go_ret3
      exact Told.of HTK2.out (ret_vii (by omega)) rfl (World.ownsRow_nil _ _ _ _) (HB1.out.trans (HB2.out.mono HB1.out.size))
    | inr ts =>
      have HTK2 : Hid (Lx.tokens s.data.toList = if Lx.nul s.data.toList < s.size then ([], Lx.nul s.data.toList, 63) else (ts, 0, 0)) := Lib.hid HTK.out
      clear HTK hq
      generalize hnl : Lx.nul s.data.toList = nl at hn HTK2
      have HNL := Lib.hid hnl
      clear hnl
      by_cases hlt : nl < s.size
      · have hmin : min (s.size : Int) nl < s.size := by omega
        have HTK3 := HTK2.out
        rw [if_pos hlt] at HTK3
        have HTK4 := Lib.hid HTK3
        clear HTK3 HTK2
        go_enter Tryd.func10, Tryd.ntmps10
        go_wp2_with fail
        refine (clone_any s w hs).mono ?_
        rintro e w1 ⟨rfl, hb1⟩
        have HB1 := Lib.hid hb1
        clear hb1
        go_wp2_with fail
        refine (cut_any s w1 hs (HT.out.grows HB1.out)).mono ?_
        rw [HR.out]
        rintro e w2 ⟨hb2, v, rfl, ho⟩
        have HB2 := Lib.hid hb2
        have HO := Lib.hid ho
        clear hb2 ho
        go_wp2_with fail
        refine (firstNul_any s w2 hs).mono ?_
        rintro e w3 ⟨rfl, rfl⟩
        rw [HNL.out]
        go_wp2_with fail
        go_ret3
        exact Told.of HTK4.out (ret_vii (by omega)) rfl (World.ownsRow_nil _ _ _ _) (HB1.out.trans (HB2.out.mono HB1.out.size))
      · have hmin : ¬ min (s.size : Int) nl < s.size := by omega
        have HTK3 := HTK2.out
        rw [if_neg hlt] at HTK3
        have HTK4 := Lib.hid HTK3
        clear HTK3 HTK2
        go_enter Tryd.func10, Tryd.ntmps10
        go_wp2_with fail
        refine (clone_any s w hs).mono ?_
        rintro e w1 ⟨rfl, hb1⟩
        have HB1 := Lib.hid hb1
        clear hb1
        go_wp2_with fail
        refine (cut_any s w1 hs (HT.out.grows HB1.out)).mono ?_
        rw [HR.out]
        rintro e w2 ⟨hb2, v, rfl, ho⟩
        have HB2 := Lib.hid hb2
        have HO := Lib.hid ho
        clear hb2 ho
        go_wp2_with fail
        refine (firstNul_any s w2 hs).mono ?_
        rintro e w3 ⟨rfl, rfl⟩
        rw [HNL.out]
        go_wp2_with fail
        go_ret3
        exact Told.of HTK4.out rfl rfl (own_base HO.out HB1.out.size) (HB1.out.trans (HB2.out.mono HB1.out.size))
end Go.Proofs.YtlingnajbhlpdaaDoor
