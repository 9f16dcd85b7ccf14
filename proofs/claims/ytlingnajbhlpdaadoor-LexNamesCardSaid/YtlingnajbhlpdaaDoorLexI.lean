/- Walks for lex: Same. -/
import Derived.Test.YtlingnajbhlpdaaDoorLexH
import Derived.Test.YtlingnajbhlpdaaDoorLexP
namespace Go.Proofs.YtlingnajbhlpdaaDoor
open Go.RowKit Lx

/-- The shape of a slice that owns a row. -/
theorem own_slice {w : World} {base : Nat} {e : TypeId} {size : Nat} {v : Value} {n : Nat} {xs : List Value} (h : w.ownsRow base e size v n xs) :
    ∃ A cap, v = .slice A n cap ∧ n ≤ cap ∧ (0 < n → ∃ g, A = some ⟨g, 0, none⟩ ∧ base ≤ g ∧ g < w.heap.size ∧ (∃ cur, w.heap[g]? = some (.cells cur e (0, 0)) ∧ cur.size = cap * size) ∧ ∀ i u, xs[i]? = some u → w.cell? ⟨g, i, none⟩ = some u) := by
  have hl := h.1
  have hw : ∀ k, v.ownBlock = some k → base ≤ k ∧ k < w.heap.size := fun k hk => own_where h hk
  rcases h.2 with ⟨rfl, rfl⟩ | ⟨g, cap, cur, rfl, hg, hh, hc, _, hcs, hx⟩
  · exact ⟨none, 0, rfl, Nat.le_refl _, fun h => absurd h (by omega)⟩
  · refine ⟨_, cap, rfl, hc, fun _ => ⟨g, rfl, hg, (hw g rfl).2, ⟨cur, hh, hcs⟩, fun i u hu => ?_⟩⟩
    rw [cell_of_row _ _ _ _ _ _ hh]
    rw [← hx] at hu
    rw [List.getElem?_take] at hu
    split at hu
    · simpa using hu
    · cases hu
theorem tok_at : ∀ (ts : List Lx.Tok) (k : Nat) (h : k < ts.length), (tokCells ts)[k * 3]? = some (.int .u8 ts[k].kind.toNat) ∧ (tokCells ts)[k * 3 + 1]? = some (.string ⟨ts[k].text.toArray⟩) ∧ (tokCells ts)[k * 3 + 2]? = some (.int .i64 ts[k].at_)
  | t :: ts, 0, _ => ⟨rfl, rfl, rfl⟩
  | t :: ts, k + 1, h => by
    have := tok_at ts k (by simpa using h)
    rw [show (k + 1) * 3 = k * 3 + 1 + 1 + 1 from by omega]
    simpa [tokCells] using this

theorem same_any (va vb : Value) (ts : List Lx.Tok) (B C : Nat) (w : World) (hn : ts.length ≤ 1000000) (ha : w.ownsRow B 31 3 va ts.length (tokCells ts)) (hb : w.ownsRow C 31 3 vb ts.length (tokCells ts)) :
    Calls Tryd.prog 13 #[va, vb] w fun e w' => e = .returned (.bool true) ∧ ∃ m, w' = w.drewN m := by
  obtain ⟨A, ca, rfl, ha1, ha2⟩ := own_slice ha
  obtain ⟨A', cb, rfl, hb1, hb2⟩ := own_slice hb
  have HA := Lib.hid ha2
  have HB := Lib.hid hb2
  clear ha hb ha2 hb2
  generalize hnl : ts.length = n at *
  have HN := Lib.hid hnl
  clear hnl
  go_enter Tryd.func13, Tryd.ntmps13
  go_wp2_with fail
  go_loopw [5] (fun i wr => ∃ k m : Nat, k ≤ n ∧ i = .int .i64 k ∧ wr = w.drewN m) (fun i _ => n - (intOf i).toNat)
  case atStart => exact ⟨0, 0, Nat.zero_le _, rfl, rfl⟩
  case round =>
    obtain ⟨k, m, hk, rfl, rfl⟩ := hrel
    by_cases hlt : k < n
    · obtain ⟨g, rfl, _, _, _, hg⟩ := HA.out (by omega)
      obtain ⟨g', rfl, _, _, _, hg'⟩ := HB.out (by omega)
      have ht := tok_at ts k (by rw [HN.out]; exact hlt)
      have c0 := hg _ _ ht.1
      have c1 := hg _ _ ht.2.1
      have c2 := hg _ _ ht.2.2
      have d0 := hg' _ _ ht.1
      have d1 := hg' _ _ ht.2.1
      have d2 := hg' _ _ ht.2.2
      clear hg hg' ht
      generalize ts[k]'(by rw [HN.out]; exact hlt) = t at *
      go_wp2_with fail
      go_quiet (fail)
      go_wp2
      go_roundw
      case rel => exact ⟨k + 1, m + nq, by omega, by go_num, rfl⟩
      case measure => simp [intOf]; omega
    · go_wp2
      go_ret
      exact ⟨rfl, m, rfl⟩
/-- A block of so many cells, none frozen. -/
def Room (w : World) (g : Nat) (t : TypeId) (k : Nat) : Prop := ∃ cur : Array Value, w.heap[g]? = some (.cells cur t (0, 0)) ∧ cur.size = k
theorem Room.set_ {w : World} {g : Nat} {t : TypeId} {k : Nat} (h : Room w g t k) (i : Nat) (u : Value) : Room (w.setCell ⟨g, i, none⟩ u) g t k := by
  obtain ⟨cur, hh, hs⟩ := h
  refine ⟨cur.setIfInBounds i u, ?_, by simpa using hs⟩
  simp [World.setCell, Array.getElem?_modify, hh]
theorem Room.cell {w : World} {g : Nat} {t : TypeId} {k : Nat} (h : Room w g t k) (i : Nat) (hi : i < k) : ∃ u, w.cell? ⟨g, i, none⟩ = some u := by
  obtain ⟨cur, hh, hs⟩ := h
  exact ⟨cur[i], by rw [cell_of_row _ _ _ _ _ _ hh]; exact Array.getElem?_eq_getElem (by omega)⟩
theorem Room.frozen {w : World} {g : Nat} {t : TypeId} {k : Nat} (h : Room w g t k) (i : Nat) : w.frozen? ⟨g, i, none⟩ = false := by
  obtain ⟨cur, hh, hs⟩ := h
  simp [World.frozen?, hh]

set_option maxRecDepth 100000 in
set_option maxHeartbeats 2000000 in
theorem law_tokens (s : ByteArray) (w : World) (hT : Table w) :
    Calls Tryd.prog 4 #[.string s] w fun e w' => e = .returned (.bool true) ∧ Below w.heap.size w w' := by
  have HT := Lib.hid hT
  clear hT
  by_cases hbig : 20000 < s.size
  · go_enter Tryd.func4, Tryd.ntmps4
    go_wp2
    go_ret
    exact ⟨rfl, Below.refl _ _⟩
  · go_enter Tryd.func4, Tryd.ntmps4
    go_wp2_with fail
    refine (tokensRef_any s w (by omega)).mono ?_
    rintro e w1 ⟨vw, rfl, ho, hb⟩
    have HB1 := Lib.hid hb
    have HO1 := Lib.hid ho
    clear ho hb
    go_wp2_with fail
    go_loopw [6] (fun i wr => ∃ r : Nat, r ≤ 2 ∧ i = .int .i64 r ∧ Below w.heap.size w wr ∧ wr.ownsRow w.heap.size 31 3 vw (Lx.tokens s.data.toList).1.length (tokCells (Lx.tokens s.data.toList).1)) (fun i _ => 2 - (intOf i).toNat)
    case atStart => exact ⟨0, by omega, rfl, HB1.out, HO1.out⟩
    case round =>
      obtain ⟨r, hr, rfl, hbr, hor⟩ := hrel
      have HBR := Lib.hid hbr
      have HOR := Lib.hid hor
      clear hbr hor
      by_cases hlt : r < 2
      · go_wp2_with fail
        refine (tokens_any s wr (by omega) (HT.out.grows HBR.out)).mono ?_
        rintro e w2 ⟨vl, rfl, hol, hbl⟩
        have HOL := Lib.hid hol
        have HBL := Lib.hid hbl
        clear hol hbl
        go_wp2_with fail
        refine (same_any vl vw (Lx.tokens s.data.toList).1 wr.heap.size w.heap.size w2 ?_ HOL.out (own_below HOR.out HBL.out)).mono ?_
        · have := Lx.tokens_few s.data.toList
          rw [← Lib.size_eq] at this
          omega
        rintro e w3 ⟨rfl, m, rfl⟩
        obtain ⟨A, cap, rfl, hcap, hA⟩ := own_slice HOL.out
        have HA := Lib.hid hA
        have hnl : (Lx.tokens s.data.toList).1.length ≤ 20000 := by
          have := Lx.tokens_few s.data.toList
          rw [← Lib.size_eq] at this
          omega
        clear hA
        generalize hn : (Lx.tokens s.data.toList).1.length = n at *
        have HN := Lib.hid hn
        clear hn
        go_wp2_with fail
        go_loopw [10] (fun i wq => ∃ k : Nat, k ≤ n ∧ i = .int .i64 k ∧ Below wr.heap.size wr wq ∧ (∀ g, A = some ⟨g, 0, none⟩ → 0 < n → Room wq g 31 (cap * 3))) (fun i _ => n - (intOf i).toNat)
        case atStart =>
          refine ⟨0, Nat.zero_le _, rfl, below_drewN HBL.out _, fun g hg h0 => ?_⟩
          obtain ⟨g', hg', _, _, hr, _⟩ := HA.out h0
          obtain rfl : g' = g := by rw [hg'] at hg; injection hg with hg; injection hg
          exact hr
        case round =>
          obtain ⟨k, hk, rfl, hbq, hrq⟩ := hrel
          have HBQ := Lib.hid hbq
          have HRQ := Lib.hid hrq
          clear hbq hrq
          by_cases hkn : k < n
          · obtain ⟨g, rfl, hgl, _, _, _⟩ := HA.out (by omega)
            have hroom := HRQ.out g rfl (by omega)
            obtain ⟨u0, hu0⟩ := hroom.cell (k * 3) (by omega)
            obtain ⟨u1, hu1⟩ := hroom.cell (k * 3 + 1) (by omega)
            obtain ⟨u2', hu2⟩ := hroom.cell (k * 3 + 2) (by omega)
            have hf0 := hroom.frozen (k * 3)
            have hf1 := hroom.frozen (k * 3 + 1)
            have hf2 := hroom.frozen (k * 3 + 2)
            have HRM := Lib.hid hroom
            clear hroom
            go_wp2_with fail
            go_roundw
            case rel =>
              refine ⟨k + 1, by omega, by go_num, ((HBQ.out.setCell (p := ⟨g, k * 3, none⟩) hgl _).setCell (p := ⟨g, k * 3 + 1, none⟩) hgl _).setCell (p := ⟨g, k * 3 + 2, none⟩) hgl _, fun g' hg' _ => ?_⟩
              obtain rfl : g = g' := by injection hg' with hg'; injection hg'
              exact ((HRM.out.set_ _ _).set_ _ _).set_ _ _
            case measure => simp [intOf]; omega
          · go_wp2_with fail
            go_roundw
            case rel => exact ⟨r + 1, by omega, by go_num, HBR.out.trans (HBQ.out.mono HBR.out.size), by rw [HN.out]; exact own_below HOR.out HBQ.out⟩
            case measure => simp [intOf]; omega
      · go_wp2
        go_ret
        exact ⟨rfl, HBR.out⟩

end Go.Proofs.YtlingnajbhlpdaaDoor
