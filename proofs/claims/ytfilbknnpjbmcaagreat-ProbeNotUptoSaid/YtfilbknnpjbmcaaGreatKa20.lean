/- Walks over nodes: how heavy one is, of the law; where a name stands, and what stands at a place, of the reference. -/
import Derived.Test.YtfilbknnpjbmcaaGreatKa19
namespace Go.Proofs.YtfilbknnpjbmcaaGreat
open Go.RowKit Px Nx

/-- Where a name stands in a list; -1: nowhere. -/
def findL (l : List ByteArray) (x : ByteArray) : Int := match l.findIdx? (fun y => decide (y = x)) with | some i => i | none => -1
theorem findIdx_take {l : List ByteArray} {k : Nat} {f : ByteArray → Bool} (hk : k < l.length) (hn : ∀ i, i < k → f (l.getD i ByteArray.empty) = false) (hx : f (l.getD k ByteArray.empty) = true) : l.findIdx? f = some k := by
  rw [List.findIdx?_eq_some_iff_getElem]
  refine ⟨hk, ?_, fun j hj => ?_⟩
  · rw [List.getD_eq_getElem?_getD, List.getElem?_eq_getElem hk] at hx
    exact hx
  · have := hn j hj
    rw [List.getD_eq_getElem?_getD, List.getElem?_eq_getElem (by omega)] at this
    simpa using this
theorem findL_at {l : List ByteArray} {k : Nat} {x : ByteArray} (hk : k < l.length) (hn : ∀ i, i < k → l.getD i ByteArray.empty ≠ x) (hx : l.getD k ByteArray.empty = x) : findL l x = k := by
  unfold findL
  rw [findIdx_take (f := fun y => decide (y = x)) hk (fun i hi => decide_eq_false (hn i hi)) (decide_eq_true hx)]
theorem findL_none {l : List ByteArray} {x : ByteArray} (hn : ∀ i, i < l.length → l.getD i ByteArray.empty ≠ x) : findL l x = -1 := by
  unfold findL
  rw [List.findIdx?_eq_none_iff.2 ?_]
  intro y hy
  obtain ⟨i, hi, rfl⟩ := List.getElem_of_mem hy
  have := hn i hi
  rw [List.getD_eq_getElem?_getD, List.getElem?_eq_getElem hi] at this
  exact decide_eq_false this

end Go.Proofs.YtfilbknnpjbmcaaGreat
/- Walks: slices.BinarySearch over texts. -/
namespace Go.Proofs.YtfilbknnpjbmcaaGreat
open Go.RowKit Px Nx

theorem sisNaN_any (x : ByteArray) (w : World) :
    Calls Tryz.prog 119 #[.string x] w fun e w' => e = .returned (.bool false) ∧ w = w' := by
  go_enter Tryz.func119, Tryz.ntmps119
  go_wp2
  go_ret
  exact ⟨ret_bool (by simp), rfl⟩
theorem lessS_any (x y : ByteArray) (w : World) :
    Calls Tryz.prog 118 #[.string x, .string y] w fun e w' => e = .returned (.bool (Op.bytesLess x.toList y.toList)) ∧ w = w' := by
  go_enter Tryz.func118, Tryz.ntmps118
  go_wp2_with (go_at_call 120; refine (isNaN_any _ _).mono ?_; rintro e w' ⟨rfl, rfl⟩)
  go_ret
  exact ⟨rfl, rfl⟩

/-- Do texts rise strictly? -/
def risesL (l : List ByteArray) : Prop := ∀ i j, i < j → j < l.length → Op.bytesLess (l.getD i ByteArray.empty).toList (l.getD j ByteArray.empty).toList = true
theorem less_trans {x y z : ByteArray} (h : Op.bytesLess x.toList y.toList = true) (h' : Op.bytesLess y.toList z.toList = true) : Op.bytesLess x.toList z.toList = true := by
  rw [bl] at *
  exact decide_eq_true (List.lt_trans (of_decide_eq_true h) (of_decide_eq_true h'))
theorem less_irrefl (x : ByteArray) : Op.bytesLess x.toList x.toList = false := by
  rw [bl]; exact decide_eq_false (List.lt_irrefl _)
theorem rises_of {l : List ByteArray} (h : namesL l = true) : risesL l := by
  have step : ∀ i, i + 1 < l.length → Op.bytesLess (l.getD i ByteArray.empty).toList (l.getD (i + 1) ByteArray.empty).toList = true := by
    intro i hi
    have h1 := List.all_eq_true.1 h (i + 1) (List.mem_range.2 hi)
    unfold okAt at h1
    rw [Bool.and_eq_true] at h1
    simpa using h1.2
  intro i j hij
  induction j with
  | zero => omega
  | succ j ih =>
    intro hj
    by_cases he : i = j
    · subst he; exact step i hj
    · exact less_trans (ih (by omega) (by omega)) (step j hj)
theorem rises_le {l : List ByteArray} (h : risesL l) {i j : Nat} (hij : i ≤ j) (hj : j < l.length) {x : ByteArray} (hx : Op.bytesLess (l.getD j ByteArray.empty).toList x.toList = true) : Op.bytesLess (l.getD i ByteArray.empty).toList x.toList = true := by
  by_cases he : i = j
  · subst he; exact hx
  · exact less_trans (h i j (by omega) hj) hx

/-- What a search for a text in rising texts tells: the place, and whether it is there. -/
def SearchAt (l : List ByteArray) (x : ByteArray) (i : Nat) (b : Bool) : Prop :=
  i ≤ l.length ∧ (∀ k, k < i → Op.bytesLess (l.getD k ByteArray.empty).toList x.toList = true) ∧ (∀ k, i ≤ k → k < l.length → Op.bytesLess (l.getD k ByteArray.empty).toList x.toList = false) ∧ b = (decide (i < l.length) && decide (l.getD i ByteArray.empty = x))

set_option maxRecDepth 1000000 in
set_option maxHeartbeats 4000000 in
theorem search_any {W : World} {p : Option Addr} {l : List ByteArray} (c : Nat) (x : ByteArray) (h : Strs W p l) (hl : l.length < 4611686018427387904) (hs : risesL l) : ∀ w, Below W.heap.size W w →
    Calls Tryz.prog 117 #[.slice p l.length c, .string x] w fun e w' => (∃ (i : Nat) (b : Bool), e = .returned (.tuple #[.int .i64 i, .bool b]) ∧ SearchAt l x i b) ∧ Below w.heap.size w w' := by
  intro w hb
  have HS := Lib.hid h
  have HW := Lib.hid hb
  have HR := Lib.hid hs
  clear h hb hs
  generalize hn : l.length = n at *
  have HN := Lib.hid hn
  clear hn
  have HUN : Hid (∀ i b, i ≤ n → (∀ k, k < i → Op.bytesLess (l.getD k ByteArray.empty).toList x.toList = true) → (∀ k, i ≤ k → k < n → Op.bytesLess (l.getD k ByteArray.empty).toList x.toList = false) → b = (decide (i < n) && decide (l.getD i ByteArray.empty = x)) → SearchAt l x i b) := Lib.hid fun i b h1 h2 h3 h4 => by
    unfold SearchAt
    rw [HN.out]
    exact ⟨h1, h2, h3, h4⟩
  go_enter Tryz.func117, Tryz.ntmps117
  go_wp2
  go_loopg [7, 8] n (fun g s7 s8 wr => ∃ lo hi : Nat, s7 = .int .i64 lo ∧ s8 = .int .i64 hi ∧ lo ≤ hi ∧ hi ≤ n ∧ hi - lo ≤ g ∧ Hid (∀ k, k < lo → Op.bytesLess (l.getD k ByteArray.empty).toList x.toList = true) ∧ Hid (∀ k, hi ≤ k → k < n → Op.bytesLess (l.getD k ByteArray.empty).toList x.toList = false) ∧ Hid (Below w.heap.size w wr))
  case atStart => exact ⟨0, n, rfl, rfl, Nat.zero_le _, Nat.le_refl _, by omega, Lib.hid fun t ht => absurd ht (Nat.not_lt_zero _), Lib.hid fun t h1 h2 => by omega, Lib.hid (Below.refl _ _)⟩
  case round =>
    obtain ⟨lo, hi, rfl, rfl, hlh, hin, hg, H1, H2, HB⟩ := hrel
    have HOLD : Hid (Below W.heap.size W wr) := Lib.hid (HW.out.trans (HB.out.mono HW.out.size))
    by_cases hlt : lo < hi
    · obtain ⟨b, o, rfl, cm⟩ := name_cell HS.out HOLD.out (show (lo + hi) / 2 < l.length by rw [HN.out]; omega)
      obtain ⟨mid, hmid⟩ : ∃ mid, (lo + hi) / 2 = mid := ⟨_, rfl⟩
      have HUP : Hid (Op.bytesLess (l.getD ((lo + hi) / 2) ByteArray.empty).toList x.toList = true → ∀ k, k < (lo + hi) / 2 + 1 → Op.bytesLess (l.getD k ByteArray.empty).toList x.toList = true) := Lib.hid fun hx k hk => rises_le HR.out (show k ≤ (lo + hi) / 2 by omega) (by rw [HN.out]; omega) hx
      have HDN : Hid (Op.bytesLess (l.getD ((lo + hi) / 2) ByteArray.empty).toList x.toList = false → ∀ k, (lo + hi) / 2 ≤ k → k < n → Op.bytesLess (l.getD k ByteArray.empty).toList x.toList = false) := Lib.hid fun hx k hk hkn => by
        rw [Bool.eq_false_iff]
        intro hkx
        have := rises_le HR.out hk (by rw [HN.out]; exact hkn) hkx
        rw [hx] at this
        cases this
      generalize l.getD ((lo + hi) / 2) ByteArray.empty = y at *
      clear hmid
      by_cases hyx : Op.bytesLess y.toList x.toList = true
      · have HV := Lib.hid (HUP.out hyx)
        have hmn : (lo + hi) / 2 < n := by omega
        go_wp2_with (go_at_call 118; refine (lessS_any _ _ _).mono ?_; rintro e w' ⟨rfl, rfl⟩)
        go_roundg (hi - ((lo + hi) / 2 + 1))
        case measure => omega
        case rel =>
          exact ⟨(lo + hi) / 2 + 1, hi, by rw [show ((lo : Int) + (hi : Int)) / 2 + 1 = (((lo + hi) / 2 + 1 : Nat) : Int) by omega], rfl, by omega, hin, Nat.le_refl _, HV, H2, HB⟩
      · have hyx' : Op.bytesLess y.toList x.toList = false := Bool.eq_false_iff.2 hyx
        have HV := Lib.hid (HDN.out hyx')
        have hmn : (lo + hi) / 2 < n := by omega
        clear hyx
        go_wp2_with (go_at_call 118; refine (lessS_any _ _ _).mono ?_; rintro e w' ⟨rfl, rfl⟩)
        go_roundg ((lo + hi) / 2 - lo)
        case measure => omega
        case rel =>
          exact ⟨lo, (lo + hi) / 2, rfl, by rw [show ((lo : Int) + (hi : Int)) / 2 = (((lo + hi) / 2 : Nat) : Int) by omega], by omega, by omega, Nat.le_refl _, H1, HV, HB⟩
    · have : hi = lo := by omega
      subst this
      by_cases hn : hi < n
      · obtain ⟨b, o, rfl, cl⟩ := name_cell HS.out HOLD.out (show hi < l.length by rw [HN.out]; exact hn)
        have HE : Hid (∀ b, b = decide (l.getD hi ByteArray.empty = x) → SearchAt l x hi b) := Lib.hid fun b h => HUN.out hi b hin H1.out H2.out (by rw [decide_eq_true hn, h]; rfl)
        generalize l.getD hi ByteArray.empty = y at *
        obtain ⟨bt, hbt, hbt'⟩ := text_ways y x
        have HF := Lib.hid (HE.out bt hbt.symm)
        clear hbt
        cases bt
        all_goals
          go_wp2_with (go_at_call 119; refine (sisNaN_any _ _).mono ?_; rintro e w' ⟨rfl, rfl⟩)
          go_ret2
          exact ⟨⟨_, _, rfl, HF.out⟩, HB.out⟩
      · have HF : Hid (SearchAt l x hi false) := Lib.hid (HUN.out hi false hin H1.out H2.out (by rw [decide_eq_false hn]; rfl))
        go_wp2_with fail
        go_ret2
        exact ⟨⟨_, _, rfl, HF.out⟩, HB.out⟩

/-- What the search tells is where a name stands. -/
theorem search_find {l : List ByteArray} {x : ByteArray} {i : Nat} {b : Bool} (hs : risesL l) (h : SearchAt l x i b) : (b = true → i < l.length ∧ findL l x = i) ∧ (b = false → findL l x = -1) := by
  obtain ⟨h1, h2, h3, h4⟩ := h
  constructor
  · intro hb
    rw [hb] at h4
    have h5 := h4.symm
    rw [Bool.and_eq_true] at h5
    have hi := of_decide_eq_true h5.1
    have hx := of_decide_eq_true h5.2
    refine ⟨hi, findL_at hi (fun k hk e => ?_) hx⟩
    have := h2 k hk
    rw [e, less_irrefl] at this
    cases this
  · intro hb
    refine findL_none fun k hk e => ?_
    rw [hb] at h4
    by_cases hki : k < i
    · have := h2 k hki
      rw [e, less_irrefl] at this
      cases this
    · by_cases he : k = i
      · subst he
        rw [decide_eq_true hk, e] at h4
        simp at h4
      · have := hs i k (by omega) hk
        rw [e, h3 i (Nat.le_refl _) (by omega)] at this
        cases this
end Go.Proofs.YtfilbknnpjbmcaaGreat
