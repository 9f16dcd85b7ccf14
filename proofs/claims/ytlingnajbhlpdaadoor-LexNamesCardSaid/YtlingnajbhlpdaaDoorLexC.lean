/- Walks of lex: the two closures. -/
import Derived.Test.YtlingnajbhlpdaaDoorLexB
namespace Go.Proofs.YtlingnajbhlpdaaDoor
open Go.RowKit Lx

/-- The operators' table, as the program lays it. -/
def opsL : List Lx.B := [[38, 38], [124, 124], [59, 59], [60, 60], [62, 62], [59], [38], [124], [60], [62], [40], [41]]
def opsV : Array Value := #[.string ⟨#[38, 38]⟩, .string ⟨#[124, 124]⟩, .string ⟨#[59, 59]⟩, .string ⟨#[60, 60]⟩, .string ⟨#[62, 62]⟩, .string ⟨#[59]⟩, .string ⟨#[38]⟩, .string ⟨#[124]⟩, .string ⟨#[60]⟩, .string ⟨#[62]⟩, .string ⟨#[40]⟩, .string ⟨#[41]⟩]
def Table (w : World) : Prop := ∃ t fr, w.heap[0]? = some (.cells opsV t fr)

def opSearch : List Lx.B → Lx.B → Lx.B
  | [], _ => []
  | o :: os, l => if Lib.hasPrefix l o then o else opSearch os l
theorem opSearch_at {os : List Lx.B} {j : Nat} (l : Lx.B) (h : j < os.length) : opSearch (os.drop j) l = if Lib.hasPrefix l (os.getD j []) then os.getD j [] else opSearch (os.drop (j + 1)) l := by
  rw [List.drop_eq_getElem_cons h, opSearch, List.getD_eq_getElem?_getD, List.getElem?_eq_getElem h]; rfl
theorem op_search (l : Lx.B) : Lx.op l = opSearch opsL l := by
  have one (a c : UInt8) (r : Lx.B) : Lib.hasPrefix (c :: r) [a] = (a == c) := by simp [Lib.hasPrefix, List.isPrefixOf]
  have two (a b c d : UInt8) (r : Lx.B) : Lib.hasPrefix (c :: d :: r) [a, b] = (a == c && b == d) := by simp [Lib.hasPrefix, List.isPrefixOf]
  have two' (a b c : UInt8) : Lib.hasPrefix [c] [a, b] = false := by simp [Lib.hasPrefix, List.isPrefixOf]
  cases l with
  | nil => rfl
  | cons c l =>
    by_cases h : Lx.opc c = true
    · have hc : c = 38 ∨ c = 124 ∨ c = 59 ∨ c = 60 ∨ c = 62 ∨ c = 40 ∨ c = 41 := by simpa [Lx.opc, or_assoc] using h
      cases l with
      | nil => rcases hc with rfl | rfl | rfl | rfl | rfl | rfl | rfl <;> rfl
      | cons d r =>
        by_cases hd : d = c
        · subst hd
          simp only [Lx.op, h, if_true, opSearch, opsL, one, two]
          rcases hc with rfl | rfl | rfl | rfl | rfl | rfl | rfl <;> rfl
        · have h1 : (d == c) = false := by simpa using hd
          have h2 : (c == d) = false := by simpa using Ne.symm hd
          simp only [Lx.op, h, if_true, opSearch, opsL, one, two, h1]
          rcases hc with rfl | rfl | rfl | rfl | rfl | rfl | rfl <;> simp [Lx.dbl, h2]
    · have hc := h
      simp only [Lx.opc, Bool.or_eq_true, beq_iff_eq, not_or] at hc
      obtain ⟨⟨⟨⟨⟨⟨h1, h2⟩, h3⟩, h4⟩, h5⟩, h6⟩, h7⟩ := hc
      have h : Lx.opc c = false := by simpa using h
      cases l with
      | nil => simp [Lx.op, h, opSearch, opsL, one, two', Ne.symm h1, Ne.symm h2, Ne.symm h3, Ne.symm h4, Ne.symm h5, Ne.symm h6, Ne.symm h7]
      | cons d r => simp [Lx.op, h, opSearch, opsL, one, two, Ne.symm h1, Ne.symm h2, Ne.symm h3, Ne.symm h4, Ne.symm h5, Ne.symm h6, Ne.symm h7]
theorem idx_ops (j : Nat) (h : j < 12) (w : World) : (Instr.index 45 (.agg opsV) (.int .i64 j)).run Tryd.prog w = .ok (.string ⟨(opsL.getD j []).toArray⟩) w := by
  obtain rfl | rfl | rfl | rfl | rfl | rfl | rfl | rfl | rfl | rfl | rfl | rfl : j = 0 ∨ j = 1 ∨ j = 2 ∨ j = 3 ∨ j = 4 ∨ j = 5 ∨ j = 6 ∨ j = 7 ∨ j = 8 ∨ j = 9 ∨ j = 10 ∨ j = 11 := by omega
  all_goals kernel_rfl

theorem opAt_any (s : ByteArray) (k bs : Nat) (w : World) (_hs : s.size ≤ 100000) (hk : k ≤ s.size) (hb : w.cell? ⟨bs, 0, none⟩ = some (.string s)) (hT : Table w) :
    Calls Tryd.prog 21 #[.int .i64 k, .pointer (some ⟨bs, 0, none⟩)] w fun e w' => e = .returned (.string ⟨(Lx.op (s.data.toList.drop k)).toArray⟩) ∧ w = w' := by
  obtain ⟨t, fr, hT⟩ := hT
  go_enter Tryd.func21, Tryd.ntmps21
  go_wp2_with (with_reducible refine wpList_load_row rfl _ (.global 0) rfl 0 rfl t opsV fr _ hT Tryd.underlying45 rfl (by kernel_rfl) ?_)
  go_loop [5, 7] (fun _ i => ∃ j : Nat, j ≤ 12 ∧ i = .int .i64 j ∧ Hid (Lx.op (s.data.toList.drop k) = opSearch (opsL.drop j) (s.data.toList.drop k))) (fun _ i => 12 - (intOf i).toNat)
  case atStart => exact ⟨0, by omega, rfl, Lib.hid (op_search _)⟩
  case round =>
    obtain ⟨j, hj, rfl, HJ⟩ := hrel
    by_cases hlt : j < 12
    · have hi := idx_ops j hlt
      have HA := Lib.hid (opSearch_at (os := opsL) (s.data.toList.drop k) hlt)
      have HE := Lib.hid (ext_drop s k)
      generalize opsL.getD j [] = o at hi HA
      go_wp2_with (go_at_call 22; refine (Tryd.strings_HasPrefix _ _ _).mono ?_; rw [HE.out]; rintro e w' ⟨rfl, rfl⟩)
      · go_ret
        have h : Lib.hasPrefix (s.data.toList.drop k) o = true := by assumption
        exact ⟨congrArg (fun l : Lx.B => Ending.returned (.string ⟨l.toArray⟩)) (by rw [HJ.out, HA.out, if_pos h]), rfl⟩
      · have h : Lib.hasPrefix (s.data.toList.drop k) o = false := by assumption
        go_round
        case rel => exact ⟨j + 1, by omega, by go_num, Lib.hid (by rw [HJ.out, HA.out, h]; rfl)⟩
        case measure => simp [intOf]; omega
    · go_wp2
      go_ret
      obtain rfl : j = 12 := by omega
      exact ⟨congrArg (fun l : Lx.B => Ending.returned (.string ⟨l.toArray⟩)) (by rw [HJ.out]; rfl), rfl⟩
theorem op_empty (c : UInt8) (r : Lx.B) : (Lx.op (c :: r)).isEmpty = !Lx.opc c := by
  cases r with
  | nil => simp only [Lx.op]; split <;> simp_all
  | cons d r => simp only [Lx.op]; split <;> (try split) <;> simp_all

def opFn (bs : Nat) : Value := .func (.func 21) #[] #[.pointer (some ⟨bs, 0, none⟩)]

theorem ends_any (s : ByteArray) (k bs bo : Nat) (w : World) (hs : s.size ≤ 100000) (hk : k < s.size) (hb : w.cell? ⟨bs, 0, none⟩ = some (.string s))
    (ho : w.cell? ⟨bo, 0, none⟩ = some (opFn bs)) (hT : Table w) :
    Calls Tryd.prog 23 #[.int .i64 k, .pointer (some ⟨bs, 0, none⟩), .pointer (some ⟨bo, 0, none⟩)] w fun e w' => e = .returned (.bool (Lx.stop s[k])) ∧ w = w' := by
  unfold opFn at ho
  have HT := Lib.hid hT
  clear hT
  have HC := Lib.hid (Lx.at_cons s k hk)
  have HS : Hid (Lx.stop s[k] = (Lx.blank s[k] || s[k] == 10 || Lx.opc s[k])) := Lib.hid rfl
  by_cases h1 : Lx.blank s[k] = true
  · go_enter Tryd.func23, Tryd.ntmps23
    go_wp2_with (first | (go_at_call 24; refine (isBlank_any _ _).mono ?_; rintro e w' ⟨rfl, rfl⟩))
    go_ret
    exact ⟨ret_bool (by rw [HS.out, h1, Bool.true_or, Bool.true_or]), rfl⟩
  · have h1' : Lx.blank s[k] = false := by simpa using h1
    clear h1
    cases h2 : ((s[k].toNat : Int) == 10) with
    | true =>
      have H2 : Hid (s[k] = 10) := Lib.hid (Lx.u8 10 (by simpa using h2) rfl)
      go_enter Tryd.func23, Tryd.ntmps23
      go_wp2_with (first | (go_at_call 24; refine (isBlank_any _ _).mono ?_; rintro e w' ⟨rfl, rfl⟩))
      go_ret
      exact ⟨ret_bool (by rw [H2.out]; rfl), rfl⟩
    | false =>
      have H2 : Hid (s[k] ≠ 10) := Lib.hid (by intro h; rw [h] at h2; revert h2; decide)
      have HO := Lib.hid (op_empty s[k] (s.data.toList.drop (k + 1)))
      go_enter Tryd.func23, Tryd.ntmps23
      go_wp2_with (first | (go_at_call 24; refine (isBlank_any _ _).mono ?_; rintro e w' ⟨rfl, rfl⟩) | (go_at_call 21; refine (opAt_any _ _ _ _ hs (Nat.le_of_lt hk) hb HT.out).mono ?_; rintro e w' ⟨rfl, rfl⟩))
      go_ret
      exact ⟨ret_bool (by rw [HC.out, HO.out, HS.out, h1', show (s[k] == 10) = false from by simpa using H2.out]; simp), rfl⟩

def endsFn (bs bo : Nat) : Value := .func (.func 23) #[] #[.pointer (some ⟨bs, 0, none⟩), .pointer (some ⟨bo, 0, none⟩)]
/-- Where a word ends, and whether: as a value. -/
def wordVal (r : Nat × Bool) : Value := .tuple #[.int .i64 r.1, .bool r.2]

theorem wordEnd_any (s : ByteArray) (k bs bo : Nat) (w : World) (hs : s.size ≤ 100000) (hk : k ≤ s.size) (hb : w.cell? ⟨bs, 0, none⟩ = some (.string s))
    (ho : w.cell? ⟨bo, 0, none⟩ = some (opFn bs)) (hT : Table w) :
    Calls Tryd.prog 26 #[.string s, .int .i64 k, endsFn bs bo] w fun e w' => e = .returned (wordVal (Lx.word 0 k 0 (s.data.toList.drop k))) ∧ w = w' := by
  obtain ⟨R, hR⟩ : ∃ R, R = Lx.word 0 k 0 (s.data.toList.drop k) := ⟨_, rfl⟩
  rw [← hR]
  have HR := Lib.hid hR
  have HT := Lib.hid hT
  have HB := Lib.hid hb
  have HO := Lib.hid ho
  clear hR hT hb ho
  unfold endsFn
  go_enter Tryd.func26, Tryd.ntmps26
  go_wp2_with fail
  go_loop [1] (fun i => ∃ j : Nat, j ≤ s.size ∧ i = .int .i64 j ∧ Hid (R = Lx.word 0 j 0 (s.data.toList.drop j))) (fun i => s.size - (intOf i).toNat)
  case atStart => exact ⟨k, hk, rfl, HR⟩
  case round =>
    obtain ⟨j, hj, rfl, HJ⟩ := hrel
    clear HR
    by_cases hlt : j < s.size
    · have HC := Lib.hid (Lx.at_cons s j hlt)
      cases hst : Lx.stop s[j] with
      | true =>
        go_wp2_with (go_at_call 23; refine (ends_any _ _ _ _ _ hs hlt HB.out HO.out HT.out).mono ?_; rintro e w' ⟨rfl, rfl⟩)
        go_ret2
        exact ⟨by rw [HJ.out, HC.out, Lx.w_stop _ _ _ hst]; rfl, rfl⟩
      | false =>
        go_wp2_with (first | (go_at_call 23; refine (ends_any _ _ _ _ _ hs hlt HB.out HO.out HT.out).mono ?_; rintro e w' ⟨rfl, rfl⟩) | (go_at_call 32; refine (pieceEnd_any _ _ _ hs hlt hst).mono ?_; rintro e w' ⟨n, ok, rfl, rfl, hn, hR⟩; have HN := Lib.hid hn; have HP := Lib.hid hR; clear hn hR))
        · obtain rfl : ok = false := by simpa using ‹(!ok) = true›
          go_ret2
          exact ⟨by rw [HJ.out, HP.out]; rfl, rfl⟩
        · obtain rfl : ok = true := by simpa using ‹(!ok) = false›
          have hn := HN.out rfl
          go_round
          case rel => exact ⟨n, hn.2, rfl, Lib.hid (by rw [HJ.out, HP.out]; rfl)⟩
          case measure => simp [intOf]; omega
    · go_wp2
      go_ret2
      exact ⟨by rw [HJ.out, at_end _ _ (by omega), Lx.w_end]; rfl, rfl⟩
theorem wordEnd_at (s : ByteArray) (k bs bo : Nat) (w : World) (n : Nat) (ok : Bool) (hs : s.size ≤ 100000) (hk : k ≤ s.size) (hb : w.cell? ⟨bs, 0, none⟩ = some (.string s))
    (ho : w.cell? ⟨bo, 0, none⟩ = some (opFn bs)) (hT : Table w) (hw : Lx.word 0 k 0 (s.data.toList.drop k) = (n, ok)) :
    Calls Tryd.prog 26 #[.string s, .int .i64 k, .func (.func 23) #[] #[.pointer (some ⟨bs, 0, none⟩), .pointer (some ⟨bo, 0, none⟩)]] w fun e w' => e = .returned (.tuple #[.int .i64 n, .bool ok]) ∧ w = w' := by
  have := wordEnd_any s k bs bo w hs hk hb ho hT
  rw [hw] at this
  exact this

end Go.Proofs.YtlingnajbhlpdaaDoor
