/- Walks of lex: quotes and pieces. -/
import Derived.Test.YtlingnajbhlpdaaDoorLexA
namespace Go.Proofs.YtlingnajbhlpdaaDoor
open Go.RowKit Lx

/-- What is told of a piece that begins at k: its end and true, or no end and false; R is what the word comes to. -/
def Piece (s : ByteArray) (k : Nat) (R : Nat × Bool) (w : World) (e : Ending) (w' : World) : Prop :=
  ∃ (n : Nat) (ok : Bool), e = .returned (.tuple #[.int .i64 n, .bool ok]) ∧ w = w' ∧ (ok = true → k < n ∧ n ≤ s.size) ∧ R = if ok = true then Lx.word 0 n 0 (s.data.toList.drop n) else (k, false)

theorem singleEnd_any (s : ByteArray) (k : Nat) (w : World) (hs : s.size ≤ 100000) (hk : k < s.size) :
    Calls Tryd.prog 34 #[.string s, .int .i64 k] w (Piece s k (Lx.word 1 (k + 1) k (s.data.toList.drop (k + 1))) w) := by
  have hi := Lx.w1_index (s.data.toList.drop (k + 1)) (k + 1) k
  have hx := Lib.indexByte_ge (s.data.toList.drop (k + 1)) 39
  have hlt := Lx.index_lt (s.data.toList.drop (k + 1)) 39
  rw [len_drop] at hlt
  have HE := Lib.hid (ext_drop s (k + 1))
  generalize Lx.word 1 (k + 1) k (s.data.toList.drop (k + 1)) = R at hi ⊢
  generalize hxd : Lib.indexByte (s.data.toList.drop (k + 1)) 39 = x at hi hx hlt
  have HX := Lib.hid hxd
  have HI := Lib.hid hi
  clear hxd hi
  have hxle : x ≤ 100000 := by omega
  go_enter Tryd.func34, Tryd.ntmps34
  go_wp2_with (go_at_call 29; refine (Tryd.strings_IndexByte _ _ _).mono ?_; rintro e w' ⟨rfl, rfl⟩; rw [HE.out, show (Int.toNat 39).toUInt8 = 39 from rfl, HX.out])
  go_ret2
  have hR := HI.out
  by_cases hx1 : x = -1
  · subst hx1
    refine ⟨k + 1, false, ret_ib (by omega) (by decide), rfl, (fun h => by cases h), ?_⟩
    rw [hR]; rfl
  · rw [if_neg hx1] at hR
    refine ⟨k + x.toNat + 2, true, ret_ib (by omega) (by simp; omega), rfl, fun _ => ⟨by omega, by omega⟩, ?_⟩
    rw [hR, if_pos rfl, List.drop_drop, show k + 1 + x.toNat + 1 = k + x.toNat + 2 from by omega, show k + 1 + (x.toNat + 1) = k + x.toNat + 2 from by omega]

theorem doubleEnd_any (s : ByteArray) (k : Nat) (w : World) (hs : s.size ≤ 100000) (hk : k < s.size) :
    Calls Tryd.prog 35 #[.string s, .int .i64 k] w (Piece s k (Lx.word 2 (k + 1) k (s.data.toList.drop (k + 1))) w) := by
  obtain ⟨R, hR⟩ : ∃ R, R = Lx.word 2 (k + 1) k (s.data.toList.drop (k + 1)) := ⟨_, rfl⟩
  rw [← hR]
  have HR := Lib.hid hR
  clear hR
  go_enter Tryd.func35, Tryd.ntmps35
  go_wp2_with fail
  go_loop [1] (fun i => ∃ j : Nat, k < j ∧ j ≤ s.size + 1 ∧ i = .int .i64 j ∧ Hid (R = Lx.word 2 j k (s.data.toList.drop j))) (fun i => s.size + 1 - (intOf i).toNat)
  case atStart => exact ⟨k + 1, by omega, by omega, rfl, HR⟩
  case round =>
    obtain ⟨j, hj1, hj, rfl, HJ⟩ := hrel
    clear HR
    by_cases hlt : j < s.size
    · have HC := Lib.hid (Lx.at_cons s j hlt)
      go_wp2
      · have h3 : s[j] = 34 := Lx.u8 34 (by simpa using ‹((s[j].toNat : Int) == 34) = true›) rfl
        go_ret2
        exact ⟨j + 1, true, rfl, rfl, fun _ => ⟨by omega, by omega⟩, by rw [HJ.out, HC.out, h3, Lx.w2_end]; rfl⟩
      · have h3 : s[j] = 92 := Lx.u8 92 (by simpa using ‹((s[j].toNat : Int) == 92) = true›) rfl
        go_round
        case rel => exact ⟨j + 2, by omega, by omega, by go_num, Lib.hid (by rw [HJ.out, HC.out, h3, Lx.w2_esc, List.drop_drop])⟩
        case measure => simp [intOf]; omega
      · have h3 : s[j] ≠ 34 := by
          have : ((s[j].toNat : Int) == 34) = false := by assumption
          intro h; rw [h] at this; revert this; decide
        have h4 : s[j] ≠ 92 := by
          have : ((s[j].toNat : Int) == 92) = false := by assumption
          intro h; rw [h] at this; revert this; decide
        go_round
        case rel => exact ⟨j + 1, by omega, by omega, by go_num, Lib.hid (by rw [HJ.out, HC.out, Lx.w2_other _ _ _ h3 h4])⟩
        case measure => simp [intOf]; omega
    · go_wp2
      go_ret2
      exact ⟨j, false, rfl, rfl, (fun h => by cases h), by rw [HJ.out, at_end _ _ (by omega), Lx.w_nil]; rfl⟩

theorem Piece.same {s : ByteArray} {k : Nat} {R R' : Nat × Bool} {w : World} {e : Ending} {w' : World} (h : Piece s k R w e w') (hR : R = R') : Piece s k R' w e w' := hR ▸ h

theorem pieceEnd_any (s : ByteArray) (k : Nat) (w : World) (hs : s.size ≤ 100000) (hk : k < s.size) (hst : Lx.stop s[k] = false) :
    Calls Tryd.prog 32 #[.string s, .int .i64 k] w (Piece s k (Lx.word 0 k 0 (s.data.toList.drop k)) w) := by
  have HC := Lib.hid (Lx.at_cons s k hk)
  have HST := Lib.hid hst
  clear hst
  go_enter Tryd.func32, Tryd.ntmps32
  go_wp2_with (first | (go_at_call 34; refine (singleEnd_any _ _ _ hs hk).mono ?_; rintro e w' ⟨n, ok, rfl, rfl, hn, hR⟩; have HN := Lib.hid hn; have HR := Lib.hid hR; clear hn hR) | (go_at_call 35; refine (doubleEnd_any _ _ _ hs hk).mono ?_; rintro e w' ⟨n, ok, rfl, rfl, hn, hR⟩; have HN := Lib.hid hn; have HR := Lib.hid hR; clear hn hR))
  · have h3 : s[k] = 92 := Lx.u8 92 (by simpa using ‹((s[k].toNat : Int) == 92) = true›) rfl
    go_ret2
    refine ⟨min (k + 2) s.size, true, ret_ib (by omega) rfl, rfl, fun _ => ⟨by omega, by omega⟩, ?_⟩
    rw [HC.out, h3, Lx.w_esc, len_drop, if_pos rfl, List.drop_drop, show k + 1 + (s.size - (k + 1)) = s.size from by omega]
    by_cases h : k + 2 ≤ s.size
    · rw [Nat.min_eq_left h]
    · rw [at_end _ (k + 1 + 1) (by omega), at_end _ (min (k + 2) s.size) (by omega)]
  · have h3 : s[k] = 39 := Lx.u8 39 (by simpa using ‹((s[k].toNat : Int) == 39) = true›) rfl
    go_ret2
    exact ⟨_, _, rfl, rfl, ‹Hid (_ = true → _)›.out, by rw [HC.out, h3, Lx.w_single]; exact HR.out⟩
  · have h3 : s[k] = 34 := Lx.u8 34 (by simpa using ‹((s[k].toNat : Int) == 34) = true›) rfl
    go_ret2
    exact ⟨_, _, rfl, rfl, ‹Hid (_ = true → _)›.out, by rw [HC.out, h3, Lx.w_double]; exact HR.out⟩
  · have ne (c : UInt8) (n : Nat) (hc : c.toNat = n) (h : ((s[k].toNat : Int) == n) = false) : s[k] ≠ c := by
      intro h2; rw [h2, hc] at h; simp at h
    go_ret2
    refine ⟨k + 1, true, rfl, rfl, fun _ => ⟨by omega, by omega⟩, ?_⟩
    rw [HC.out, Lx.w_other _ _ _ HST.out (ne 92 92 rfl ‹_›) (ne 39 39 rfl ‹_›) (ne 34 34 rfl ‹_›)]; rfl
end Go.Proofs.YtlingnajbhlpdaaDoor
