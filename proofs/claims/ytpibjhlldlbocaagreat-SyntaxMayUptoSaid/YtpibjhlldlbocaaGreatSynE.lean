/- Walks of the reference: may all words be? -/
import Derived.Test.YtpibjhlldlbocaaGreatSynD
namespace Go.Proofs.YtpibjhlldlbocaaGreat
open Go.RowKit Sx

set_option maxRecDepth 100000 in
set_option maxHeartbeats 2000000 in
theorem wordsRef_any {W : World} {words : List Word} {p : Option Addr} {c : Nat} {C : Nat → List Value} (h1 : words.length ≤ c) (h2 : c ≤ maxLen) (h3 : Row W 2 p words.length C) (h4 : ∀ (i : Nat) x, words[i]? = some x → WordR W (C i) x)
    (hB : (words.map Word.bulk).sum ≤ 2000000) : ∀ w, Below W.heap.size W w →
    Calls Tryz.prog 29 #[.slice p words.length c] w fun e w' => e = .returned (.bool (words.all Word.may)) ∧ Below w.heap.size w w' := by
  intro w hb
  have hlw : words.length ≤ 9223372036854775807 := by unfold maxLen at h2; omega
  have HR := Lib.hid h3
  have HWD := Lib.hid h4
  have HW := Lib.hid hb
  have HBK := Lib.hid hB
  obtain ⟨R, hR⟩ : ∃ R, R = words.all Word.may := ⟨_, rfl⟩
  rw [← hR]
  have HRR : Hid (R = (words.drop 0).all Word.may) := Lib.hid hR
  clear hR h1 h2 h3 h4 hb hB
  go_enter Tryz.func29, Tryz.ntmps29
  go_wp2_with fail
  go_loopw [3] (fun i wr => ∃ k : Nat, k ≤ words.length ∧ i = .int .i64 k ∧ Hid (R = (words.drop k).all Word.may) ∧ Hid (Below w.heap.size w wr)) (fun i _ => words.length - (intOf i).toNat)
  case atStart => exact ⟨0, Nat.zero_le _, rfl, HRR, Lib.hid (Below.refl _ _)⟩
  case round =>
    clear HRR
    obtain ⟨k, hk, rfl, HK, HB⟩ := hrel
    by_cases hlt : k < words.length
    · have HD : Hid ((words.drop k).all Word.may = (words[k].may && (words.drop (k + 1)).all Word.may)) := Lib.hid (by rw [List.drop_eq_getElem_cons hlt, List.all_cons])
      have HOLD : Hid (Below W.heap.size W wr) := Lib.hid (HW.out.trans (HB.out.mono HW.out.size))
      have hx := (HWD.out k _ (List.getElem?_eq_getElem hlt)).grown HOLD.out
      have hxb : words[k].bulk ≤ 2000000 := Nat.le_trans (sum_at (f := Word.bulk) (List.getElem?_eq_getElem hlt)) HBK.out
      obtain ⟨b, o, rfl, hl, hr⟩ := HR.out k hlt
      obtain ⟨v0, v1, hv⟩ := two hl
      rw [hv] at hr hx
      have hr := range_below HOLD.out hr
      have e0 : wr.cell? ⟨b, o + k * 2, none⟩ = some v0 := hr 0 _ rfl
      have e1 : wr.cell? ⟨b, o + k * 2 + 1, none⟩ = some v1 := hr 1 _ rfl
      have HC := Lib.hid (mayWordRef_any hx hxb)
      clear hr hv hl hx hxb
      generalize words[k].may = sp at *
      go_wp2_with fail
      refine HC.out.mono ?_
      rintro e w2 ⟨rfl, hb2⟩
      have HB2 : Hid (Below w.heap.size w w2) := Lib.hid (HB.out.trans (hb2.mono HB.out.size))
      clear hb2
      go_wp2
      · have hsp : sp = false := by cases sp <;> simp_all
        go_ret
        exact ⟨ret_bool (by rw [HK.out, HD.out, hsp]; rfl), HB2.out⟩
      · have hsp : sp = true := by cases sp <;> simp_all
        go_roundw
        case rel => exact ⟨k + 1, by omega, by go_num, Lib.hid (by rw [HK.out, HD.out, hsp]; rfl), HB2⟩
        case measure => simp [intOf]; omega
    · have HE : Hid (k = words.length) := Lib.hid (by omega)
      go_wp2
      go_ret
      exact ⟨ret_bool (by rw [HK.out, HE.out, List.drop_length]; rfl), HB.out⟩
end Go.Proofs.YtpibjhlldlbocaaGreat
