/- Walks of the reference: is a text among others? -/
import Derived.Test.YtpibjhlldlbocaaGreatSynE
namespace Go.Proofs.YtpibjhlldlbocaaGreat
open Go.RowKit Sx

theorem amongRef_any (s : ByteArray) (xs : List ByteArray) (p : Option Addr) (c : Nat) (w : World) (hn : xs.length ≤ 1000000) (hx : ∀ i, (h : i < xs.length) → ∃ b o, p = some ⟨b, o, none⟩ ∧ w.cell? ⟨b, o + i, none⟩ = some (.string xs[i])) :
    Calls Tryz.prog 68 #[.string s, .slice p xs.length c] w fun e w' => e = .returned (.bool (xs.any fun x => x.toList == s.toList)) ∧ ∃ m, w' = w.drewN m := by
  have HX := Lib.hid hx
  obtain ⟨R, hR⟩ : ∃ R, R = xs.any fun x => x.toList == s.toList := ⟨_, rfl⟩
  rw [← hR]
  have HR : Hid (R = (xs.drop 0).any fun x => x.toList == s.toList) := Lib.hid hR
  clear hR hx
  go_enter Tryz.func68, Tryz.ntmps68
  go_wp2_with fail
  go_loopw [5] (fun i wr => ∃ k m : Nat, k ≤ xs.length ∧ i = .int .i64 k ∧ Hid (R = (xs.drop k).any fun x => x.toList == s.toList) ∧ wr = w.drewN m) (fun i _ => xs.length - (intOf i).toNat)
  case atStart => exact ⟨0, 0, Nat.zero_le _, rfl, HR, rfl⟩
  case round =>
    clear HR
    obtain ⟨k, m, hk, rfl, HK, rfl⟩ := hrel
    by_cases hlt : k < xs.length
    · have HD : Hid (((xs.drop k).any fun x => x.toList == s.toList) = (xs[k].toList == s.toList || (xs.drop (k + 1)).any fun x => x.toList == s.toList)) := Lib.hid (by rw [List.drop_eq_getElem_cons hlt, List.any_cons])
      obtain ⟨b, o, rfl, hc⟩ := HX.out k hlt
      generalize xs[k] = y at *
      go_wp2
      · have h : (y.toList == s.toList) = true := by assumption
        go_ret
        exact ⟨ret_bool (by rw [HK.out, HD.out, h]; rfl), _, rfl⟩
      · have h : (y.toList == s.toList) = false := by assumption
        go_roundw
        case rel => exact ⟨k + 1, _, by omega, by go_num, Lib.hid (by rw [HK.out, HD.out, h]; rfl), rfl⟩
        case measure => simp [intOf]; omega
    · have HE : Hid (k = xs.length) := Lib.hid (by omega)
      go_wp2
      go_ret
      exact ⟨ret_bool (by rw [HK.out, HE.out, List.drop_length]; rfl), m, rfl⟩
end Go.Proofs.YtpibjhlldlbocaaGreat
