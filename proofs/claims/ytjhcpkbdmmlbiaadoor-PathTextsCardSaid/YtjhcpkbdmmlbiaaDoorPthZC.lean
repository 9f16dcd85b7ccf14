/- The statement on texts of paths: the walk. -/
import Derived.Test.YtjhcpkbdmmlbiaaDoorPthZB
namespace Go.Proofs.YtjhcpkbdmmlbiaaDoor
open Go.RowKit Px

theorem own_below {W W' : World} (hb : Below W.heap.size W W') {base : Nat} {e : TypeId} {size : Nat} {v : Value} {n : Nat} {xs : List Value} (h : W.ownsRow base e size v n xs) : W'.ownsRow base e size v n xs := by
  refine ⟨h.1, ?_⟩
  rcases h.2 with h | ⟨g, cap, cur, hv, hg, hh, r⟩
  · exact .inl h
  · refine .inr ⟨g, cap, cur, hv, hg, ?_, r⟩
    rw [hb.block g (Array.getElem?_eq_some_iff.1 hh).1]
    exact hh
theorem steps_ow {w : World} {s : ByteArray} (hs : s.size ≤ 100000) :
    Calls Tryd.prog 7 #[.string s] w fun e w' => ∃ v, e = .returned v ∧ Hid (w'.ownsRow w.heap.size 9 1 v (stepsB s).length ((stepsB s).map Value.string)) ∧ Hid (Below w.heap.size w w') :=
  (steps_own s (by omega) w).mono fun e w' ⟨v, he, ho, hb⟩ => ⟨v, he, Lib.hid ho, Lib.hid hb⟩
theorem clean_ow {w : World} {s : ByteArray} (hs : s.size ≤ 100000) :
    Calls Tryd.prog 9 #[.string s] w fun e w' => ∃ v, e = .returned v ∧ Hid (w'.ownsRow w.heap.size 9 1 v (cleanBs (stepsB s)).length ((cleanBs (stepsB s)).map Value.string)) ∧ Hid (Below w.heap.size w w') :=
  (clean_own s (by omega) w).mono fun e w' ⟨v, he, ho, hb⟩ => ⟨v, he, Lib.hid ho, Lib.hid hb⟩
/-- Made, compared, and spoilt: what lay before lies as it lay. -/
theorem below_spoilt {W w w1 w2 w3 : World} (h : Below W.heap.size W w) (h1 : Below w.heap.size w w1) (h2 : Below w1.heap.size w1 w2) (h3 : Below w.heap.size w2 w3) : Below W.heap.size W w3 :=
  below_next h ((below_next h1 h2).trans h3)

set_option maxRecDepth 100000 in
set_option maxHeartbeats 4000000 in
theorem law_texts (s : ByteArray) (W : World) :
    Calls Tryd.prog 3 #[.string s] W fun e w' => e = .returned (.bool true) ∧ Below W.heap.size W w' := by
  by_cases h : 2000 < s.size
  · go_enter Tryd.func3, Tryd.ntmps3
    go_wp2_with (go_at_call 5; refine (law_awake _).mono ?_; rintro e w' ⟨rfl, HB⟩)
    go_ret
    exact ⟨rfl, HB⟩
  · have hs : s.size ≤ 2000 := by omega
    have hs2 : s.size ≤ 100000 := by omega
    clear h
    go_enter Tryd.func3, Tryd.ntmps3
    go_wp2_with fail
    go_loopw [3] (fun i wr => ∃ k : Nat, k ≤ 2 ∧ i = .int .i64 k ∧ Hid (Below W.heap.size W wr)) (fun i _ => 2 - (intOf i).toNat)
    case atStart => exact ⟨0, by omega, rfl, Lib.hid (Below.refl _ _)⟩
    case round =>
      obtain ⟨k, hk, rfl, HB⟩ := hrel
      by_cases hlt : k < 2
      · go_wp2_with fail
        refine (steps_ow hs2).mono ?_
        rintro e w1 ⟨v1, rfl, HO1, HB1⟩
        go_wp2_with fail
        refine (stepsRef_pl hs2).mono ?_
        rintro e w2 ⟨v2, rfl, HP2, HB2⟩
        go_wp2_with fail
        refine (same_own (own_below HB2.out HO1.out) (Nat.le_trans HB1.out.size HB2.out.size) HP2.out rfl).mono ?_
        rintro e w3 ⟨rfl, HB3⟩
        have HBA := Lib.hid (below_spoilt HB.out HB1.out HB2.out HB3.out)
        clear HB HB1 HB2 HB3 HO1 HP2
        go_wp2_with fail
        refine (clean_ow hs2).mono ?_
        rintro e w4 ⟨v4, rfl, HO4, HB4⟩
        go_wp2_with fail
        refine (cleanRef_pl hs2).mono ?_
        rintro e w5 ⟨v5, rfl, HP5, HB5⟩
        go_wp2_with fail
        refine (same_own (own_below HB5.out HO4.out) (Nat.le_trans HB4.out.size HB5.out.size) HP5.out rfl).mono ?_
        rintro e w6 ⟨rfl, HB6⟩
        have HBB := Lib.hid (below_spoilt HBA.out HB4.out HB5.out HB6.out)
        clear HBA HB4 HB5 HB6 HO4 HP5
        go_wp2_with fail
        go_roundw
        case rel => exact ⟨k + 1, by omega, by go_num, HBB⟩
        case measure => simp [intOf]; omega
      · have hge : 2 ≤ k := by omega
        go_wp2_with fail
        refine (last_any s _ hs2).mono ?_
        rintro e w1 ⟨⟨q1, rfl, hq1⟩, HB1⟩
        have HQ1 := Lib.hid hq1
        clear hq1
        go_wp2_with fail
        refine (lastRef_any s _ hs2).mono ?_
        rintro e w2 ⟨⟨q2, rfl, hq2⟩, HB2⟩
        obtain rfl : q2 = q1 := toList_inj (by rw [Lib.toList_data, Lib.toList_data, hq2, HQ1.out])
        clear hq2 HQ1
        have HBA := Lib.hid (below_next (below_next HB.out HB1.out) HB2.out)
        clear HB HB1 HB2
        generalize nameL (lastF s.data.toList) = r
        go_wp2_with fail
        refine (name_any s _).mono ?_
        rintro e w3 ⟨rfl, hb3⟩
        have HBB := Lib.hid (below_next HBA.out hb3)
        clear hb3 HBA
        go_wp2_with fail
        refine (nameRef_any s _ (by omega)).mono ?_
        rintro e w4 ⟨rfl, rfl⟩
        generalize nameL s.data.toList = r2
        go_wp2_with fail
        refine (dir_any s _ hs2).mono ?_
        rintro e w5 ⟨rfl, rfl⟩
        go_wp2_with fail
        refine (dirRef_any s _ hs2).mono ?_
        rintro e w6 ⟨rfl, HB6⟩
        have HBC := Lib.hid (below_next HBB.out HB6.out)
        clear HBB HB6
        generalize dirL s.data.toList = r3
        go_wp2_with fail
        refine (check_any s hs2 _).mono ?_
        rintro e w7 ⟨rfl, HB7⟩
        go_wp2_with fail
        refine (checkRef_any s hs2 _).mono ?_
        rintro e w8 ⟨rfl, HB8⟩
        have HBD := Lib.hid (below_next (below_next HBC.out HB7.out) HB8.out)
        clear HBC HB7 HB8
        generalize checkL s.data.toList = c4
        go_wp2_with fail
        refine (law_awake _).mono ?_
        rintro e w9 ⟨rfl, hb9⟩
        have HBE := Lib.hid (below_next HBD.out hb9)
        clear HBD hb9
        go_wp2_with fail
        go_ret
        exact ⟨rfl, HBE.out⟩
end Go.Proofs.YtjhcpkbdmmlbiaaDoor
