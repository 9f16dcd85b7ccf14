/- Walks: what is wrong with a path, of the reference; the statement's own 'same'; the statement on texts. -/
import Derived.Test.YtjhcpkbdmmlbiaaDoorPthZA
import Derived.Test.YtjhcpkbdmmlbiaaDoorPthAwake
namespace Go.Proofs.YtjhcpkbdmmlbiaaDoor
open Go.RowKit Px

theorem stepsRef_pl {w : World} {s : ByteArray} (hs : s.size ≤ 100000) :
    Calls Tryd.prog 8 #[.string s] w fun e w' => ∃ v, e = .returned v ∧ Hid (PlR w' v (stepsB s)) ∧ Hid (Below w.heap.size w w') :=
  (stepsRef_own s hs w).mono fun e w' ⟨v, he, ho, hb⟩ => ⟨v, he, Lib.hid (plR_of_own ho), Lib.hid hb⟩
theorem cleanRef_pl {w : World} {s : ByteArray} (hs : s.size ≤ 100000) :
    Calls Tryd.prog 10 #[.string s] w fun e w' => ∃ v, e = .returned v ∧ Hid (PlR w' v (cleanBs (stepsB s))) ∧ Hid (Below w.heap.size w w') :=
  (cleanRef_own s hs w).mono fun e w' ⟨v, he, ho, hb⟩ => ⟨v, he, Lib.hid (plR_of_own ho), Lib.hid hb⟩

def notZ (c : UInt8) : Bool := !(c == 0)
theorem notZ_ways (c : UInt8) : (notZ c = true ∧ ((c.toNat : Int) == 0) = false) ∨ (notZ c = false ∧ ((c.toNat : Int) == 0) = true) := by
  have e0 := beq_int c 0
  have f0 : ((0 : UInt8).toNat : Int) = 0 := rfl
  rw [f0] at e0
  rw [e0]
  unfold notZ
  cases c == 0 <;> simp
theorem any_notZ (l : List UInt8) : (l.any fun c => c == 0) = !(l.all notZ) := by
  induction l with
  | nil => rfl
  | cons x l ih =>
    rw [List.any_cons, List.all_cons, ih, Bool.not_and]
    congr 1
    unfold notZ
    cases x == 0 <;> rfl
theorem all_take_s {xs : List ByteArray} {k : Nat} (h : k < xs.length) : (xs.take (k + 1)).all okStep = ((xs.take k).all okStep && okStep (xs.getD k ByteArray.empty)) := by
  rw [take_snoc_d h, List.all_append]
  simp
theorem all_not_s {xs : List ByteArray} {k : Nat} (h : k < xs.length) (hf : okStep (xs.getD k ByteArray.empty) = false) : xs.all okStep = false := by
  rw [Bool.eq_false_iff]
  intro ha
  have := List.all_eq_true.1 ha xs[k] (List.getElem_mem h)
  rw [List.getD_eq_getElem?_getD, List.getElem?_eq_getElem h] at hf
  have h2 : okStep xs[k] = false := hf
  rw [h2] at this
  cases this

set_option maxRecDepth 100000 in
set_option maxHeartbeats 2000000 in
theorem checkRef_any (s : ByteArray) (hs : s.size ≤ 100000) (w : World) :
    Calls Tryd.prog 18 #[.string s] w fun e w' => e = .returned (.int .i64 (checkL s.data.toList)) ∧ Hid (Below w.heap.size w w') := by
  have HBAD : Hid (∀ (k : Nat) (h : k < s.size), notZ s[k] = false → checkL s.data.toList = 4) := Lib.hid fun k h hz => check_zero (by rw [any_notZ, all_not_b h hz]; rfl)
  have HEMP : Hid (s.toList = [] → checkL s.data.toList = 4) := Lib.hid check_empty
  have HELSE : Hid (¬ s.toList = [] → s.data.toList.all notZ = true → checkL s.data.toList = if 256 < s.size then 40 else if (stepsB s).all okStep then 0 else 4) := Lib.hid fun h1 h2 => check_else h1 (by rw [any_notZ, h2]; rfl)
  go_enter Tryd.func18, Tryd.ntmps18
  go_wp2_with fail
  go_loop [3] (fun i => ∃ k : Nat, k ≤ s.size ∧ i = .int .i64 k ∧ Hid ((s.data.toList.take k).all notZ = true)) (fun i => s.size - (intOf i).toNat)
  case atStart => exact ⟨0, Nat.zero_le _, rfl, Lib.hid rfl⟩
  case round =>
    obtain ⟨k, hk, rfl, HA⟩ := hrel
    by_cases hlt : k < s.size
    · have HS := Lib.hid (all_take_b hlt notZ)
      have HV : Hid (notZ s[k] = false → checkL s.data.toList = 4) := Lib.hid fun h => HBAD.out k hlt h
      rcases notZ_ways s[k] with ⟨ho, c0⟩ | ⟨ho, c0⟩
      · have HO := Lib.hid ho
        clear ho
        go_wp2_with fail
        go_round
        case rel => exact ⟨k + 1, by omega, by go_num, Lib.hid (by rw [HS.out, HA.out, HO.out]; rfl)⟩
        case measure => simp [intOf]; omega
      · have HV2 := Lib.hid (HV.out ho)
        clear ho
        go_wp2_with fail
        go_ret
        exact ⟨ret_int (by rw [HV2.out]; rfl), Lib.hid (Below.refl _ _)⟩
    · have HALL := Lib.hid (all_full_b (s := s) (k := k) (by omega) HA.out)
      have hge : s.size ≤ k := by omega
      by_cases h0 : s.toList = []
      · have HV := Lib.hid (HEMP.out h0)
        go_wp2_with fail
        go_ret
        exact ⟨ret_int (by rw [HV.out]; rfl), Lib.hid (Below.refl _ _)⟩
      · have HV := Lib.hid (HELSE.out h0 HALL.out)
        have he := full_list h0
        by_cases h256 : 256 < s.size
        · have HV2 : Hid (checkL s.data.toList = 40) := Lib.hid (by rw [HV.out, if_pos h256])
          go_wp2_with fail
          go_ret
          exact ⟨ret_int (by rw [HV2.out]; rfl), Lib.hid (Below.refl _ _)⟩
        · have HV2 : Hid (checkL s.data.toList = if (stepsB s).all okStep then 0 else 4) := Lib.hid (by rw [HV.out, if_neg h256])
          have h256' : s.size ≤ 256 := by omega
          clear h256 HV
          go_wp2_with fail
          refine (stepsRef_pl hs).mono ?_
          rintro e w1 ⟨v, rfl, HP, HB⟩
          obtain ⟨p, c, rfl, hS, h1, h2⟩ := HP.out
          have HS := Lib.hid hS
          have hN : (stepsB s).length ≤ 257 := by
            have := stepsB_len s
            omega
          have HSZ : Hid (∀ k, k < (stepsB s).length → ((stepsB s).getD k ByteArray.empty).size ≤ 100000) := Lib.hid fun k hk => by
            have hk' : k < (stepsL s.data.toList).length := by unfold stepsB at hk; simpa using hk
            have e : ((stepsB s).getD k ByteArray.empty) = ⟨((stepsL s.data.toList)[k]).toArray⟩ := by
              unfold stepsB
              rw [List.getD_eq_getElem?_getD, List.getElem?_map, List.getElem?_eq_getElem hk']
              rfl
            rw [e]
            show ((stepsL s.data.toList)[k]).toArray.size ≤ _
            rw [List.size_toArray]
            have := (steps_mem (List.getElem_mem hk')).2.2
            rw [← Lib.size_eq] at this
            omega
          clear HP hS h1 h2
          generalize stepsB s = ps at *
          generalize hn : ps.length = n at *
          have HN := Lib.hid hn
          clear hn
          go_wp2_with fail
          go_loop [5] (fun i => ∃ k : Nat, k ≤ n ∧ i = .int .i64 k ∧ Hid ((ps.take k).all okStep = true)) (fun i => n - (intOf i).toNat)
          case atStart => exact ⟨0, Nat.zero_le _, rfl, Lib.hid rfl⟩
          case round =>
            obtain ⟨j, hj, rfl, HAJ⟩ := hrel
            by_cases hlt2 : j < n
            · have hltp : j < ps.length := by rw [HN.out]; exact hlt2
              obtain ⟨b, o, rfl, hc⟩ := HS.out j hltp
              have HT := Lib.hid (all_take_s hltp)
              have HNO : Hid (okStep (ps.getD j ByteArray.empty) = false → ps.all okStep = false) := Lib.hid fun h => all_not_s hltp h
              have hxs := HSZ.out j hlt2
              clear hltp
              generalize ps.getD j ByteArray.empty = x at hc HT HNO hxs
              by_cases hx : x.toList = [46, 46]
              · have HX : Hid (okStep x = true) := Lib.hid (by unfold okStep; rw [hx]; rfl)
                go_wp2_with fail
                go_round
                case rel => exact ⟨j + 1, by omega, by go_num, Lib.hid (by rw [HT.out, HAJ.out, HX.out]; rfl)⟩
                case measure => simp [intOf]; omega
              · have hx2 : (x.toList == [46, 46]) = false := by simpa using hx
                have HX : Hid (okStep x = nameL x.data.toList) := Lib.hid (by unfold okStep; rw [hx2]; rfl)
                clear hx
                go_wp2_with fail
                refine (nameRef_any x _ (by omega)).mono ?_
                rintro e w' ⟨rfl, rfl⟩
                cases hnm : nameL x.data.toList with
                | true =>
                  rw [hnm] at HX
                  clear hnm
                  go_wp2_with fail
                  go_round
                  case rel => exact ⟨j + 1, by omega, by go_num, Lib.hid (by rw [HT.out, HAJ.out, HX.out]; rfl)⟩
                  case measure => simp [intOf]; omega
                | false =>
                  rw [hnm] at HX
                  clear hnm
                  have HV3 : Hid (checkL s.data.toList = 4) := Lib.hid (by rw [HV2.out, HNO.out HX.out]; rfl)
                  go_wp2_with fail
                  go_ret
                  exact ⟨ret_int (by rw [HV3.out]; rfl), HB⟩
            · have HV3 : Hid (checkL s.data.toList = 0) := Lib.hid (by
                have h1 := HAJ.out
                rw [List.take_of_length_le (by rw [HN.out]; omega)] at h1
                rw [HV2.out, if_pos h1])
              go_wp2_with fail
              go_ret
              exact ⟨ret_int (by rw [HV3.out]; rfl), HB⟩

/-- Behind 'same' what lay below the first list's memory lies as it lay. -/
def Spoilt (base g cap : Nat) (w0 wr : World) : Prop := (∃ cur : Array Value, wr.heap[g]? = some (.cells cur 9 (0, 0)) ∧ cur.size = cap) ∧ Below base w0 wr
theorem spoilt_next {base g cap j : Nat} {w0 wr : World} {v : Value} (h : Spoilt base g cap w0 wr) (hg : base ≤ g) (hb : base ≤ w0.heap.size) : Spoilt base g cap w0 (wr.setCell ⟨g, j, none⟩ v) := by
  obtain ⟨⟨cur, h1, h2⟩, h3⟩ := h
  refine ⟨⟨cur.setIfInBounds j v, ?_, by simpa using h2⟩, h3.setCell (p := ⟨g, j, none⟩) hg _⟩
  simp [World.setCell, Array.getElem?_modify, h1]
theorem spoilt_cell {base g cap j : Nat} {w0 wr : World} (h : Spoilt base g cap w0 wr) (hj : j < cap) : (∃ v, wr.cell? ⟨g, j, none⟩ = some v) ∧ wr.frozen? ⟨g, j, none⟩ = false := by
  obtain ⟨⟨cur, h1, h2⟩, _⟩ := h
  constructor
  · rw [Lib.cell_of_heap h1]
    exact ⟨cur[j]'(by omega), Array.getElem?_eq_getElem (by omega)⟩
  · exact Lib.frozen_of_heap h1 j

set_option maxRecDepth 100000 in
theorem same_own {w : World} {base : Nat} {v u : Value} {xs ys : List ByteArray} (hv : w.ownsRow base 9 1 v xs.length (xs.map Value.string)) (hb : base ≤ w.heap.size) (hu : PlR w u ys) (he : xs = ys) :
    Calls Tryd.prog 6 #[v, u] w fun e w' => e = .returned (.bool true) ∧ Hid (Below base w w') := by
  have HX := Lib.hid (plR_of_own hv)
  have HU := Lib.hid hu
  have HEQ : Hid (sameL xs ys = true) := Lib.hid (by unfold sameL; exact decide_eq_true he)
  clear hu he
  rcases hv.2 with ⟨rfl, h0⟩ | ⟨g, cap, cur, rfl, hg, hh, hn, hm, hcs, _⟩
  · rw [h0] at hv
    clear h0 hv
    go_enter Tryd.func6, Tryd.ntmps6
    go_wp2_with fail
    refine (same_pl HX.out HU.out HEQ.out).mono ?_
    rintro e w1 ⟨rfl, HB1⟩
    go_wp2_with fail
    go_loop [6] (fun i => i = .int .i64 0) (fun _ => 0)
    case atStart => rfl
    case round =>
      obtain rfl := hrel
      go_wp2
      go_ret
      exact ⟨rfl, Lib.hid (HB1.out.mono hb)⟩
  · have HG := Lib.hid hh
    unfold maxLen at hm
    have hcs' : cur.size = cap := by rw [hcs]; omega
    have HCS := Lib.hid hcs'
    clear hv hh hcs hcs'
    go_enter Tryd.func6, Tryd.ntmps6
    go_wp2_with fail
    refine (same_pl HX.out HU.out HEQ.out).mono ?_
    rintro e w1 ⟨rfl, HB1⟩
    have HSP : Hid (Spoilt base g cap w w1) := Lib.hid ⟨⟨cur, by rw [HB1.out.block g (Array.getElem?_eq_some_iff.1 HG.out).1]; exact HG.out, HCS.out⟩, HB1.out.mono hb⟩
    clear HX
    generalize xs.length = n at *
    go_wp2_with fail
    go_loopw [6] (fun i wr => ∃ k : Nat, k ≤ n ∧ i = .int .i64 k ∧ Hid (Spoilt base g cap w wr)) (fun i _ => n - (intOf i).toNat)
    case atStart => exact ⟨0, Nat.zero_le _, rfl, HSP⟩
    case round =>
      obtain ⟨k, hk, rfl, HS⟩ := hrel
      by_cases hlt : k < n
      · obtain ⟨⟨u0, hc⟩, hf⟩ := spoilt_cell HS.out (j := k) (by omega)
        go_wp2_with fail
        go_roundw
        case rel => exact ⟨k + 1, by omega, by go_num, Lib.hid (spoilt_next HS.out hg hb)⟩
        case measure => simp [intOf]; omega
      · go_wp2
        go_ret
        exact ⟨rfl, Lib.hid HS.out.2⟩
end Go.Proofs.YtjhcpkbdmmlbiaaDoor
