/- Walks of the reference: may a word be? -/
import Derived.Test.YtpibjhlldlbocaaGreatSynC
namespace Go.Proofs.YtpibjhlldlbocaaGreat
open Go.RowKit Sx

namespace Sx
def special : List UInt8 := [32, 9, 10, 39, 34, 92, 36, 59, 38, 124, 60, 62, 40, 41, 42, 63, 91]
def okByte (q : Bool) (c : UInt8) : Bool := !(c == 0) && (q || !(special.any (· == c) || c == 96))
def ill (l : List UInt8) : Bool := match l with
  | [] => false
  | b :: _ => b == 35 || b == 126
def partOk (prev : Option Part) (p : Part) (next : Option Part) : Bool :=
  if p.var then isParam p.text.data.toList
  else (p.quoted || !p.text.data.toList.isEmpty) && p.text.data.toList.all (okByte p.quoted) &&
    !(prev.isNone && !p.quoted && ill p.text.data.toList) &&
    !(match prev with
      | some q => !q.var && (q.quoted == p.quoted)
      | none => false) &&
    !(p.quoted && p.text.data.toList.isEmpty && ((match prev with
      | some q => q.quoted
      | none => false) || (match next with
      | some q => q.quoted
      | none => false)))
def mayPs : Option Part → List Part → Bool
  | _, [] => true
  | prev, p :: r => partOk prev p r.head? && mayPs (some p) r
def Word.may (x : Word) : Bool := !x.parts.isEmpty && mayPs none x.parts
def prevAt (l : List Part) : Nat → Option Part
  | 0 => none
  | k + 1 => l[k]?
theorem mayPs_drop {l : List Part} {k : Nat} (h : k < l.length) : mayPs (prevAt l k) (l.drop k) = (partOk (prevAt l k) l[k] l[k + 1]? && mayPs (prevAt l (k + 1)) (l.drop (k + 1))) := by
  rw [List.drop_eq_getElem_cons h, mayPs, List.head?_drop]
  show _ = (_ && mayPs l[k]? _)
  rw [List.getElem?_eq_getElem h]
end Sx

theorem byte_eq (c d : UInt8) : (c == d) = decide (c.toNat = d.toNat) := by
  rw [Bool.eq_iff_iff]; simp [← UInt8.toNat_inj]
theorem okByte_plain (c : UInt8) : okByte false c = (!decide (c.toNat = 0) && !(special.any (· == c) || decide (c.toNat = 96))) := by
  unfold okByte
  rw [byte_eq c 0, byte_eq c 96]
  rfl
theorem okByte_quoted (c : UInt8) : okByte true c = !decide (c.toNat = 0) := by
  unfold okByte
  rw [byte_eq c 0]
  simp
theorem ill_cons (b : UInt8) (r : List UInt8) : ill (b :: r) = (decide (b.toNat = 35) || decide (b.toNat = 126)) := by
  unfold ill
  dsimp only
  rw [byte_eq b 35, byte_eq b 126]
  rfl
theorem partOk_bad {prev next : Option Part} {t : ByteArray} {q : Bool} (h : t.data.toList.all (okByte q) = false) : partOk prev ⟨false, t, q⟩ next = false := by
  unfold partOk
  dsimp only
  rw [if_neg (by decide), h]
  simp
/-- Of a part that is neither quoted nor a parameter. -/
theorem partOk_plain {prev next : Option Part} {t : ByteArray} (he : t.data.toList.isEmpty = false) (h : t.data.toList.all (okByte false) = true) :
    partOk prev ⟨false, t, false⟩ next = (!(prev.isNone && ill t.data.toList) && !(match prev with
      | some q => !q.var && (q.quoted == false)
      | none => false)) := by
  unfold partOk
  dsimp only
  rw [if_neg (by decide), h, he]
  simp
/-- Of a quoted part that is no parameter. -/
theorem partOk_quoted {prev next : Option Part} {t : ByteArray} (h : t.data.toList.all (okByte true) = true) :
    partOk prev ⟨false, t, true⟩ next = (!(match prev with
      | some q => !q.var && (q.quoted == true)
      | none => false) && !(t.data.toList.isEmpty && ((match prev with
      | some q => q.quoted
      | none => false) || (match next with
      | some q => q.quoted
      | none => false)))) := by
  unfold partOk
  dsimp only
  rw [if_neg (by decide), h]
  simp
theorem box_more {w wr : World} {o o' : Obj} (hb : Below (w.heap.size + 1) (w.alloc o) wr) : Below (w.heap.size + 1) (w.alloc o) (wr.alloc o') :=
  hb.alloc (by have := hb.size; simpa using this) o'
theorem box_alloc {w wr : World} {o o' : Obj} (hb : Below (w.heap.size + 1) (w.alloc o) wr) : Below w.heap.size w (wr.alloc o') := box_self (box_more hb)

set_option maxRecDepth 100000 in
set_option maxHeartbeats 4000000 in
theorem mayWordRef_any {w : World} {cs : List Value} {x : Word} (hx : WordR w cs x) (hB : x.bulk ≤ 2000000) :
    Calls Tryz.prog 52 #[.agg cs.toArray] w fun e w' => e = .returned (.bool x.may) ∧ Below w.heap.size w w' := by
  obtain ⟨p, c, rfl, h1, h2, h3⟩ := hx
  have HX := Lib.hid h3
  have hl : x.parts.length ≤ 9223372036854775807 := by unfold maxLen at h2; omega
  have HBULK : Hid (∀ (i : Nat) q, x.parts[i]? = some q → q.text.size ≤ 2000000) := Lib.hid fun i q hq => by
    have h : q.text.size + 1 ≤ (x.parts.map Part.bulk).sum := sum_at (f := Part.bulk) hq
    unfold Word.bulk at hB
    omega
  clear h3 h1 h2 hB
  obtain ⟨R, hR⟩ : ∃ R, R = x.may := ⟨_, rfl⟩
  rw [← hR]
  have HR : Hid (R = (!x.parts.isEmpty && mayPs none x.parts)) := Lib.hid hR
  clear hR
  by_cases h0 : x.parts.length = 0
  · rw [h0]
    go_enter Tryz.func52, Tryz.ntmps52
    go_wp2_with fail
    go_ret
    exact ⟨ret_bool (by rw [HR.out, List.length_eq_zero_iff.1 h0]; rfl), box_self (Below.refl _ _)⟩
  · have HR0 : Hid (R = mayPs (prevAt x.parts 0) (x.parts.drop 0)) := Lib.hid (by
      rw [HR.out]
      cases hp : x.parts with
      | nil => rw [hp] at h0; exact absurd rfl h0
      | cons a r => rfl)
    clear HR
    generalize hn : x.parts.length = n at *
    have HN := Lib.hid hn
    clear hn
    have hpos : ((n : Int) == 0) = false := by simp; omega
    go_enter Tryz.func52, Tryz.ntmps52
    go_wp2_with fail
    go_loopw [3] (fun i wr => ∃ k : Nat, k ≤ n ∧ i = .int .i64 k ∧ Hid (R = mayPs (prevAt x.parts k) (x.parts.drop k)) ∧ Hid (Below (w.heap.size + 1) (w.alloc (.cells #[.slice p n c, .int .i64 x.at_] 31)) wr)) (fun i _ => n - (intOf i).toNat)
    case atStart => exact ⟨0, Nat.zero_le _, rfl, HR0, Lib.hid (Below.refl _ _)⟩
    case round =>
      clear HR0
      obtain ⟨k, hk, rfl, HK, HB⟩ := hrel
      have c0 : wr.cell? ⟨w.heap.size, 0, none⟩ = some (.slice p n c) := box_cell HB.out 0 rfl
      by_cases hlt : k < n
      · have hkx : k < x.parts.length := by rw [HN.out]; exact hlt
        have HD := Lib.hid (mayPs_drop hkx)
        have hts := HBULK.out k _ (List.getElem?_eq_getElem hkx)
        obtain ⟨b, o, rfl, _, hr⟩ := HX.out k hlt
        have hr : w.rangeAt b (o + k * 3) (partCells x.parts[k]) := by rw [← part_at hkx]; exact hr
        have hr := range_below (box_self HB.out) hr
        generalize x.parts[k] = P at *
        have e0 : wr.cell? ⟨b, o + k * 3, none⟩ = some (.bool P.var) := hr 0 _ rfl
        have e1 : wr.cell? ⟨b, o + k * 3 + 1, none⟩ = some (.string P.text) := hr 1 _ rfl
        have e2 : wr.cell? ⟨b, o + k * 3 + 2, none⟩ = some (.bool P.quoted) := hr 2 _ rfl
        clear hr
        obtain ⟨var, text, quoted⟩ := P
        dsimp only at *
        cases var with
        | true =>
          have HPM : Hid (∀ w, Calls Tryz.prog 53 #[.string text] w fun e w' => e = .returned (.bool (isParam text.data.toList)) ∧ w = w') := Lib.hid (paramRef_any text)
          have HO : Hid (partOk (prevAt x.parts k) ⟨true, text, quoted⟩ x.parts[k + 1]? = isParam text.data.toList) := Lib.hid rfl
          generalize isParam text.data.toList = g at *
          go_wp2_with (go_at_call 53; refine (HPM.out _).mono ?_; rintro e w' ⟨rfl, rfl⟩)
          · have hg : g = false := by cases g <;> simp_all
            go_ret
            exact ⟨ret_bool (by rw [HK.out, HD.out, HO.out, hg]; rfl), box_alloc HB.out⟩
          · have hg : g = true := by cases g <;> simp_all
            go_roundw
            case rel => exact ⟨k + 1, by omega, by go_num, Lib.hid (by rw [HK.out, HD.out, HO.out, hg]; rfl), Lib.hid (box_more HB.out)⟩
            case measure => simp [intOf]; omega
        | false =>
          cases quoted with
          | false =>
            by_cases hz : text.size = 0
            · have HO : Hid (partOk (prevAt x.parts k) ⟨false, text, false⟩ x.parts[k + 1]? = false) := Lib.hid (by
                unfold partOk
                rw [← Lib.toList_data, empty_of hz]
                rfl)
              have he := empty_of hz
              go_wp2_with fail
              go_ret
              exact ⟨ret_bool (by rw [HK.out, HD.out, HO.out]; rfl), box_alloc HB.out⟩
            · have htp : 0 < text.size := by omega
              have he := full_of htp
              have hne : ¬ text.toList = [] := by intro h; rw [h] at he; cases he
              have HED : Hid (text.data.toList.isEmpty = false) := Lib.hid (by rw [← Lib.toList_data]; exact he)
              go_wp2_with fail
              go_loop [5, 6] (fun j _ => ∃ m : Nat, m ≤ text.size ∧ j = .int .i64 m ∧ Hid (text.data.toList.all (okByte false) = (text.data.toList.drop m).all (okByte false))) (fun j _ => text.size - (intOf j).toNat)
              case atStart => exact ⟨0, Nat.zero_le _, rfl, Lib.hid rfl⟩
              case round =>
                obtain ⟨m, hm, rfl, HM⟩ := hrel
                by_cases hmt : m < text.size
                · have HA := Lib.hid (at_all (p := okByte false) hmt)
                  have HIN : Hid (∀ w, Calls Tryz.prog 69 #[.int .u8 text[m].toNat, .string ⟨special.toArray⟩] w fun e w' => e = .returned (.bool (special.any (· == text[m]))) ∧ w = w') := Lib.hid fun w => inRef_any _ ⟨special.toArray⟩ w (by decide)
                  have HO := Lib.hid (okByte_plain text[m])
                  generalize special.any (· == text[m]) = sp at *
                  go_wp2_with (go_at_call 69; refine (HIN.out _).mono ?_; rintro e w' ⟨rfl, rfl⟩)
                  · have hb : okByte false text[m] = false := by rw [HO.out, decide_eq_true (by assumption)]; rfl
                    go_ret
                    exact ⟨ret_bool (by rw [HK.out, HD.out, partOk_bad (by rw [HM.out, HA.out, hb]; rfl)]; rfl), box_alloc HB.out⟩
                  · have hb : okByte false text[m] = false := by rw [HO.out, show sp = true by assumption]; simp
                    go_ret
                    exact ⟨ret_bool (by rw [HK.out, HD.out, partOk_bad (by rw [HM.out, HA.out, hb]; rfl)]; rfl), box_alloc HB.out⟩
                  · have hb : okByte false text[m] = false := by
                      rw [HO.out, decide_eq_true (show text[m].toNat = 96 by have h : ((text[m].toNat : Int) == 0) = true ∨ ((text[m].toNat : Int) == 96) = true := by assumption
                                                                             simp only [beq_iff_eq] at h
                                                                             omega)]
                      simp
                    go_ret
                    exact ⟨ret_bool (by rw [HK.out, HD.out, partOk_bad (by rw [HM.out, HA.out, hb]; rfl)]; rfl), box_alloc HB.out⟩
                  · have hb : okByte false text[m] = true := by
                      have h : ((text[m].toNat : Int) == 0) = false ∧ ((text[m].toNat : Int) == 96) = false := by assumption
                      simp only [beq_eq_false_iff_ne] at h
                      rw [HO.out, decide_eq_false (by omega), decide_eq_false (by omega), show sp = false by simpa using ‹¬ sp = true›]
                      rfl
                    go_round
                    case rel => exact ⟨m + 1, by omega, by go_num, Lib.hid (by rw [HM.out, HA.out, hb]; rfl)⟩
                    case measure => simp [intOf]; omega
                · have hall : text.data.toList.all (okByte false) = true := by
                    rw [HM.out, show m = text.data.toList.length by rw [← Lib.size_eq]; omega, List.drop_length]; rfl
                  have HO := Lib.hid (partOk_plain (prev := prevAt x.parts k) (next := x.parts[k + 1]?) HED.out hall)
                  clear HM hall
                  obtain ⟨r, hr0⟩ := at_head htp
                  cases k with
                  | zero =>
                    have HI : Hid (ill text.data.toList = (decide (text[0].toNat = 35) || decide (text[0].toNat = 126))) := Lib.hid (by rw [hr0]; exact ill_cons _ _)
                    go_wp2_with fail
                    · have hi : ill text.data.toList = true := by rw [HI.out, decide_eq_true (show text[0].toNat = 35 by have h : (text[0].toNat : Int) = 35 := by assumption
                                                                                                                         omega)]; rfl
                      go_ret
                      exact ⟨ret_bool (by rw [HK.out, HD.out, HO.out, hi]; rfl), box_alloc HB.out⟩
                    · have hi : ill text.data.toList = true := by
                        have h : ((text[0].toNat : Int) == 35) = true ∨ ((text[0].toNat : Int) == 126) = true := by assumption
                        simp only [beq_iff_eq] at h
                        rw [HI.out]
                        simp only [Bool.or_eq_true, decide_eq_true_eq]
                        omega
                      go_ret
                      exact ⟨ret_bool (by rw [HK.out, HD.out, HO.out, hi]; rfl), box_alloc HB.out⟩
                    · have hi : ill text.data.toList = false := by
                        have h : ((text[0].toNat : Int) == 35) = false ∧ ((text[0].toNat : Int) == 126) = false := by assumption
                        simp only [beq_eq_false_iff_ne] at h
                        rw [HI.out, decide_eq_false (by omega), decide_eq_false (by omega)]
                        rfl
                      go_quiet (fail)
                      go_wp2
                      go_roundw
                      case rel => exact ⟨1, by omega, by go_num, Lib.hid (by rw [HK.out, HD.out, HO.out, hi]; rfl), Lib.hid (below_drewN (box_more HB.out) _)⟩
                      case measure => simp [intOf]; omega
                  | succ k =>
                    have hkp : k < x.parts.length := by omega
                    obtain ⟨b2, o2, hbo, _, hr2⟩ := HX.out k (by omega)
                    obtain ⟨rfl, rfl⟩ : b2 = b ∧ o2 = o := by
                      injection hbo with hbo
                      injection hbo with h1 h2
                      exact ⟨h1.symm, h2.symm⟩
                    have hr2 : w.rangeAt b2 (o2 + k * 3) (partCells x.parts[k]) := by rw [← part_at hkp]; exact hr2
                    have hr2 := range_below (box_self HB.out) hr2
                    have HO2 : Hid (partOk (prevAt x.parts (k + 1)) ⟨false, text, false⟩ x.parts[k + 1 + 1]? = !(!x.parts[k].var && (x.parts[k].quoted == false))) := Lib.hid (by
                      rw [HO.out]
                      show (!((x.parts[k]?).isNone && _) && !(match x.parts[k]? with
                        | some q => !q.var && (q.quoted == false)
                        | none => false)) = _
                      rw [List.getElem?_eq_getElem hkp]
                      simp)
                    generalize x.parts[k] = Q at *
                    obtain ⟨qv, qt, qq⟩ := Q
                    dsimp only at *
                    have f0 : wr.cell? ⟨b2, o2 + k * 3, none⟩ = some (.bool qv) := hr2 0 _ rfl
                    have f2 : wr.cell? ⟨b2, o2 + k * 3 + 2, none⟩ = some (.bool qq) := hr2 2 _ rfl
                    have hal : Below wr.heap.size wr (wr.alloc (.cells #[.bool false, .string text, .bool false] 33)) := (Below.refl _ _).alloc (Nat.le_refl _) _
                    have c0' := cell_kept hal c0
                    have f0' := cell_kept hal f0
                    have f2' := cell_kept hal f2
                    clear hr2 HO hal
                    have hk1 : (0 : Int) < (k : Int) + 1 := by omega
                    have hk2 : (k : Int) + 1 - 1 = (k : Int) := by omega
                    have hk3 : (0 : Int) ≤ (k : Int) := by omega
                    have hk4 : (k : Int) < (n : Int) := by omega
                    cases qv <;> cases qq <;> go_wp2_with fail
                    all_goals go_quiet (fail)
                    all_goals go_wp2
                    all_goals first
                      | (go_ret; exact ⟨ret_bool (by rw [HK.out, HD.out, HO2.out]; rfl), below_drewN (box_alloc HB.out) _⟩)
                      | (go_roundw
                         case rel => exact ⟨k + 1 + 1, by omega, by go_num, Lib.hid (by rw [HK.out, HD.out, HO2.out]; rfl), Lib.hid (below_drewN (box_more HB.out) _)⟩
                         case measure => simp [intOf]; omega)
          | true =>
            have HHZ : Hid (text.toList.isEmpty = text.data.toList.isEmpty) := Lib.hid (by rw [Lib.toList_data])
            go_wp2_with fail
            go_loop [5, 6] (fun j _ => ∃ m : Nat, m ≤ text.size ∧ j = .int .i64 m ∧ Hid (text.data.toList.all (okByte true) = (text.data.toList.drop m).all (okByte true))) (fun j _ => text.size - (intOf j).toNat)
            case atStart => exact ⟨0, Nat.zero_le _, rfl, Lib.hid rfl⟩
            case round =>
              obtain ⟨m, hm, rfl, HM⟩ := hrel
              by_cases hmt : m < text.size
              · have HA := Lib.hid (at_all (p := okByte true) hmt)
                have HO := Lib.hid (okByte_quoted text[m])
                go_wp2_with fail
                · have hb : okByte true text[m] = false := by rw [HO.out, decide_eq_true (show text[m].toNat = 0 by assumption)]; rfl
                  go_ret
                  exact ⟨ret_bool (by rw [HK.out, HD.out, partOk_bad (by rw [HM.out, HA.out, hb]; rfl)]; rfl), box_alloc HB.out⟩
                · have hb : okByte true text[m] = true := by rw [HO.out, decide_eq_false (show ¬ text[m].toNat = 0 by assumption)]; rfl
                  go_round
                  case rel => exact ⟨m + 1, by omega, by go_num, Lib.hid (by rw [HM.out, HA.out, hb]; rfl)⟩
                  case measure => simp [intOf]; omega
              · have hall : text.data.toList.all (okByte true) = true := by
                  rw [HM.out, show m = text.data.toList.length by rw [← Lib.size_eq]; omega, List.drop_length]; rfl
                have HO := Lib.hid (partOk_quoted (prev := prevAt x.parts k) (next := x.parts[k + 1]?) hall)
                clear HM hall
                have hal : Below wr.heap.size wr (wr.alloc (.cells #[.bool false, .string text, .bool true] 33)) := (Below.refl _ _).alloc (Nat.le_refl _) _
                have c0' := cell_kept hal c0
                obtain ⟨NXT, HNX⟩ : ∃ NXT : Bool, Hid ((k + 1 < n → (wr.alloc (.cells #[.bool false, .string text, .bool true] 33)).cell? ⟨b, o + (k + 1) * 3 + 2, none⟩ = some (.bool NXT)) ∧ (¬ k + 1 < n → NXT = false) ∧ (match x.parts[k + 1]? with
                    | some q => q.quoted
                    | none => false) = NXT) := by
                  by_cases hn1 : k + 1 < n
                  · have hn2 : k + 1 < x.parts.length := by rw [HN.out]; exact hn1
                    obtain ⟨b2, o2, hbo, _, hr2⟩ := HX.out (k + 1) hn1
                    obtain ⟨rfl, rfl⟩ : b2 = b ∧ o2 = o := by
                      injection hbo with hbo
                      injection hbo with h1 h2
                      exact ⟨h1.symm, h2.symm⟩
                    have hr2 : w.rangeAt b2 (o2 + (k + 1) * 3) (partCells x.parts[k + 1]) := by rw [← part_at hn2]; exact hr2
                    have hr2 := range_below (box_self HB.out) hr2
                    refine ⟨x.parts[k + 1].quoted, Lib.hid ⟨fun _ => cell_kept hal (hr2 2 _ rfl), (fun h => absurd hn1 h), ?_⟩⟩
                    rw [List.getElem?_eq_getElem hn2]
                  · refine ⟨false, Lib.hid ⟨(fun h => absurd h hn1), fun _ => rfl, ?_⟩⟩
                    rw [List.getElem?_eq_none (by rw [HN.out]; omega)]
                have g2 := HNX.out.1
                have hno := HNX.out.2.1
                rw [HNX.out.2.2] at HO
                clear HNX
                cases k with
                | zero =>
                  have HO2 : Hid (partOk (prevAt x.parts 0) ⟨false, text, true⟩ x.parts[0 + 1]? = !(text.data.toList.isEmpty && NXT)) := Lib.hid (by rw [HO.out]; simp [prevAt])
                  clear HO hal
                  rw [← Lib.toList_data] at HO2
                  by_cases hn1 : 1 < n
                  · have g2' : (wr.alloc (.cells #[.bool false, .string text, .bool true] 33)).cell? ⟨b, o + 3 + 2, none⟩ = some (.bool NXT) := g2 hn1
                    clear g2 hno
                    have hn2 : (1 : Int) < (n : Int) := by omega
                    go_wp2_with fail
                    all_goals go_quiet (fail)
                    all_goals go_wp2
                    all_goals first
                      | (go_ret; exact ⟨ret_bool (by rw [HK.out, HD.out, HO2.out]; simp_all), below_drewN (box_alloc HB.out) _⟩)
                      | (go_roundw
                         case rel => exact ⟨0 + 1, by omega, by go_num, Lib.hid (by rw [HK.out, HD.out, HO2.out]; simp_all), Lib.hid (below_drewN (box_more HB.out) _)⟩
                         case measure => simp [intOf]; omega)
                  · have hx0 : NXT = false := hno hn1
                    subst hx0
                    clear g2 hno
                    have hn2 : ¬ (1 : Int) < (n : Int) := by omega
                    go_wp2_with fail
                    all_goals go_quiet (fail)
                    all_goals go_wp2
                    all_goals first
                      | (go_ret; exact ⟨ret_bool (by rw [HK.out, HD.out, HO2.out]; simp_all), below_drewN (box_alloc HB.out) _⟩)
                      | (go_roundw
                         case rel => exact ⟨0 + 1, by omega, by go_num, Lib.hid (by rw [HK.out, HD.out, HO2.out]; simp_all), Lib.hid (below_drewN (box_more HB.out) _)⟩
                         case measure => simp [intOf]; omega)
                | succ k =>
                  have hkp : k < x.parts.length := by omega
                  obtain ⟨b2, o2, hbo, _, hr2⟩ := HX.out k (by omega)
                  obtain ⟨rfl, rfl⟩ : b2 = b ∧ o2 = o := by
                    injection hbo with hbo
                    injection hbo with h1 h2
                    exact ⟨h1.symm, h2.symm⟩
                  have hr2 : w.rangeAt b2 (o2 + k * 3) (partCells x.parts[k]) := by rw [← part_at hkp]; exact hr2
                  have hr2 := range_below (box_self HB.out) hr2
                  have HO2 : Hid (partOk (prevAt x.parts (k + 1)) ⟨false, text, true⟩ x.parts[k + 1 + 1]? = (!(!x.parts[k].var && (x.parts[k].quoted == true)) && !(text.toList.isEmpty && (x.parts[k].quoted || NXT)))) := Lib.hid (by
                    rw [HO.out, Lib.toList_data]
                    simp [prevAt, List.getElem?_eq_getElem hkp])
                  generalize x.parts[k] = Q at *
                  obtain ⟨qv, qt, qq⟩ := Q
                  dsimp only at *
                  have f0' := cell_kept hal (show wr.cell? ⟨b2, o2 + k * 3, none⟩ = some (.bool qv) from hr2 0 _ rfl)
                  have f2' := cell_kept hal (show wr.cell? ⟨b2, o2 + k * 3 + 2, none⟩ = some (.bool qq) from hr2 2 _ rfl)
                  clear hr2 HO hal
                  have hk1 : (0 : Int) < (k : Int) + 1 := by omega
                  have hk2 : (k : Int) + 1 - 1 = (k : Int) := by omega
                  have hk3 : (0 : Int) ≤ (k : Int) := by omega
                  have hk4 : (k : Int) < (n : Int) := by omega
                  by_cases hn1 : k + 1 + 1 < n
                  · have g2' := g2 hn1
                    clear g2 hno
                    have hn2 : (k : Int) + 1 + 1 < (n : Int) := by omega
                    cases qv <;> cases qq
                    all_goals go_wp2_with fail
                    all_goals go_quiet (fail)
                    all_goals go_wp2
                    all_goals first
                      | (go_ret; exact ⟨ret_bool (by rw [HK.out, HD.out, HO2.out]; simp_all), below_drewN (box_alloc HB.out) _⟩)
                      | (go_roundw
                         case rel => exact ⟨k + 1 + 1, by omega, by go_num, Lib.hid (by rw [HK.out, HD.out, HO2.out]; simp_all), Lib.hid (below_drewN (box_more HB.out) _)⟩
                         case measure => simp [intOf]; omega)
                  · have hx0 : NXT = false := hno hn1
                    subst hx0
                    clear g2 hno
                    have hn2 : ¬ (k : Int) + 1 + 1 < (n : Int) := by omega
                    cases qv <;> cases qq
                    all_goals go_wp2_with fail
                    all_goals go_quiet (fail)
                    all_goals go_wp2
                    all_goals first
                      | (go_ret; exact ⟨ret_bool (by rw [HK.out, HD.out, HO2.out]; simp_all), below_drewN (box_alloc HB.out) _⟩)
                      | (go_roundw
                         case rel => exact ⟨k + 1 + 1, by omega, by go_num, Lib.hid (by rw [HK.out, HD.out, HO2.out]; simp_all), Lib.hid (below_drewN (box_more HB.out) _)⟩
                         case measure => simp [intOf]; omega)
      · have HE : Hid (k = n) := Lib.hid (by omega)
        go_wp2
        go_ret
        exact ⟨ret_bool (by rw [HK.out, HE.out, ← HN.out, List.drop_length]; rfl), box_self HB.out⟩
end Go.Proofs.YtpibjhlldlbocaaGreat
