/- Walks: Opts.Has; the reference's has. -/
import Derived.Test.YtlnnnlpofocgpaaOpS
import Derived.Handy
import Derived.Deep.DeepCutAuto
import Derived.Deep.CutBlock
namespace Go.Proofs.Ytlnnnlpofocgpaa
open Go.RowKit Ox Px

theorem u8_back (c : UInt8) : ((c.toNat : Int).toNat.toUInt8) = c := by simp
set_option maxRecDepth 100000 in
theorem has_any (w : World) (s : ByteArray) (u : Value) (c : UInt8) :
    Calls Try.prog 8 #[.agg #[.string s, u], .int .u8 c.toNat] w fun e w' => e = .returned (.bool (decide (0 ≤ Lib.indexByte s.data.toList c))) ∧ Below w.heap.size w w' := by
  go_enter Try.func8, Try.ntmps8
  have hx := u8_back c
  go_wp2_with (go_at_call 19; refine (Try.strings_IndexByte _ _ _).mono ?_; rintro e w' ⟨rfl, rfl⟩; rw [hx])
  go_ret
  exact ⟨rfl, (Below.refl _ _).alloc (Nat.le_refl _) _⟩
set_option maxRecDepth 100000 in
theorem refHas_any (w : World) (s : ByteArray) (c : UInt8) (hs : s.size ≤ 1000000000) :
    Calls Try.prog 21 #[.string s, .int .u8 c.toNat] w fun e w' => e = .returned (.bool (s.data.toList.contains c)) ∧ w' = w := by
  go_enter Try.func21, Try.ntmps21
  go_wp2_with fail
  go_loopw [5] (fun i wr => ∃ k : Nat, k ≤ s.size ∧ i = .int .i64 k ∧ wr = w ∧ Hid ((s.data.toList.take k).contains c = false)) (fun i _ => s.size - (intOf i).toNat)
  case atStart => exact ⟨0, Nat.zero_le _, rfl, rfl, Lib.hid rfl⟩
  case round =>
    obtain ⟨k, hk, rfl, rfl, HT⟩ := hrel
    by_cases hlt : k < s.size
    · obtain ⟨x, hx⟩ : ∃ x : UInt8, s[k]'hlt = x := ⟨_, rfl⟩
      have Hxl : Hid (s.data.toList[k]? = some x) := Lib.hid (by rw [← hx]; exact Lib.data_getElem? s k hlt)
      by_cases hxc : x = c
      · subst hxc
        have HV : Hid (s.data.toList.contains x = true) := Lib.hid (by simpa using List.mem_of_getElem? Hxl.out)
        go_wp2_with fail
        go_ret
        exact ⟨ret_b HV.out.symm, rfl⟩
      · have hne : ((x.toNat : Int) == (c.toNat : Int)) = false := beq_eq_false_iff_ne.2 fun e => hxc (UInt8.toNat_inj.1 (by omega))
        have HN : Hid ((s.data.toList.take (k + 1)).contains c = false) := Lib.hid (by
          rw [take_snoc8 Hxl.out]
          have h := HT.out
          simp only [List.contains_eq_mem, List.mem_append, decide_eq_false_iff_not] at h ⊢
          rintro (h' | h')
          · exact h h'
          · exact hxc (List.mem_singleton.1 h').symm)
        clear hxc
        go_wp2_with fail
        go_roundw
        case rel => exact ⟨k + 1, by omega, by go_num, trivial, HN⟩
        case measure => simp [intOf]; omega
    · obtain rfl : k = s.size := by omega
      have HV : Hid (s.data.toList.contains c = false) := Lib.hid (by have := HT.out; rwa [List.take_of_length_le (by rw [← Lib.size_eq]; exact Nat.le_refl _)] at this)
      go_wp2_with fail
      go_ret
      exact ⟨ret_b HV.out.symm, rfl⟩

theorem extract_two (x : ByteArray) (j : Nat) (h : j < x.size) : x.extract j (j + 1) = ⟨#[x[j]'h]⟩ := by
  have h1 : x.data.toList[j]? = some (x[j]'h) := Lib.data_getElem? x j h
  have e : (x.extract j (j + 1)).data.toList = [x[j]'h] := by
    rw [ByteArray.data_extract, Array.toList_extract, List.extract_eq_take_drop, Nat.add_sub_cancel_left]
    have hl : j < x.data.toList.length := by rw [← Lib.size_eq]; exact h
    rw [List.drop_eq_getElem_cons hl, List.take_succ_cons, List.take_zero]
    rw [List.getElem?_eq_getElem hl] at h1
    rw [Option.some.inj h1]
  have e2 : (x.extract j (j + 1)).data = #[x[j]'h] := by rw [← Array.toArray_toList (xs := (x.extract j (j + 1)).data), e]
  cases hx : x.extract j (j + 1) with
  | mk d => rw [hx] at e2; exact congrArg _ e2
theorem letter_ways (c : UInt8) : (isLetter c = true ∧ ((97 : Int) ≤ (c.toNat : Int) ∧ (c.toNat : Int) ≤ 122 ∨ ¬ (97 : Int) ≤ (c.toNat : Int) ∧ (65 : Int) ≤ (c.toNat : Int) ∧ (c.toNat : Int) ≤ 90)) ∨
    (isLetter c = false ∧ ((97 : Int) ≤ (c.toNat : Int) ∧ ¬ (c.toNat : Int) ≤ 122 ∧ (65 : Int) ≤ (c.toNat : Int) ∧ ¬ (c.toNat : Int) ≤ 90 ∨ ¬ (97 : Int) ≤ (c.toNat : Int) ∧ ¬ (65 : Int) ≤ (c.toNat : Int) ∨ ¬ (97 : Int) ≤ (c.toNat : Int) ∧ (65 : Int) ≤ (c.toNat : Int) ∧ ¬ (c.toNat : Int) ≤ 90)) := by
  cases h : isLetter c with
  | true =>
    left
    refine ⟨rfl, ?_⟩
    unfold isLetter at h
    simp only [Bool.or_eq_true, Bool.and_eq_true, decide_eq_true_eq] at h
    omega
  | false =>
    right
    refine ⟨rfl, ?_⟩
    unfold isLetter at h
    simp only [Bool.or_eq_false_iff, Bool.and_eq_false_iff, decide_eq_false_iff_not] at h
    omega

/-- What the reference's Parse answers. -/
def RefQ (B : Nat) (w' : World) (e : Ending) (r : ByteArray × List ByteArray × Int) : Prop :=
  ∃ u, e = .returned (.tuple #[.string r.1, u, .int .i64 r.2.2]) ∧ PlR w' u r.2.1 ∧ ∀ p n c, u = .slice p n c → ∀ a, p = some a → B ≤ a.block

set_option maxRecDepth 100000 in
set_option maxHeartbeats 4000000 in
theorem refParse_any (w : World) (v : Value) (xs : List ByteArray) (known : ByteArray) (least most : Int) (hx : PlR w v xs) (hl : xs.length ≤ 100000) (hs : ∀ x ∈ xs, x.size ≤ 10000) (hk : known.size ≤ 1000000) :
    Calls Try.prog 13 #[.string known, v, .int .i64 least, .int .i64 most] w fun e w' => RefQ w.heap.size w' e (parseD known.data.toList xs least most) ∧ Below w.heap.size w w' := by
  obtain ⟨p, c, rfl, h1, h2, h3⟩ := hx
  have HS := Lib.hid h1
  clear h1
  unfold maxLen at h3
  go_enter Try.func13, Try.ntmps13
  by_cases hbad : least < 0 ∨ most < least
  · have HV : Hid (parseD known.data.toList xs least most = (ByteArray.empty, [], 1)) := Lib.hid (by
      unfold parseD
      rw [if_pos (hbad.elim .inl fun h => .inr (.inl h))])
    by_cases q1 : least < 0
    · clear hbad
      go_wp2_with fail
      go_returns
      exact ⟨by rw [HV.out]; exact ⟨_, rfl, nil_plr _, fun p n c h a ha => by cases h; cases ha⟩, Below.refl _ _⟩
    · have q2 := hbad.resolve_left q1
      clear hbad
      go_wp2_with fail
      go_returns
      exact ⟨by rw [HV.out]; exact ⟨_, rfl, nil_plr _, fun p n c h a ha => by cases h; cases ha⟩, Below.refl _ _⟩
  · have q1 : ¬ least < 0 := fun h => hbad (.inl h)
    have q2 : ¬ most < least := fun h => hbad (.inr h)
    clear hbad
    have hpd : ∀ b, known.data.toList.all isLetter = b → parseD known.data.toList xs least most = if b = false then (ByteArray.empty, [], 1) else restD least most (cutD known.data.toList xs) := by
      rintro b rfl
      unfold parseD restD
      by_cases hb : known.data.toList.all isLetter = false
      · rw [if_pos (.inr (.inr hb)), if_pos hb]
      · rw [if_neg (fun h => h.elim q1 fun h => h.elim q2 hb), if_neg hb]
        rfl
    have HPD := Lib.hid hpd
    clear hpd
    go_wp2_with fail
    go_loopw [11] (fun i wr => ∃ k : Nat, k ≤ known.size ∧ i = .int .i64 k ∧ w = wr ∧ Hid ((known.data.toList.take k).all isLetter = true)) (fun i _ => known.size - (intOf i).toNat)
    case atStart => exact ⟨0, Nat.zero_le _, rfl, rfl, Lib.hid rfl⟩
    case round =>
      obtain ⟨k, hk2, rfl, rfl, HT⟩ := hrel
      by_cases hlt : k < known.size
      · obtain ⟨x, hx⟩ : ∃ x : UInt8, known[k]'hlt = x := ⟨_, rfl⟩
        have Hxl : Hid (known.data.toList[k]? = some x) := Lib.hid (by rw [← hx]; exact Lib.data_getElem? known k hlt)
        rcases letter_ways x with ⟨hl1, hw⟩ | ⟨hl1, hw⟩
        · have HN : Hid ((known.data.toList.take (k + 1)).all isLetter = true) := Lib.hid (by rw [take_snoc8 Hxl.out, List.all_append, HT.out]; simpa using hl1)
          clear hl1
          rcases hw with ⟨p1, p2⟩ | ⟨p1, p2, p3⟩
          · go_wp2_with fail
            go_roundw
            case rel => exact ⟨k + 1, by omega, by go_num, trivial, HN⟩
            case measure => simp [intOf]; omega
          · go_wp2_with fail
            go_roundw
            case rel => exact ⟨k + 1, by omega, by go_num, trivial, HN⟩
            case measure => simp [intOf]; omega
        · have HV : Hid (parseD known.data.toList xs least most = (ByteArray.empty, [], 1)) := Lib.hid (by
            rw [HPD.out false (by rw [List.all_eq_false]; exact ⟨x, List.mem_of_getElem? Hxl.out, by rw [hl1]; decide⟩), if_pos rfl])
          clear hl1
          rcases hw with ⟨p1, p2, p3, p4⟩ | ⟨p1, p2⟩ | ⟨p1, p2, p3⟩
          · go_wp2_with fail
            go_returns
            exact ⟨by rw [HV.out]; exact ⟨_, rfl, nil_plr _, fun p n c h a ha => by cases h; cases ha⟩, Below.refl _ _⟩
          · go_wp2_with fail
            go_returns
            exact ⟨by rw [HV.out]; exact ⟨_, rfl, nil_plr _, fun p n c h a ha => by cases h; cases ha⟩, Below.refl _ _⟩
          · go_wp2_with fail
            go_returns
            exact ⟨by rw [HV.out]; exact ⟨_, rfl, nil_plr _, fun p n c h a ha => by cases h; cases ha⟩, Below.refl _ _⟩
      · obtain rfl : k = known.size := by omega
        have HV : Hid (parseD known.data.toList xs least most = restD least most (cutD known.data.toList xs)) := Lib.hid (by
          rw [HPD.out true (by have := HT.out; rwa [List.take_of_length_le (by rw [← Lib.size_eq]; exact Nat.le_refl _)] at this), if_neg (by decide)])
        clear HPD HT
        go_upto_block 2 with fail
        go_cut [13, 14] (fun tv i wx => ∃ (l : List UInt8) (k : Nat), k ≤ xs.length ∧ tv = .string ⟨l.toArray⟩ ∧ l.length ≤ 1000000000 ∧ i = .int .i64 k ∧ w = wx ∧ Hid (cutD known.data.toList xs = some (l, xs.drop k)))
        case first =>
          go_wp2_with fail
          go_loopw [13, 14] (fun tv i wr => ∃ (k : Nat) (l : List UInt8), k ≤ xs.length ∧ tv = .string ⟨l.toArray⟩ ∧ l.length ≤ 10000 * k ∧ i = .int .i64 k ∧ w = wr ∧ Hid (cutD known.data.toList xs = ahead l (cutD known.data.toList (xs.drop k)))) (fun _ i _ => xs.length - (intOf i).toNat)
          case atStart => exact ⟨0, [], Nat.zero_le _, rfl, Nat.zero_le _, rfl, rfl, Lib.hid (by rw [List.drop_zero]; cases cutD known.data.toList xs <;> rfl)⟩
          case round =>
            obtain ⟨k, l, hk3, rfl, hll, rfl, rfl, HC⟩ := hrel
            by_cases hlt : k < xs.length
            · obtain ⟨b, o, rfl, hc⟩ := HS.out k hlt
              have hsx := hs (xs.getD k ByteArray.empty) (getD_mem hlt)
              have HD := Lib.hid (drop_getD hlt)
              generalize xs.getD k ByteArray.empty = x at *
              by_cases hx2 : x.size < 2
              · have HV : Hid (cutD known.data.toList xs = some (l, xs.drop k)) := Lib.hid (by
                  rw [HC.out, HD.out, cut_op (fun e => by rw [e] at hx2; exact absurd hx2 (by decide)) (.inl hx2)]; simp [ahead])
                go_wp2_with fail
                go_meet
                case rel => exact ⟨l, k, hk3, rfl, by omega, rfl, rfl, HV⟩
              · have hpos : 0 < x.size := by omega
                obtain ⟨y, hy⟩ : ∃ y : UInt8, x[0]'hpos = y := ⟨_, rfl⟩
                have HY : Hid (x.data.toList.head? = some y) := Lib.hid (by rw [List.head?_eq_getElem?, Lib.data_getElem? x 0 hpos, hy])
                by_cases hy45 : y = 45
                · by_cases hdd : x = dd
                  · have HV : Hid (cutD known.data.toList xs = some (l, xs.drop (k + 1))) := Lib.hid (by rw [HC.out, HD.out, cut_end hdd]; simp [ahead])
                    have hn45 : ((y.toNat : Int) != 45) = false := by rw [hy45]; rfl
                    have hq : (x.toList == [45, 45]) = true := by rw [hdd, Lib.toList_data]; rfl
                    clear hdd hy45
                    go_wp2_with fail
                    go_meet
                    case rel => exact ⟨l, k + 1, by omega, rfl, by omega, by go_num, rfl, HV⟩
                  · have hn45 : ((y.toNat : Int) != 45) = false := by rw [hy45]; rfl
                    have hq : (x.toList == [45, 45]) = false := by
                      have h := (Lib.bytes_beq_false_iff x dd).2 hdd
                      rwa [Lib.toList_data dd] at h
                    have HG := Lib.hid (cut_go (kn := known.data.toList) (r := xs.drop (k + 1)) hdd (by rw [HY.out, hy45]; simp [hx2]))
                    clear hdd hy45
                    have hq0 := hy
                    go_wp2_with fail
                    go_loopw [13, 16] (fun tv i wr => ∃ (j : Nat) (l2 : List UInt8), j ≤ (x.data.toList.drop 1).length ∧ tv = .string ⟨l2.toArray⟩ ∧ l2.length ≤ l.length + j ∧ i = .int .i64 ((j : Int) + 1) ∧ w = wr ∧ Hid (l2 = l ++ (x.data.toList.drop 1).take j) ∧ Hid (((x.data.toList.drop 1).take j).all known.data.toList.contains = true)) (fun _ i _ => x.size - (intOf i).toNat)
                    case atStart => exact ⟨0, l, Nat.zero_le _, rfl, Nat.le_refl _, rfl, rfl, Lib.hid (by rw [List.take_zero, List.append_nil]), Lib.hid rfl⟩
                    case round =>
                      obtain ⟨j, l2, hj, rfl, hl2, rfl, rfl, HL2, HA⟩ := hrel
                      have hxs : (x.data.toList.drop 1).length = x.size - 1 := by rw [List.length_drop, ← Lib.size_eq]
                      by_cases hjt : j + 1 < x.size
                      · obtain ⟨z, hz⟩ : ∃ z : UInt8, x[j + 1]'hjt = z := ⟨_, rfl⟩
                        have Hzl : Hid ((x.data.toList.drop 1)[j]? = some z) := Lib.hid (by rw [List.getElem?_drop, Nat.add_comm, ← hz]; exact Lib.data_getElem? x (j + 1) hjt)
                        have hj1 : ((j : Int) + 1).toNat = j + 1 := by omega
                        have hj2 : (j : Int) + 1 < (x.size : Int) := by omega
                        obtain ⟨q, hq⟩ : ∃ q, known.data.toList.contains z = q := ⟨_, rfl⟩
                        have HQ := Lib.hid hq
                        clear hq
                        have hex := extract_two x (j + 1) hjt
                        rw [hz] at hex
                        have hsz1 : (⟨l2.toArray⟩ : ByteArray).size ≤ 2000000000 := by rw [Lib.size_eq]; show l2.length ≤ _; omega
                        cases q with
                        | true =>
                          go_wp2_with (go_at_call 21; refine (refHas_any _ known z (by omega)).mono ?_; rintro e w' ⟨rfl, rfl⟩; rw [HQ.out])
                          go_roundw
                          case rel => exact ⟨j + 1, l2 ++ [z], by omega, by rw [app_one], by rw [List.length_append]; show l2.length + 1 ≤ _; omega, by go_num, trivial, Lib.hid (by rw [take_snoc8 Hzl.out, ← List.append_assoc, HL2.out]), Lib.hid (by rw [take_snoc8 Hzl.out, List.all_append, HA.out]; simpa using HQ.out)⟩
                          case measure => simp [intOf]; omega
                        | false =>
                          have HV4 : Hid (parseD known.data.toList xs least most = (ByteArray.empty, [], 62)) := Lib.hid (by
                            rw [HV.out, HC.out, HD.out, HG.out, if_neg (by rw [Bool.not_eq_true, List.all_eq_false]; exact ⟨z, List.mem_of_getElem? Hzl.out, by rw [HQ.out]; decide⟩)]
                            rfl)
                          go_wp2_with (go_at_call 21; refine (refHas_any _ known z (by omega)).mono ?_; rintro e w' ⟨rfl, rfl⟩; rw [HQ.out])
                          go_returns
                          exact ⟨by rw [HV4.out]; exact ⟨_, rfl, nil_plr _, fun p n c h a ha => by cases h; cases ha⟩, Below.refl _ _⟩
                      · have hje : j = (x.data.toList.drop 1).length := by omega
                        have HC2 : Hid (cutD known.data.toList xs = ahead l2 (cutD known.data.toList (xs.drop (k + 1)))) := Lib.hid (by
                          have ha := HA.out
                          rw [hje, List.take_of_length_le (Nat.le_refl _)] at ha
                          rw [HL2.out, hje, List.take_of_length_le (Nat.le_refl _), HC.out, HD.out, HG.out, if_pos ha]
                          cases cutD known.data.toList (xs.drop (k + 1)) with
                          | none => rfl
                          | some p => simp [ahead, List.append_assoc])
                        have hj2 : ¬ (j : Int) + 1 < (x.size : Int) := by omega
                        go_wp2_with fail
                        go_roundw
                        case rel => exact ⟨k + 1, l2, by omega, rfl, by omega, by go_num, trivial, HC2⟩
                        case measure => simp [intOf]; omega
                · have HV : Hid (cutD known.data.toList xs = some (l, xs.drop k)) := Lib.hid (by
                    rw [HC.out, HD.out, cut_op (fun e => hy45 (by have h := HY.out; rw [e] at h; exact (Option.some.inj h).symm)) (.inr (by rw [HY.out]; exact fun h => hy45 (Option.some.inj h)))]; simp [ahead])
                  have hn45 : ((y.toNat : Int) != 45) = true := bne_iff_ne.2 fun e => hy45 (UInt8.toNat_inj.1 (by show y.toNat = 45; omega))
                  clear hy45
                  go_wp2_with fail
                  go_meet
                  case rel => exact ⟨l, k, hk3, rfl, by omega, rfl, rfl, HV⟩
            · obtain rfl : k = xs.length := by omega
              have HV : Hid (cutD known.data.toList xs = some (l, xs.drop xs.length)) := Lib.hid (by rw [HC.out, List.drop_length]; simp [cutD, ahead])
              go_wp2_with fail
              go_meet
              case rel => exact ⟨l, _, hk3, rfl, by omega, rfl, rfl, HV⟩
        case rest =>
          obtain ⟨l, k, hk3, rfl, hll, rfl, rfl, HC⟩ := hcut
          have hln : (xs.drop k).length = xs.length - k := List.length_drop
          have HR := Lib.hid (show restD least most (some (l, xs.drop k)) = if ((xs.drop k).length : Int) < least ∨ most < ((xs.drop k).length : Int) then (ByteArray.empty, [], 62) else (setD l, xs.drop k, 0) from rfl)
          have hwr : IntKind.i64.wrap ((xs.length : Int) - (k : Int)) = (xs.length : Int) - (k : Int) := Go.IntWalk.i64_in _ (by omega)
          by_cases g1 : (xs.length : Int) - (k : Int) < least
          · have HV3 : Hid (parseD known.data.toList xs least most = (ByteArray.empty, [], 62)) := Lib.hid (by rw [HV.out, HC.out, HR.out, if_pos (.inl (by rw [hln]; omega))])
            clear hln
            go_wp2_with fail
            go_returns
            exact ⟨by rw [HV3.out]; exact ⟨_, rfl, nil_plr _, fun p n c h a ha => by cases h; cases ha⟩, Below.refl _ _⟩
          · by_cases g2 : most < (xs.length : Int) - (k : Int)
            · have HV3 : Hid (parseD known.data.toList xs least most = (ByteArray.empty, [], 62)) := Lib.hid (by rw [HV.out, HC.out, HR.out, if_pos (.inr (by rw [hln]; omega))])
              clear hln
              go_wp2_with fail
              go_returns
              exact ⟨by rw [HV3.out]; exact ⟨_, rfl, nil_plr _, fun p n c h a ha => by cases h; cases ha⟩, Below.refl _ _⟩
            · have HV3 : Hid (parseD known.data.toList xs least most = (setD l, xs.drop k, 0)) := Lib.hid (by rw [HV.out, HC.out, HR.out, if_neg (by rw [hln]; omega)])
              clear hln
              have hls : (⟨l.toArray⟩ : ByteArray).size ≤ 1000000000 := by rw [Lib.size_eq]; exact hll
              have HLS := Lib.hid hls
              clear hls
              go_wp2_with fail
              go_loopw [18, 19] (fun sv i wr => ∃ j : Nat, j ≤ 256 ∧ sv = .string ⟨(risen l j).toArray⟩ ∧ i = .int .i64 j ∧ Hid (Below w.heap.size w wr)) (fun _ i _ => 256 - (intOf i).toNat)
              case atStart => exact ⟨0, Nat.zero_le _, rfl, rfl, Lib.hid (Below.refl _ _)⟩
              case round =>
                obtain ⟨j, hj, rfl, rfl, HB⟩ := hrel
                by_cases hjt : j < 256
                · obtain ⟨y, hy⟩ : ∃ y : UInt8, y.toNat = j := ⟨UInt8.ofNat j, by rw [UInt8.toNat_ofNat']; omega⟩
                  have hyj : UInt8.ofNat j = y := by rw [← hy]; simp
                  obtain ⟨q, hq⟩ : ∃ q, l.contains y = q := ⟨_, rfl⟩
                  have HS2 : Hid (risen l (j + 1) = risen l j ++ if q then [y] else []) := Lib.hid (by rw [risen_succ, hyj, hq])
                  have hcall := refHas_any wr ⟨l.toArray⟩ y HLS.out
                  rw [hy, show (⟨l.toArray⟩ : ByteArray).data.toList = l from rfl, hq] at hcall
                  have HCALL := Lib.hid hcall
                  have hcv := conv_one wr y
                  rw [hy] at hcv
                  have hrl := risen_len l j
                  have hrs : (⟨(risen l j).toArray⟩ : ByteArray).size ≤ 1000 := by rw [Lib.size_eq]; show (risen l j).length ≤ _; omega
                  clear hcall hq hyj
                  cases q with
                  | true =>
                    go_wp2_with (go_at_call 21; refine HCALL.out.mono ?_; rintro e w' ⟨rfl, rfl⟩)
                    go_roundw
                    case rel => exact ⟨j + 1, by omega, by rw [HS2.out, if_pos (by trivial), app_one], by go_num, Lib.hid (HB.out.alloc HB.out.size _)⟩
                    case measure => simp [intOf]; omega
                  | false =>
                    go_wp2_with (go_at_call 21; refine HCALL.out.mono ?_; rintro e w' ⟨rfl, rfl⟩)
                    go_roundw
                    case rel => exact ⟨j + 1, by omega, by rw [HS2.out, if_neg (by decide), List.append_nil], by go_num, HB⟩
                    case measure => simp [intOf]; omega
                · obtain rfl : j = 256 := by omega
                  obtain ⟨i0, hi, hz0, hz1, hz2⟩ := info_parts (P := Try.prog) (e := 9) (z := .string ⟨#[]⟩) (size := 1) (bytes := 16) (by kernel_rfl)
                  have HI := Lib.hid hi
                  clear hi
                  by_cases hke : k = xs.length
                  · subst hke
                    have HD0 : Hid (xs.drop xs.length = []) := Lib.hid List.drop_length
                    go_upto_region 31 with fail
                    apply wp_region_lit
                    refine wpList_plain rfl fun _ hK => ?_
                    go_simp
                    refine hK _ _ ?_
                    clear hK
                    refine wpList_plain rfl fun _ hK => ?_
                    go_simp
                    refine hK _ _ ?_
                    clear hK
                    refine wpList_plain rfl fun _ hK => ?_
                    go_simp
                    refine hK _ _ ?_
                    clear hK
                    refine wpList_plain rfl fun _ hK => ?_
                    go_simp
                    refine hK _ _ ?_
                    clear hK
                    refine wpList_plain rfl fun _ hK => ?_
                    go_simp
                    refine hK _ _ ?_
                    clear hK
                    refine Ox.wpList_append_zero rfl (.tmp 118) (.tmp 121) 23 rfl w.heap.size 9 i0 1 Try.underlying23 HI.out _ _ _ rfl (empty_row wr w.heap.size wr.heap.size rfl HB.out.size) _ _ rfl ?_
                    go_wp2_with fail
                    all_goals go_returns
                    all_goals exact ⟨by rw [HV3.out, HD0.out]; exact ⟨_, rfl, ⟨_, _, rfl, fun i hi => by simp at hi, Nat.le_refl _, by unfold maxLen; omega⟩, fun p n c h a ha => by cases h; cases ha; exact HB.out.size⟩, HB.out.alloc HB.out.size _⟩
                  · obtain ⟨b, o, rfl, _⟩ := HS.out k (by omega)
                    have hck : ¬ c = k := by omega
                    have HPL := Lib.hid (PlR.from HS.out (k := k) (by omega) h2 (by unfold maxLen; omega))
                    rw [if_neg hck] at HPL
                    go_upto_region 31 with fail
                    apply wp_region_lit
                    refine wpList_plain rfl fun _ hK => ?_
                    go_simp
                    refine hK _ _ ?_
                    clear hK
                    refine wpList_plain rfl fun _ hK => ?_
                    go_simp
                    refine hK _ _ ?_
                    clear hK
                    refine wpList_plain rfl fun _ hK => ?_
                    go_simp
                    refine hK _ _ ?_
                    clear hK
                    refine wpList_plain rfl fun _ hK => ?_
                    go_simp
                    refine hK _ _ ?_
                    clear hK
                    refine wpList_plain rfl fun _ hK => ?_
                    go_simp
                    refine hK _ _ ?_
                    clear hK
                    refine wpList_append_strs _ rfl (.tmp 118) (.tmp 121) 23 rfl w.heap.size 9 i0 (.string ⟨#[]⟩) Try.underlying23 HI.out hz0 hz1 hz2 rfl _ _ _ rfl (empty_row wr w.heap.size wr.heap.size rfl HB.out.size) (some ⟨b, o + k, none⟩) (c - k) (xs.drop k) (by rw [List.length_drop]; rfl) ?_ (by rw [List.length_drop]; omega) (by have := HB.out.size; simp; omega) ?_
                    · obtain ⟨p', c', he, hst, _, _⟩ := HPL.out.grown (HB.out.alloc HB.out.size (.cells #[] 9))
                      obtain ⟨rfl, _, _⟩ : some (⟨b, o + k, none⟩ : Addr) = p' ∧ xs.length - k = (xs.drop k).length ∧ c - k = c' := by simpa using he
                      exact hst
                    · intro v7 w7 g3 g4 _
                      have hv7 : PlR w7 v7 (xs.drop k) := plR_of_own (by simpa using g3)
                      have HV7 := Lib.hid hv7
                      have HO7 := Lib.hid g3
                      have hb7 : Below w.heap.size w w7 := (HB.out.alloc HB.out.size _).grown g4 (by have := HB.out.size; simp; omega) fun j hj => by
                        have : some wr.heap.size = some j := hj
                        cases this
                        exact HB.out.size
                      have HB7 := Lib.hid hb7
                      clear g3 g4 hv7 hb7
                      go_wp2_with fail
                      go_returns
                      exact ⟨by rw [HV3.out]; exact ⟨_, rfl, HV7.out, fun p n c h a ha => by cases h; exact (own_where HO7.out (by rw [ha]; rfl)).1⟩, HB7.out⟩
end Go.Proofs.Ytlnnnlpofocgpaa
