/- What the statement on rows asks of words cut: all of it holds. No program. -/
import Derived.Test.YtlnnnlpofocgpaaOpG
namespace Go.Proofs.Ytlnnnlpofocgpaa
open Go.RowKit Ox Px
namespace Ox

/-- A - ahead of bytes. -/
def dash (l : List UInt8) : ByteArray := ⟨(45 :: l).toArray⟩
theorem dash_list (l : List UInt8) : (dash l).data.toList = 45 :: l := rfl
theorem dash_size (l : List UInt8) : (dash l).size = l.length + 1 := by rw [Lib.size_eq, dash_list]; rfl
theorem dash_dd {l : List UInt8} (h : ∀ c ∈ l, c ≠ 45) : dash l ≠ dd := by
  intro e
  have h1 : (dash l).data.toList = dd.data.toList := by rw [e]
  rw [dash_list] at h1
  have h2 : l = [45] := by
    have : (45 : UInt8) :: l = [45, 45] := h1
    simpa using this
  exact h 45 (by rw [h2]; simp) rfl
theorem cut_dash {kn l : List UInt8} {r : List ByteArray} (hne : l ≠ []) (h : ∀ c ∈ l, c ≠ 45) (hk : ∀ c ∈ l, kn.contains c = true) : cutD kn (dash l :: r) = ahead l (cutD kn r) := by
  rw [cut_go (dash_dd h) (by
    rw [dash_list, dash_size]
    have : 0 < l.length := List.length_pos_iff.2 hne
    rintro (h | h)
    · omega
    · exact h rfl)]
  rw [dash_list, List.drop_succ_cons, List.drop_zero, if_pos (List.all_eq_true.2 hk)]
  cases cutD kn r <;> rfl
def ones (l : List UInt8) : List ByteArray := l.map fun c => dash [c]
theorem ahead_ahead (a b : List UInt8) (r : Option (List UInt8 × List ByteArray)) : ahead a (ahead b r) = ahead (a ++ b) r := by
  cases r with
  | none => rfl
  | some p => simp [ahead, List.append_assoc]
theorem cut_ones {kn : List UInt8} {r : List ByteArray} : ∀ {l : List UInt8}, (∀ c ∈ l, c ≠ 45) → (∀ c ∈ l, kn.contains c = true) → cutD kn (ones l ++ r) = ahead l (cutD kn r)
  | [], _, _ => by
    show cutD kn r = _
    cases cutD kn r <;> rfl
  | c :: l, h, hk => by
    show cutD kn (dash [c] :: (ones l ++ r)) = _
    rw [cut_dash (by simp) (fun x hx => h x (by simp at hx; simp [hx])) (fun x hx => hk x (by simp at hx; simp [hx])), cut_ones (fun x hx => h x (by simp [hx])) (fun x hx => hk x (by simp [hx])), ahead_ahead]
    rfl
theorem cut_dd {kn : List UInt8} {r : List ByteArray} : cutD kn (dd :: r) = some ([], r) := cut_end rfl
theorem letter_not {c : UInt8} (h : isLetter c = true) : c ≠ 45 := by
  rintro rfl
  exact absurd h (by decide)
theorem known_letter {kn : List UInt8} (h : kn.all isLetter = true) {c : UInt8} (hc : kn.contains c = true) : c ≠ 45 := letter_not (List.all_eq_true.1 h c (by simpa using hc))
theorem notbad {l m : Int} {b : Bool} (h0 : 0 ≤ l) (h1 : l ≤ m) (hb : b = true) : ¬ (l < 0 ∨ m < l ∨ b = false) := by
  rintro (h | h | h)
  · omega
  · omega
  · rw [hb] at h; cases h
theorem parse_ok {kn : List UInt8} {ws ops : List ByteArray} {t : List UInt8} {least most : Int} (h : kn.all isLetter = true) (h0 : 0 ≤ least) (h1 : least ≤ most) (hc : cutD kn ws = some (t, ops)) (h2 : least ≤ (ops.length : Int)) (h3 : (ops.length : Int) ≤ most) : parseD kn ws least most = (setD t, ops, 0) := by
  unfold parseD
  rw [if_neg (notbad h0 h1 h), hc]
  show (if (ops.length : Int) < least ∨ most < (ops.length : Int) then _ else _) = _
  rw [if_neg (by omega)]
def alls (l : List UInt8) : List ByteArray := if l = [] then [] else [dash l.reverse, dash l]
theorem rows_a {kn l : List UInt8} {ws : List ByteArray} (h : kn.all isLetter = true) (hl : ∀ c ∈ l, kn.contains c = true) : parseD kn (ones l ++ dd :: ws) 0 ws.length = (setD l, ws, 0) :=
  parse_ok h (Int.le_refl 0) (by omega) (by rw [cut_ones (fun c hc => known_letter h (hl c hc)) hl, cut_dd]; simp [ahead]) (by omega) (Int.le_refl _)
theorem rows_b {kn l : List UInt8} {ws : List ByteArray} (h : kn.all isLetter = true) (hl : ∀ c ∈ l, kn.contains c = true) : parseD kn (alls l ++ dd :: ws) 0 ws.length = (setD l, ws, 0) := by
  unfold alls
  by_cases h0 : l = []
  · rw [if_pos h0, h0]
    exact parse_ok h (Int.le_refl 0) (by omega) cut_dd (by omega) (Int.le_refl _)
  · rw [if_neg h0]
    have hr : ∀ c ∈ l.reverse, kn.contains c = true := fun c hc => hl c (List.mem_reverse.1 hc)
    have e : setD l = setD (l.reverse ++ l) := setD_same fun c => by simp
    rw [e]
    refine parse_ok h (Int.le_refl 0) (by omega) ?_ (by omega) (Int.le_refl _)
    show cutD kn (dash l.reverse :: dash l :: dd :: ws) = _
    rw [cut_dash (by simpa using h0) (fun c hc => known_letter h (hr c hc)) hr, cut_dash h0 (fun c hc => known_letter h (hl c hc)) hl, cut_dd]
    simp [ahead]
theorem cutD_told {kn : List UInt8} : ∀ {ws ops : List ByteArray} {t : List UInt8}, cutD kn ws = some (t, ops) → ∀ c ∈ t, kn.contains c = true
  | [], ops, t, h, c, hc => by
    simp only [cutD, Option.some.injEq, Prod.mk.injEq] at h
    rw [← h.1] at hc
    cases hc
  | w :: r, ops, t, h, c, hc => by
    unfold cutD at h
    split at h
    · simp only [Option.some.injEq, Prod.mk.injEq] at h
      rw [← h.1] at hc
      cases hc
    · split at h
      · simp only [Option.some.injEq, Prod.mk.injEq] at h
        rw [← h.1] at hc
        cases hc
      · split at h
        · rename_i hall
          cases hr : cutD kn r with
          | none => rw [hr] at h; cases h
          | some p =>
            rw [hr] at h
            simp only [Option.map_some, Option.some.injEq, Prod.mk.injEq] at h
            rw [← h.1] at hc
            rcases List.mem_append.1 hc with hc | hc
            · exact List.all_eq_true.1 hall c hc
            · exact cutD_told (ops := p.2) (t := p.1) hr c hc
        · cases h
def agains (s : ByteArray) : List ByteArray := if s.size = 0 then [] else [dash s.data.toList]
theorem setD_set (t : List UInt8) : setD (setD t).data.toList = setD t := by
  refine setD_same fun c => ?_
  show (risen t 256).contains c = t.contains c
  rw [Bool.eq_iff_iff, List.contains_iff_mem, List.contains_iff_mem, risen_mem (Nat.le_refl _)]
  exact ⟨fun h => h.1, fun h => ⟨h, UInt8.toNat_lt c⟩⟩
theorem rows_c {kn : List UInt8} {ws : List ByteArray} {r : ByteArray × List ByteArray × Int} (h : kn.all isLetter = true) (hp : parseD kn ws 0 ws.length = r) :
    (r.2.2 = 62 ∨ r.2.2 = 0) ∧ (r.2.2 = 0 → parseD kn (agains r.1 ++ dd :: r.2.1) r.2.1.length r.2.1.length = (r.1, r.2.1, 0)) := by
  have hpd : parseD kn ws 0 ws.length = restD 0 ws.length (cutD kn ws) := by
    unfold parseD restD
    rw [if_neg (notbad (Int.le_refl 0) (by omega) h)]
    rfl
  rw [hpd] at hp
  clear hpd
  cases hc : cutD kn ws with
  | none =>
    rw [hc] at hp
    subst hp
    exact ⟨.inl rfl, fun e => absurd (show (62 : Int) = 0 from e) (by decide)⟩
  | some p =>
    obtain ⟨t, ops⟩ := p
    rw [hc] at hp
    have hr : restD 0 (ws.length : Int) (some (t, ops)) = if (ops.length : Int) < 0 ∨ (ws.length : Int) < (ops.length : Int) then (ByteArray.empty, [], 62) else (setD t, ops, 0) := rfl
    rw [hr] at hp
    by_cases hb : (ops.length : Int) < 0 ∨ (ws.length : Int) < (ops.length : Int)
    · rw [if_pos hb] at hp
      subst hp
      exact ⟨.inl rfl, fun e => absurd (show (62 : Int) = 0 from e) (by decide)⟩
    · rw [if_neg hb] at hp
      subst hp
      refine ⟨.inr rfl, fun _ => ?_⟩
      show parseD kn (agains (setD t) ++ dd :: ops) ops.length ops.length = (setD t, ops, 0)
      have ht := cutD_told hc
      have hm : ∀ c ∈ (setD t).data.toList, kn.contains c = true := fun c hc => ht c ((risen_mem (Nat.le_refl _)).1 hc).1
      by_cases h0 : (setD t).size = 0
      · have e0 : (setD t).data.toList = [] := by
          rw [Lib.size_eq] at h0
          exact List.eq_nil_of_length_eq_zero h0
        have e1 : setD [] = setD t := by rw [← e0, setD_set]
        unfold agains
        rw [if_pos h0, ← e1]
        exact parse_ok h (by omega) (Int.le_refl _) cut_dd (Int.le_refl _) (Int.le_refl _)
      · have hne : (setD t).data.toList ≠ [] := fun e => h0 (by rw [Lib.size_eq, e]; rfl)
        unfold agains
        rw [if_neg h0]
        have e2 : setD t = setD (setD t).data.toList := (setD_set t).symm
        have := parse_ok (ws := dash (setD t).data.toList :: dd :: ops) (ops := ops) (t := (setD t).data.toList) (least := ops.length) (most := ops.length) h (by omega) (Int.le_refl _) (by
          rw [cut_dash hne (fun c hc => known_letter h (hm c hc)) hm, cut_dd]
          simp [ahead]) (Int.le_refl _) (Int.le_refl _)
        rw [setD_set] at this
        exact this
theorem rows_0 (kn : List UInt8) : parseD kn [] 0 0 = if kn.all isLetter = false then (ByteArray.empty, [], 1) else (setD [], [], 0) := by
  unfold parseD
  by_cases h : kn.all isLetter = false
  · rw [if_pos (.inr (.inr h)), if_pos h]
  · rw [if_neg (notbad (Int.le_refl 0) (Int.le_refl 0) (by simpa using h)), if_neg h]
    rfl
end Ox
end Go.Proofs.Ytlnnnlpofocgpaa
