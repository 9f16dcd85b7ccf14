/- Walks of package dirs: the two closed runs of the statements' own check. -/
import Derived.Test.YtmofodaecakkfaaGreatKb49
namespace Go.Proofs.YtmofodaecakkfaaGreat
open Go.RowKit Px Nx Wk Dn Ox
namespace Wk
/-- Where a way ends, step by step. -/
def goF (n : Nd) (fo : Bool) : Nat → List ByteArray → List ByteArray → Nat → Bool → Option Out
  | 0, _, _, _, _ => .none
  | k + 1, at_, l, j, a => match l with
    | [] => some (.ok at_ 2)
    | s :: r =>
      if s = dots then goF n fo k at_.dropLast r j a
      else if r = [] ∧ endsD fo a (kindAt n (at_ ++ [s])) = true then some (.ok (at_ ++ [s]) (kindAt n (at_ ++ [s])))
      else if kindAt n (at_ ++ [s]) = 0 then some (.err 5)
      else if kindAt n (at_ ++ [s]) = 2 then goF n fo k (at_ ++ [s]) r j a
      else if kindAt n (at_ ++ [s]) = 3 then
        if j = 8 then some (.err 61) else goF n fo k (if absB (textAt n (at_ ++ [s])) then [] else at_) (stepsB (textAt n (at_ ++ [s])) ++ r) (j + 1) (a || (r.isEmpty && dirB (textAt n (at_ ++ [s]))))
      else some (.err 55)
theorem goF_run {n : Nd} {fo : Bool} : ∀ (k : Nat) {at_ l : List ByteArray} {j : Nat} {a : Bool} {o : Out}, goF n fo k at_ l j a = some o → Run n stepsB dirB absB fo at_ l j a o
  | 0, _, _, _, _, _, h => by cases h
  | k + 1, at_, l, j, a, o, h => by
    cases l with
    | nil =>
      rw [goF] at h
      cases h
      exact .done at_ j a
    | cons s r =>
      rw [goF] at h
      by_cases h1 : s = dots
      · rw [if_pos h1] at h
        subst h1
        exact .up at_ r j a o (goF_run k h)
      · rw [if_neg h1] at h
        by_cases h2 : r = [] ∧ endsD fo a (kindAt n (at_ ++ [s])) = true
        · rw [if_pos h2] at h
          obtain ⟨rfl, h2⟩ := h2
          cases h
          exact .ends at_ s j a h1 h2
        · rw [if_neg h2] at h
          have hg : GoesOn fo a (kindAt n (at_ ++ [s])) r := by
            by_cases hr : r = []
            · exact .inr (Bool.eq_false_iff.2 fun h3 => h2 ⟨hr, h3⟩)
            · exact .inl hr
          by_cases h3 : kindAt n (at_ ++ [s]) = 0
          · rw [if_pos h3] at h
            cases h
            exact .none at_ s r j a h1 hg h3
          · rw [if_neg h3] at h
            by_cases h4 : kindAt n (at_ ++ [s]) = 2
            · rw [if_pos h4] at h
              exact .dir at_ s r j a o h1 hg h4 (goF_run k h)
            · rw [if_neg h4] at h
              by_cases h5 : kindAt n (at_ ++ [s]) = 3
              · rw [if_pos h5] at h
                by_cases h6 : j = 8
                · rw [if_pos h6] at h
                  cases h
                  exact .loop at_ s r j a h1 hg h5 h6
                · rw [if_neg h6] at h
                  exact .link at_ s r j a o h1 hg h5 h6 (goF_run k h)
              · rw [if_neg h5] at h
                cases h
                exact .file at_ s r j a h1 hg h3 h4 h5
end Wk
namespace Dn
theorem leads_is {n : Nd} {fo : Bool} {t : ByteArray} {o o2 : Out} (hgo : goF n fo 20 [] (stepsB t) 0 (dirB t) = some o2) (h : Leads n fo t o) : o = o2 := run_det h (goF_run _ hgo) (Nat.zero_le _)
theorem mkOne_is {n n' : Nd} {t : ByteArray} {c : Int} {p : List ByteArray} {k : UInt8} (hgo : goF n false 20 [] (stepsB t) 0 (dirB t) = some (.ok p k)) (h : mkOneR n t c n') : c = (makeD n p dirN).1 ∧ n' = (makeD n p dirN).2 := by
  obtain ⟨o, ho, h⟩ := h
  cases leads_is hgo ho
  exact h
theorem rm_file {f r : Bool} {n n' : Nd} {t : ByteArray} {c : Int} {p : List ByteArray} (hgo : goF n false 20 [] (stepsB t) 0 (dirB t) = some (.ok p 1)) (h : rmR f r n t c n') : c = (removeD n p (wrongFile n p)).1 ∧ n' = (removeD n p (wrongFile n p)).2 := by
  obtain ⟨o, ho, h⟩ := h
  cases leads_is hgo ho
  exact h
theorem rm_gone {r : Bool} {n n' : Nd} {t : ByteArray} {c : Int} {p : List ByteArray} (hgo : goF n false 20 [] (stepsB t) 0 (dirB t) = some (.ok p 0)) (h : rmR true r n t c n') : c = 0 ∧ n' = n := by
  obtain ⟨o, ho, h⟩ := h
  cases leads_is hgo ho
  exact h
theorem oper_is {R : Rel} {n n' : Nd} {t : ByteArray} {c : Int} (hc : checkL t.data.toList = 0) (h : operR R n t c n') : R n t c n' := by
  unfold operR at h
  rwa [if_pos hc] at h
end Dn
namespace Works12
def tA : ByteArray := ⟨#[97]⟩
def tD : ByteArray := ⟨#[100]⟩
def tE : ByteArray := ⟨#[101]⟩
def tX : ByteArray := ⟨#[120]⟩
def tZ : ByteArray := ⟨#[122]⟩
def tDX : ByteArray := ⟨#[100, 47, 120]⟩
def tDE : ByteArray := ⟨#[100, 47, 101]⟩
def tRF : ByteArray := ⟨#[45, 114, 102]⟩
def root : Nd := .mk 2 ByteArray.empty [tA, tD] [.mk 1 tX [] [], .mk 2 ByteArray.empty [tE] [.mk 1 ByteArray.empty [] []]]
def r1 : Nd := (makeD root [tD, tX] dirN).2
def r2 : Nd := (removeD r1 [tD, tE] (wrongFile r1 [tD, tE])).2
theorem root_may : root.may = true := by kernel_rfl
theorem root_small : root.girth ≤ 1000000 := of_decide_eq_true (by kernel_rfl)
theorem root_tree : TreeN 20 root := ⟨by kernel_rfl, by kernel_rfl, of_decide_eq_true (by kernel_rfl)⟩
theorem r1_tree : TreeN 20 r1 := ⟨by kernel_rfl, by kernel_rfl, of_decide_eq_true (by kernel_rfl)⟩
theorem r2_tree : TreeN 20 r2 := ⟨by kernel_rfl, by kernel_rfl, of_decide_eq_true (by kernel_rfl)⟩
theorem r2_small : r2.girth ≤ 1000000 := of_decide_eq_true (by kernel_rfl)
theorem run1 {code : Int} {err : ByteArray} {is : Bool} {n' : Nd} (h : AnsD root [nMkdir, tA, tDX] code err is n') : code = 1 ∧ err = ⟨#[109, 107, 100, 105, 114, 58, 32, 97, 58, 32, 116, 104, 101, 114, 101, 32, 97, 108, 114, 101, 97, 100, 121, 10]⟩ ∧ is = true ∧ n' = r1 := by
  rcases h with ⟨_, _, _, _, hno⟩ | ⟨rfl, name, rest, e, h⟩
  · exact absurd rfl (hno _ _ rfl).1
  · cases e
    rcases h with ⟨_, h⟩ | ⟨hn, _⟩ | ⟨hn, _⟩ | ⟨hn, _⟩
    · have hp : parseD [112] [tA, tDX] 0 (([tA, tDX] : List ByteArray).length : Int) = (setD [], [tA, tDX], 0) := by kernel_rfl
      unfold RunD at h
      rw [hp] at h
      rcases h with ⟨hu | ⟨hu, _⟩, _⟩ | ⟨_, bad, ho, hb⟩
      · exact absurd rfl hu
      · cases hu
      · have hR : mkR (hasB (setD []) 112) = mkOneR := by
          rw [no_p]
          rfl
        have ho2 : Ops (operR mkOneR) root [tA, tDX] bad n' := hR ▸ ho
        have k1 : ∀ {c : Int} {n1 : Nd}, operR mkOneR root tA c n1 → c = 6 ∧ n1 = root := fun h => by
          obtain ⟨a, b⟩ := mkOne_is (p := [tA]) (k := 1) (by kernel_rfl) (oper_is (by kernel_rfl) h)
          exact ⟨a.trans (by kernel_rfl), b.trans (make_same (by rw [show (makeD root [tA] dirN).1 = 6 from by kernel_rfl]; decide))⟩
        have k2 : ∀ {c : Int} {n1 : Nd}, operR mkOneR root tDX c n1 → c = 0 ∧ n1 = r1 := fun h => by
          obtain ⟨a, b⟩ := mkOne_is (p := [tD, tX]) (k := 0) (by kernel_rfl) (oper_is (by kernel_rfl) h)
          exact ⟨a.trans (by kernel_rfl), b⟩
        cases ho2 with
        | ok h1 h2 => exact absurd (k1 h1).1 (by decide)
        | bad h1 hc h2 =>
          obtain ⟨rfl, rfl⟩ := k1 h1
          cases h2 with
          | ok h3 h4 =>
            cases h4
            obtain ⟨_, rfl⟩ := k2 h3
            rcases hb with ⟨hb, _⟩ | ⟨_, rfl, rfl⟩
            · cases hb
            · exact ⟨rfl, by kernel_rfl, rfl, rfl⟩
          | bad h3 hc3 h4 => exact absurd (k2 h3).1 hc3
    · exact absurd hn (by decide)
    · exact absurd hn (by decide)
    · exact absurd hn (by decide)
theorem run2 {code : Int} {err : ByteArray} {is : Bool} {n' : Nd} (h : AnsD r1 [nRm, tRF, tDE, tZ] code err is n') : code = 0 ∧ is = true ∧ n' = r2 := by
  rcases h with ⟨_, _, _, _, hno⟩ | ⟨rfl, name, rest, e, h⟩
  · exact absurd rfl (hno _ _ rfl).2.2.2
  · cases e
    rcases h with ⟨hn, _⟩ | ⟨hn, _⟩ | ⟨hn, _⟩ | ⟨_, h⟩
    · exact absurd hn (by decide)
    · exact absurd hn (by decide)
    · exact absurd hn (by decide)
    · have hp : parseD [102, 114] [tRF, tDE, tZ] 0 (([tRF, tDE, tZ] : List ByteArray).length : Int) = (setD [114, 102], [tDE, tZ], 0) := by kernel_rfl
      unfold RunD at h
      rw [hp] at h
      rcases h with ⟨hu | ⟨hu, _⟩, _⟩ | ⟨_, bad, ho, hb⟩
      · exact absurd rfl hu
      · cases hu
      · have hR : rmR (hasB (setD [114, 102]) 102) (hasB (setD [114, 102]) 114) = rmR true true := by
          rw [show hasB (setD [114, 102]) 102 = true from by kernel_rfl, show hasB (setD [114, 102]) 114 = true from by kernel_rfl]
        have ho2 : Ops (operR (rmR true true)) r1 [tDE, tZ] bad n' := hR ▸ ho
        have k1 : ∀ {c : Int} {n1 : Nd}, operR (rmR true true) r1 tDE c n1 → c = 0 ∧ n1 = r2 := fun h => by
          obtain ⟨a, b⟩ := rm_file (p := [tD, tE]) (by kernel_rfl) (oper_is (by kernel_rfl) h)
          exact ⟨a.trans (by kernel_rfl), b⟩
        have k2 : ∀ {c : Int} {n1 : Nd}, operR (rmR true true) r2 tZ c n1 → c = 0 ∧ n1 = r2 := fun h => rm_gone (p := [tZ]) (by kernel_rfl) (oper_is (by kernel_rfl) h)
        cases ho2 with
        | ok h1 h2 =>
          obtain ⟨_, rfl⟩ := k1 h1
          cases h2 with
          | ok h3 h4 =>
            cases h4
            obtain ⟨_, rfl⟩ := k2 h3
            rcases hb with ⟨_, rfl, _⟩ | ⟨hb, _⟩
            · exact ⟨rfl, rfl, rfl⟩
            · exact absurd rfl hb
          | bad h3 hc3 h4 =>
            obtain ⟨e, _⟩ := k2 h3
            exact absurd e hc3
        | bad h1 hc h2 =>
          obtain ⟨e, _⟩ := k1 h1
          exact absurd e hc
end Works12
end Go.Proofs.YtmofodaecakkfaaGreat
