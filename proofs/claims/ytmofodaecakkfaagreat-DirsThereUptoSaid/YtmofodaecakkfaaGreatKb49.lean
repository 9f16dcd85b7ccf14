/- Walks of package dirs: Run without words. -/
import Derived.Test.YtmofodaecakkfaaGreatKb47
import Derived.Deep.RegionHeld3
import Derived.Test.YtmofodaecakkfaaGreatKb45
import Derived.Test.YtmofodaecakkfaaGreatKb27
import Derived.Test.YtmofodaecakkfaaGreatKb48
namespace Go.Proofs.YtmofodaecakkfaaGreat
open Go.RowKit Px Nx Wk Dn Ox
set_option maxRecDepth 100000 in
theorem Run_nil {w : World} {b : Nat} {v : Value} (hx : PlR w v []) {Q : Ending → World → Prop} (hQ : ∀ w', w' = w ∨ w' = w.drew → Q (.returned (.tuple #[.int .i64 0, .string ⟨#[]⟩, .string ⟨#[]⟩, .bool false])) w') :
    Calls Tryz.prog 8 #[.iface 29 (.pointer (some ⟨b, 0, none⟩)), v] w Q := by
  obtain ⟨p, c, rfl, _, _, _⟩ := hx
  go_enter Tryz.func8, Tryz.ntmps8
  go_wp2_with fail
  go_returns
  exact hQ _ (.inl rfl)
end Go.Proofs.YtmofodaecakkfaaGreat
/- What a run's relations leave: one refused operand leaves all, mkdir and touch take nothing away, rmdir and rm make nothing. -/
namespace Go.Proofs.YtmofodaecakkfaaGreat
open Go.RowKit Px Nx Wk Dn Ox

namespace Dn
/-- All of the one is in the other, a whole tree, too. -/
def Up (R : Rel) : Prop := ∀ {n n' : Nd} {t : ByteArray} {c : Int}, n.well = true → n.kind = 2 → R n t c n' → withinD n n' = true ∧ n'.well = true ∧ n'.kind = 2
theorem byEnd_or {fo : Bool} {f : Nd → List ByteArray → UInt8 → Int → Nd → Prop} {n n' : Nd} {t : ByteArray} {c : Int} (h : byEnd fo f n t c n') : n' = n ∨ ∃ p k, Leads n fo t (.ok p k) ∧ f n p k c n' := by
  obtain ⟨o, ho, h⟩ := h
  cases o with
  | err e => exact .inl h.2
  | ok p k => exact .inr ⟨p, k, ho, h⟩
theorem up_id {n : Nd} (hw : n.well = true) (hk : n.kind = 2) : withinD n n = true ∧ n.well = true ∧ n.kind = 2 := ⟨within_refl n, hw, hk⟩
theorem up_makeD {n : Nd} (hw : n.well = true) (hk : n.kind = 2) (p : List ByteArray) : withinD n (makeD n p dirN).2 = true ∧ (makeD n p dirN).2.well = true ∧ (makeD n p dirN).2.kind = 2 := ⟨within_make hw hk p, (make_well hw).1, (make_well hw).2.trans hk⟩
theorem up_miss : Up missR := fun hw hk h => by
  rcases byEnd_or h with rfl | ⟨p, k, _, h⟩
  · exact up_id hw hk
  · try dsimp only at h
    split at h
    · rw [h.2]; exact up_makeD hw hk p
    · split at h <;> (rw [h.2]; exact up_id hw hk)
theorem runD_ops {O : List UInt8} {A : UInt8} {R : ByteArray → Rel} {n n' : Nd} {name err : ByteArray} {xs : List ByteArray} {code : Int} (h : RunD O A R n name xs code err n') : n' = n ∨ ∃ bad, Ops (operR (R (parseD O xs 0 xs.length).1)) n (parseD O xs 0 xs.length).2.1 bad n' := by
  rcases h with ⟨_, _, _, e⟩ | ⟨_, bad, ho, _⟩
  · exact .inl e
  · exact .inr ⟨bad, ho⟩
end Dn
end Go.Proofs.YtmofodaecakkfaaGreat
/- dirs.Run over any words, and what it leaves. -/
namespace Go.Proofs.YtmofodaecakkfaaGreat
open Go.RowKit Px Nx Wk Dn Ox

theorem Run_any {w : World} {b N : Nat} {n : Nd} {v0 v1 v2 v3 v : Value} (h : TreeX w b n v0 v1 v2 v3) (hG : TreeN N n) (hN : N ≤ 200) {xs : List ByteArray} (hx : PlR w v xs) (hxl : xs.length ≤ 40) (hxs : ∀ x ∈ xs, x.size ≤ 600) :
    Calls Tryz.prog 8 #[.iface 29 (.pointer (some ⟨b, 0, none⟩)), v] w fun e w' => AnsQ n xs w b e w' := by
  cases xs with
  | nil =>
    refine Run_nil hx fun w' hw => ?_
    rcases hw with rfl | rfl
    · exact ⟨_, _, _, _, rfl, .inl ⟨rfl, rfl, rfl, rfl, fun _ _ e => by cases e⟩, ⟨_, _, _, _, h⟩, grown_below (Below.refl _ _)⟩
    · exact ⟨_, _, _, _, rfl, .inl ⟨rfl, rfl, rfl, rfl, fun _ _ e => by cases e⟩, ⟨_, _, _, _, h.kept (Below.refl _ _).drew⟩, grown_below (Below.refl _ _).drew⟩
  | cons s rest =>
    have hx2 := hx
    obtain ⟨p, c, rfl, hs, hl, hm⟩ := hx
    obtain ⟨bb, oo, rfl, _⟩ := hs 0 (by simp)
    have hl2 : rest.length ≤ 39 := by rw [List.length_cons] at hxl; omega
    rcases no_util (s := s) with rfl | rfl | rfl | rfl | hno
    · exact Run_makeDir h hG hN hx2 hl2 hxs
    · exact Run_removeDir h hG hN hx2 hl2 hxs
    · exact Run_touch h hG hN hx2 hl2 hxs
    · exact Run_remove h hG hN hx2 hl2 hxs
    · exact Run_none h hG hN s hno hx2 hl2
namespace Dn
theorem no_p : hasB (setD []) 112 = false := by kernel_rfl
end Dn
end Go.Proofs.YtmofodaecakkfaaGreat
/- What calls of one operand leave: behind mkdir -p and touch something is there, behind rmdir and rm -r nothing. No program. -/
namespace Go.Proofs.YtmofodaecakkfaaGreat
open Go.RowKit Px Nx Wk Dn Ox
namespace Dn
theorem leads_one {n : Nd} {fo : Bool} {t : ByteArray} {o o' : Out} (h : Leads n fo t o) (h' : Leads n fo t o') : o = o' := run_det h h' (Nat.zero_le _)
theorem err_ne' {n : Nd} {fo : Bool} {t : ByteArray} {e : Int} (h : Leads n fo t (.err e)) : e ≠ 0 := bne_iff_ne.1 (err_ne h)
theorem is_code {r : Int × Nd} {c : Int} {n' : Nd} (h : Is r c n') (hc : c = 0) : r.1 = 0 ∧ n' = r.2 := ⟨h.1.symm.trans hc, h.2⟩
theorem miss_there {n n' : Nd} {q : ByteArray} (hw : n.well = true) (hk : n.kind = 2) (h : missR n q 0 n') (a : Bool) : ∃ P, Run n' stepsB dirB absB true [] (stepsB q) 0 a (.ok P 2) := by
  obtain ⟨o, ho, h⟩ := h
  cases o with
  | err e => exact absurd (is_code h rfl).1 (err_ne' ho)
  | ok p k =>
    dsimp only at h
    split at h
    · rename_i hk0
      subst hk0
      obtain ⟨h1, h2⟩ := is_code h rfl
      rw [h2]
      exact ⟨_, make_there hw hk ho h1 a⟩
    · split at h
      · rename_i hk2
        subst hk2
        rw [h.2]
        exact ⟨p, run_asks ho rfl a⟩
      · exact absurd (is_code h rfl).1 (show ¬ (55 : Int) = 0 by decide)
theorem way_there {t : ByteArray} (a : Bool) {pre r : List ByteArray} {n n' : Nd} {c : Int} (h : WayR pre r n c n') : n.well = true → n.kind = 2 → c = 0 → r ≠ [] → pre ++ r = stepsB t → ∃ P, Run n' stepsB dirB absB true [] (stepsB t) 0 a (.ok P 2) := by
  induction h with
  | done pre n => intro _ _ _ h _; exact absurd rfl h
  | stop h1 hc => intro _ _ h _ _; exact absurd h hc
  | @next pre r s n n1 n' c h1 h2 ih =>
    intro hw hk hc _ hs
    obtain ⟨_, hw1, hk1⟩ := up_miss hw hk h1
    cases r with
    | nil =>
      cases h2 with
      | done =>
        have hp : stepsB (pathOf (pre ++ [s])) = stepsB t := by
          have := steps_path t (stepsB t).length
          rw [List.take_length] at this
          rw [hs]
          exact this
        have := miss_there hw hk h1 a
        rwa [hp] at this
    | cons x r => exact ih hw1 hk1 hc (by simp) (by simpa using hs)
theorem mkdir_there {n n' : Nd} {t : ByteArray} (hw : n.well = true) (hk : n.kind = 2) (h : mkR true n t 0 n') : ∃ P, Leads n' true t (.ok P 2) := by
  have h : WayR [] (stepsB t) n 0 n' := h
  by_cases hs : stepsB t = []
  · rw [hs] at h
    cases h
    refine ⟨[], ?_⟩
    unfold Leads
    rw [hs]
    exact .done _ _ _
  · exact way_there (dirB t) h hw hk rfl hs rfl
theorem touched_there {n n' : Nd} {t : ByteArray} (hw : n.well = true) (hk : n.kind = 2) (h : touchR n t 0 n') : ∃ P k, Leads n' true t (.ok P k) ∧ k ≠ 0 := by
  obtain ⟨o, ho, h⟩ := h
  cases o with
  | err e => exact absurd (is_code h rfl).1 (err_ne' ho)
  | ok p k =>
    dsimp only at h
    split at h
    · rename_i hk0
      subst hk0
      split at h
      · exact absurd (is_code h rfl).1 (show ¬ (5 : Int) = 0 by decide)
      · rename_i hd
        obtain ⟨o2, ho2, h⟩ := h
        split at h
        · exact absurd (is_code h rfl).1 (show ¬ (5 : Int) = 0 by decide)
        · rename_i hl
          obtain ⟨h1, h2⟩ := is_code h rfl
          obtain ⟨_, m, q, hm, hq⟩ := run_find ho p 0 rfl
          have e := leads_one ho2 hm
          subst e
          rcases hq with rfl | ⟨rfl, rfl⟩
          · exact absurd rfl hl
          · have hd : dirB t = false := Bool.eq_false_iff.2 hd
            have hm2 : Run n stepsB dirB absB false [] (stepsB t) 0 (dirB t) (.ok m 0) := hm
            rw [hd] at hm2
            refine ⟨m, 1, ?_, by decide⟩
            have := touch_there hw hk hm2 h1 true
            unfold Leads
            rw [hd, h2]
            exact this
    · rename_i hk0
      obtain ⟨h1, h2⟩ := is_code h rfl
      have hkp := (run_real hk ho (dirsTo_nil hk) p k rfl).2
      have e : (touchD n p).2 = n := by
        have hkk : kat n p = k := hkp
        unfold touchD at h1 ⊢
        revert h1
        cases takenD n p
        · exact fun h => absurd (show (5 : Int) = 0 from h) (by decide)
        · rw [hkk, decide_eq_false hk0]
          cases decide (k = 3)
          · exact fun _ => rfl
          · exact fun h => absurd (show (5 : Int) = 0 from h) (by decide)
      rw [h2, e]
      exact ⟨p, k, ho, hk0⟩
theorem wrong_root {n : Nd} {p : List ByteArray} (hk : n.kind = 2) {c : Int} (h : (removeD n p c).1 = 0) (hc : p = [] → c ≠ 0) : p ≠ [] := by
  rintro rfl
  have hc := hc rfl
  unfold removeD at h
  rw [kat_root hk, decide_eq_false hc] at h
  revert h
  cases takenD n []
  · exact fun h => absurd (show (5 : Int) = 0 from h) (by decide)
  · exact fun h => absurd (show c = 0 from h) hc
theorem rmdir_gone {n n' : Nd} {t : ByteArray} (hw : n.well = true) (hk : n.kind = 2) (h : rmdirR n t 0 n') : ∃ P k, Leads n false t (.ok P k) ∧ kindAt n' P = 0 := by
  obtain ⟨o, ho, h⟩ := h
  cases o with
  | err e => exact absurd (is_code h rfl).1 (err_ne' ho)
  | ok p k =>
    obtain ⟨h1, h2⟩ := is_code h rfl
    refine ⟨p, k, ho, ?_⟩
    rw [h2]
    refine remove_gone hw (wrong_root hk h1 fun e => ?_) h1
    subst e
    unfold wrongDir
    rw [kat_root hk]
    exact show ¬ (57 : Int) = 0 by decide
theorem rmr_gone {n n' : Nd} {t : ByteArray} (hw : n.well = true) (hk : n.kind = 2) (h : rmR false true n t 0 n') : ∃ P k, Leads n false t (.ok P k) ∧ kindAt n' P = 0 := by
  obtain ⟨o, ho, h⟩ := h
  cases o with
  | err e =>
    have := (is_code h rfl).1
    rw [if_neg (by simp)] at this
    exact absurd this (err_ne' ho)
  | ok p k =>
    have hkp : kat n p = k := (run_real hk ho (dirsTo_nil hk) p k rfl).2
    dsimp only at h
    split at h
    · exact absurd (is_code h rfl).1 (show ¬ (5 : Int) = 0 by decide)
    · split at h
      · rw [if_pos rfl] at h
        obtain ⟨h1, h2⟩ := is_code h rfl
        refine ⟨p, k, ho, ?_⟩
        rw [h2]
        exact remove_gone hw (wrong_root hk h1 fun e => by subst e; decide) h1
      · rename_i hk2
        obtain ⟨h1, h2⟩ := is_code h rfl
        refine ⟨p, k, ho, ?_⟩
        rw [h2]
        exact remove_gone hw (fun e => hk2 (by rw [← hkp, e, kat_root hk])) h1
/-- A call of one operand that is not refused. -/
theorem run_oper {O : List UInt8} {A : UInt8} {R : ByteArray → Rel} {n n' : Nd} {name err S t : ByteArray} {xs : List ByteArray} {code : Int} (hp : parseD O xs 0 xs.length = (S, [t], 0)) (h : RunD O A R n name xs code err n') (hc : code = 0) : R S n t 0 n' := by
  unfold RunD at h
  rw [hp] at h
  rcases h with ⟨_, h, _⟩ | ⟨_, bad, ho, ⟨rfl, _, _⟩ | ⟨_, h, _⟩⟩
  · rw [hc] at h; exact absurd h (by decide)
  · cases ho with
    | ok h1 h2 =>
      cases h2
      unfold operR at h1
      split at h1
      · exact h1
      · exact absurd h1.1.symm (show ¬ ((checkL t.data.toList : Nat) : Int) = 0 by omega)
  · rw [hc] at h; exact absurd h (by decide)
def dd : ByteArray := ⟨#[45, 45]⟩
def oP : ByteArray := ⟨#[45, 112]⟩
def oR : ByteArray := ⟨#[45, 114]⟩
theorem parse_p (t : ByteArray) : parseD [112] [oP, dd, t] 0 (([oP, dd, t] : List ByteArray).length : Int) = (setD [112], [t], 0) := by
  kernel_rfl
theorem parse_no (t : ByteArray) : parseD [] [dd, t] 0 (([dd, t] : List ByteArray).length : Int) = (setD [], [t], 0) := by
  kernel_rfl
theorem parse_r (t : ByteArray) : parseD [102, 114] [oR, dd, t] 0 (([oR, dd, t] : List ByteArray).length : Int) = (setD [114], [t], 0) := by
  kernel_rfl
/-- What the statement asks of each call that is not refused. -/
theorem ans_mkdir {n n' : Nd} {t err : ByteArray} (hw : n.well = true) (hk : n.kind = 2) {is : Bool} {code : Int} (h : AnsD n [nMkdir, oP, dd, t] code err is n') : is = true ∧ (code = 0 → ∃ P, Leads n' true t (.ok P 2)) := by
  rcases h with ⟨_, _, _, _, hno⟩ | ⟨rfl, name, rest, e, h⟩
  · exact absurd rfl (hno _ _ rfl).1
  · cases e
    refine ⟨rfl, fun hc => ?_⟩
    rcases h with ⟨_, h⟩ | ⟨hn, _⟩ | ⟨hn, _⟩ | ⟨hn, _⟩
    · have := run_oper (parse_p t) h hc
      rw [show hasB (setD [112]) 112 = true from by kernel_rfl] at this
      exact mkdir_there hw hk this
    · exact absurd hn (by decide)
    · exact absurd hn (by decide)
    · exact absurd hn (by decide)
theorem ans_touch {n n' : Nd} {t err : ByteArray} (hw : n.well = true) (hk : n.kind = 2) {is : Bool} {code : Int} (h : AnsD n [nTouch, dd, t] code err is n') : is = true ∧ (code = 0 → ∃ P k, Leads n' true t (.ok P k) ∧ k ≠ 0) := by
  rcases h with ⟨_, _, _, _, hno⟩ | ⟨rfl, name, rest, e, h⟩
  · exact absurd rfl (hno _ _ rfl).2.2.1
  · cases e
    refine ⟨rfl, fun hc => ?_⟩
    rcases h with ⟨hn, _⟩ | ⟨hn, _⟩ | ⟨_, h⟩ | ⟨hn, _⟩
    · exact absurd hn (by decide)
    · exact absurd hn (by decide)
    · exact touched_there hw hk (run_oper (parse_no t) h hc)
    · exact absurd hn (by decide)
theorem ans_rmdir {n n' : Nd} {t err : ByteArray} (hw : n.well = true) (hk : n.kind = 2) {is : Bool} {code : Int} (h : AnsD n [nRmdir, dd, t] code err is n') : is = true ∧ (code = 0 → ∃ P k, Leads n false t (.ok P k) ∧ kindAt n' P = 0) := by
  rcases h with ⟨_, _, _, _, hno⟩ | ⟨rfl, name, rest, e, h⟩
  · exact absurd rfl (hno _ _ rfl).2.1
  · cases e
    refine ⟨rfl, fun hc => ?_⟩
    rcases h with ⟨hn, _⟩ | ⟨_, h⟩ | ⟨hn, _⟩ | ⟨hn, _⟩
    · exact absurd hn (by decide)
    · exact rmdir_gone hw hk (run_oper (parse_no t) h hc)
    · exact absurd hn (by decide)
    · exact absurd hn (by decide)
theorem ans_rm {n n' : Nd} {t err : ByteArray} (hw : n.well = true) (hk : n.kind = 2) {is : Bool} {code : Int} (h : AnsD n [nRm, oR, dd, t] code err is n') : is = true ∧ (code = 0 → ∃ P k, Leads n false t (.ok P k) ∧ kindAt n' P = 0) := by
  rcases h with ⟨_, _, _, _, hno⟩ | ⟨rfl, name, rest, e, h⟩
  · exact absurd rfl (hno _ _ rfl).2.2.2
  · cases e
    refine ⟨rfl, fun hc => ?_⟩
    rcases h with ⟨hn, _⟩ | ⟨hn, _⟩ | ⟨hn, _⟩ | ⟨_, h⟩
    · exact absurd hn (by decide)
    · exact absurd hn (by decide)
    · exact absurd hn (by decide)
    · have := run_oper (parse_r t) h hc
      rw [show hasB (setD [114]) 102 = false from by kernel_rfl, show hasB (setD [114]) 114 = true from by kernel_rfl] at this
      exact rmr_gone hw hk this
end Dn
end Go.Proofs.YtmofodaecakkfaaGreat
