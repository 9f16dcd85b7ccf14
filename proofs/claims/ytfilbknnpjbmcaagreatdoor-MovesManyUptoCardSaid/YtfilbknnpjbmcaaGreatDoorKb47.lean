/- What calls of package moves come to, worked out: over closed trees each relation has one answer. No program. -/
import Derived.Test.YtfilbknnpjbmcaaGreatDoorKb42
namespace Go.Proofs.YtfilbknnpjbmcaaGreatDoor
open Go.RowKit Px Nx Wk Dn Ox Mv
namespace Wk
def goF (n : Nd) (fo : Bool) : Nat → List ByteArray → List ByteArray → Nat → Bool → Option Out
 | 0, _, _, _, _ => .none
 | k + 1, at_, l, j, a => match l with
  | [] => some (.ok at_ 2)
  | s :: r =>
   if s = dots then goF n fo k at_.dropLast r j a
   else if r = [] ∧ endsD fo a (kindAt n (at_ ++ [s])) = true then some (.ok (at_ ++ [s]) (kindAt n (at_ ++ [s])))
   else if kindAt n (at_ ++ [s]) = 0 then some (.err 5)
   else if kindAt n (at_ ++ [s]) = 2 then goF n fo k (at_ ++ [s]) r j a
   else if kindAt n (at_ ++ [s]) = 3 then
    if j = 8 then some (.err 61) else goF n fo k (if absB (textAt n (at_ ++ [s])) then [] else at_) (stepsB (textAt n (at_ ++ [s])) ++ r) (j + 1) (a || (r.isEmpty && dirB (textAt n (at_ ++ [s]))))
   else some (.err 55)
theorem goF_run {n : Nd} {fo : Bool} : ∀ (k : Nat) {at_ l : List ByteArray} {j : Nat} {a : Bool} {o : Out}, goF n fo k at_ l j a = some o → Run n stepsB dirB absB fo at_ l j a o
 | 0, _, _, _, _, _, h => by cases h
 | k + 1, at_, l, j, a, o, h => by
  cases l with
  | nil =>
   rw [goF] at h
   cases h
   exact .done at_ j a
  | cons s r =>
   rw [goF] at h
   by_cases h1 : s = dots
   ·rw [if_pos h1] at h
    subst h1
    exact .up at_ r j a o (goF_run k h)
   ·rw [if_neg h1] at h
    by_cases h2 : r = [] ∧ endsD fo a (kindAt n (at_ ++ [s])) = true
    ·rw [if_pos h2] at h
     obtain ⟨rfl, h2⟩ := h2
     cases h
     exact .ends at_ s j a h1 h2
    ·rw [if_neg h2] at h
     have hg : GoesOn fo a (kindAt n (at_ ++ [s])) r := by
      by_cases hr : r = []
      ·exact .inr (Bool.eq_false_iff.2 fun h3 => h2 ⟨hr, h3⟩)
      ·exact .inl hr
     by_cases h3 : kindAt n (at_ ++ [s]) = 0
     ·rw [if_pos h3] at h
      cases h
      exact .none at_ s r j a h1 hg h3
     ·rw [if_neg h3] at h
      by_cases h4 : kindAt n (at_ ++ [s]) = 2
      ·rw [if_pos h4] at h
       exact .dir at_ s r j a o h1 hg h4 (goF_run k h)
      ·rw [if_neg h4] at h
       by_cases h5 : kindAt n (at_ ++ [s]) = 3
       ·rw [if_pos h5] at h
        by_cases h6 : j = 8
        ·rw [if_pos h6] at h
         cases h
         exact .loop at_ s r j a h1 hg h5 h6
        ·rw [if_neg h6] at h
         exact .link at_ s r j a o h1 hg h5 h6 (goF_run k h)
       ·rw [if_neg h5] at h
        cases h
        exact .file at_ s r j a h1 hg h3 h4 h5
end Wk
namespace Mv
def leadsF (n : Nd) (fo : Bool) (t : ByteArray) : Option Out := goF n fo 60 [] (stepsB t) 0 (dirB t)
theorem leads_is {n : Nd} {fo : Bool} {t : ByteArray} {o o2 : Out} (h : leadsF n fo t = some o2) (hl : Leads n fo t o) : o = o2 := run_det hl (goF_run _ h) (Nat.zero_le _)
def spotF (n : Nd) (t : ByteArray) : Option (Int × Goal) := match leadsF n false t with
 | .none => .none
 | some (.err e) => some (e, noGoal)
 | some (.ok q _) => some (0, .at_ q)
def foundF (n : Nd) (t : ByteArray) (p : List ByteArray) (k : UInt8) : Option (Int × Goal) := if k ≠ 0 then some (0, .at_ p) else match leadsF n false t with
 | .none => .none
 | some o => if linkO o = true then some (5, noGoal) else some (0, .at_ p)
def goalF (cp : Bool) (n : Nd) (t : ByteArray) (sev : Bool) : Option (Int × Goal) := if checkL t.data.toList ≠ 0 then some ((checkL t.data.toList : Int), noGoal) else match leadsF n true t with
 | .none => .none
 | some (.err e) => some (e, noGoal)
 | some (.ok p k) => if k = 2 then some (0, .into p) else if k = 0 ∧ (sev = true ∨ dirB t = true) then some (5, noGoal) else if sev = true then some (55, noGoal) else if cp = true then foundF n t p k else spotF n t
theorem isG {c r : Int} {g h : Goal} {x : Int × Goal} (hx : some (c, g) = some x) (h1 : IsG c g r h) : r = x.1 ∧ h = x.2 := by cases hx; exact h1
theorem spot_is {n : Nd} {t : ByteArray} {x : Int × Goal} {c : Int} {g : Goal} (h : spotF n t = some x) (hr : spotR n t c g) : c = x.1 ∧ g = x.2 := by
 obtain ⟨o, ho, hr⟩ := hr
 unfold spotF at h
 split at h
 ·cases h
 ·rename_i e hl
  cases leads_is hl ho
  exact isG h hr
 ·rename_i q k hl
  cases leads_is hl ho
  exact isG h hr
theorem found_is {n : Nd} {t : ByteArray} {p : List ByteArray} {k : UInt8} {x : Int × Goal} {c : Int} {g : Goal} (h : foundF n t p k = some x) (hr : foundR n t p k c g) : c = x.1 ∧ g = x.2 := by
 unfold foundF at h
 unfold foundR at hr
 split at h
 ·rename_i hk
  rw [if_pos hk] at hr
  exact isG h hr
 ·rename_i hk
  rw [if_neg hk] at hr
  obtain ⟨o, ho, hr⟩ := hr
  split at h
  ·cases h
  ·rename_i o2 hl
   cases leads_is hl ho
   split at h
   ·rename_i h2
    rw [if_pos h2] at hr
    exact isG h hr
   ·rename_i h2
    rw [if_neg h2] at hr
    exact isG h hr
theorem goal_is {cp : Bool} {n : Nd} {t : ByteArray} {sev : Bool} {x : Int × Goal} {c : Int} {g : Goal} (h : goalF cp n t sev = some x) (hr : goalR cp n t sev c g) : c = x.1 ∧ g = x.2 := by
 unfold goalF at h
 unfold goalR at hr
 split at h
 ·rename_i hc
  rw [if_pos hc] at hr
  exact isG h hr
 ·rename_i hc
  rw [if_neg hc] at hr
  obtain ⟨o, ho, hr⟩ := hr
  split at h
  ·cases h
  ·rename_i e hl
   cases leads_is hl ho
   exact isG h hr
  ·rename_i p k hl
   cases leads_is hl ho
   dsimp only at hr
   split at h
   ·rename_i h1
    rw [if_pos h1] at hr
    exact isG h hr
   ·rename_i h1
    rw [if_neg h1] at hr
    split at h
    ·rename_i h2
     rw [if_pos h2] at hr
     exact isG h hr
    ·rename_i h2
     rw [if_neg h2] at hr
     split at h
     ·rename_i h3
      rw [if_pos h3] at hr
      exact isG h hr
     ·rename_i h3
      rw [if_neg h3] at hr
      unfold leadsR at hr
      split at h
      ·rename_i h4
       rw [if_pos h4] at hr
       exact found_is h hr
      ·rename_i h4
       rw [if_neg h4] at hr
       exact spot_is h hr
def standsF (n : Nd) (fo : Bool) (t : ByteArray) : Option (Int × List ByteArray) := if checkL t.data.toList ≠ 0 then some ((checkL t.data.toList : Int), []) else match leadsF n fo t with
 | .none => .none
 | some (.err e) => some (e, [])
 | some (.ok q k) => if k = 0 then some (5, []) else some (0, q)
theorem stands_is {n : Nd} {fo : Bool} {t : ByteArray} {x : Int × List ByteArray} {c : Int} {p : List ByteArray} (h : standsF n fo t = some x) (hr : standsR n fo t c p) : c = x.1 ∧ p = x.2 := by
 unfold standsF at h
 unfold standsR at hr
 split at h
 ·rename_i hc
  rw [if_pos hc] at hr
  cases h
  exact hr
 ·rename_i hc
  rw [if_neg hc] at hr
  obtain ⟨o, ho, hr⟩ := hr
  split at h
  ·cases h
  ·rename_i e hl
   cases leads_is hl ho
   cases h
   exact hr
  ·rename_i q k hl
   cases leads_is hl ho
   dsimp only at hr
   split at h
   ·rename_i h1
    rw [if_pos h1] at hr
    cases h
    exact hr
   ·rename_i h1
    rw [if_neg h1] at hr
    cases h
    exact hr
abbrev Fun := Nd → ByteArray → Option (Int × Nd)
def Tells (F : Fun) (R : Rel) : Prop := ∀ {n : Nd} {s : ByteArray} {x : Int × Nd} {c : Int} {m : Nd}, F n s = some x → R n s c m → c = x.1 ∧ m = x.2
def toF (g : Goal) (s : ByteArray) (n : Nd) (f : List ByteArray → Int × Nd) : Option (Int × Nd) := match toD g s with
 | .none => some (4, n)
 | some q => some (f q)
theorem to_is {g : Goal} {s : ByteArray} {n m : Nd} {f : List ByteArray → Int × Nd} {x : Int × Nd} {c : Int} (h : toF g s n f = some x) (hr : byTo g s n c m fun q => Is (f q) c m) : c = x.1 ∧ m = x.2 := by
 unfold toF at h
 unfold byTo at hr
 split at h
 ·rename_i hq
  rw [hq] at hr
  cases h
  exact hr
 ·rename_i q hq
  rw [hq] at hr
  cases h
  exact hr
def byF (n : Nd) (fo : Bool) (g : Goal) (s : ByteArray) (f : List ByteArray → List ByteArray → Int × Nd) : Option (Int × Nd) := match standsF n fo s with
 | .none => .none
 | some (e, p) => if e ≠ 0 then some (e, n) else toF g s n (f p)
theorem by_is {n m : Nd} {fo : Bool} {g : Goal} {s : ByteArray} {f : List ByteArray → List ByteArray → Int × Nd} {x : Int × Nd} {c : Int} (h : byF n fo g s f = some x) (hr : ∃ e p, standsR n fo s e p ∧ if e ≠ 0 then Is (e, n) c m else byTo g s n c m fun q => Is (f p q) c m) : c = x.1 ∧ m = x.2 := by
 obtain ⟨e, p, hst, hr⟩ := hr
 unfold byF at h
 split at h
 ·cases h
 ·rename_i e2 p2 hs
  obtain ⟨rfl, rfl⟩ := stands_is hs hst
  try dsimp only at h hr ⊢
  split at h
  ·rename_i h1
   rw [if_pos h1] at hr
   cases h
   exact hr
  ·rename_i h1
   rw [if_neg h1] at hr
   exact to_is h hr
def mvF (g : Goal) : Fun := fun n s => byF n false g s fun p q => renameD n p q
def cpF (d : Bool) (g : Goal) : Fun := fun n s => byF n (!d) g s fun p q => copyingD n p q d
def lnF (f : Bool) (g : Goal) : Fun := fun n s => if (linkN s).well = false then some (4, n) else toF g s n fun q => linkD f n q s
theorem mv_is (g : Goal) : Tells (mvF g) (mvR g) := fun h hr => by_is h hr
theorem cp_is (d : Bool) (g : Goal) : Tells (cpF d g) (cpR d g) := fun h hr => by_is h hr
theorem ln_is (f : Bool) (g : Goal) : Tells (lnF f g) (lnR f g) := fun {n s x c m} h hr => by
 unfold lnF at h
 unfold lnR at hr
 split at h
 ·rename_i h1
  rw [if_pos h1] at hr
  cases h
  exact hr
 ·rename_i h1
  rw [if_neg h1] at hr
  exact to_is h hr
def opsF (F : Fun) : Nd → List ByteArray → Option (List (ByteArray × Int) × Nd)
 | n, [] => some ([], n)
 | n, s :: r => match F n s with
  | .none => .none
  | some (c, m) => match opsF F m r with
   | .none => .none
   | some (bad, m2) => some (if c = 0 then bad else (s, c) :: bad, m2)
theorem ops_is {F : Fun} {R : Rel} (hF : Tells F R) {n m : Nd} {l : List ByteArray} {bad : List (ByteArray × Int)} (hr : Ops R n l bad m) : ∀ {x}, opsF F n l = some x → bad = x.1 ∧ m = x.2 := by
 induction hr with
 | nil n => intro x h; cases h; exact ⟨rfl, rfl⟩
 | ok h1 _ ih =>
  intro x h
  unfold opsF at h
  split at h
  ·cases h
  ·rename_i c m1 hs
   obtain ⟨e1, e2⟩ := hF hs h1
   dsimp only at e1 e2
   subst e2
   split at h
   ·cases h
   ·rename_i bad2 m2 ho
    obtain ⟨rfl, rfl⟩ := ih ho
    rw [if_pos e1.symm] at h
    cases h
    exact ⟨rfl, rfl⟩
 | bad h1 hc _ ih =>
  intro x h
  unfold opsF at h
  split at h
  ·cases h
  ·rename_i c m1 hs
   obtain ⟨e1, e2⟩ := hF hs h1
   dsimp only at e1 e2
   subst e2
   split at h
   ·cases h
   ·rename_i bad2 m2 ho
    obtain ⟨rfl, rfl⟩ := ih ho
    rw [if_neg (by rw [← e1]; exact hc)] at h
    cases h
    exact ⟨by rw [e1], rfl⟩
def goF2 (cp : Bool) (F : Goal → Fun) (n : Nd) (name : ByteArray) (ops : List ByteArray) : Option (Int × ByteArray × Nd) := match goalF cp n (ops.getD (ops.length - 1) ByteArray.empty) (decide (1 < ops.length - 1)) with
 | .none => .none
 | some (c, g) => if c ≠ 0 then some (1, ⟨(lineM name (ops.getD (ops.length - 1) ByteArray.empty, c)).toArray⟩, n) else match opsF (F g) n (ops.take (ops.length - 1)) with
  | .none => .none
  | some (bad, m) => some (if bad.isEmpty then (0, ⟨#[]⟩, m) else (1, ⟨(linesM name bad).toArray⟩, m))
theorem go_is {cp : Bool} {F : Goal → Fun} {R : Goal → Rel} (hF : ∀ g, Tells (F g) (R g)) {n m : Nd} {name : ByteArray} {ops : List ByteArray} {code : Int} {err : ByteArray} {x : Int × ByteArray × Nd} (h : goF2 cp F n name ops = some x) (hr : GoM cp R n name ops code err m) : code = x.1 ∧ err = x.2.1 ∧ m = x.2.2 := by
 obtain ⟨c, g, hg, hr⟩ := hr
 unfold goF2 at h
 split at h
 ·cases h
 ·rename_i c2 g2 hgf
  obtain ⟨rfl, rfl⟩ := goal_is hgf hg
  try dsimp only at h hr ⊢
  split at h
  ·rename_i h1
   cases h
   rcases hr with ⟨_, r1, r2, r3⟩ | ⟨h2, _⟩
   ·exact ⟨r1, r2, r3⟩
   ·exact absurd h2 h1
  ·rename_i h1
   rcases hr with ⟨h2, _⟩ | ⟨_, bad, ho, hb⟩
   ·exact absurd h2 h1
   ·split at h
    ·cases h
    ·rename_i bad2 m2 hof
     obtain ⟨rfl, rfl⟩ := ops_is (hF _) ho hof
     try dsimp only at h hb ⊢
     rcases hb with ⟨rfl, rfl, rfl⟩ | ⟨hb, rfl, rfl⟩
     ·cases h; exact ⟨rfl, rfl, rfl⟩
     ·rw [if_neg (by simpa using hb)] at h
      cases h
      exact ⟨rfl, rfl, rfl⟩
def runF (O : List UInt8) (must : ByteArray → Bool) (cp : Bool) (F : ByteArray → Goal → Fun) (n : Nd) (name : ByteArray) (xs : List ByteArray) : Option (Int × ByteArray × Nd) :=
 if (parseD O xs 2 bigI).2.2 ≠ 0 ∨ must (parseD O xs 2 bigI).1 = false then some (2, name ++ ⟨#[58, 32, 117, 115, 97, 103, 101, 10]⟩, n) else goF2 cp (F (parseD O xs 2 bigI).1) n name (parseD O xs 2 bigI).2.1
theorem run_is {O : List UInt8} {must : ByteArray → Bool} {cp : Bool} {F : ByteArray → Goal → Fun} {R : ByteArray → Goal → Rel} (hF : ∀ S g, Tells (F S g) (R S g)) {n m : Nd} {name : ByteArray} {xs : List ByteArray} {code : Int} {err : ByteArray} {x : Int × ByteArray × Nd} (h : runF O must cp F n name xs = some x) (hr : RunM O must cp R n name xs code err m) : code = x.1 ∧ err = x.2.1 ∧ m = x.2.2 := by
 unfold runF at h
 rcases hr with ⟨h1, r1, r2, r3⟩ | ⟨h1, h2, _, hg⟩
 ·rw [if_pos h1] at h
  cases h
  exact ⟨r1, r2, r3⟩
 ·rw [if_neg (by rintro (q | q); exact q h1; rw [h2] at q; cases q)] at h
  exact go_is (hF _) h hg
end Mv
namespace Works13
def tA : ByteArray := ⟨#[97]⟩
def tB : ByteArray := ⟨#[98]⟩
def tC : ByteArray := ⟨#[99]⟩
def tD : ByteArray := ⟨#[100]⟩
def tE : ByteArray := ⟨#[101]⟩
def tL : ByteArray := ⟨#[108]⟩
def tM : ByteArray := ⟨#[109]⟩
def tQ : ByteArray := ⟨#[113]⟩
def tX : ByteArray := ⟨#[120]⟩
def oR : ByteArray := ⟨#[45, 114]⟩
def oS : ByteArray := ⟨#[45, 115]⟩
def fN (s : ByteArray) : Nd := .mk 1 s [] []
def lN (s : ByteArray) : Nd := .mk 3 s [] []
def dN (names : List ByteArray) (kids : List Nd) : Nd := .mk 2 ⟨#[]⟩ names kids
def dD : Nd := dN [tE] [fN ⟨#[]⟩]
def nN : Nd := dN [tA, tD] [fN tX, dD]
def bN : Nd := dN [tA, tL] [fN tX, lN tA]
def rMv (n : Nd) (xs : List ByteArray) := runF [102] (fun _ => true) false (fun _ => mvF) n ⟨#[109, 118]⟩ xs
def rCp (n : Nd) (xs : List ByteArray) := runF [82, 102, 114] (fun _ => true) true (fun S => cpF (hasB S 114 || hasB S 82)) n ⟨#[99, 112]⟩ xs
def rLn (n : Nd) (xs : List ByteArray) := runF [102, 115] (fun S => hasB S 115) false (fun S => lnF (hasB S 102)) n ⟨#[108, 110]⟩ xs
theorem w1 : rMv nN [tA, tD] = some (0, ⟨#[]⟩, dN [tD] [dN [tA, tE] [fN tX, fN ⟨#[]⟩]]) := by kernel_rfl
theorem w2 : rMv nN [tA, tB, tC] = some (1, ⟨#[109, 118, 58, 32, 99, 58, 32, 110, 111, 116, 32, 116, 104, 101, 114, 101, 10]⟩, nN) := by kernel_rfl
theorem w3 : rMv nN [tD, tD] = some (1, ⟨#[109, 118, 58, 32, 100, 58, 32, 105, 110, 116, 111, 32, 105, 116, 115, 101, 108, 102, 10]⟩, nN) := by kernel_rfl
theorem w4 : rCp nN [tD, tQ] = some (1, ⟨#[99, 112, 58, 32, 100, 58, 32, 119, 114, 111, 110, 103, 32, 107, 105, 110, 100, 10]⟩, nN) := by kernel_rfl
theorem w5 : rCp nN [oR, tD, tQ] = some (0, ⟨#[]⟩, dN [tA, tD, tQ] [fN tX, dD, dD]) := by kernel_rfl
theorem w6 : rLn (dN [tA] [fN tX]) [oS, tA, tL] = some (0, ⟨#[]⟩, bN) := by kernel_rfl
theorem w7 : rCp bN [tL, tM] = some (0, ⟨#[]⟩, dN [tA, tL, tM] [fN tX, lN tA, fN tX]) := by kernel_rfl
theorem w8 : rLn nN [tA, tB] = some (2, ⟨#[108, 110, 58, 32, 117, 115, 97, 103, 101, 10]⟩, nN) := by kernel_rfl
theorem w9 : rMv nN [tA] = some (2, ⟨#[109, 118, 58, 32, 117, 115, 97, 103, 101, 10]⟩, nN) := by kernel_rfl
end Works13
end Go.Proofs.YtfilbknnpjbmcaaGreatDoor
