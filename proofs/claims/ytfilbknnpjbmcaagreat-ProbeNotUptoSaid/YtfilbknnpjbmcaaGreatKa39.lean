/- What package probe tells, as data: what a path leads to, whether a test holds, what a call comes to. No program. -/
import Derived.Test.YtfilbknnpjbmcaaGreatKa38
import Derived.Test.YtfilbknnpjbmcaaGreatKa14
import Derived.Test.YtfilbknnpjbmcaaGreatKa15
namespace Go.Proofs.YtfilbknnpjbmcaaGreat
open Go.RowKit Px Nx Wk
namespace Pr
/-- Where a path leads. -/
def WayTo (n : Nd) (fo : Bool) (t : ByteArray) (o : Out) : Prop := Run n stepsB dirB absB fo [] (stepsB t) 0 (dirB t) o
def endK : Out → UInt8
  | .err _ => 0
  | .ok _ k => k
/-- Errors of a way. -/
theorem way_err {n : Nd} {st : ByteArray → List ByteArray} {dr ab : ByteArray → Bool} {fo : Bool} {at_ l : List ByteArray} {j : Nat} {a : Bool} {o : Out} (h : Run n st dr ab fo at_ l j a o) : ∀ e, o = .err e → e = 5 ∨ e = 55 ∨ e = 61 := by
  induction h with
  | done => intro e he; cases he
  | up _ _ _ _ _ _ ih => exact ih
  | ends => intro e he; cases he
  | none => intro e he; cases he; exact .inl rfl
  | dir _ _ _ _ _ _ _ _ _ _ ih => exact ih
  | loop => intro e he; cases he; exact .inr (.inr rfl)
  | link _ _ _ _ _ _ _ _ _ _ _ ih => exact ih
  | file => intro e he; cases he; exact .inr (.inl rfl)
/-- The kind to which a path leads: none, if it is refused. -/
def kindR (n : Nd) (fo : Bool) (t : ByteArray) (k : UInt8) : Prop := (checkL t.data.toList ≠ 0 ∧ k = 0) ∨ (checkL t.data.toList = 0 ∧ ∃ o, WayTo n fo t o ∧ k = endK o)
theorem kind_det {n : Nd} {fo : Bool} {t : ByteArray} {k k' : UInt8} (h : kindR n fo t k) (h' : kindR n fo t k') : k = k' := by
  rcases h with ⟨h1, h2⟩ | ⟨h1, o, ho, rfl⟩ <;> rcases h' with ⟨h1', h2'⟩ | ⟨h1', o', ho', rfl⟩
  · exact h2.trans h2'.symm
  · exact absurd h1' h1
  · exact absurd h1 h1'
  · rw [run_det ho ho' (Nat.zero_le _)]
/-- What is asked of a tree, and told. -/
structure Orc (n : Nd) (K : Bool → ByteArray → UInt8) : Prop where
  of : ∀ {fo t k}, kindR n fo t k → K fo t = k
  is : ∀ fo t, K fo t = 0 ∨ kindR n fo t (K fo t)
open Classical in
theorem orc (n : Nd) : ∃ K, Orc n K := by
  refine ⟨fun fo t => if h : ∃ k, kindR n fo t k then h.choose else 0, ⟨fun {fo t k} h => ?_, fun fo t => ?_⟩⟩
  · have hh : ∃ k, kindR n fo t k := ⟨k, h⟩
    show (if h : ∃ k, kindR n fo t k then h.choose else 0) = k
    rw [dif_pos hh]
    exact kind_det hh.choose_spec h
  · show (if h : ∃ k, kindR n fo t k then h.choose else 0) = 0 ∨ kindR n fo t (if h : ∃ k, kindR n fo t k then h.choose else 0)
    by_cases hh : ∃ k, kindR n fo t k
    · rw [dif_pos hh]; exact .inr hh.choose_spec
    · rw [dif_neg hh]; exact .inl rfl
theorem pkind {n : Nd} (hw : n.well = true) (p : List ByteArray) : kindAt n p = 0 ∨ kindAt n p = 1 ∨ kindAt n p = 2 ∨ kindAt n p = 3 := by
  unfold kindAt
  cases h : n.at_ p with
  | none => exact .inl rfl
  | some k =>
    have hk := well_at hw h
    rcases k with ⟨kind, text, names, kids⟩
    show kind = 0 ∨ kind = 1 ∨ kind = 2 ∨ kind = 3
    unfold Nd.well at hk
    split at hk
    · rename_i h; exact .inr (.inl h)
    · split at hk
      · rename_i h; exact .inr (.inr (.inr h))
      · split at hk
        · rename_i h; exact .inr (.inr (.inl h))
        · cases hk
/-- A path that is followed leads to nothing, a File, or a Dir. -/
theorem orc_found {n : Nd} (hw : n.well = true) (hk : n.kind = 2) {K : Bool → ByteArray → UInt8} (h : Orc n K) (t : ByteArray) : K true t = 0 ∨ K true t = 1 ∨ K true t = 2 := by
  rcases h.is true t with h0 | ⟨_, h0⟩ | ⟨_, o, ho, he⟩
  · exact .inl h0
  · exact .inl h0
  · rw [he]
    cases o with
    | err e => exact .inl rfl
    | ok p k =>
      have h1 := (run_find ho p k rfl).1
      have h2 := (run_real hk ho (dirsTo_nil hk) p k rfl).2
      have h3 := pkind hw p
      rw [h2] at h3
      show k = 0 ∨ k = 1 ∨ k = 2
      rcases h3 with h3 | h3 | h3 | h3
      · exact .inl h3
      · exact .inr (.inl h3)
      · exact .inr (.inr h3)
      · exact absurd h3 h1
def sN : ByteArray := ⟨#[45, 110]⟩
def sZ : ByteArray := ⟨#[45, 122]⟩
def sE : ByteArray := ⟨#[45, 101]⟩
def sF : ByteArray := ⟨#[45, 102]⟩
def sD : ByteArray := ⟨#[45, 100]⟩
def sL : ByteArray := ⟨#[45, 76]⟩
def sH : ByteArray := ⟨#[45, 104]⟩
def sEq : ByteArray := ⟨#[61]⟩
def sNe : ByteArray := ⟨#[33, 61]⟩
def sBang : ByteArray := ⟨#[33]⟩
/-- What is asked of a word by the one ahead of it. -/
def askD (K : Bool → ByteArray → UInt8) (a b : ByteArray) : Option Bool :=
  if a = sN then some (!decide (b = ⟨#[]⟩)) else if a = sZ then some (decide (b = ⟨#[]⟩)) else if a = sE then some (!decide (K true b = 0)) else if a = sF then some (decide (K true b = 1)) else if a = sD then some (decide (K true b = 2))
  else if a = sL then some (decide (K false b = 3)) else if a = sH then some (decide (K false b = 3)) else none
/-- What is asked of two words by the one between them. -/
def cmpD (m a b : ByteArray) : Option Bool := if m = sEq then some (decide (a = b)) else if m = sNe then some (!decide (a = b)) else none
def bang (a : ByteArray) (r : Option Bool) : Option Bool := if a = sBang then r.map (!·) else none
/-- Does a test hold? None: it is usage. -/
def holdsD (K : Bool → ByteArray → UInt8) : List ByteArray → Option Bool
  | [] => some false
  | [a] => some (!decide (a = ⟨#[]⟩))
  | [a, b] => (askD K a b).or (bang a (some (!decide (b = ⟨#[]⟩))))
  | [a, m, b] => (cmpD m a b).or (bang a ((askD K m b).or (bang m (some (!decide (b = ⟨#[]⟩))))))
  | [a, b, c, d] => bang a ((cmpD c b d).or (bang b ((askD K c d).or (bang c (some (!decide (d = ⟨#[]⟩)))))))
  | _ => none
def ansV (r : Option Bool) : Value := match r with
  | none => .tuple #[.bool false, .bool false]
  | some h => .tuple #[.bool h, .bool true]
theorem hold_2 (K : Bool → ByteArray → UInt8) (a b : ByteArray) : holdsD K [a, b] = (askD K a b).or (bang a (holdsD K [b])) := rfl
theorem hold_3 (K : Bool → ByteArray → UInt8) (a m b : ByteArray) : holdsD K [a, m, b] = (cmpD m a b).or (bang a (holdsD K [m, b])) := rfl
theorem hold_4 (K : Bool → ByteArray → UInt8) (a b c d : ByteArray) : holdsD K [a, b, c, d] = bang a (holdsD K [b, c, d]) := rfl
theorem hold_5 (K : Bool → ByteArray → UInt8) {l : List ByteArray} (h : 5 ≤ l.length) : holdsD K l = none := by
  match l, h with
  | a :: b :: c :: d :: e :: r, _ => rfl
theorem ask_bang (K : Bool → ByteArray → UInt8) (b : ByteArray) : askD K sBang b = none := by
  unfold askD
  rw [if_neg (by decide), if_neg (by decide), if_neg (by decide), if_neg (by decide), if_neg (by decide), if_neg (by decide), if_neg (by decide)]
theorem bang_is (r : Option Bool) : bang sBang r = r.map (!·) := if_pos rfl
/-- With ! ahead: what is no usage holds just if it does not. -/
theorem hold_not (K : Bool → ByteArray → UInt8) {l : List ByteArray} (h1 : 1 ≤ l.length) (h3 : l.length ≤ 3) (hm : l.length = 2 → l.getD 0 ⟨#[]⟩ ≠ sEq ∧ l.getD 0 ⟨#[]⟩ ≠ sNe) : holdsD K (sBang :: l) = (holdsD K l).map (!·) := by
  match l, h1, h3, hm with
  | [a], _, _, _ => rw [hold_2, ask_bang, bang_is]; rfl
  | [a, b], _, _, hm =>
    have g1 : a ≠ sEq := (hm rfl).1
    have g2 : a ≠ sNe := (hm rfl).2
    have : cmpD a sBang b = none := by
      unfold cmpD
      rw [if_neg g1, if_neg g2]
    rw [hold_3, this, bang_is]; rfl
  | [a, b, c], _, _, _ => rw [hold_4, bang_is]
/-- What a test comes to: code, complaint. -/
def testD (name : ByteArray) (r : Option Bool) : Int × ByteArray := match r with
  | none => (2, name ++ ⟨#[58, 32, 117, 115, 97, 103, 101, 10]⟩)
  | some h => (if h then 0 else 1, ⟨#[]⟩)
def sTest : ByteArray := ⟨#[116, 101, 115, 116]⟩
def sOpen : ByteArray := ⟨#[91]⟩
def sShut : ByteArray := ⟨#[93]⟩
def sEcho : ByteArray := ⟨#[101, 99, 104, 111]⟩
def sTrue : ByteArray := ⟨#[116, 114, 117, 101]⟩
def sColon : ByteArray := ⟨#[58]⟩
def sFalse : ByteArray := ⟨#[102, 97, 108, 115, 101]⟩
def shutD (K : Bool → ByteArray → UInt8) (l : List ByteArray) : Option Bool := if l.length = 0 then none else if l.getD (l.length - 1) ⟨#[]⟩ = sShut then holdsD K (l.take (l.length - 1)) else none
def echoD (l : List ByteArray) : ByteArray := ⟨(Lib.join (l.map (·.data.toList)) [32]).toArray⟩ ++ ⟨#[10]⟩
/-- What a call comes to: code, what is written, the complaint, and whether there is such a utility. -/
structure Ans where
  code : Int
  out : ByteArray
  err : ByteArray
  is : Bool
def runD (K : Bool → ByteArray → UInt8) (l : List ByteArray) : Ans := match l with
  | [] => ⟨0, ⟨#[]⟩, ⟨#[]⟩, false⟩
  | s :: r =>
    if s = sEcho then ⟨0, echoD r, ⟨#[]⟩, true⟩
    else if s = sTrue then ⟨0, ⟨#[]⟩, ⟨#[]⟩, true⟩
    else if s = sColon then ⟨0, ⟨#[]⟩, ⟨#[]⟩, true⟩
    else if s = sFalse then ⟨1, ⟨#[]⟩, ⟨#[]⟩, true⟩
    else if s = sTest then ⟨(testD s (holdsD K r)).1, ⟨#[]⟩, (testD s (holdsD K r)).2, true⟩
    else if s = sOpen then ⟨(testD s (shutD K r)).1, ⟨#[]⟩, (testD s (shutD K r)).2, true⟩
    else ⟨0, ⟨#[]⟩, ⟨#[]⟩, false⟩
def Ans.val (a : Ans) : Value := .tuple #[.int .i64 a.code, .string a.out, .string a.err, .bool a.is]
theorem test_code (s : ByteArray) (r : Option Bool) : ((testD s r).1 = 0 ∨ (testD s r).1 = 1 ∨ (testD s r).1 = 2) ∧ ((testD s r).1 = 2 ↔ (testD s r).2 ≠ ⟨#[]⟩) := by
  cases r with
  | none =>
    refine ⟨.inr (.inr rfl), ⟨fun _ h => ?_, fun _ => rfl⟩⟩
    have h : s ++ (⟨#[58, 32, 117, 115, 97, 103, 101, 10]⟩ : ByteArray) = ⟨#[]⟩ := h
    have := congrArg ByteArray.size h
    rw [ByteArray.size_append] at this
    have e : (⟨#[58, 32, 117, 115, 97, 103, 101, 10]⟩ : ByteArray).size = 8 := rfl
    have e0 : (⟨#[]⟩ : ByteArray).size = 0 := rfl
    omega
  | some h =>
    cases h with
    | true => exact ⟨.inl rfl, ⟨fun h => absurd (show (0 : Int) = 2 from h) (by decide), fun h => absurd rfl h⟩⟩
    | false => exact ⟨.inr (.inl rfl), ⟨fun h => absurd (show (1 : Int) = 2 from h) (by decide), fun h => absurd rfl h⟩⟩
/-- What ProbeLooks asks of a call's answer. -/
structure LooksOk (l : List ByteArray) (a : Ans) : Prop where
  none : a.is = false → a.code = 0 ∧ a.out = ⟨#[]⟩ ∧ a.err = ⟨#[]⟩
  code : a.code = 0 ∨ a.code = 1 ∨ a.code = 2
  err : a.code = 2 ↔ a.err ≠ ⟨#[]⟩
  out : a.is = true → 1 ≤ l.length ∧ (a.out = ⟨#[]⟩ ∨ l.getD 0 ⟨#[]⟩ = sEcho)
theorem looks_ok (K : Bool → ByteArray → UInt8) (l : List ByteArray) : LooksOk l (runD K l) := by
  cases l with
  | nil => exact ⟨fun _ => ⟨rfl, rfl, rfl⟩, .inl rfl, ⟨fun h => absurd (show (0 : Int) = 2 from h) (by decide), fun h => absurd rfl h⟩, fun h => (by cases h)⟩
  | cons s r =>
    unfold runD
    dsimp only
    split
    · rename_i h
      exact ⟨fun h => (by cases h), .inl rfl, ⟨fun h => absurd (show (0 : Int) = 2 from h) (by decide), fun h => absurd rfl h⟩, fun _ => ⟨by simp, .inr h⟩⟩
    split
    · exact ⟨fun h => (by cases h), .inl rfl, ⟨fun h => absurd (show (0 : Int) = 2 from h) (by decide), fun h => absurd rfl h⟩, fun _ => ⟨by simp, .inl rfl⟩⟩
    split
    · exact ⟨fun h => (by cases h), .inl rfl, ⟨fun h => absurd (show (0 : Int) = 2 from h) (by decide), fun h => absurd rfl h⟩, fun _ => ⟨by simp, .inl rfl⟩⟩
    split
    · exact ⟨fun h => (by cases h), .inr (.inl rfl), ⟨fun h => absurd (show (1 : Int) = 2 from h) (by decide), fun h => absurd rfl h⟩, fun _ => ⟨by simp, .inl rfl⟩⟩
    split
    · exact ⟨fun h => (by cases h), (test_code s _).1, (test_code s _).2, fun _ => ⟨by simp, .inl rfl⟩⟩
    split
    · exact ⟨fun h => (by cases h), (test_code s _).1, (test_code s _).2, fun _ => ⟨by simp, .inl rfl⟩⟩
    · exact ⟨fun _ => ⟨rfl, rfl, rfl⟩, .inl rfl, ⟨fun h => absurd (show (0 : Int) = 2 from h) (by decide), fun h => absurd rfl h⟩, fun h => (by cases h)⟩
end Pr
end Go.Proofs.YtfilbknnpjbmcaaGreat
