/- Walks of the program's word: may a part be, may it stand beside another one, does it begin as no word does? -/
import Derived.Test.YtpibjhlldlbocaaGreatSynD
import Derived.Test.YtpibjhlldlbocaaGreatSynK
namespace Go.Proofs.YtpibjhlldlbocaaGreat
open Go.RowKit Sx Go.Proofs

namespace Sx
def dPart (p : Part) : Bool :=
  if p.var then isParam p.text.data.toList
  else if p.quoted then !(p.text.data.toList.any (· == 0))
  else !p.text.data.toList.isEmpty && !(p.text.data.toList.any fun b => bads.data.toList.contains b)
def nothing (p : Part) : Bool := !p.var && p.text.data.toList.isEmpty && p.quoted
def dBeside (q p : Part) : Bool :=
  if q.quoted != p.quoted then true
  else if !q.var && !p.var then false
  else !nothing q && !nothing p
def dBegins (p : Part) : Bool := !p.var && !p.quoted && ill p.text.data.toList
/-- What the program asks of the parts, each with the one ahead of it. -/
def dGo : Option Part → List Part → Bool
  | _, [] => true
  | prev, p :: r => dPart p && (match prev with
      | some q => dBeside q p
      | none => true) && dGo (some p) r
def nextOk (prev : Option Part) (l : List Part) : Bool :=
  match prev, l.head? with
  | some q, some p => !(nothing q && p.quoted)
  | _, _ => true

theorem ok_bad : ∀ c : UInt8, okByte false c = !(bads.data.toList.contains c) := by
  intro c
  have h : ∀ n : Fin 256, okByte false (UInt8.ofNat n.val) = !(bads.data.toList.contains (UInt8.ofNat n.val)) := by set_option maxRecDepth 100000 in decide
  have := h ⟨c.toNat, c.toNat_lt⟩
  simpa using this
theorem ok_all : ∀ l : List UInt8, l.all (okByte false) = !(l.any fun b => bads.data.toList.contains b)
  | [] => rfl
  | c :: l => by
    rw [List.all_cons, List.any_cons, ok_all l, ok_bad c, Bool.not_or]
theorem ok_all_quoted : ∀ l : List UInt8, l.all (okByte true) = !(l.any (· == 0))
  | [] => rfl
  | c :: l => by
    rw [List.all_cons, List.any_cons, ok_all_quoted l, Bool.not_or]
    unfold okByte
    simp
theorem all_ok (q : Bool) (l : List UInt8) : l.all (okByte q) = if q then !(l.any (· == 0)) else !(l.any fun b => bads.data.toList.contains b) := by
  cases q
  · exact ok_all l
  · exact ok_all_quoted l
theorem core_eq (prev : Option Part) (p : Part) (r : List Part) : partOk prev p r.head? = ((dPart p && (match prev with
      | some q => (p.var || !(!q.var && (q.quoted == p.quoted))) && !(nothing p && q.quoted)
      | none => !dBegins p)) && nextOk (some p) r) := by
  obtain ⟨var, text, quoted⟩ := p
  unfold partOk dPart dBegins nextOk nothing
  generalize r.head? = h
  cases prev with
  | none =>
    cases h with
    | none =>
      dsimp only
      rw [all_ok]
      generalize isParam text.data.toList = a
      generalize text.data.toList.any (fun x => x == 0) = b
      generalize (text.data.toList.any fun b => bads.data.toList.contains b) = c
      generalize text.data.toList.isEmpty = e
      generalize ill text.data.toList = i
      cases var <;> cases quoted <;> cases a <;> cases b <;> cases c <;> cases e <;> cases i <;> rfl
    | some n =>
      obtain ⟨nv, nt, nq⟩ := n
      dsimp only
      rw [all_ok]
      generalize isParam text.data.toList = a
      generalize text.data.toList.any (fun x => x == 0) = b
      generalize (text.data.toList.any fun b => bads.data.toList.contains b) = c
      generalize text.data.toList.isEmpty = e
      generalize ill text.data.toList = i
      cases var <;> cases quoted <;> cases a <;> cases b <;> cases c <;> cases e <;> cases i <;> cases nq <;> rfl
  | some q =>
    obtain ⟨qv, qt, qq⟩ := q
    cases h with
    | none =>
      dsimp only
      rw [all_ok]
      generalize isParam text.data.toList = a
      generalize text.data.toList.any (fun x => x == 0) = b
      generalize (text.data.toList.any fun b => bads.data.toList.contains b) = c
      generalize text.data.toList.isEmpty = e
      cases var <;> cases quoted <;> cases a <;> cases b <;> cases c <;> cases e <;> cases qv <;> cases qq <;> rfl
    | some n =>
      obtain ⟨nv, nt, nq⟩ := n
      dsimp only
      rw [all_ok]
      generalize isParam text.data.toList = a
      generalize text.data.toList.any (fun x => x == 0) = b
      generalize (text.data.toList.any fun b => bads.data.toList.contains b) = c
      generalize text.data.toList.isEmpty = e
      cases var <;> cases quoted <;> cases a <;> cases b <;> cases c <;> cases e <;> cases qv <;> cases qq <;> cases nq <;> rfl
theorem beside_eq (q p : Part) (r : List Part) : (nextOk (some q) (p :: r) && ((p.var || !(!q.var && (q.quoted == p.quoted))) && !(nothing p && q.quoted))) = dBeside q p := by
  obtain ⟨qv, qt, qq⟩ := q
  obtain ⟨pv, pt, pq⟩ := p
  unfold nextOk dBeside nothing
  dsimp only [List.head?]
  generalize qt.data.toList.isEmpty = qe
  generalize pt.data.toList.isEmpty = pe
  cases qv <;> cases qq <;> cases pv <;> cases pq <;> cases qe <;> cases pe <;> rfl
theorem go_some : ∀ (l : List Part) (q : Part), (nextOk (some q) l && mayPs (some q) l) = dGo (some q) l
  | [], q => rfl
  | p :: r, q => by
    have ih := go_some r p
    have hb := beside_eq q p r
    rw [show mayPs (some q) (p :: r) = (partOk (some q) p r.head? && mayPs (some p) r) from rfl, core_eq]
    rw [show dGo (some q) (p :: r) = (dPart p && dBeside q p && dGo (some p) r) from rfl, ← ih, ← hb]
    dsimp only
    generalize nextOk (some q) (p :: r) = a
    generalize nextOk (some p) r = b
    generalize mayPs (some p) r = c
    generalize dPart p = d
    generalize ((p.var || !(!q.var && (q.quoted == p.quoted))) && !(nothing p && q.quoted)) = e
    cases a <;> cases b <;> cases c <;> cases d <;> cases e <;> rfl
/-- Whether a word may be: as the program asks. -/
theorem may_eq (x : Word) : x.may = (dGo none x.parts && match x.parts with
    | [] => false
    | p :: _ => !dBegins p) := by
  unfold Word.may
  cases hl : x.parts with
  | nil => rfl
  | cons p r =>
    rw [show mayPs none (p :: r) = (partOk none p r.head? && mayPs (some p) r) from rfl, core_eq]
    rw [show dGo none (p :: r) = (dPart p && true && dGo (some p) r) from rfl, ← go_some]
    dsimp only
    generalize nextOk (some p) r = b
    generalize mayPs (some p) r = c
    generalize dPart p = d
    generalize dBegins p = e
    cases b <;> cases c <;> cases d <;> cases e <;> rfl
theorem dGo_drop {l : List Part} {k : Nat} (h : k < l.length) : dGo (prevAt l k) (l.drop k) = (dPart l[k] && (match prevAt l k with
    | some q => dBeside q l[k]
    | none => true) && dGo (prevAt l (k + 1)) (l.drop (k + 1))) := by
  rw [List.drop_eq_getElem_cons h]
  show _ = (_ && dGo l[k]? _)
  rw [List.getElem?_eq_getElem h]
  rfl
end Sx
end Go.Proofs.YtpibjhlldlbocaaGreat
