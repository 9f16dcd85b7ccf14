/- A closed call, run: maps from numbers, eight ways at each step; of values. No program. -/
import Derived.Test.YtfilbknnpjbmcaaCxA
namespace Go.Proofs.Ytfilbknnpjbmcaa.Cx
open Go Go.RowKit

/-- A digit. -/
inductive D8 where
  | d0 | d1 | d2 | d3 | d4 | d5 | d6 | d7
noncomputable def dig (n : Nat) : D8 :=
  Nat.rec (motive := fun _ => D8) .d0 (fun n _ => Nat.rec (motive := fun _ => D8) .d1 (fun n _ => Nat.rec (motive := fun _ => D8) .d2 (fun n _ => Nat.rec (motive := fun _ => D8) .d3 (fun n _ => Nat.rec (motive := fun _ => D8) .d4 (fun n _ => Nat.rec (motive := fun _ => D8) .d5 (fun n _ => Nat.rec (motive := fun _ => D8) .d6 (fun _ _ => .d7) n) n) n) n) n) n) n
theorem blt_t {a b : Nat} (h : a < b) : Nat.blt a b = true := by rw [Nat.blt_eq]; exact h
theorem nmod (a b : Nat) : Nat.mod a b = a % b := rfl
theorem ndiv (a b : Nat) : Nat.div a b = a / b := rfl
theorem dig_mod {i j : Nat} (h : dig (Nat.mod i 8) = dig (Nat.mod j 8)) : i % 8 = j % 8 := by
  have key : ∀ m n : Nat, m < 8 → n < 8 → dig m = dig n → m = n := by
    intro m n hm hn e
    have hm' : m = 0 ∨ m = 1 ∨ m = 2 ∨ m = 3 ∨ m = 4 ∨ m = 5 ∨ m = 6 ∨ m = 7 := by omega
    have hn' : n = 0 ∨ n = 1 ∨ n = 2 ∨ n = 3 ∨ n = 4 ∨ n = 5 ∨ n = 6 ∨ n = 7 := by omega
    rcases hm' with rfl | rfl | rfl | rfl | rfl | rfl | rfl | rfl <;> rcases hn' with rfl | rfl | rfl | rfl | rfl | rfl | rfl | rfl <;> first | rfl | (exfalso; revert e; simp [dig])
  exact key _ _ (Nat.mod_lt _ (by decide)) (Nat.mod_lt _ (by decide)) h
noncomputable def g1 (k : Nat) : D8 := dig (Nat.mod k 8)
noncomputable def g2 (k : Nat) : D8 := dig (Nat.mod (Nat.div k 8) 8)
noncomputable def g3 (k : Nat) : D8 := dig (Nat.mod (Nat.div k 64) 8)
noncomputable def g4 (k : Nat) : D8 := dig (Nat.mod (Nat.div k 512) 8)
noncomputable def g5 (k : Nat) : D8 := dig (Nat.mod (Nat.div k 4096) 8)
noncomputable def g6 (k : Nat) : D8 := dig (Nat.mod (Nat.div k 32768) 8)

instance : DecidableEq D8 := fun a b => by cases a <;> cases b <;> first | exact .isTrue rfl | exact .isFalse (fun h => by cases h)
structure V1 where
  a0 : Option Value
  a1 : Option Value
  a2 : Option Value
  a3 : Option Value
  a4 : Option Value
  a5 : Option Value
  a6 : Option Value
  a7 : Option Value
structure V2 where
  a0 : V1
  a1 : V1
  a2 : V1
  a3 : V1
  a4 : V1
  a5 : V1
  a6 : V1
  a7 : V1
structure V3 where
  a0 : V2
  a1 : V2
  a2 : V2
  a3 : V2
  a4 : V2
  a5 : V2
  a6 : V2
  a7 : V2
structure V4 where
  a0 : V3
  a1 : V3
  a2 : V3
  a3 : V3
  a4 : V3
  a5 : V3
  a6 : V3
  a7 : V3
structure V5 where
  a0 : V4
  a1 : V4
  a2 : V4
  a3 : V4
  a4 : V4
  a5 : V4
  a6 : V4
  a7 : V4
structure V6 where
  a0 : V5
  a1 : V5
  a2 : V5
  a3 : V5
  a4 : V5
  a5 : V5
  a6 : V5
  a7 : V5
inductive TV where
  | leaf
  | t1 (t : V1)
  | t2 (t : V2)
  | t3 (t : V3)
  | t4 (t : V4)
  | t5 (t : V5)
  | t6 (t : V6)
noncomputable def selV1 (d : D8) : V1 → (Option Value) := D8.rec (motive := fun _ => V1 → (Option Value)) (fun t => t.a0) (fun t => t.a1) (fun t => t.a2) (fun t => t.a3) (fun t => t.a4) (fun t => t.a5) (fun t => t.a6) (fun t => t.a7) d
noncomputable def updV1 (d : D8) : V1 → ((Option Value) → ((Option Value) → Option TV) → Option TV) → (V1 → Option TV) → Option TV := D8.rec (motive := fun _ => V1 → ((Option Value) → ((Option Value) → Option TV) → Option TV) → (V1 → Option TV) → Option TV) (V1.rec (motive := fun _ => ((Option Value) → ((Option Value) → Option TV) → Option TV) → (V1 → Option TV) → Option TV) (fun a0 a1 a2 a3 a4 a5 a6 a7 f K => f a0 fun b => K (.mk b a1 a2 a3 a4 a5 a6 a7))) (V1.rec (motive := fun _ => ((Option Value) → ((Option Value) → Option TV) → Option TV) → (V1 → Option TV) → Option TV) (fun a0 a1 a2 a3 a4 a5 a6 a7 f K => f a1 fun b => K (.mk a0 b a2 a3 a4 a5 a6 a7))) (V1.rec (motive := fun _ => ((Option Value) → ((Option Value) → Option TV) → Option TV) → (V1 → Option TV) → Option TV) (fun a0 a1 a2 a3 a4 a5 a6 a7 f K => f a2 fun b => K (.mk a0 a1 b a3 a4 a5 a6 a7))) (V1.rec (motive := fun _ => ((Option Value) → ((Option Value) → Option TV) → Option TV) → (V1 → Option TV) → Option TV) (fun a0 a1 a2 a3 a4 a5 a6 a7 f K => f a3 fun b => K (.mk a0 a1 a2 b a4 a5 a6 a7))) (V1.rec (motive := fun _ => ((Option Value) → ((Option Value) → Option TV) → Option TV) → (V1 → Option TV) → Option TV) (fun a0 a1 a2 a3 a4 a5 a6 a7 f K => f a4 fun b => K (.mk a0 a1 a2 a3 b a5 a6 a7))) (V1.rec (motive := fun _ => ((Option Value) → ((Option Value) → Option TV) → Option TV) → (V1 → Option TV) → Option TV) (fun a0 a1 a2 a3 a4 a5 a6 a7 f K => f a5 fun b => K (.mk a0 a1 a2 a3 a4 b a6 a7))) (V1.rec (motive := fun _ => ((Option Value) → ((Option Value) → Option TV) → Option TV) → (V1 → Option TV) → Option TV) (fun a0 a1 a2 a3 a4 a5 a6 a7 f K => f a6 fun b => K (.mk a0 a1 a2 a3 a4 a5 b a7))) (V1.rec (motive := fun _ => ((Option Value) → ((Option Value) → Option TV) → Option TV) → (V1 → Option TV) → Option TV) (fun a0 a1 a2 a3 a4 a5 a6 a7 f K => f a7 fun b => K (.mk a0 a1 a2 a3 a4 a5 a6 b))) d
def setV1 (d : D8) (b : (Option Value)) (t : V1) : V1 :=
  match d with
  | .d0 => { t with a0 := b }
  | .d1 => { t with a1 := b }
  | .d2 => { t with a2 := b }
  | .d3 => { t with a3 := b }
  | .d4 => { t with a4 := b }
  | .d5 => { t with a5 := b }
  | .d6 => { t with a6 := b }
  | .d7 => { t with a7 := b }
theorem sel_setV1 (d e : D8) (b : (Option Value)) (t : V1) : selV1 e (setV1 d b t) = if d = e then b else selV1 e t := by cases d <;> cases e <;> rfl
theorem updV1_eq (d : D8) (t : V1) (f : ((Option Value) → ((Option Value) → Option TV) → Option TV)) (K : (V1 → Option TV)) : updV1 d t f K = f (selV1 d t) fun b => K (setV1 d b t) := by cases d <;> cases t <;> rfl
noncomputable def selV2 (d : D8) : V2 → V1 := D8.rec (motive := fun _ => V2 → V1) (fun t => t.a0) (fun t => t.a1) (fun t => t.a2) (fun t => t.a3) (fun t => t.a4) (fun t => t.a5) (fun t => t.a6) (fun t => t.a7) d
noncomputable def updV2 (d : D8) : V2 → (V1 → (V1 → Option TV) → Option TV) → (V2 → Option TV) → Option TV := D8.rec (motive := fun _ => V2 → (V1 → (V1 → Option TV) → Option TV) → (V2 → Option TV) → Option TV) (V2.rec (motive := fun _ => (V1 → (V1 → Option TV) → Option TV) → (V2 → Option TV) → Option TV) (fun a0 a1 a2 a3 a4 a5 a6 a7 f K => f a0 fun b => K (.mk b a1 a2 a3 a4 a5 a6 a7))) (V2.rec (motive := fun _ => (V1 → (V1 → Option TV) → Option TV) → (V2 → Option TV) → Option TV) (fun a0 a1 a2 a3 a4 a5 a6 a7 f K => f a1 fun b => K (.mk a0 b a2 a3 a4 a5 a6 a7))) (V2.rec (motive := fun _ => (V1 → (V1 → Option TV) → Option TV) → (V2 → Option TV) → Option TV) (fun a0 a1 a2 a3 a4 a5 a6 a7 f K => f a2 fun b => K (.mk a0 a1 b a3 a4 a5 a6 a7))) (V2.rec (motive := fun _ => (V1 → (V1 → Option TV) → Option TV) → (V2 → Option TV) → Option TV) (fun a0 a1 a2 a3 a4 a5 a6 a7 f K => f a3 fun b => K (.mk a0 a1 a2 b a4 a5 a6 a7))) (V2.rec (motive := fun _ => (V1 → (V1 → Option TV) → Option TV) → (V2 → Option TV) → Option TV) (fun a0 a1 a2 a3 a4 a5 a6 a7 f K => f a4 fun b => K (.mk a0 a1 a2 a3 b a5 a6 a7))) (V2.rec (motive := fun _ => (V1 → (V1 → Option TV) → Option TV) → (V2 → Option TV) → Option TV) (fun a0 a1 a2 a3 a4 a5 a6 a7 f K => f a5 fun b => K (.mk a0 a1 a2 a3 a4 b a6 a7))) (V2.rec (motive := fun _ => (V1 → (V1 → Option TV) → Option TV) → (V2 → Option TV) → Option TV) (fun a0 a1 a2 a3 a4 a5 a6 a7 f K => f a6 fun b => K (.mk a0 a1 a2 a3 a4 a5 b a7))) (V2.rec (motive := fun _ => (V1 → (V1 → Option TV) → Option TV) → (V2 → Option TV) → Option TV) (fun a0 a1 a2 a3 a4 a5 a6 a7 f K => f a7 fun b => K (.mk a0 a1 a2 a3 a4 a5 a6 b))) d
def setV2 (d : D8) (b : V1) (t : V2) : V2 :=
  match d with
  | .d0 => { t with a0 := b }
  | .d1 => { t with a1 := b }
  | .d2 => { t with a2 := b }
  | .d3 => { t with a3 := b }
  | .d4 => { t with a4 := b }
  | .d5 => { t with a5 := b }
  | .d6 => { t with a6 := b }
  | .d7 => { t with a7 := b }
theorem sel_setV2 (d e : D8) (b : V1) (t : V2) : selV2 e (setV2 d b t) = if d = e then b else selV2 e t := by cases d <;> cases e <;> rfl
theorem updV2_eq (d : D8) (t : V2) (f : (V1 → (V1 → Option TV) → Option TV)) (K : (V2 → Option TV)) : updV2 d t f K = f (selV2 d t) fun b => K (setV2 d b t) := by cases d <;> cases t <;> rfl
noncomputable def selV3 (d : D8) : V3 → V2 := D8.rec (motive := fun _ => V3 → V2) (fun t => t.a0) (fun t => t.a1) (fun t => t.a2) (fun t => t.a3) (fun t => t.a4) (fun t => t.a5) (fun t => t.a6) (fun t => t.a7) d
noncomputable def updV3 (d : D8) : V3 → (V2 → (V2 → Option TV) → Option TV) → (V3 → Option TV) → Option TV := D8.rec (motive := fun _ => V3 → (V2 → (V2 → Option TV) → Option TV) → (V3 → Option TV) → Option TV) (V3.rec (motive := fun _ => (V2 → (V2 → Option TV) → Option TV) → (V3 → Option TV) → Option TV) (fun a0 a1 a2 a3 a4 a5 a6 a7 f K => f a0 fun b => K (.mk b a1 a2 a3 a4 a5 a6 a7))) (V3.rec (motive := fun _ => (V2 → (V2 → Option TV) → Option TV) → (V3 → Option TV) → Option TV) (fun a0 a1 a2 a3 a4 a5 a6 a7 f K => f a1 fun b => K (.mk a0 b a2 a3 a4 a5 a6 a7))) (V3.rec (motive := fun _ => (V2 → (V2 → Option TV) → Option TV) → (V3 → Option TV) → Option TV) (fun a0 a1 a2 a3 a4 a5 a6 a7 f K => f a2 fun b => K (.mk a0 a1 b a3 a4 a5 a6 a7))) (V3.rec (motive := fun _ => (V2 → (V2 → Option TV) → Option TV) → (V3 → Option TV) → Option TV) (fun a0 a1 a2 a3 a4 a5 a6 a7 f K => f a3 fun b => K (.mk a0 a1 a2 b a4 a5 a6 a7))) (V3.rec (motive := fun _ => (V2 → (V2 → Option TV) → Option TV) → (V3 → Option TV) → Option TV) (fun a0 a1 a2 a3 a4 a5 a6 a7 f K => f a4 fun b => K (.mk a0 a1 a2 a3 b a5 a6 a7))) (V3.rec (motive := fun _ => (V2 → (V2 → Option TV) → Option TV) → (V3 → Option TV) → Option TV) (fun a0 a1 a2 a3 a4 a5 a6 a7 f K => f a5 fun b => K (.mk a0 a1 a2 a3 a4 b a6 a7))) (V3.rec (motive := fun _ => (V2 → (V2 → Option TV) → Option TV) → (V3 → Option TV) → Option TV) (fun a0 a1 a2 a3 a4 a5 a6 a7 f K => f a6 fun b => K (.mk a0 a1 a2 a3 a4 a5 b a7))) (V3.rec (motive := fun _ => (V2 → (V2 → Option TV) → Option TV) → (V3 → Option TV) → Option TV) (fun a0 a1 a2 a3 a4 a5 a6 a7 f K => f a7 fun b => K (.mk a0 a1 a2 a3 a4 a5 a6 b))) d
def setV3 (d : D8) (b : V2) (t : V3) : V3 :=
  match d with
  | .d0 => { t with a0 := b }
  | .d1 => { t with a1 := b }
  | .d2 => { t with a2 := b }
  | .d3 => { t with a3 := b }
  | .d4 => { t with a4 := b }
  | .d5 => { t with a5 := b }
  | .d6 => { t with a6 := b }
  | .d7 => { t with a7 := b }
theorem sel_setV3 (d e : D8) (b : V2) (t : V3) : selV3 e (setV3 d b t) = if d = e then b else selV3 e t := by cases d <;> cases e <;> rfl
theorem updV3_eq (d : D8) (t : V3) (f : (V2 → (V2 → Option TV) → Option TV)) (K : (V3 → Option TV)) : updV3 d t f K = f (selV3 d t) fun b => K (setV3 d b t) := by cases d <;> cases t <;> rfl
noncomputable def selV4 (d : D8) : V4 → V3 := D8.rec (motive := fun _ => V4 → V3) (fun t => t.a0) (fun t => t.a1) (fun t => t.a2) (fun t => t.a3) (fun t => t.a4) (fun t => t.a5) (fun t => t.a6) (fun t => t.a7) d
noncomputable def updV4 (d : D8) : V4 → (V3 → (V3 → Option TV) → Option TV) → (V4 → Option TV) → Option TV := D8.rec (motive := fun _ => V4 → (V3 → (V3 → Option TV) → Option TV) → (V4 → Option TV) → Option TV) (V4.rec (motive := fun _ => (V3 → (V3 → Option TV) → Option TV) → (V4 → Option TV) → Option TV) (fun a0 a1 a2 a3 a4 a5 a6 a7 f K => f a0 fun b => K (.mk b a1 a2 a3 a4 a5 a6 a7))) (V4.rec (motive := fun _ => (V3 → (V3 → Option TV) → Option TV) → (V4 → Option TV) → Option TV) (fun a0 a1 a2 a3 a4 a5 a6 a7 f K => f a1 fun b => K (.mk a0 b a2 a3 a4 a5 a6 a7))) (V4.rec (motive := fun _ => (V3 → (V3 → Option TV) → Option TV) → (V4 → Option TV) → Option TV) (fun a0 a1 a2 a3 a4 a5 a6 a7 f K => f a2 fun b => K (.mk a0 a1 b a3 a4 a5 a6 a7))) (V4.rec (motive := fun _ => (V3 → (V3 → Option TV) → Option TV) → (V4 → Option TV) → Option TV) (fun a0 a1 a2 a3 a4 a5 a6 a7 f K => f a3 fun b => K (.mk a0 a1 a2 b a4 a5 a6 a7))) (V4.rec (motive := fun _ => (V3 → (V3 → Option TV) → Option TV) → (V4 → Option TV) → Option TV) (fun a0 a1 a2 a3 a4 a5 a6 a7 f K => f a4 fun b => K (.mk a0 a1 a2 a3 b a5 a6 a7))) (V4.rec (motive := fun _ => (V3 → (V3 → Option TV) → Option TV) → (V4 → Option TV) → Option TV) (fun a0 a1 a2 a3 a4 a5 a6 a7 f K => f a5 fun b => K (.mk a0 a1 a2 a3 a4 b a6 a7))) (V4.rec (motive := fun _ => (V3 → (V3 → Option TV) → Option TV) → (V4 → Option TV) → Option TV) (fun a0 a1 a2 a3 a4 a5 a6 a7 f K => f a6 fun b => K (.mk a0 a1 a2 a3 a4 a5 b a7))) (V4.rec (motive := fun _ => (V3 → (V3 → Option TV) → Option TV) → (V4 → Option TV) → Option TV) (fun a0 a1 a2 a3 a4 a5 a6 a7 f K => f a7 fun b => K (.mk a0 a1 a2 a3 a4 a5 a6 b))) d
def setV4 (d : D8) (b : V3) (t : V4) : V4 :=
  match d with
  | .d0 => { t with a0 := b }
  | .d1 => { t with a1 := b }
  | .d2 => { t with a2 := b }
  | .d3 => { t with a3 := b }
  | .d4 => { t with a4 := b }
  | .d5 => { t with a5 := b }
  | .d6 => { t with a6 := b }
  | .d7 => { t with a7 := b }
theorem sel_setV4 (d e : D8) (b : V3) (t : V4) : selV4 e (setV4 d b t) = if d = e then b else selV4 e t := by cases d <;> cases e <;> rfl
theorem updV4_eq (d : D8) (t : V4) (f : (V3 → (V3 → Option TV) → Option TV)) (K : (V4 → Option TV)) : updV4 d t f K = f (selV4 d t) fun b => K (setV4 d b t) := by cases d <;> cases t <;> rfl
noncomputable def selV5 (d : D8) : V5 → V4 := D8.rec (motive := fun _ => V5 → V4) (fun t => t.a0) (fun t => t.a1) (fun t => t.a2) (fun t => t.a3) (fun t => t.a4) (fun t => t.a5) (fun t => t.a6) (fun t => t.a7) d
noncomputable def updV5 (d : D8) : V5 → (V4 → (V4 → Option TV) → Option TV) → (V5 → Option TV) → Option TV := D8.rec (motive := fun _ => V5 → (V4 → (V4 → Option TV) → Option TV) → (V5 → Option TV) → Option TV) (V5.rec (motive := fun _ => (V4 → (V4 → Option TV) → Option TV) → (V5 → Option TV) → Option TV) (fun a0 a1 a2 a3 a4 a5 a6 a7 f K => f a0 fun b => K (.mk b a1 a2 a3 a4 a5 a6 a7))) (V5.rec (motive := fun _ => (V4 → (V4 → Option TV) → Option TV) → (V5 → Option TV) → Option TV) (fun a0 a1 a2 a3 a4 a5 a6 a7 f K => f a1 fun b => K (.mk a0 b a2 a3 a4 a5 a6 a7))) (V5.rec (motive := fun _ => (V4 → (V4 → Option TV) → Option TV) → (V5 → Option TV) → Option TV) (fun a0 a1 a2 a3 a4 a5 a6 a7 f K => f a2 fun b => K (.mk a0 a1 b a3 a4 a5 a6 a7))) (V5.rec (motive := fun _ => (V4 → (V4 → Option TV) → Option TV) → (V5 → Option TV) → Option TV) (fun a0 a1 a2 a3 a4 a5 a6 a7 f K => f a3 fun b => K (.mk a0 a1 a2 b a4 a5 a6 a7))) (V5.rec (motive := fun _ => (V4 → (V4 → Option TV) → Option TV) → (V5 → Option TV) → Option TV) (fun a0 a1 a2 a3 a4 a5 a6 a7 f K => f a4 fun b => K (.mk a0 a1 a2 a3 b a5 a6 a7))) (V5.rec (motive := fun _ => (V4 → (V4 → Option TV) → Option TV) → (V5 → Option TV) → Option TV) (fun a0 a1 a2 a3 a4 a5 a6 a7 f K => f a5 fun b => K (.mk a0 a1 a2 a3 a4 b a6 a7))) (V5.rec (motive := fun _ => (V4 → (V4 → Option TV) → Option TV) → (V5 → Option TV) → Option TV) (fun a0 a1 a2 a3 a4 a5 a6 a7 f K => f a6 fun b => K (.mk a0 a1 a2 a3 a4 a5 b a7))) (V5.rec (motive := fun _ => (V4 → (V4 → Option TV) → Option TV) → (V5 → Option TV) → Option TV) (fun a0 a1 a2 a3 a4 a5 a6 a7 f K => f a7 fun b => K (.mk a0 a1 a2 a3 a4 a5 a6 b))) d
def setV5 (d : D8) (b : V4) (t : V5) : V5 :=
  match d with
  | .d0 => { t with a0 := b }
  | .d1 => { t with a1 := b }
  | .d2 => { t with a2 := b }
  | .d3 => { t with a3 := b }
  | .d4 => { t with a4 := b }
  | .d5 => { t with a5 := b }
  | .d6 => { t with a6 := b }
  | .d7 => { t with a7 := b }
theorem sel_setV5 (d e : D8) (b : V4) (t : V5) : selV5 e (setV5 d b t) = if d = e then b else selV5 e t := by cases d <;> cases e <;> rfl
theorem updV5_eq (d : D8) (t : V5) (f : (V4 → (V4 → Option TV) → Option TV)) (K : (V5 → Option TV)) : updV5 d t f K = f (selV5 d t) fun b => K (setV5 d b t) := by cases d <;> cases t <;> rfl
noncomputable def selV6 (d : D8) : V6 → V5 := D8.rec (motive := fun _ => V6 → V5) (fun t => t.a0) (fun t => t.a1) (fun t => t.a2) (fun t => t.a3) (fun t => t.a4) (fun t => t.a5) (fun t => t.a6) (fun t => t.a7) d
noncomputable def updV6 (d : D8) : V6 → (V5 → (V5 → Option TV) → Option TV) → (V6 → Option TV) → Option TV := D8.rec (motive := fun _ => V6 → (V5 → (V5 → Option TV) → Option TV) → (V6 → Option TV) → Option TV) (V6.rec (motive := fun _ => (V5 → (V5 → Option TV) → Option TV) → (V6 → Option TV) → Option TV) (fun a0 a1 a2 a3 a4 a5 a6 a7 f K => f a0 fun b => K (.mk b a1 a2 a3 a4 a5 a6 a7))) (V6.rec (motive := fun _ => (V5 → (V5 → Option TV) → Option TV) → (V6 → Option TV) → Option TV) (fun a0 a1 a2 a3 a4 a5 a6 a7 f K => f a1 fun b => K (.mk a0 b a2 a3 a4 a5 a6 a7))) (V6.rec (motive := fun _ => (V5 → (V5 → Option TV) → Option TV) → (V6 → Option TV) → Option TV) (fun a0 a1 a2 a3 a4 a5 a6 a7 f K => f a2 fun b => K (.mk a0 a1 b a3 a4 a5 a6 a7))) (V6.rec (motive := fun _ => (V5 → (V5 → Option TV) → Option TV) → (V6 → Option TV) → Option TV) (fun a0 a1 a2 a3 a4 a5 a6 a7 f K => f a3 fun b => K (.mk a0 a1 a2 b a4 a5 a6 a7))) (V6.rec (motive := fun _ => (V5 → (V5 → Option TV) → Option TV) → (V6 → Option TV) → Option TV) (fun a0 a1 a2 a3 a4 a5 a6 a7 f K => f a4 fun b => K (.mk a0 a1 a2 a3 b a5 a6 a7))) (V6.rec (motive := fun _ => (V5 → (V5 → Option TV) → Option TV) → (V6 → Option TV) → Option TV) (fun a0 a1 a2 a3 a4 a5 a6 a7 f K => f a5 fun b => K (.mk a0 a1 a2 a3 a4 b a6 a7))) (V6.rec (motive := fun _ => (V5 → (V5 → Option TV) → Option TV) → (V6 → Option TV) → Option TV) (fun a0 a1 a2 a3 a4 a5 a6 a7 f K => f a6 fun b => K (.mk a0 a1 a2 a3 a4 a5 b a7))) (V6.rec (motive := fun _ => (V5 → (V5 → Option TV) → Option TV) → (V6 → Option TV) → Option TV) (fun a0 a1 a2 a3 a4 a5 a6 a7 f K => f a7 fun b => K (.mk a0 a1 a2 a3 a4 a5 a6 b))) d
def setV6 (d : D8) (b : V5) (t : V6) : V6 :=
  match d with
  | .d0 => { t with a0 := b }
  | .d1 => { t with a1 := b }
  | .d2 => { t with a2 := b }
  | .d3 => { t with a3 := b }
  | .d4 => { t with a4 := b }
  | .d5 => { t with a5 := b }
  | .d6 => { t with a6 := b }
  | .d7 => { t with a7 := b }
theorem sel_setV6 (d e : D8) (b : V5) (t : V6) : selV6 e (setV6 d b t) = if d = e then b else selV6 e t := by cases d <;> cases e <;> rfl
theorem updV6_eq (d : D8) (t : V6) (f : (V5 → (V5 → Option TV) → Option TV)) (K : (V6 → Option TV)) : updV6 d t f K = f (selV6 d t) fun b => K (setV6 d b t) := by cases d <;> cases t <;> rfl
noncomputable def nilV1 : V1 := ⟨none, none, none, none, none, none, none, none⟩
noncomputable def nilV2 : V2 := ⟨nilV1, nilV1, nilV1, nilV1, nilV1, nilV1, nilV1, nilV1⟩
noncomputable def nilV3 : V3 := ⟨nilV2, nilV2, nilV2, nilV2, nilV2, nilV2, nilV2, nilV2⟩
noncomputable def nilV4 : V4 := ⟨nilV3, nilV3, nilV3, nilV3, nilV3, nilV3, nilV3, nilV3⟩
noncomputable def nilV5 : V5 := ⟨nilV4, nilV4, nilV4, nilV4, nilV4, nilV4, nilV4, nilV4⟩
noncomputable def nilV6 : V6 := ⟨nilV5, nilV5, nilV5, nilV5, nilV5, nilV5, nilV5, nilV5⟩
noncomputable def getV1 (t : V1) (k : Nat) : Option Value := selV1 (g1 k) t
noncomputable def putV1 (x : Option Value) (k : Nat) (t : V1) (K : V1 → Option TV) : Option TV := updV1 (g1 k) t (fun _ K => K x) K
noncomputable def getV2 (t : V2) (k : Nat) : Option Value := getV1 (selV2 (g2 k) t) k
noncomputable def putV2 (x : Option Value) (k : Nat) (t : V2) (K : V2 → Option TV) : Option TV := updV2 (g2 k) t (putV1 x k) K
noncomputable def getV3 (t : V3) (k : Nat) : Option Value := getV2 (selV3 (g3 k) t) k
noncomputable def putV3 (x : Option Value) (k : Nat) (t : V3) (K : V3 → Option TV) : Option TV := updV3 (g3 k) t (putV2 x k) K
noncomputable def getV4 (t : V4) (k : Nat) : Option Value := getV3 (selV4 (g4 k) t) k
noncomputable def putV4 (x : Option Value) (k : Nat) (t : V4) (K : V4 → Option TV) : Option TV := updV4 (g4 k) t (putV3 x k) K
noncomputable def getV5 (t : V5) (k : Nat) : Option Value := getV4 (selV5 (g5 k) t) k
noncomputable def putV5 (x : Option Value) (k : Nat) (t : V5) (K : V5 → Option TV) : Option TV := updV5 (g5 k) t (putV4 x k) K
noncomputable def getV6 (t : V6) (k : Nat) : Option Value := getV5 (selV6 (g6 k) t) k
noncomputable def putV6 (x : Option Value) (k : Nat) (t : V6) (K : V6 → Option TV) : Option TV := updV6 (g6 k) t (putV5 x k) K
theorem nilV1_get (j : Nat) : getV1 nilV1 j = none := by
  unfold getV1; cases g1 j <;> rfl
theorem putV1_par {x : Option Value} {k : Nat} {t : V1} : ∃ t', (∀ K : V1 → Option TV, putV1 x k t K = K t') ∧ ∀ j, getV1 t' j = if j % 8 = k % 8 then x else getV1 t j := by
  refine ⟨setV1 (g1 k) x t, fun K => by unfold putV1; rw [updV1_eq], fun j => ?_⟩
  unfold getV1
  rw [sel_setV1]
  by_cases hj : j % 8 = k % 8
  · rw [if_pos (show g1 k = g1 j by unfold g1; rw [nmod, nmod, hj]), if_pos hj]
  · rw [if_neg (show ¬ g1 k = g1 j from fun e => hj ((dig_mod e).symm)), if_neg hj]
theorem nilV2_get (j : Nat) : getV2 nilV2 j = none := by
  unfold getV2; cases g2 j <;> exact nilV1_get j
theorem putV2_par {x : Option Value} {k : Nat} {t : V2} : ∃ t', (∀ K : V2 → Option TV, putV2 x k t K = K t') ∧ ∀ j, getV2 t' j = if j % 64 = k % 64 then x else getV2 t j := by
  obtain ⟨u, hK, hu⟩ := putV1_par (x := x) (k := k) (t := selV2 (g2 k) t)
  refine ⟨setV2 (g2 k) u t, fun K => by unfold putV2; rw [updV2_eq]; exact hK _, fun j => ?_⟩
  unfold getV2
  rw [sel_setV2]
  by_cases hd : g2 k = g2 j
  · have e : k / 8 % 8 = j / 8 % 8 := dig_mod hd
    rw [if_pos hd, hu, ← hd]
    by_cases hj : j % 8 = k % 8
    · rw [if_pos hj, if_pos (by omega)]
    · rw [if_neg hj, if_neg (by omega)]
  · rw [if_neg hd, if_neg (fun e => hd (by unfold g2; rw [nmod, nmod, ndiv, ndiv, show k / 8 % 8 = j / 8 % 8 by omega]))]
theorem nilV3_get (j : Nat) : getV3 nilV3 j = none := by
  unfold getV3; cases g3 j <;> exact nilV2_get j
theorem putV3_par {x : Option Value} {k : Nat} {t : V3} : ∃ t', (∀ K : V3 → Option TV, putV3 x k t K = K t') ∧ ∀ j, getV3 t' j = if j % 512 = k % 512 then x else getV3 t j := by
  obtain ⟨u, hK, hu⟩ := putV2_par (x := x) (k := k) (t := selV3 (g3 k) t)
  refine ⟨setV3 (g3 k) u t, fun K => by unfold putV3; rw [updV3_eq]; exact hK _, fun j => ?_⟩
  unfold getV3
  rw [sel_setV3]
  by_cases hd : g3 k = g3 j
  · have e : k / 64 % 8 = j / 64 % 8 := dig_mod hd
    rw [if_pos hd, hu, ← hd]
    by_cases hj : j % 64 = k % 64
    · rw [if_pos hj, if_pos (by omega)]
    · rw [if_neg hj, if_neg (by omega)]
  · rw [if_neg hd, if_neg (fun e => hd (by unfold g3; rw [nmod, nmod, ndiv, ndiv, show k / 64 % 8 = j / 64 % 8 by omega]))]
theorem nilV4_get (j : Nat) : getV4 nilV4 j = none := by
  unfold getV4; cases g4 j <;> exact nilV3_get j
theorem putV4_par {x : Option Value} {k : Nat} {t : V4} : ∃ t', (∀ K : V4 → Option TV, putV4 x k t K = K t') ∧ ∀ j, getV4 t' j = if j % 4096 = k % 4096 then x else getV4 t j := by
  obtain ⟨u, hK, hu⟩ := putV3_par (x := x) (k := k) (t := selV4 (g4 k) t)
  refine ⟨setV4 (g4 k) u t, fun K => by unfold putV4; rw [updV4_eq]; exact hK _, fun j => ?_⟩
  unfold getV4
  rw [sel_setV4]
  by_cases hd : g4 k = g4 j
  · have e : k / 512 % 8 = j / 512 % 8 := dig_mod hd
    rw [if_pos hd, hu, ← hd]
    by_cases hj : j % 512 = k % 512
    · rw [if_pos hj, if_pos (by omega)]
    · rw [if_neg hj, if_neg (by omega)]
  · rw [if_neg hd, if_neg (fun e => hd (by unfold g4; rw [nmod, nmod, ndiv, ndiv, show k / 512 % 8 = j / 512 % 8 by omega]))]
theorem nilV5_get (j : Nat) : getV5 nilV5 j = none := by
  unfold getV5; cases g5 j <;> exact nilV4_get j
theorem putV5_par {x : Option Value} {k : Nat} {t : V5} : ∃ t', (∀ K : V5 → Option TV, putV5 x k t K = K t') ∧ ∀ j, getV5 t' j = if j % 32768 = k % 32768 then x else getV5 t j := by
  obtain ⟨u, hK, hu⟩ := putV4_par (x := x) (k := k) (t := selV5 (g5 k) t)
  refine ⟨setV5 (g5 k) u t, fun K => by unfold putV5; rw [updV5_eq]; exact hK _, fun j => ?_⟩
  unfold getV5
  rw [sel_setV5]
  by_cases hd : g5 k = g5 j
  · have e : k / 4096 % 8 = j / 4096 % 8 := dig_mod hd
    rw [if_pos hd, hu, ← hd]
    by_cases hj : j % 4096 = k % 4096
    · rw [if_pos hj, if_pos (by omega)]
    · rw [if_neg hj, if_neg (by omega)]
  · rw [if_neg hd, if_neg (fun e => hd (by unfold g5; rw [nmod, nmod, ndiv, ndiv, show k / 4096 % 8 = j / 4096 % 8 by omega]))]
theorem nilV6_get (j : Nat) : getV6 nilV6 j = none := by
  unfold getV6; cases g6 j <;> exact nilV5_get j
theorem putV6_par {x : Option Value} {k : Nat} {t : V6} : ∃ t', (∀ K : V6 → Option TV, putV6 x k t K = K t') ∧ ∀ j, getV6 t' j = if j % 262144 = k % 262144 then x else getV6 t j := by
  obtain ⟨u, hK, hu⟩ := putV5_par (x := x) (k := k) (t := selV6 (g6 k) t)
  refine ⟨setV6 (g6 k) u t, fun K => by unfold putV6; rw [updV6_eq]; exact hK _, fun j => ?_⟩
  unfold getV6
  rw [sel_setV6]
  by_cases hd : g6 k = g6 j
  · have e : k / 32768 % 8 = j / 32768 % 8 := dig_mod hd
    rw [if_pos hd, hu, ← hd]
    by_cases hj : j % 32768 = k % 32768
    · rw [if_pos hj, if_pos (by omega)]
    · rw [if_neg hj, if_neg (by omega)]
  · rw [if_neg hd, if_neg (fun e => hd (by unfold g6; rw [nmod, nmod, ndiv, ndiv, show k / 32768 % 8 = j / 32768 % 8 by omega]))]
noncomputable def TV.get (t : TV) : Nat → Option Value :=
  TV.rec (motive := fun _ => Nat → Option Value) (fun _ => none) (fun t k => bif Nat.blt k 8 then getV1 t k else none) (fun t k => bif Nat.blt k 64 then getV2 t k else none) (fun t k => bif Nat.blt k 512 then getV3 t k else none) (fun t k => bif Nat.blt k 4096 then getV4 t k else none) (fun t k => bif Nat.blt k 32768 then getV5 t k else none) (fun t k => bif Nat.blt k 262144 then getV6 t k else none) t
noncomputable def upV6 (x : Option Value) (k : Nat) (t : V6) : Option TV := bif Nat.blt k 262144 then putV6 x k t (fun t => some (.t6 t)) else none
noncomputable def upV5 (x : Option Value) (k : Nat) (t : V5) : Option TV := bif Nat.blt k 32768 then putV5 x k t (fun t => some (.t5 t)) else upV6 x k (.mk t nilV5 nilV5 nilV5 nilV5 nilV5 nilV5 nilV5)
noncomputable def upV4 (x : Option Value) (k : Nat) (t : V4) : Option TV := bif Nat.blt k 4096 then putV4 x k t (fun t => some (.t4 t)) else upV5 x k (.mk t nilV4 nilV4 nilV4 nilV4 nilV4 nilV4 nilV4)
noncomputable def upV3 (x : Option Value) (k : Nat) (t : V3) : Option TV := bif Nat.blt k 512 then putV3 x k t (fun t => some (.t3 t)) else upV4 x k (.mk t nilV3 nilV3 nilV3 nilV3 nilV3 nilV3 nilV3)
noncomputable def upV2 (x : Option Value) (k : Nat) (t : V2) : Option TV := bif Nat.blt k 64 then putV2 x k t (fun t => some (.t2 t)) else upV3 x k (.mk t nilV2 nilV2 nilV2 nilV2 nilV2 nilV2 nilV2)
noncomputable def upV1 (x : Option Value) (k : Nat) (t : V1) : Option TV := bif Nat.blt k 8 then putV1 x k t (fun t => some (.t1 t)) else upV2 x k (.mk t nilV1 nilV1 nilV1 nilV1 nilV1 nilV1 nilV1)
/-- Put at a number. -/
noncomputable def TV.put1 (t : TV) : Option Value → Nat → Option TV :=
  TV.rec (motive := fun _ => Option Value → Nat → Option TV) (fun x k => upV1 x k nilV1) (fun t x k => upV1 x k t) (fun t x k => upV2 x k t) (fun t x k => upV3 x k t) (fun t x k => upV4 x k t) (fun t x k => upV5 x k t) (fun t x k => upV6 x k t) t
noncomputable def TV.put {β : Type} (x : Option Value) (_ : Nat) (t : TV) (k : Nat) (K : TV → Option β) : Option β :=
  Option.rec (motive := fun _ => Option β) none K (TV.put1 t x k)
theorem TV.get_leaf (k : Nat) : (TV.leaf).get k = none := rfl
theorem upV6_some {x : Option Value} {k : Nat} {t : V6} {t' : TV} (h : upV6 x k t = some t') : ∀ j, t'.get j = if j = k then x else (TV.t6 t).get j := by
  unfold upV6 at h
  obtain ⟨u, hK, hu⟩ := putV6_par (x := x) (k := k) (t := t)
  cases hb : Nat.blt k 262144 with
  | true =>
    rw [hb, cond_true, hK] at h
    cases h
    intro j
    rw [Nat.blt_eq] at hb
    show (bif Nat.blt j 262144 then getV6 u j else none) = if j = k then x else (bif Nat.blt j 262144 then getV6 t j else none)
    cases hj : Nat.blt j 262144 with
    | true =>
      rw [Nat.blt_eq] at hj
      show getV6 u j = if j = k then x else getV6 t j
      rw [hu]
      by_cases e : j = k
      · rw [if_pos (by omega), if_pos e]
      · rw [if_neg (by omega), if_neg e]
    | false =>
      rw [if_neg (fun e => by rw [e] at hj; have := blt_t hb; rw [hj] at this; cases this)]
      rfl
  | false =>
    rw [hb, cond_false] at h
    cases h
theorem upV5_some {x : Option Value} {k : Nat} {t : V5} {t' : TV} (h : upV5 x k t = some t') : ∀ j, t'.get j = if j = k then x else (TV.t5 t).get j := by
  unfold upV5 at h
  obtain ⟨u, hK, hu⟩ := putV5_par (x := x) (k := k) (t := t)
  cases hb : Nat.blt k 32768 with
  | true =>
    rw [hb, cond_true, hK] at h
    cases h
    intro j
    rw [Nat.blt_eq] at hb
    show (bif Nat.blt j 32768 then getV5 u j else none) = if j = k then x else (bif Nat.blt j 32768 then getV5 t j else none)
    cases hj : Nat.blt j 32768 with
    | true =>
      rw [Nat.blt_eq] at hj
      show getV5 u j = if j = k then x else getV5 t j
      rw [hu]
      by_cases e : j = k
      · rw [if_pos (by omega), if_pos e]
      · rw [if_neg (by omega), if_neg e]
    | false =>
      rw [if_neg (fun e => by rw [e] at hj; have := blt_t hb; rw [hj] at this; cases this)]
      rfl
  | false =>
    rw [hb, cond_false] at h
    have ht := upV6_some h
    intro j
    rw [ht]
    by_cases e : j = k
    · rw [if_pos e, if_pos e]
    · rw [if_neg e, if_neg e]
      show (bif Nat.blt j 262144 then getV5 (selV6 (g6 j) _) j else none) = (bif Nat.blt j 32768 then getV5 t j else none)
      cases hj : Nat.blt j 32768 with
      | true =>
        rw [Nat.blt_eq] at hj
        rw [show Nat.blt j 262144 = true from blt_t (by omega), show g6 j = .d0 by unfold g6; rw [nmod, ndiv, show j / 32768 % 8 = 0 by omega]; rfl]
        rfl
      | false =>
        have hj' : ¬ j < 32768 := fun l => by have := blt_t l; rw [hj] at this; cases this
        cases hj2 : Nat.blt j 262144 with
        | false => rfl
        | true =>
          rw [Nat.blt_eq] at hj2
          have hne : g6 j ≠ .d0 := fun e0 => by
            have := dig_mod (i := j / 32768) (j := 0) (show dig (Nat.mod (j / 32768) 8) = dig (Nat.mod 0 8) from e0)
            omega
          show getV5 (selV6 (g6 j) (.mk t nilV5 nilV5 nilV5 nilV5 nilV5 nilV5 nilV5)) j = none
          cases hg : g6 j <;> first | exact absurd hg hne | exact nilV5_get j
theorem upV4_some {x : Option Value} {k : Nat} {t : V4} {t' : TV} (h : upV4 x k t = some t') : ∀ j, t'.get j = if j = k then x else (TV.t4 t).get j := by
  unfold upV4 at h
  obtain ⟨u, hK, hu⟩ := putV4_par (x := x) (k := k) (t := t)
  cases hb : Nat.blt k 4096 with
  | true =>
    rw [hb, cond_true, hK] at h
    cases h
    intro j
    rw [Nat.blt_eq] at hb
    show (bif Nat.blt j 4096 then getV4 u j else none) = if j = k then x else (bif Nat.blt j 4096 then getV4 t j else none)
    cases hj : Nat.blt j 4096 with
    | true =>
      rw [Nat.blt_eq] at hj
      show getV4 u j = if j = k then x else getV4 t j
      rw [hu]
      by_cases e : j = k
      · rw [if_pos (by omega), if_pos e]
      · rw [if_neg (by omega), if_neg e]
    | false =>
      rw [if_neg (fun e => by rw [e] at hj; have := blt_t hb; rw [hj] at this; cases this)]
      rfl
  | false =>
    rw [hb, cond_false] at h
    have ht := upV5_some h
    intro j
    rw [ht]
    by_cases e : j = k
    · rw [if_pos e, if_pos e]
    · rw [if_neg e, if_neg e]
      show (bif Nat.blt j 32768 then getV4 (selV5 (g5 j) _) j else none) = (bif Nat.blt j 4096 then getV4 t j else none)
      cases hj : Nat.blt j 4096 with
      | true =>
        rw [Nat.blt_eq] at hj
        rw [show Nat.blt j 32768 = true from blt_t (by omega), show g5 j = .d0 by unfold g5; rw [nmod, ndiv, show j / 4096 % 8 = 0 by omega]; rfl]
        rfl
      | false =>
        have hj' : ¬ j < 4096 := fun l => by have := blt_t l; rw [hj] at this; cases this
        cases hj2 : Nat.blt j 32768 with
        | false => rfl
        | true =>
          rw [Nat.blt_eq] at hj2
          have hne : g5 j ≠ .d0 := fun e0 => by
            have := dig_mod (i := j / 4096) (j := 0) (show dig (Nat.mod (j / 4096) 8) = dig (Nat.mod 0 8) from e0)
            omega
          show getV4 (selV5 (g5 j) (.mk t nilV4 nilV4 nilV4 nilV4 nilV4 nilV4 nilV4)) j = none
          cases hg : g5 j <;> first | exact absurd hg hne | exact nilV4_get j
theorem upV3_some {x : Option Value} {k : Nat} {t : V3} {t' : TV} (h : upV3 x k t = some t') : ∀ j, t'.get j = if j = k then x else (TV.t3 t).get j := by
  unfold upV3 at h
  obtain ⟨u, hK, hu⟩ := putV3_par (x := x) (k := k) (t := t)
  cases hb : Nat.blt k 512 with
  | true =>
    rw [hb, cond_true, hK] at h
    cases h
    intro j
    rw [Nat.blt_eq] at hb
    show (bif Nat.blt j 512 then getV3 u j else none) = if j = k then x else (bif Nat.blt j 512 then getV3 t j else none)
    cases hj : Nat.blt j 512 with
    | true =>
      rw [Nat.blt_eq] at hj
      show getV3 u j = if j = k then x else getV3 t j
      rw [hu]
      by_cases e : j = k
      · rw [if_pos (by omega), if_pos e]
      · rw [if_neg (by omega), if_neg e]
    | false =>
      rw [if_neg (fun e => by rw [e] at hj; have := blt_t hb; rw [hj] at this; cases this)]
      rfl
  | false =>
    rw [hb, cond_false] at h
    have ht := upV4_some h
    intro j
    rw [ht]
    by_cases e : j = k
    · rw [if_pos e, if_pos e]
    · rw [if_neg e, if_neg e]
      show (bif Nat.blt j 4096 then getV3 (selV4 (g4 j) _) j else none) = (bif Nat.blt j 512 then getV3 t j else none)
      cases hj : Nat.blt j 512 with
      | true =>
        rw [Nat.blt_eq] at hj
        rw [show Nat.blt j 4096 = true from blt_t (by omega), show g4 j = .d0 by unfold g4; rw [nmod, ndiv, show j / 512 % 8 = 0 by omega]; rfl]
        rfl
      | false =>
        have hj' : ¬ j < 512 := fun l => by have := blt_t l; rw [hj] at this; cases this
        cases hj2 : Nat.blt j 4096 with
        | false => rfl
        | true =>
          rw [Nat.blt_eq] at hj2
          have hne : g4 j ≠ .d0 := fun e0 => by
            have := dig_mod (i := j / 512) (j := 0) (show dig (Nat.mod (j / 512) 8) = dig (Nat.mod 0 8) from e0)
            omega
          show getV3 (selV4 (g4 j) (.mk t nilV3 nilV3 nilV3 nilV3 nilV3 nilV3 nilV3)) j = none
          cases hg : g4 j <;> first | exact absurd hg hne | exact nilV3_get j
theorem upV2_some {x : Option Value} {k : Nat} {t : V2} {t' : TV} (h : upV2 x k t = some t') : ∀ j, t'.get j = if j = k then x else (TV.t2 t).get j := by
  unfold upV2 at h
  obtain ⟨u, hK, hu⟩ := putV2_par (x := x) (k := k) (t := t)
  cases hb : Nat.blt k 64 with
  | true =>
    rw [hb, cond_true, hK] at h
    cases h
    intro j
    rw [Nat.blt_eq] at hb
    show (bif Nat.blt j 64 then getV2 u j else none) = if j = k then x else (bif Nat.blt j 64 then getV2 t j else none)
    cases hj : Nat.blt j 64 with
    | true =>
      rw [Nat.blt_eq] at hj
      show getV2 u j = if j = k then x else getV2 t j
      rw [hu]
      by_cases e : j = k
      · rw [if_pos (by omega), if_pos e]
      · rw [if_neg (by omega), if_neg e]
    | false =>
      rw [if_neg (fun e => by rw [e] at hj; have := blt_t hb; rw [hj] at this; cases this)]
      rfl
  | false =>
    rw [hb, cond_false] at h
    have ht := upV3_some h
    intro j
    rw [ht]
    by_cases e : j = k
    · rw [if_pos e, if_pos e]
    · rw [if_neg e, if_neg e]
      show (bif Nat.blt j 512 then getV2 (selV3 (g3 j) _) j else none) = (bif Nat.blt j 64 then getV2 t j else none)
      cases hj : Nat.blt j 64 with
      | true =>
        rw [Nat.blt_eq] at hj
        rw [show Nat.blt j 512 = true from blt_t (by omega), show g3 j = .d0 by unfold g3; rw [nmod, ndiv, show j / 64 % 8 = 0 by omega]; rfl]
        rfl
      | false =>
        have hj' : ¬ j < 64 := fun l => by have := blt_t l; rw [hj] at this; cases this
        cases hj2 : Nat.blt j 512 with
        | false => rfl
        | true =>
          rw [Nat.blt_eq] at hj2
          have hne : g3 j ≠ .d0 := fun e0 => by
            have := dig_mod (i := j / 64) (j := 0) (show dig (Nat.mod (j / 64) 8) = dig (Nat.mod 0 8) from e0)
            omega
          show getV2 (selV3 (g3 j) (.mk t nilV2 nilV2 nilV2 nilV2 nilV2 nilV2 nilV2)) j = none
          cases hg : g3 j <;> first | exact absurd hg hne | exact nilV2_get j
theorem upV1_some {x : Option Value} {k : Nat} {t : V1} {t' : TV} (h : upV1 x k t = some t') : ∀ j, t'.get j = if j = k then x else (TV.t1 t).get j := by
  unfold upV1 at h
  obtain ⟨u, hK, hu⟩ := putV1_par (x := x) (k := k) (t := t)
  cases hb : Nat.blt k 8 with
  | true =>
    rw [hb, cond_true, hK] at h
    cases h
    intro j
    rw [Nat.blt_eq] at hb
    show (bif Nat.blt j 8 then getV1 u j else none) = if j = k then x else (bif Nat.blt j 8 then getV1 t j else none)
    cases hj : Nat.blt j 8 with
    | true =>
      rw [Nat.blt_eq] at hj
      show getV1 u j = if j = k then x else getV1 t j
      rw [hu]
      by_cases e : j = k
      · rw [if_pos (by omega), if_pos e]
      · rw [if_neg (by omega), if_neg e]
    | false =>
      rw [if_neg (fun e => by rw [e] at hj; have := blt_t hb; rw [hj] at this; cases this)]
      rfl
  | false =>
    rw [hb, cond_false] at h
    have ht := upV2_some h
    intro j
    rw [ht]
    by_cases e : j = k
    · rw [if_pos e, if_pos e]
    · rw [if_neg e, if_neg e]
      show (bif Nat.blt j 64 then getV1 (selV2 (g2 j) _) j else none) = (bif Nat.blt j 8 then getV1 t j else none)
      cases hj : Nat.blt j 8 with
      | true =>
        rw [Nat.blt_eq] at hj
        rw [show Nat.blt j 64 = true from blt_t (by omega), show g2 j = .d0 by unfold g2; rw [nmod, ndiv, show j / 8 % 8 = 0 by omega]; rfl]
        rfl
      | false =>
        have hj' : ¬ j < 8 := fun l => by have := blt_t l; rw [hj] at this; cases this
        cases hj2 : Nat.blt j 64 with
        | false => rfl
        | true =>
          rw [Nat.blt_eq] at hj2
          have hne : g2 j ≠ .d0 := fun e0 => by
            have := dig_mod (i := j / 8) (j := 0) (show dig (Nat.mod (j / 8) 8) = dig (Nat.mod 0 8) from e0)
            omega
          show getV1 (selV2 (g2 j) (.mk t nilV1 nilV1 nilV1 nilV1 nilV1 nilV1 nilV1)) j = none
          cases hg : g2 j <;> first | exact absurd hg hne | exact nilV1_get j
theorem TV.put1_some {x : Option Value} {t : TV} {k : Nat} {t' : TV} (h : TV.put1 t x k = some t') : ∀ j, t'.get j = if j = k then x else t.get j := by
  cases t with
  | leaf =>
    have ht := upV1_some (show upV1 x k nilV1 = some t' from h)
    intro j
    rw [ht]
    by_cases e : j = k
    · rw [if_pos e, if_pos e]
    · rw [if_neg e, if_neg e]
      show (bif Nat.blt j 8 then getV1 nilV1 j else none) = none
      rw [nilV1_get]
      cases Nat.blt j 8 <;> rfl
  | t1 t => exact upV1_some (show upV1 x k t = some t' from h)
  | t2 t => exact upV2_some (show upV2 x k t = some t' from h)
  | t3 t => exact upV3_some (show upV3 x k t = some t' from h)
  | t4 t => exact upV4_some (show upV4 x k t = some t' from h)
  | t5 t => exact upV5_some (show upV5 x k t = some t' from h)
  | t6 t => exact upV6_some (show upV6 x k t = some t' from h)
theorem TV.put_some {β : Type} {x : Option Value} {m : Nat} {t : TV} {k : Nat} {K : TV → Option β} {b : β} (h : TV.put x m t k K = some b) : ∃ t', K t' = some b ∧ ∀ j, t'.get j = if j = k then x else t.get j := by
  unfold TV.put at h
  cases hp : TV.put1 t x k with
  | none => rw [hp] at h; cases h
  | some u => rw [hp] at h; exact ⟨u, h, TV.put1_some hp⟩
theorem TV.put_par {x : Option Value} {m : Nat} {t : TV} {k : Nat} : (∃ t', ∀ {β : Type} (K : TV → Option β), TV.put x m t k K = K t') ∨ ∀ {β : Type} (K : TV → Option β), TV.put x m t k K = none := by
  cases hp : TV.put1 t x k with
  | none => exact .inr fun K => by unfold TV.put; rw [hp]
  | some u => exact .inl ⟨u, fun K => by unfold TV.put; rw [hp]⟩
/-! of numbers -/
structure U1 where
  a0 : Option Nat
  a1 : Option Nat
  a2 : Option Nat
  a3 : Option Nat
  a4 : Option Nat
  a5 : Option Nat
  a6 : Option Nat
  a7 : Option Nat
structure U2 where
  a0 : U1
  a1 : U1
  a2 : U1
  a3 : U1
  a4 : U1
  a5 : U1
  a6 : U1
  a7 : U1
structure U3 where
  a0 : U2
  a1 : U2
  a2 : U2
  a3 : U2
  a4 : U2
  a5 : U2
  a6 : U2
  a7 : U2
structure U4 where
  a0 : U3
  a1 : U3
  a2 : U3
  a3 : U3
  a4 : U3
  a5 : U3
  a6 : U3
  a7 : U3
structure U5 where
  a0 : U4
  a1 : U4
  a2 : U4
  a3 : U4
  a4 : U4
  a5 : U4
  a6 : U4
  a7 : U4
structure U6 where
  a0 : U5
  a1 : U5
  a2 : U5
  a3 : U5
  a4 : U5
  a5 : U5
  a6 : U5
  a7 : U5
inductive TN where
  | leaf
  | t1 (t : U1)
  | t2 (t : U2)
  | t3 (t : U3)
  | t4 (t : U4)
  | t5 (t : U5)
  | t6 (t : U6)
noncomputable def selU1 (d : D8) : U1 → (Option Nat) := D8.rec (motive := fun _ => U1 → (Option Nat)) (fun t => t.a0) (fun t => t.a1) (fun t => t.a2) (fun t => t.a3) (fun t => t.a4) (fun t => t.a5) (fun t => t.a6) (fun t => t.a7) d
noncomputable def updU1 (d : D8) : U1 → ((Option Nat) → ((Option Nat) → Option TN) → Option TN) → (U1 → Option TN) → Option TN := D8.rec (motive := fun _ => U1 → ((Option Nat) → ((Option Nat) → Option TN) → Option TN) → (U1 → Option TN) → Option TN) (U1.rec (motive := fun _ => ((Option Nat) → ((Option Nat) → Option TN) → Option TN) → (U1 → Option TN) → Option TN) (fun a0 a1 a2 a3 a4 a5 a6 a7 f K => f a0 fun b => K (.mk b a1 a2 a3 a4 a5 a6 a7))) (U1.rec (motive := fun _ => ((Option Nat) → ((Option Nat) → Option TN) → Option TN) → (U1 → Option TN) → Option TN) (fun a0 a1 a2 a3 a4 a5 a6 a7 f K => f a1 fun b => K (.mk a0 b a2 a3 a4 a5 a6 a7))) (U1.rec (motive := fun _ => ((Option Nat) → ((Option Nat) → Option TN) → Option TN) → (U1 → Option TN) → Option TN) (fun a0 a1 a2 a3 a4 a5 a6 a7 f K => f a2 fun b => K (.mk a0 a1 b a3 a4 a5 a6 a7))) (U1.rec (motive := fun _ => ((Option Nat) → ((Option Nat) → Option TN) → Option TN) → (U1 → Option TN) → Option TN) (fun a0 a1 a2 a3 a4 a5 a6 a7 f K => f a3 fun b => K (.mk a0 a1 a2 b a4 a5 a6 a7))) (U1.rec (motive := fun _ => ((Option Nat) → ((Option Nat) → Option TN) → Option TN) → (U1 → Option TN) → Option TN) (fun a0 a1 a2 a3 a4 a5 a6 a7 f K => f a4 fun b => K (.mk a0 a1 a2 a3 b a5 a6 a7))) (U1.rec (motive := fun _ => ((Option Nat) → ((Option Nat) → Option TN) → Option TN) → (U1 → Option TN) → Option TN) (fun a0 a1 a2 a3 a4 a5 a6 a7 f K => f a5 fun b => K (.mk a0 a1 a2 a3 a4 b a6 a7))) (U1.rec (motive := fun _ => ((Option Nat) → ((Option Nat) → Option TN) → Option TN) → (U1 → Option TN) → Option TN) (fun a0 a1 a2 a3 a4 a5 a6 a7 f K => f a6 fun b => K (.mk a0 a1 a2 a3 a4 a5 b a7))) (U1.rec (motive := fun _ => ((Option Nat) → ((Option Nat) → Option TN) → Option TN) → (U1 → Option TN) → Option TN) (fun a0 a1 a2 a3 a4 a5 a6 a7 f K => f a7 fun b => K (.mk a0 a1 a2 a3 a4 a5 a6 b))) d
def setU1 (d : D8) (b : (Option Nat)) (t : U1) : U1 :=
  match d with
  | .d0 => { t with a0 := b }
  | .d1 => { t with a1 := b }
  | .d2 => { t with a2 := b }
  | .d3 => { t with a3 := b }
  | .d4 => { t with a4 := b }
  | .d5 => { t with a5 := b }
  | .d6 => { t with a6 := b }
  | .d7 => { t with a7 := b }
theorem sel_setU1 (d e : D8) (b : (Option Nat)) (t : U1) : selU1 e (setU1 d b t) = if d = e then b else selU1 e t := by cases d <;> cases e <;> rfl
theorem updU1_eq (d : D8) (t : U1) (f : ((Option Nat) → ((Option Nat) → Option TN) → Option TN)) (K : (U1 → Option TN)) : updU1 d t f K = f (selU1 d t) fun b => K (setU1 d b t) := by cases d <;> cases t <;> rfl
noncomputable def selU2 (d : D8) : U2 → U1 := D8.rec (motive := fun _ => U2 → U1) (fun t => t.a0) (fun t => t.a1) (fun t => t.a2) (fun t => t.a3) (fun t => t.a4) (fun t => t.a5) (fun t => t.a6) (fun t => t.a7) d
noncomputable def updU2 (d : D8) : U2 → (U1 → (U1 → Option TN) → Option TN) → (U2 → Option TN) → Option TN := D8.rec (motive := fun _ => U2 → (U1 → (U1 → Option TN) → Option TN) → (U2 → Option TN) → Option TN) (U2.rec (motive := fun _ => (U1 → (U1 → Option TN) → Option TN) → (U2 → Option TN) → Option TN) (fun a0 a1 a2 a3 a4 a5 a6 a7 f K => f a0 fun b => K (.mk b a1 a2 a3 a4 a5 a6 a7))) (U2.rec (motive := fun _ => (U1 → (U1 → Option TN) → Option TN) → (U2 → Option TN) → Option TN) (fun a0 a1 a2 a3 a4 a5 a6 a7 f K => f a1 fun b => K (.mk a0 b a2 a3 a4 a5 a6 a7))) (U2.rec (motive := fun _ => (U1 → (U1 → Option TN) → Option TN) → (U2 → Option TN) → Option TN) (fun a0 a1 a2 a3 a4 a5 a6 a7 f K => f a2 fun b => K (.mk a0 a1 b a3 a4 a5 a6 a7))) (U2.rec (motive := fun _ => (U1 → (U1 → Option TN) → Option TN) → (U2 → Option TN) → Option TN) (fun a0 a1 a2 a3 a4 a5 a6 a7 f K => f a3 fun b => K (.mk a0 a1 a2 b a4 a5 a6 a7))) (U2.rec (motive := fun _ => (U1 → (U1 → Option TN) → Option TN) → (U2 → Option TN) → Option TN) (fun a0 a1 a2 a3 a4 a5 a6 a7 f K => f a4 fun b => K (.mk a0 a1 a2 a3 b a5 a6 a7))) (U2.rec (motive := fun _ => (U1 → (U1 → Option TN) → Option TN) → (U2 → Option TN) → Option TN) (fun a0 a1 a2 a3 a4 a5 a6 a7 f K => f a5 fun b => K (.mk a0 a1 a2 a3 a4 b a6 a7))) (U2.rec (motive := fun _ => (U1 → (U1 → Option TN) → Option TN) → (U2 → Option TN) → Option TN) (fun a0 a1 a2 a3 a4 a5 a6 a7 f K => f a6 fun b => K (.mk a0 a1 a2 a3 a4 a5 b a7))) (U2.rec (motive := fun _ => (U1 → (U1 → Option TN) → Option TN) → (U2 → Option TN) → Option TN) (fun a0 a1 a2 a3 a4 a5 a6 a7 f K => f a7 fun b => K (.mk a0 a1 a2 a3 a4 a5 a6 b))) d
def setU2 (d : D8) (b : U1) (t : U2) : U2 :=
  match d with
  | .d0 => { t with a0 := b }
  | .d1 => { t with a1 := b }
  | .d2 => { t with a2 := b }
  | .d3 => { t with a3 := b }
  | .d4 => { t with a4 := b }
  | .d5 => { t with a5 := b }
  | .d6 => { t with a6 := b }
  | .d7 => { t with a7 := b }
theorem sel_setU2 (d e : D8) (b : U1) (t : U2) : selU2 e (setU2 d b t) = if d = e then b else selU2 e t := by cases d <;> cases e <;> rfl
theorem updU2_eq (d : D8) (t : U2) (f : (U1 → (U1 → Option TN) → Option TN)) (K : (U2 → Option TN)) : updU2 d t f K = f (selU2 d t) fun b => K (setU2 d b t) := by cases d <;> cases t <;> rfl
noncomputable def selU3 (d : D8) : U3 → U2 := D8.rec (motive := fun _ => U3 → U2) (fun t => t.a0) (fun t => t.a1) (fun t => t.a2) (fun t => t.a3) (fun t => t.a4) (fun t => t.a5) (fun t => t.a6) (fun t => t.a7) d
noncomputable def updU3 (d : D8) : U3 → (U2 → (U2 → Option TN) → Option TN) → (U3 → Option TN) → Option TN := D8.rec (motive := fun _ => U3 → (U2 → (U2 → Option TN) → Option TN) → (U3 → Option TN) → Option TN) (U3.rec (motive := fun _ => (U2 → (U2 → Option TN) → Option TN) → (U3 → Option TN) → Option TN) (fun a0 a1 a2 a3 a4 a5 a6 a7 f K => f a0 fun b => K (.mk b a1 a2 a3 a4 a5 a6 a7))) (U3.rec (motive := fun _ => (U2 → (U2 → Option TN) → Option TN) → (U3 → Option TN) → Option TN) (fun a0 a1 a2 a3 a4 a5 a6 a7 f K => f a1 fun b => K (.mk a0 b a2 a3 a4 a5 a6 a7))) (U3.rec (motive := fun _ => (U2 → (U2 → Option TN) → Option TN) → (U3 → Option TN) → Option TN) (fun a0 a1 a2 a3 a4 a5 a6 a7 f K => f a2 fun b => K (.mk a0 a1 b a3 a4 a5 a6 a7))) (U3.rec (motive := fun _ => (U2 → (U2 → Option TN) → Option TN) → (U3 → Option TN) → Option TN) (fun a0 a1 a2 a3 a4 a5 a6 a7 f K => f a3 fun b => K (.mk a0 a1 a2 b a4 a5 a6 a7))) (U3.rec (motive := fun _ => (U2 → (U2 → Option TN) → Option TN) → (U3 → Option TN) → Option TN) (fun a0 a1 a2 a3 a4 a5 a6 a7 f K => f a4 fun b => K (.mk a0 a1 a2 a3 b a5 a6 a7))) (U3.rec (motive := fun _ => (U2 → (U2 → Option TN) → Option TN) → (U3 → Option TN) → Option TN) (fun a0 a1 a2 a3 a4 a5 a6 a7 f K => f a5 fun b => K (.mk a0 a1 a2 a3 a4 b a6 a7))) (U3.rec (motive := fun _ => (U2 → (U2 → Option TN) → Option TN) → (U3 → Option TN) → Option TN) (fun a0 a1 a2 a3 a4 a5 a6 a7 f K => f a6 fun b => K (.mk a0 a1 a2 a3 a4 a5 b a7))) (U3.rec (motive := fun _ => (U2 → (U2 → Option TN) → Option TN) → (U3 → Option TN) → Option TN) (fun a0 a1 a2 a3 a4 a5 a6 a7 f K => f a7 fun b => K (.mk a0 a1 a2 a3 a4 a5 a6 b))) d
def setU3 (d : D8) (b : U2) (t : U3) : U3 :=
  match d with
  | .d0 => { t with a0 := b }
  | .d1 => { t with a1 := b }
  | .d2 => { t with a2 := b }
  | .d3 => { t with a3 := b }
  | .d4 => { t with a4 := b }
  | .d5 => { t with a5 := b }
  | .d6 => { t with a6 := b }
  | .d7 => { t with a7 := b }
theorem sel_setU3 (d e : D8) (b : U2) (t : U3) : selU3 e (setU3 d b t) = if d = e then b else selU3 e t := by cases d <;> cases e <;> rfl
theorem updU3_eq (d : D8) (t : U3) (f : (U2 → (U2 → Option TN) → Option TN)) (K : (U3 → Option TN)) : updU3 d t f K = f (selU3 d t) fun b => K (setU3 d b t) := by cases d <;> cases t <;> rfl
noncomputable def selU4 (d : D8) : U4 → U3 := D8.rec (motive := fun _ => U4 → U3) (fun t => t.a0) (fun t => t.a1) (fun t => t.a2) (fun t => t.a3) (fun t => t.a4) (fun t => t.a5) (fun t => t.a6) (fun t => t.a7) d
noncomputable def updU4 (d : D8) : U4 → (U3 → (U3 → Option TN) → Option TN) → (U4 → Option TN) → Option TN := D8.rec (motive := fun _ => U4 → (U3 → (U3 → Option TN) → Option TN) → (U4 → Option TN) → Option TN) (U4.rec (motive := fun _ => (U3 → (U3 → Option TN) → Option TN) → (U4 → Option TN) → Option TN) (fun a0 a1 a2 a3 a4 a5 a6 a7 f K => f a0 fun b => K (.mk b a1 a2 a3 a4 a5 a6 a7))) (U4.rec (motive := fun _ => (U3 → (U3 → Option TN) → Option TN) → (U4 → Option TN) → Option TN) (fun a0 a1 a2 a3 a4 a5 a6 a7 f K => f a1 fun b => K (.mk a0 b a2 a3 a4 a5 a6 a7))) (U4.rec (motive := fun _ => (U3 → (U3 → Option TN) → Option TN) → (U4 → Option TN) → Option TN) (fun a0 a1 a2 a3 a4 a5 a6 a7 f K => f a2 fun b => K (.mk a0 a1 b a3 a4 a5 a6 a7))) (U4.rec (motive := fun _ => (U3 → (U3 → Option TN) → Option TN) → (U4 → Option TN) → Option TN) (fun a0 a1 a2 a3 a4 a5 a6 a7 f K => f a3 fun b => K (.mk a0 a1 a2 b a4 a5 a6 a7))) (U4.rec (motive := fun _ => (U3 → (U3 → Option TN) → Option TN) → (U4 → Option TN) → Option TN) (fun a0 a1 a2 a3 a4 a5 a6 a7 f K => f a4 fun b => K (.mk a0 a1 a2 a3 b a5 a6 a7))) (U4.rec (motive := fun _ => (U3 → (U3 → Option TN) → Option TN) → (U4 → Option TN) → Option TN) (fun a0 a1 a2 a3 a4 a5 a6 a7 f K => f a5 fun b => K (.mk a0 a1 a2 a3 a4 b a6 a7))) (U4.rec (motive := fun _ => (U3 → (U3 → Option TN) → Option TN) → (U4 → Option TN) → Option TN) (fun a0 a1 a2 a3 a4 a5 a6 a7 f K => f a6 fun b => K (.mk a0 a1 a2 a3 a4 a5 b a7))) (U4.rec (motive := fun _ => (U3 → (U3 → Option TN) → Option TN) → (U4 → Option TN) → Option TN) (fun a0 a1 a2 a3 a4 a5 a6 a7 f K => f a7 fun b => K (.mk a0 a1 a2 a3 a4 a5 a6 b))) d
def setU4 (d : D8) (b : U3) (t : U4) : U4 :=
  match d with
  | .d0 => { t with a0 := b }
  | .d1 => { t with a1 := b }
  | .d2 => { t with a2 := b }
  | .d3 => { t with a3 := b }
  | .d4 => { t with a4 := b }
  | .d5 => { t with a5 := b }
  | .d6 => { t with a6 := b }
  | .d7 => { t with a7 := b }
theorem sel_setU4 (d e : D8) (b : U3) (t : U4) : selU4 e (setU4 d b t) = if d = e then b else selU4 e t := by cases d <;> cases e <;> rfl
theorem updU4_eq (d : D8) (t : U4) (f : (U3 → (U3 → Option TN) → Option TN)) (K : (U4 → Option TN)) : updU4 d t f K = f (selU4 d t) fun b => K (setU4 d b t) := by cases d <;> cases t <;> rfl
noncomputable def selU5 (d : D8) : U5 → U4 := D8.rec (motive := fun _ => U5 → U4) (fun t => t.a0) (fun t => t.a1) (fun t => t.a2) (fun t => t.a3) (fun t => t.a4) (fun t => t.a5) (fun t => t.a6) (fun t => t.a7) d
noncomputable def updU5 (d : D8) : U5 → (U4 → (U4 → Option TN) → Option TN) → (U5 → Option TN) → Option TN := D8.rec (motive := fun _ => U5 → (U4 → (U4 → Option TN) → Option TN) → (U5 → Option TN) → Option TN) (U5.rec (motive := fun _ => (U4 → (U4 → Option TN) → Option TN) → (U5 → Option TN) → Option TN) (fun a0 a1 a2 a3 a4 a5 a6 a7 f K => f a0 fun b => K (.mk b a1 a2 a3 a4 a5 a6 a7))) (U5.rec (motive := fun _ => (U4 → (U4 → Option TN) → Option TN) → (U5 → Option TN) → Option TN) (fun a0 a1 a2 a3 a4 a5 a6 a7 f K => f a1 fun b => K (.mk a0 b a2 a3 a4 a5 a6 a7))) (U5.rec (motive := fun _ => (U4 → (U4 → Option TN) → Option TN) → (U5 → Option TN) → Option TN) (fun a0 a1 a2 a3 a4 a5 a6 a7 f K => f a2 fun b => K (.mk a0 a1 b a3 a4 a5 a6 a7))) (U5.rec (motive := fun _ => (U4 → (U4 → Option TN) → Option TN) → (U5 → Option TN) → Option TN) (fun a0 a1 a2 a3 a4 a5 a6 a7 f K => f a3 fun b => K (.mk a0 a1 a2 b a4 a5 a6 a7))) (U5.rec (motive := fun _ => (U4 → (U4 → Option TN) → Option TN) → (U5 → Option TN) → Option TN) (fun a0 a1 a2 a3 a4 a5 a6 a7 f K => f a4 fun b => K (.mk a0 a1 a2 a3 b a5 a6 a7))) (U5.rec (motive := fun _ => (U4 → (U4 → Option TN) → Option TN) → (U5 → Option TN) → Option TN) (fun a0 a1 a2 a3 a4 a5 a6 a7 f K => f a5 fun b => K (.mk a0 a1 a2 a3 a4 b a6 a7))) (U5.rec (motive := fun _ => (U4 → (U4 → Option TN) → Option TN) → (U5 → Option TN) → Option TN) (fun a0 a1 a2 a3 a4 a5 a6 a7 f K => f a6 fun b => K (.mk a0 a1 a2 a3 a4 a5 b a7))) (U5.rec (motive := fun _ => (U4 → (U4 → Option TN) → Option TN) → (U5 → Option TN) → Option TN) (fun a0 a1 a2 a3 a4 a5 a6 a7 f K => f a7 fun b => K (.mk a0 a1 a2 a3 a4 a5 a6 b))) d
def setU5 (d : D8) (b : U4) (t : U5) : U5 :=
  match d with
  | .d0 => { t with a0 := b }
  | .d1 => { t with a1 := b }
  | .d2 => { t with a2 := b }
  | .d3 => { t with a3 := b }
  | .d4 => { t with a4 := b }
  | .d5 => { t with a5 := b }
  | .d6 => { t with a6 := b }
  | .d7 => { t with a7 := b }
theorem sel_setU5 (d e : D8) (b : U4) (t : U5) : selU5 e (setU5 d b t) = if d = e then b else selU5 e t := by cases d <;> cases e <;> rfl
theorem updU5_eq (d : D8) (t : U5) (f : (U4 → (U4 → Option TN) → Option TN)) (K : (U5 → Option TN)) : updU5 d t f K = f (selU5 d t) fun b => K (setU5 d b t) := by cases d <;> cases t <;> rfl
noncomputable def selU6 (d : D8) : U6 → U5 := D8.rec (motive := fun _ => U6 → U5) (fun t => t.a0) (fun t => t.a1) (fun t => t.a2) (fun t => t.a3) (fun t => t.a4) (fun t => t.a5) (fun t => t.a6) (fun t => t.a7) d
noncomputable def updU6 (d : D8) : U6 → (U5 → (U5 → Option TN) → Option TN) → (U6 → Option TN) → Option TN := D8.rec (motive := fun _ => U6 → (U5 → (U5 → Option TN) → Option TN) → (U6 → Option TN) → Option TN) (U6.rec (motive := fun _ => (U5 → (U5 → Option TN) → Option TN) → (U6 → Option TN) → Option TN) (fun a0 a1 a2 a3 a4 a5 a6 a7 f K => f a0 fun b => K (.mk b a1 a2 a3 a4 a5 a6 a7))) (U6.rec (motive := fun _ => (U5 → (U5 → Option TN) → Option TN) → (U6 → Option TN) → Option TN) (fun a0 a1 a2 a3 a4 a5 a6 a7 f K => f a1 fun b => K (.mk a0 b a2 a3 a4 a5 a6 a7))) (U6.rec (motive := fun _ => (U5 → (U5 → Option TN) → Option TN) → (U6 → Option TN) → Option TN) (fun a0 a1 a2 a3 a4 a5 a6 a7 f K => f a2 fun b => K (.mk a0 a1 b a3 a4 a5 a6 a7))) (U6.rec (motive := fun _ => (U5 → (U5 → Option TN) → Option TN) → (U6 → Option TN) → Option TN) (fun a0 a1 a2 a3 a4 a5 a6 a7 f K => f a3 fun b => K (.mk a0 a1 a2 b a4 a5 a6 a7))) (U6.rec (motive := fun _ => (U5 → (U5 → Option TN) → Option TN) → (U6 → Option TN) → Option TN) (fun a0 a1 a2 a3 a4 a5 a6 a7 f K => f a4 fun b => K (.mk a0 a1 a2 a3 b a5 a6 a7))) (U6.rec (motive := fun _ => (U5 → (U5 → Option TN) → Option TN) → (U6 → Option TN) → Option TN) (fun a0 a1 a2 a3 a4 a5 a6 a7 f K => f a5 fun b => K (.mk a0 a1 a2 a3 a4 b a6 a7))) (U6.rec (motive := fun _ => (U5 → (U5 → Option TN) → Option TN) → (U6 → Option TN) → Option TN) (fun a0 a1 a2 a3 a4 a5 a6 a7 f K => f a6 fun b => K (.mk a0 a1 a2 a3 a4 a5 b a7))) (U6.rec (motive := fun _ => (U5 → (U5 → Option TN) → Option TN) → (U6 → Option TN) → Option TN) (fun a0 a1 a2 a3 a4 a5 a6 a7 f K => f a7 fun b => K (.mk a0 a1 a2 a3 a4 a5 a6 b))) d
def setU6 (d : D8) (b : U5) (t : U6) : U6 :=
  match d with
  | .d0 => { t with a0 := b }
  | .d1 => { t with a1 := b }
  | .d2 => { t with a2 := b }
  | .d3 => { t with a3 := b }
  | .d4 => { t with a4 := b }
  | .d5 => { t with a5 := b }
  | .d6 => { t with a6 := b }
  | .d7 => { t with a7 := b }
theorem sel_setU6 (d e : D8) (b : U5) (t : U6) : selU6 e (setU6 d b t) = if d = e then b else selU6 e t := by cases d <;> cases e <;> rfl
theorem updU6_eq (d : D8) (t : U6) (f : (U5 → (U5 → Option TN) → Option TN)) (K : (U6 → Option TN)) : updU6 d t f K = f (selU6 d t) fun b => K (setU6 d b t) := by cases d <;> cases t <;> rfl
noncomputable def nilU1 : U1 := ⟨none, none, none, none, none, none, none, none⟩
noncomputable def nilU2 : U2 := ⟨nilU1, nilU1, nilU1, nilU1, nilU1, nilU1, nilU1, nilU1⟩
noncomputable def nilU3 : U3 := ⟨nilU2, nilU2, nilU2, nilU2, nilU2, nilU2, nilU2, nilU2⟩
noncomputable def nilU4 : U4 := ⟨nilU3, nilU3, nilU3, nilU3, nilU3, nilU3, nilU3, nilU3⟩
noncomputable def nilU5 : U5 := ⟨nilU4, nilU4, nilU4, nilU4, nilU4, nilU4, nilU4, nilU4⟩
noncomputable def nilU6 : U6 := ⟨nilU5, nilU5, nilU5, nilU5, nilU5, nilU5, nilU5, nilU5⟩
noncomputable def getU1 (t : U1) (k : Nat) : Option Nat := selU1 (g1 k) t
noncomputable def putU1 (x : Option Nat) (k : Nat) (t : U1) (K : U1 → Option TN) : Option TN := updU1 (g1 k) t (fun _ K => K x) K
noncomputable def getU2 (t : U2) (k : Nat) : Option Nat := getU1 (selU2 (g2 k) t) k
noncomputable def putU2 (x : Option Nat) (k : Nat) (t : U2) (K : U2 → Option TN) : Option TN := updU2 (g2 k) t (putU1 x k) K
noncomputable def getU3 (t : U3) (k : Nat) : Option Nat := getU2 (selU3 (g3 k) t) k
noncomputable def putU3 (x : Option Nat) (k : Nat) (t : U3) (K : U3 → Option TN) : Option TN := updU3 (g3 k) t (putU2 x k) K
noncomputable def getU4 (t : U4) (k : Nat) : Option Nat := getU3 (selU4 (g4 k) t) k
noncomputable def putU4 (x : Option Nat) (k : Nat) (t : U4) (K : U4 → Option TN) : Option TN := updU4 (g4 k) t (putU3 x k) K
noncomputable def getU5 (t : U5) (k : Nat) : Option Nat := getU4 (selU5 (g5 k) t) k
noncomputable def putU5 (x : Option Nat) (k : Nat) (t : U5) (K : U5 → Option TN) : Option TN := updU5 (g5 k) t (putU4 x k) K
noncomputable def getU6 (t : U6) (k : Nat) : Option Nat := getU5 (selU6 (g6 k) t) k
noncomputable def putU6 (x : Option Nat) (k : Nat) (t : U6) (K : U6 → Option TN) : Option TN := updU6 (g6 k) t (putU5 x k) K
theorem nilU1_get (j : Nat) : getU1 nilU1 j = none := by
  unfold getU1; cases g1 j <;> rfl
theorem putU1_par {x : Option Nat} {k : Nat} {t : U1} : ∃ t', (∀ K : U1 → Option TN, putU1 x k t K = K t') ∧ ∀ j, getU1 t' j = if j % 8 = k % 8 then x else getU1 t j := by
  refine ⟨setU1 (g1 k) x t, fun K => by unfold putU1; rw [updU1_eq], fun j => ?_⟩
  unfold getU1
  rw [sel_setU1]
  by_cases hj : j % 8 = k % 8
  · rw [if_pos (show g1 k = g1 j by unfold g1; rw [nmod, nmod, hj]), if_pos hj]
  · rw [if_neg (show ¬ g1 k = g1 j from fun e => hj ((dig_mod e).symm)), if_neg hj]
theorem nilU2_get (j : Nat) : getU2 nilU2 j = none := by
  unfold getU2; cases g2 j <;> exact nilU1_get j
theorem putU2_par {x : Option Nat} {k : Nat} {t : U2} : ∃ t', (∀ K : U2 → Option TN, putU2 x k t K = K t') ∧ ∀ j, getU2 t' j = if j % 64 = k % 64 then x else getU2 t j := by
  obtain ⟨u, hK, hu⟩ := putU1_par (x := x) (k := k) (t := selU2 (g2 k) t)
  refine ⟨setU2 (g2 k) u t, fun K => by unfold putU2; rw [updU2_eq]; exact hK _, fun j => ?_⟩
  unfold getU2
  rw [sel_setU2]
  by_cases hd : g2 k = g2 j
  · have e : k / 8 % 8 = j / 8 % 8 := dig_mod hd
    rw [if_pos hd, hu, ← hd]
    by_cases hj : j % 8 = k % 8
    · rw [if_pos hj, if_pos (by omega)]
    · rw [if_neg hj, if_neg (by omega)]
  · rw [if_neg hd, if_neg (fun e => hd (by unfold g2; rw [nmod, nmod, ndiv, ndiv, show k / 8 % 8 = j / 8 % 8 by omega]))]
theorem nilU3_get (j : Nat) : getU3 nilU3 j = none := by
  unfold getU3; cases g3 j <;> exact nilU2_get j
theorem putU3_par {x : Option Nat} {k : Nat} {t : U3} : ∃ t', (∀ K : U3 → Option TN, putU3 x k t K = K t') ∧ ∀ j, getU3 t' j = if j % 512 = k % 512 then x else getU3 t j := by
  obtain ⟨u, hK, hu⟩ := putU2_par (x := x) (k := k) (t := selU3 (g3 k) t)
  refine ⟨setU3 (g3 k) u t, fun K => by unfold putU3; rw [updU3_eq]; exact hK _, fun j => ?_⟩
  unfold getU3
  rw [sel_setU3]
  by_cases hd : g3 k = g3 j
  · have e : k / 64 % 8 = j / 64 % 8 := dig_mod hd
    rw [if_pos hd, hu, ← hd]
    by_cases hj : j % 64 = k % 64
    · rw [if_pos hj, if_pos (by omega)]
    · rw [if_neg hj, if_neg (by omega)]
  · rw [if_neg hd, if_neg (fun e => hd (by unfold g3; rw [nmod, nmod, ndiv, ndiv, show k / 64 % 8 = j / 64 % 8 by omega]))]
theorem nilU4_get (j : Nat) : getU4 nilU4 j = none := by
  unfold getU4; cases g4 j <;> exact nilU3_get j
theorem putU4_par {x : Option Nat} {k : Nat} {t : U4} : ∃ t', (∀ K : U4 → Option TN, putU4 x k t K = K t') ∧ ∀ j, getU4 t' j = if j % 4096 = k % 4096 then x else getU4 t j := by
  obtain ⟨u, hK, hu⟩ := putU3_par (x := x) (k := k) (t := selU4 (g4 k) t)
  refine ⟨setU4 (g4 k) u t, fun K => by unfold putU4; rw [updU4_eq]; exact hK _, fun j => ?_⟩
  unfold getU4
  rw [sel_setU4]
  by_cases hd : g4 k = g4 j
  · have e : k / 512 % 8 = j / 512 % 8 := dig_mod hd
    rw [if_pos hd, hu, ← hd]
    by_cases hj : j % 512 = k % 512
    · rw [if_pos hj, if_pos (by omega)]
    · rw [if_neg hj, if_neg (by omega)]
  · rw [if_neg hd, if_neg (fun e => hd (by unfold g4; rw [nmod, nmod, ndiv, ndiv, show k / 512 % 8 = j / 512 % 8 by omega]))]
theorem nilU5_get (j : Nat) : getU5 nilU5 j = none := by
  unfold getU5; cases g5 j <;> exact nilU4_get j
theorem putU5_par {x : Option Nat} {k : Nat} {t : U5} : ∃ t', (∀ K : U5 → Option TN, putU5 x k t K = K t') ∧ ∀ j, getU5 t' j = if j % 32768 = k % 32768 then x else getU5 t j := by
  obtain ⟨u, hK, hu⟩ := putU4_par (x := x) (k := k) (t := selU5 (g5 k) t)
  refine ⟨setU5 (g5 k) u t, fun K => by unfold putU5; rw [updU5_eq]; exact hK _, fun j => ?_⟩
  unfold getU5
  rw [sel_setU5]
  by_cases hd : g5 k = g5 j
  · have e : k / 4096 % 8 = j / 4096 % 8 := dig_mod hd
    rw [if_pos hd, hu, ← hd]
    by_cases hj : j % 4096 = k % 4096
    · rw [if_pos hj, if_pos (by omega)]
    · rw [if_neg hj, if_neg (by omega)]
  · rw [if_neg hd, if_neg (fun e => hd (by unfold g5; rw [nmod, nmod, ndiv, ndiv, show k / 4096 % 8 = j / 4096 % 8 by omega]))]
theorem nilU6_get (j : Nat) : getU6 nilU6 j = none := by
  unfold getU6; cases g6 j <;> exact nilU5_get j
theorem putU6_par {x : Option Nat} {k : Nat} {t : U6} : ∃ t', (∀ K : U6 → Option TN, putU6 x k t K = K t') ∧ ∀ j, getU6 t' j = if j % 262144 = k % 262144 then x else getU6 t j := by
  obtain ⟨u, hK, hu⟩ := putU5_par (x := x) (k := k) (t := selU6 (g6 k) t)
  refine ⟨setU6 (g6 k) u t, fun K => by unfold putU6; rw [updU6_eq]; exact hK _, fun j => ?_⟩
  unfold getU6
  rw [sel_setU6]
  by_cases hd : g6 k = g6 j
  · have e : k / 32768 % 8 = j / 32768 % 8 := dig_mod hd
    rw [if_pos hd, hu, ← hd]
    by_cases hj : j % 32768 = k % 32768
    · rw [if_pos hj, if_pos (by omega)]
    · rw [if_neg hj, if_neg (by omega)]
  · rw [if_neg hd, if_neg (fun e => hd (by unfold g6; rw [nmod, nmod, ndiv, ndiv, show k / 32768 % 8 = j / 32768 % 8 by omega]))]
noncomputable def TN.get (t : TN) : Nat → Option Nat :=
  TN.rec (motive := fun _ => Nat → Option Nat) (fun _ => none) (fun t k => bif Nat.blt k 8 then getU1 t k else none) (fun t k => bif Nat.blt k 64 then getU2 t k else none) (fun t k => bif Nat.blt k 512 then getU3 t k else none) (fun t k => bif Nat.blt k 4096 then getU4 t k else none) (fun t k => bif Nat.blt k 32768 then getU5 t k else none) (fun t k => bif Nat.blt k 262144 then getU6 t k else none) t
noncomputable def upU6 (x : Option Nat) (k : Nat) (t : U6) : Option TN := bif Nat.blt k 262144 then putU6 x k t (fun t => some (.t6 t)) else none
noncomputable def upU5 (x : Option Nat) (k : Nat) (t : U5) : Option TN := bif Nat.blt k 32768 then putU5 x k t (fun t => some (.t5 t)) else upU6 x k (.mk t nilU5 nilU5 nilU5 nilU5 nilU5 nilU5 nilU5)
noncomputable def upU4 (x : Option Nat) (k : Nat) (t : U4) : Option TN := bif Nat.blt k 4096 then putU4 x k t (fun t => some (.t4 t)) else upU5 x k (.mk t nilU4 nilU4 nilU4 nilU4 nilU4 nilU4 nilU4)
noncomputable def upU3 (x : Option Nat) (k : Nat) (t : U3) : Option TN := bif Nat.blt k 512 then putU3 x k t (fun t => some (.t3 t)) else upU4 x k (.mk t nilU3 nilU3 nilU3 nilU3 nilU3 nilU3 nilU3)
noncomputable def upU2 (x : Option Nat) (k : Nat) (t : U2) : Option TN := bif Nat.blt k 64 then putU2 x k t (fun t => some (.t2 t)) else upU3 x k (.mk t nilU2 nilU2 nilU2 nilU2 nilU2 nilU2 nilU2)
noncomputable def upU1 (x : Option Nat) (k : Nat) (t : U1) : Option TN := bif Nat.blt k 8 then putU1 x k t (fun t => some (.t1 t)) else upU2 x k (.mk t nilU1 nilU1 nilU1 nilU1 nilU1 nilU1 nilU1)
/-- Put at a number. -/
noncomputable def TN.put1 (t : TN) : Option Nat → Nat → Option TN :=
  TN.rec (motive := fun _ => Option Nat → Nat → Option TN) (fun x k => upU1 x k nilU1) (fun t x k => upU1 x k t) (fun t x k => upU2 x k t) (fun t x k => upU3 x k t) (fun t x k => upU4 x k t) (fun t x k => upU5 x k t) (fun t x k => upU6 x k t) t
noncomputable def TN.put {β : Type} (x : Option Nat) (_ : Nat) (t : TN) (k : Nat) (K : TN → Option β) : Option β :=
  Option.rec (motive := fun _ => Option β) none K (TN.put1 t x k)
theorem TN.get_leaf (k : Nat) : (TN.leaf).get k = none := rfl
theorem upU6_some {x : Option Nat} {k : Nat} {t : U6} {t' : TN} (h : upU6 x k t = some t') : ∀ j, t'.get j = if j = k then x else (TN.t6 t).get j := by
  unfold upU6 at h
  obtain ⟨u, hK, hu⟩ := putU6_par (x := x) (k := k) (t := t)
  cases hb : Nat.blt k 262144 with
  | true =>
    rw [hb, cond_true, hK] at h
    cases h
    intro j
    rw [Nat.blt_eq] at hb
    show (bif Nat.blt j 262144 then getU6 u j else none) = if j = k then x else (bif Nat.blt j 262144 then getU6 t j else none)
    cases hj : Nat.blt j 262144 with
    | true =>
      rw [Nat.blt_eq] at hj
      show getU6 u j = if j = k then x else getU6 t j
      rw [hu]
      by_cases e : j = k
      · rw [if_pos (by omega), if_pos e]
      · rw [if_neg (by omega), if_neg e]
    | false =>
      rw [if_neg (fun e => by rw [e] at hj; have := blt_t hb; rw [hj] at this; cases this)]
      rfl
  | false =>
    rw [hb, cond_false] at h
    cases h
theorem upU5_some {x : Option Nat} {k : Nat} {t : U5} {t' : TN} (h : upU5 x k t = some t') : ∀ j, t'.get j = if j = k then x else (TN.t5 t).get j := by
  unfold upU5 at h
  obtain ⟨u, hK, hu⟩ := putU5_par (x := x) (k := k) (t := t)
  cases hb : Nat.blt k 32768 with
  | true =>
    rw [hb, cond_true, hK] at h
    cases h
    intro j
    rw [Nat.blt_eq] at hb
    show (bif Nat.blt j 32768 then getU5 u j else none) = if j = k then x else (bif Nat.blt j 32768 then getU5 t j else none)
    cases hj : Nat.blt j 32768 with
    | true =>
      rw [Nat.blt_eq] at hj
      show getU5 u j = if j = k then x else getU5 t j
      rw [hu]
      by_cases e : j = k
      · rw [if_pos (by omega), if_pos e]
      · rw [if_neg (by omega), if_neg e]
    | false =>
      rw [if_neg (fun e => by rw [e] at hj; have := blt_t hb; rw [hj] at this; cases this)]
      rfl
  | false =>
    rw [hb, cond_false] at h
    have ht := upU6_some h
    intro j
    rw [ht]
    by_cases e : j = k
    · rw [if_pos e, if_pos e]
    · rw [if_neg e, if_neg e]
      show (bif Nat.blt j 262144 then getU5 (selU6 (g6 j) _) j else none) = (bif Nat.blt j 32768 then getU5 t j else none)
      cases hj : Nat.blt j 32768 with
      | true =>
        rw [Nat.blt_eq] at hj
        rw [show Nat.blt j 262144 = true from blt_t (by omega), show g6 j = .d0 by unfold g6; rw [nmod, ndiv, show j / 32768 % 8 = 0 by omega]; rfl]
        rfl
      | false =>
        have hj' : ¬ j < 32768 := fun l => by have := blt_t l; rw [hj] at this; cases this
        cases hj2 : Nat.blt j 262144 with
        | false => rfl
        | true =>
          rw [Nat.blt_eq] at hj2
          have hne : g6 j ≠ .d0 := fun e0 => by
            have := dig_mod (i := j / 32768) (j := 0) (show dig (Nat.mod (j / 32768) 8) = dig (Nat.mod 0 8) from e0)
            omega
          show getU5 (selU6 (g6 j) (.mk t nilU5 nilU5 nilU5 nilU5 nilU5 nilU5 nilU5)) j = none
          cases hg : g6 j <;> first | exact absurd hg hne | exact nilU5_get j
theorem upU4_some {x : Option Nat} {k : Nat} {t : U4} {t' : TN} (h : upU4 x k t = some t') : ∀ j, t'.get j = if j = k then x else (TN.t4 t).get j := by
  unfold upU4 at h
  obtain ⟨u, hK, hu⟩ := putU4_par (x := x) (k := k) (t := t)
  cases hb : Nat.blt k 4096 with
  | true =>
    rw [hb, cond_true, hK] at h
    cases h
    intro j
    rw [Nat.blt_eq] at hb
    show (bif Nat.blt j 4096 then getU4 u j else none) = if j = k then x else (bif Nat.blt j 4096 then getU4 t j else none)
    cases hj : Nat.blt j 4096 with
    | true =>
      rw [Nat.blt_eq] at hj
      show getU4 u j = if j = k then x else getU4 t j
      rw [hu]
      by_cases e : j = k
      · rw [if_pos (by omega), if_pos e]
      · rw [if_neg (by omega), if_neg e]
    | false =>
      rw [if_neg (fun e => by rw [e] at hj; have := blt_t hb; rw [hj] at this; cases this)]
      rfl
  | false =>
    rw [hb, cond_false] at h
    have ht := upU5_some h
    intro j
    rw [ht]
    by_cases e : j = k
    · rw [if_pos e, if_pos e]
    · rw [if_neg e, if_neg e]
      show (bif Nat.blt j 32768 then getU4 (selU5 (g5 j) _) j else none) = (bif Nat.blt j 4096 then getU4 t j else none)
      cases hj : Nat.blt j 4096 with
      | true =>
        rw [Nat.blt_eq] at hj
        rw [show Nat.blt j 32768 = true from blt_t (by omega), show g5 j = .d0 by unfold g5; rw [nmod, ndiv, show j / 4096 % 8 = 0 by omega]; rfl]
        rfl
      | false =>
        have hj' : ¬ j < 4096 := fun l => by have := blt_t l; rw [hj] at this; cases this
        cases hj2 : Nat.blt j 32768 with
        | false => rfl
        | true =>
          rw [Nat.blt_eq] at hj2
          have hne : g5 j ≠ .d0 := fun e0 => by
            have := dig_mod (i := j / 4096) (j := 0) (show dig (Nat.mod (j / 4096) 8) = dig (Nat.mod 0 8) from e0)
            omega
          show getU4 (selU5 (g5 j) (.mk t nilU4 nilU4 nilU4 nilU4 nilU4 nilU4 nilU4)) j = none
          cases hg : g5 j <;> first | exact absurd hg hne | exact nilU4_get j
theorem upU3_some {x : Option Nat} {k : Nat} {t : U3} {t' : TN} (h : upU3 x k t = some t') : ∀ j, t'.get j = if j = k then x else (TN.t3 t).get j := by
  unfold upU3 at h
  obtain ⟨u, hK, hu⟩ := putU3_par (x := x) (k := k) (t := t)
  cases hb : Nat.blt k 512 with
  | true =>
    rw [hb, cond_true, hK] at h
    cases h
    intro j
    rw [Nat.blt_eq] at hb
    show (bif Nat.blt j 512 then getU3 u j else none) = if j = k then x else (bif Nat.blt j 512 then getU3 t j else none)
    cases hj : Nat.blt j 512 with
    | true =>
      rw [Nat.blt_eq] at hj
      show getU3 u j = if j = k then x else getU3 t j
      rw [hu]
      by_cases e : j = k
      · rw [if_pos (by omega), if_pos e]
      · rw [if_neg (by omega), if_neg e]
    | false =>
      rw [if_neg (fun e => by rw [e] at hj; have := blt_t hb; rw [hj] at this; cases this)]
      rfl
  | false =>
    rw [hb, cond_false] at h
    have ht := upU4_some h
    intro j
    rw [ht]
    by_cases e : j = k
    · rw [if_pos e, if_pos e]
    · rw [if_neg e, if_neg e]
      show (bif Nat.blt j 4096 then getU3 (selU4 (g4 j) _) j else none) = (bif Nat.blt j 512 then getU3 t j else none)
      cases hj : Nat.blt j 512 with
      | true =>
        rw [Nat.blt_eq] at hj
        rw [show Nat.blt j 4096 = true from blt_t (by omega), show g4 j = .d0 by unfold g4; rw [nmod, ndiv, show j / 512 % 8 = 0 by omega]; rfl]
        rfl
      | false =>
        have hj' : ¬ j < 512 := fun l => by have := blt_t l; rw [hj] at this; cases this
        cases hj2 : Nat.blt j 4096 with
        | false => rfl
        | true =>
          rw [Nat.blt_eq] at hj2
          have hne : g4 j ≠ .d0 := fun e0 => by
            have := dig_mod (i := j / 512) (j := 0) (show dig (Nat.mod (j / 512) 8) = dig (Nat.mod 0 8) from e0)
            omega
          show getU3 (selU4 (g4 j) (.mk t nilU3 nilU3 nilU3 nilU3 nilU3 nilU3 nilU3)) j = none
          cases hg : g4 j <;> first | exact absurd hg hne | exact nilU3_get j
theorem upU2_some {x : Option Nat} {k : Nat} {t : U2} {t' : TN} (h : upU2 x k t = some t') : ∀ j, t'.get j = if j = k then x else (TN.t2 t).get j := by
  unfold upU2 at h
  obtain ⟨u, hK, hu⟩ := putU2_par (x := x) (k := k) (t := t)
  cases hb : Nat.blt k 64 with
  | true =>
    rw [hb, cond_true, hK] at h
    cases h
    intro j
    rw [Nat.blt_eq] at hb
    show (bif Nat.blt j 64 then getU2 u j else none) = if j = k then x else (bif Nat.blt j 64 then getU2 t j else none)
    cases hj : Nat.blt j 64 with
    | true =>
      rw [Nat.blt_eq] at hj
      show getU2 u j = if j = k then x else getU2 t j
      rw [hu]
      by_cases e : j = k
      · rw [if_pos (by omega), if_pos e]
      · rw [if_neg (by omega), if_neg e]
    | false =>
      rw [if_neg (fun e => by rw [e] at hj; have := blt_t hb; rw [hj] at this; cases this)]
      rfl
  | false =>
    rw [hb, cond_false] at h
    have ht := upU3_some h
    intro j
    rw [ht]
    by_cases e : j = k
    · rw [if_pos e, if_pos e]
    · rw [if_neg e, if_neg e]
      show (bif Nat.blt j 512 then getU2 (selU3 (g3 j) _) j else none) = (bif Nat.blt j 64 then getU2 t j else none)
      cases hj : Nat.blt j 64 with
      | true =>
        rw [Nat.blt_eq] at hj
        rw [show Nat.blt j 512 = true from blt_t (by omega), show g3 j = .d0 by unfold g3; rw [nmod, ndiv, show j / 64 % 8 = 0 by omega]; rfl]
        rfl
      | false =>
        have hj' : ¬ j < 64 := fun l => by have := blt_t l; rw [hj] at this; cases this
        cases hj2 : Nat.blt j 512 with
        | false => rfl
        | true =>
          rw [Nat.blt_eq] at hj2
          have hne : g3 j ≠ .d0 := fun e0 => by
            have := dig_mod (i := j / 64) (j := 0) (show dig (Nat.mod (j / 64) 8) = dig (Nat.mod 0 8) from e0)
            omega
          show getU2 (selU3 (g3 j) (.mk t nilU2 nilU2 nilU2 nilU2 nilU2 nilU2 nilU2)) j = none
          cases hg : g3 j <;> first | exact absurd hg hne | exact nilU2_get j
theorem upU1_some {x : Option Nat} {k : Nat} {t : U1} {t' : TN} (h : upU1 x k t = some t') : ∀ j, t'.get j = if j = k then x else (TN.t1 t).get j := by
  unfold upU1 at h
  obtain ⟨u, hK, hu⟩ := putU1_par (x := x) (k := k) (t := t)
  cases hb : Nat.blt k 8 with
  | true =>
    rw [hb, cond_true, hK] at h
    cases h
    intro j
    rw [Nat.blt_eq] at hb
    show (bif Nat.blt j 8 then getU1 u j else none) = if j = k then x else (bif Nat.blt j 8 then getU1 t j else none)
    cases hj : Nat.blt j 8 with
    | true =>
      rw [Nat.blt_eq] at hj
      show getU1 u j = if j = k then x else getU1 t j
      rw [hu]
      by_cases e : j = k
      · rw [if_pos (by omega), if_pos e]
      · rw [if_neg (by omega), if_neg e]
    | false =>
      rw [if_neg (fun e => by rw [e] at hj; have := blt_t hb; rw [hj] at this; cases this)]
      rfl
  | false =>
    rw [hb, cond_false] at h
    have ht := upU2_some h
    intro j
    rw [ht]
    by_cases e : j = k
    · rw [if_pos e, if_pos e]
    · rw [if_neg e, if_neg e]
      show (bif Nat.blt j 64 then getU1 (selU2 (g2 j) _) j else none) = (bif Nat.blt j 8 then getU1 t j else none)
      cases hj : Nat.blt j 8 with
      | true =>
        rw [Nat.blt_eq] at hj
        rw [show Nat.blt j 64 = true from blt_t (by omega), show g2 j = .d0 by unfold g2; rw [nmod, ndiv, show j / 8 % 8 = 0 by omega]; rfl]
        rfl
      | false =>
        have hj' : ¬ j < 8 := fun l => by have := blt_t l; rw [hj] at this; cases this
        cases hj2 : Nat.blt j 64 with
        | false => rfl
        | true =>
          rw [Nat.blt_eq] at hj2
          have hne : g2 j ≠ .d0 := fun e0 => by
            have := dig_mod (i := j / 8) (j := 0) (show dig (Nat.mod (j / 8) 8) = dig (Nat.mod 0 8) from e0)
            omega
          show getU1 (selU2 (g2 j) (.mk t nilU1 nilU1 nilU1 nilU1 nilU1 nilU1 nilU1)) j = none
          cases hg : g2 j <;> first | exact absurd hg hne | exact nilU1_get j
theorem TN.put1_some {x : Option Nat} {t : TN} {k : Nat} {t' : TN} (h : TN.put1 t x k = some t') : ∀ j, t'.get j = if j = k then x else t.get j := by
  cases t with
  | leaf =>
    have ht := upU1_some (show upU1 x k nilU1 = some t' from h)
    intro j
    rw [ht]
    by_cases e : j = k
    · rw [if_pos e, if_pos e]
    · rw [if_neg e, if_neg e]
      show (bif Nat.blt j 8 then getU1 nilU1 j else none) = none
      rw [nilU1_get]
      cases Nat.blt j 8 <;> rfl
  | t1 t => exact upU1_some (show upU1 x k t = some t' from h)
  | t2 t => exact upU2_some (show upU2 x k t = some t' from h)
  | t3 t => exact upU3_some (show upU3 x k t = some t' from h)
  | t4 t => exact upU4_some (show upU4 x k t = some t' from h)
  | t5 t => exact upU5_some (show upU5 x k t = some t' from h)
  | t6 t => exact upU6_some (show upU6 x k t = some t' from h)
theorem TN.put_some {β : Type} {x : Option Nat} {m : Nat} {t : TN} {k : Nat} {K : TN → Option β} {b : β} (h : TN.put x m t k K = some b) : ∃ t', K t' = some b ∧ ∀ j, t'.get j = if j = k then x else t.get j := by
  unfold TN.put at h
  cases hp : TN.put1 t x k with
  | none => rw [hp] at h; cases h
  | some u => rw [hp] at h; exact ⟨u, h, TN.put1_some hp⟩
theorem TN.put_par {x : Option Nat} {m : Nat} {t : TN} {k : Nat} : (∃ t', ∀ {β : Type} (K : TN → Option β), TN.put x m t k K = K t') ∨ ∀ {β : Type} (K : TN → Option β), TN.put x m t k K = none := by
  cases hp : TN.put1 t x k with
  | none => exact .inr fun K => by unfold TN.put; rw [hp]
  | some u => exact .inl ⟨u, fun K => by unfold TN.put; rw [hp]⟩

end Go.Proofs.Ytfilbknnpjbmcaa.Cx
