/- A closed call, run: memory with numbers of its own, and when it stands for the model's. No program. -/
import Derived.Test.YtfilbknnpjbmcaaCxTV
import Derived.Laws.Rows
namespace Go.Proofs.Ytfilbknnpjbmcaa.Cx
open Go Go.RowKit

/-- How far a block may be shared by strings: cells from k on are not; or just the mark behind its end. -/
inductive Fz where
  | upto (k : Nat)
  | mark
  /-- what a package's variable holds: read, never written -/
  | any
inductive AObj where
  | cells (n : Nat) (t : TV) (e : TypeId) (esz : Nat) (opn : Bool) (fz : Fz)
  | obj (o : Obj)
  /-- a map whose entries stand in no known order -/
  | umap (es : List (Value × Value))
  /-- a loop over a function: its state, what is to be done behind it, the frame's slots as they were -/
  | loop (stt : LoopState) (pend : Option Code) (fn : FuncId) (nt : Nat) (tm : TV) (ps : List Tmp) (a b : Code) (gd : Nat)
/-! maps of blocks, by gen_cxt.py -/
structure H1 where
  a0 : Option AObj
  a1 : Option AObj
  a2 : Option AObj
  a3 : Option AObj
  a4 : Option AObj
  a5 : Option AObj
  a6 : Option AObj
  a7 : Option AObj
structure H2 where
  a0 : H1
  a1 : H1
  a2 : H1
  a3 : H1
  a4 : H1
  a5 : H1
  a6 : H1
  a7 : H1
structure H3 where
  a0 : H2
  a1 : H2
  a2 : H2
  a3 : H2
  a4 : H2
  a5 : H2
  a6 : H2
  a7 : H2
structure H4 where
  a0 : H3
  a1 : H3
  a2 : H3
  a3 : H3
  a4 : H3
  a5 : H3
  a6 : H3
  a7 : H3
structure H5 where
  a0 : H4
  a1 : H4
  a2 : H4
  a3 : H4
  a4 : H4
  a5 : H4
  a6 : H4
  a7 : H4
structure H6 where
  a0 : H5
  a1 : H5
  a2 : H5
  a3 : H5
  a4 : H5
  a5 : H5
  a6 : H5
  a7 : H5
inductive TH where
  | leaf
  | t1 (t : H1)
  | t2 (t : H2)
  | t3 (t : H3)
  | t4 (t : H4)
  | t5 (t : H5)
  | t6 (t : H6)
noncomputable def selH1 (d : D8) : H1 → (Option AObj) := D8.rec (motive := fun _ => H1 → (Option AObj)) (fun t => t.a0) (fun t => t.a1) (fun t => t.a2) (fun t => t.a3) (fun t => t.a4) (fun t => t.a5) (fun t => t.a6) (fun t => t.a7) d
noncomputable def updH1 (d : D8) : H1 → ((Option AObj) → ((Option AObj) → Option TH) → Option TH) → (H1 → Option TH) → Option TH := D8.rec (motive := fun _ => H1 → ((Option AObj) → ((Option AObj) → Option TH) → Option TH) → (H1 → Option TH) → Option TH) (H1.rec (motive := fun _ => ((Option AObj) → ((Option AObj) → Option TH) → Option TH) → (H1 → Option TH) → Option TH) (fun a0 a1 a2 a3 a4 a5 a6 a7 f K => f a0 fun b => K (.mk b a1 a2 a3 a4 a5 a6 a7))) (H1.rec (motive := fun _ => ((Option AObj) → ((Option AObj) → Option TH) → Option TH) → (H1 → Option TH) → Option TH) (fun a0 a1 a2 a3 a4 a5 a6 a7 f K => f a1 fun b => K (.mk a0 b a2 a3 a4 a5 a6 a7))) (H1.rec (motive := fun _ => ((Option AObj) → ((Option AObj) → Option TH) → Option TH) → (H1 → Option TH) → Option TH) (fun a0 a1 a2 a3 a4 a5 a6 a7 f K => f a2 fun b => K (.mk a0 a1 b a3 a4 a5 a6 a7))) (H1.rec (motive := fun _ => ((Option AObj) → ((Option AObj) → Option TH) → Option TH) → (H1 → Option TH) → Option TH) (fun a0 a1 a2 a3 a4 a5 a6 a7 f K => f a3 fun b => K (.mk a0 a1 a2 b a4 a5 a6 a7))) (H1.rec (motive := fun _ => ((Option AObj) → ((Option AObj) → Option TH) → Option TH) → (H1 → Option TH) → Option TH) (fun a0 a1 a2 a3 a4 a5 a6 a7 f K => f a4 fun b => K (.mk a0 a1 a2 a3 b a5 a6 a7))) (H1.rec (motive := fun _ => ((Option AObj) → ((Option AObj) → Option TH) → Option TH) → (H1 → Option TH) → Option TH) (fun a0 a1 a2 a3 a4 a5 a6 a7 f K => f a5 fun b => K (.mk a0 a1 a2 a3 a4 b a6 a7))) (H1.rec (motive := fun _ => ((Option AObj) → ((Option AObj) → Option TH) → Option TH) → (H1 → Option TH) → Option TH) (fun a0 a1 a2 a3 a4 a5 a6 a7 f K => f a6 fun b => K (.mk a0 a1 a2 a3 a4 a5 b a7))) (H1.rec (motive := fun _ => ((Option AObj) → ((Option AObj) → Option TH) → Option TH) → (H1 → Option TH) → Option TH) (fun a0 a1 a2 a3 a4 a5 a6 a7 f K => f a7 fun b => K (.mk a0 a1 a2 a3 a4 a5 a6 b))) d
def setH1 (d : D8) (b : (Option AObj)) (t : H1) : H1 :=
  match d with
  | .d0 => { t with a0 := b }
  | .d1 => { t with a1 := b }
  | .d2 => { t with a2 := b }
  | .d3 => { t with a3 := b }
  | .d4 => { t with a4 := b }
  | .d5 => { t with a5 := b }
  | .d6 => { t with a6 := b }
  | .d7 => { t with a7 := b }
theorem sel_setH1 (d e : D8) (b : (Option AObj)) (t : H1) : selH1 e (setH1 d b t) = if d = e then b else selH1 e t := by cases d <;> cases e <;> rfl
theorem updH1_eq (d : D8) (t : H1) (f : ((Option AObj) → ((Option AObj) → Option TH) → Option TH)) (K : (H1 → Option TH)) : updH1 d t f K = f (selH1 d t) fun b => K (setH1 d b t) := by cases d <;> cases t <;> rfl
noncomputable def selH2 (d : D8) : H2 → H1 := D8.rec (motive := fun _ => H2 → H1) (fun t => t.a0) (fun t => t.a1) (fun t => t.a2) (fun t => t.a3) (fun t => t.a4) (fun t => t.a5) (fun t => t.a6) (fun t => t.a7) d
noncomputable def updH2 (d : D8) : H2 → (H1 → (H1 → Option TH) → Option TH) → (H2 → Option TH) → Option TH := D8.rec (motive := fun _ => H2 → (H1 → (H1 → Option TH) → Option TH) → (H2 → Option TH) → Option TH) (H2.rec (motive := fun _ => (H1 → (H1 → Option TH) → Option TH) → (H2 → Option TH) → Option TH) (fun a0 a1 a2 a3 a4 a5 a6 a7 f K => f a0 fun b => K (.mk b a1 a2 a3 a4 a5 a6 a7))) (H2.rec (motive := fun _ => (H1 → (H1 → Option TH) → Option TH) → (H2 → Option TH) → Option TH) (fun a0 a1 a2 a3 a4 a5 a6 a7 f K => f a1 fun b => K (.mk a0 b a2 a3 a4 a5 a6 a7))) (H2.rec (motive := fun _ => (H1 → (H1 → Option TH) → Option TH) → (H2 → Option TH) → Option TH) (fun a0 a1 a2 a3 a4 a5 a6 a7 f K => f a2 fun b => K (.mk a0 a1 b a3 a4 a5 a6 a7))) (H2.rec (motive := fun _ => (H1 → (H1 → Option TH) → Option TH) → (H2 → Option TH) → Option TH) (fun a0 a1 a2 a3 a4 a5 a6 a7 f K => f a3 fun b => K (.mk a0 a1 a2 b a4 a5 a6 a7))) (H2.rec (motive := fun _ => (H1 → (H1 → Option TH) → Option TH) → (H2 → Option TH) → Option TH) (fun a0 a1 a2 a3 a4 a5 a6 a7 f K => f a4 fun b => K (.mk a0 a1 a2 a3 b a5 a6 a7))) (H2.rec (motive := fun _ => (H1 → (H1 → Option TH) → Option TH) → (H2 → Option TH) → Option TH) (fun a0 a1 a2 a3 a4 a5 a6 a7 f K => f a5 fun b => K (.mk a0 a1 a2 a3 a4 b a6 a7))) (H2.rec (motive := fun _ => (H1 → (H1 → Option TH) → Option TH) → (H2 → Option TH) → Option TH) (fun a0 a1 a2 a3 a4 a5 a6 a7 f K => f a6 fun b => K (.mk a0 a1 a2 a3 a4 a5 b a7))) (H2.rec (motive := fun _ => (H1 → (H1 → Option TH) → Option TH) → (H2 → Option TH) → Option TH) (fun a0 a1 a2 a3 a4 a5 a6 a7 f K => f a7 fun b => K (.mk a0 a1 a2 a3 a4 a5 a6 b))) d
def setH2 (d : D8) (b : H1) (t : H2) : H2 :=
  match d with
  | .d0 => { t with a0 := b }
  | .d1 => { t with a1 := b }
  | .d2 => { t with a2 := b }
  | .d3 => { t with a3 := b }
  | .d4 => { t with a4 := b }
  | .d5 => { t with a5 := b }
  | .d6 => { t with a6 := b }
  | .d7 => { t with a7 := b }
theorem sel_setH2 (d e : D8) (b : H1) (t : H2) : selH2 e (setH2 d b t) = if d = e then b else selH2 e t := by cases d <;> cases e <;> rfl
theorem updH2_eq (d : D8) (t : H2) (f : (H1 → (H1 → Option TH) → Option TH)) (K : (H2 → Option TH)) : updH2 d t f K = f (selH2 d t) fun b => K (setH2 d b t) := by cases d <;> cases t <;> rfl
noncomputable def selH3 (d : D8) : H3 → H2 := D8.rec (motive := fun _ => H3 → H2) (fun t => t.a0) (fun t => t.a1) (fun t => t.a2) (fun t => t.a3) (fun t => t.a4) (fun t => t.a5) (fun t => t.a6) (fun t => t.a7) d
noncomputable def updH3 (d : D8) : H3 → (H2 → (H2 → Option TH) → Option TH) → (H3 → Option TH) → Option TH := D8.rec (motive := fun _ => H3 → (H2 → (H2 → Option TH) → Option TH) → (H3 → Option TH) → Option TH) (H3.rec (motive := fun _ => (H2 → (H2 → Option TH) → Option TH) → (H3 → Option TH) → Option TH) (fun a0 a1 a2 a3 a4 a5 a6 a7 f K => f a0 fun b => K (.mk b a1 a2 a3 a4 a5 a6 a7))) (H3.rec (motive := fun _ => (H2 → (H2 → Option TH) → Option TH) → (H3 → Option TH) → Option TH) (fun a0 a1 a2 a3 a4 a5 a6 a7 f K => f a1 fun b => K (.mk a0 b a2 a3 a4 a5 a6 a7))) (H3.rec (motive := fun _ => (H2 → (H2 → Option TH) → Option TH) → (H3 → Option TH) → Option TH) (fun a0 a1 a2 a3 a4 a5 a6 a7 f K => f a2 fun b => K (.mk a0 a1 b a3 a4 a5 a6 a7))) (H3.rec (motive := fun _ => (H2 → (H2 → Option TH) → Option TH) → (H3 → Option TH) → Option TH) (fun a0 a1 a2 a3 a4 a5 a6 a7 f K => f a3 fun b => K (.mk a0 a1 a2 b a4 a5 a6 a7))) (H3.rec (motive := fun _ => (H2 → (H2 → Option TH) → Option TH) → (H3 → Option TH) → Option TH) (fun a0 a1 a2 a3 a4 a5 a6 a7 f K => f a4 fun b => K (.mk a0 a1 a2 a3 b a5 a6 a7))) (H3.rec (motive := fun _ => (H2 → (H2 → Option TH) → Option TH) → (H3 → Option TH) → Option TH) (fun a0 a1 a2 a3 a4 a5 a6 a7 f K => f a5 fun b => K (.mk a0 a1 a2 a3 a4 b a6 a7))) (H3.rec (motive := fun _ => (H2 → (H2 → Option TH) → Option TH) → (H3 → Option TH) → Option TH) (fun a0 a1 a2 a3 a4 a5 a6 a7 f K => f a6 fun b => K (.mk a0 a1 a2 a3 a4 a5 b a7))) (H3.rec (motive := fun _ => (H2 → (H2 → Option TH) → Option TH) → (H3 → Option TH) → Option TH) (fun a0 a1 a2 a3 a4 a5 a6 a7 f K => f a7 fun b => K (.mk a0 a1 a2 a3 a4 a5 a6 b))) d
def setH3 (d : D8) (b : H2) (t : H3) : H3 :=
  match d with
  | .d0 => { t with a0 := b }
  | .d1 => { t with a1 := b }
  | .d2 => { t with a2 := b }
  | .d3 => { t with a3 := b }
  | .d4 => { t with a4 := b }
  | .d5 => { t with a5 := b }
  | .d6 => { t with a6 := b }
  | .d7 => { t with a7 := b }
theorem sel_setH3 (d e : D8) (b : H2) (t : H3) : selH3 e (setH3 d b t) = if d = e then b else selH3 e t := by cases d <;> cases e <;> rfl
theorem updH3_eq (d : D8) (t : H3) (f : (H2 → (H2 → Option TH) → Option TH)) (K : (H3 → Option TH)) : updH3 d t f K = f (selH3 d t) fun b => K (setH3 d b t) := by cases d <;> cases t <;> rfl
noncomputable def selH4 (d : D8) : H4 → H3 := D8.rec (motive := fun _ => H4 → H3) (fun t => t.a0) (fun t => t.a1) (fun t => t.a2) (fun t => t.a3) (fun t => t.a4) (fun t => t.a5) (fun t => t.a6) (fun t => t.a7) d
noncomputable def updH4 (d : D8) : H4 → (H3 → (H3 → Option TH) → Option TH) → (H4 → Option TH) → Option TH := D8.rec (motive := fun _ => H4 → (H3 → (H3 → Option TH) → Option TH) → (H4 → Option TH) → Option TH) (H4.rec (motive := fun _ => (H3 → (H3 → Option TH) → Option TH) → (H4 → Option TH) → Option TH) (fun a0 a1 a2 a3 a4 a5 a6 a7 f K => f a0 fun b => K (.mk b a1 a2 a3 a4 a5 a6 a7))) (H4.rec (motive := fun _ => (H3 → (H3 → Option TH) → Option TH) → (H4 → Option TH) → Option TH) (fun a0 a1 a2 a3 a4 a5 a6 a7 f K => f a1 fun b => K (.mk a0 b a2 a3 a4 a5 a6 a7))) (H4.rec (motive := fun _ => (H3 → (H3 → Option TH) → Option TH) → (H4 → Option TH) → Option TH) (fun a0 a1 a2 a3 a4 a5 a6 a7 f K => f a2 fun b => K (.mk a0 a1 b a3 a4 a5 a6 a7))) (H4.rec (motive := fun _ => (H3 → (H3 → Option TH) → Option TH) → (H4 → Option TH) → Option TH) (fun a0 a1 a2 a3 a4 a5 a6 a7 f K => f a3 fun b => K (.mk a0 a1 a2 b a4 a5 a6 a7))) (H4.rec (motive := fun _ => (H3 → (H3 → Option TH) → Option TH) → (H4 → Option TH) → Option TH) (fun a0 a1 a2 a3 a4 a5 a6 a7 f K => f a4 fun b => K (.mk a0 a1 a2 a3 b a5 a6 a7))) (H4.rec (motive := fun _ => (H3 → (H3 → Option TH) → Option TH) → (H4 → Option TH) → Option TH) (fun a0 a1 a2 a3 a4 a5 a6 a7 f K => f a5 fun b => K (.mk a0 a1 a2 a3 a4 b a6 a7))) (H4.rec (motive := fun _ => (H3 → (H3 → Option TH) → Option TH) → (H4 → Option TH) → Option TH) (fun a0 a1 a2 a3 a4 a5 a6 a7 f K => f a6 fun b => K (.mk a0 a1 a2 a3 a4 a5 b a7))) (H4.rec (motive := fun _ => (H3 → (H3 → Option TH) → Option TH) → (H4 → Option TH) → Option TH) (fun a0 a1 a2 a3 a4 a5 a6 a7 f K => f a7 fun b => K (.mk a0 a1 a2 a3 a4 a5 a6 b))) d
def setH4 (d : D8) (b : H3) (t : H4) : H4 :=
  match d with
  | .d0 => { t with a0 := b }
  | .d1 => { t with a1 := b }
  | .d2 => { t with a2 := b }
  | .d3 => { t with a3 := b }
  | .d4 => { t with a4 := b }
  | .d5 => { t with a5 := b }
  | .d6 => { t with a6 := b }
  | .d7 => { t with a7 := b }
theorem sel_setH4 (d e : D8) (b : H3) (t : H4) : selH4 e (setH4 d b t) = if d = e then b else selH4 e t := by cases d <;> cases e <;> rfl
theorem updH4_eq (d : D8) (t : H4) (f : (H3 → (H3 → Option TH) → Option TH)) (K : (H4 → Option TH)) : updH4 d t f K = f (selH4 d t) fun b => K (setH4 d b t) := by cases d <;> cases t <;> rfl
noncomputable def selH5 (d : D8) : H5 → H4 := D8.rec (motive := fun _ => H5 → H4) (fun t => t.a0) (fun t => t.a1) (fun t => t.a2) (fun t => t.a3) (fun t => t.a4) (fun t => t.a5) (fun t => t.a6) (fun t => t.a7) d
noncomputable def updH5 (d : D8) : H5 → (H4 → (H4 → Option TH) → Option TH) → (H5 → Option TH) → Option TH := D8.rec (motive := fun _ => H5 → (H4 → (H4 → Option TH) → Option TH) → (H5 → Option TH) → Option TH) (H5.rec (motive := fun _ => (H4 → (H4 → Option TH) → Option TH) → (H5 → Option TH) → Option TH) (fun a0 a1 a2 a3 a4 a5 a6 a7 f K => f a0 fun b => K (.mk b a1 a2 a3 a4 a5 a6 a7))) (H5.rec (motive := fun _ => (H4 → (H4 → Option TH) → Option TH) → (H5 → Option TH) → Option TH) (fun a0 a1 a2 a3 a4 a5 a6 a7 f K => f a1 fun b => K (.mk a0 b a2 a3 a4 a5 a6 a7))) (H5.rec (motive := fun _ => (H4 → (H4 → Option TH) → Option TH) → (H5 → Option TH) → Option TH) (fun a0 a1 a2 a3 a4 a5 a6 a7 f K => f a2 fun b => K (.mk a0 a1 b a3 a4 a5 a6 a7))) (H5.rec (motive := fun _ => (H4 → (H4 → Option TH) → Option TH) → (H5 → Option TH) → Option TH) (fun a0 a1 a2 a3 a4 a5 a6 a7 f K => f a3 fun b => K (.mk a0 a1 a2 b a4 a5 a6 a7))) (H5.rec (motive := fun _ => (H4 → (H4 → Option TH) → Option TH) → (H5 → Option TH) → Option TH) (fun a0 a1 a2 a3 a4 a5 a6 a7 f K => f a4 fun b => K (.mk a0 a1 a2 a3 b a5 a6 a7))) (H5.rec (motive := fun _ => (H4 → (H4 → Option TH) → Option TH) → (H5 → Option TH) → Option TH) (fun a0 a1 a2 a3 a4 a5 a6 a7 f K => f a5 fun b => K (.mk a0 a1 a2 a3 a4 b a6 a7))) (H5.rec (motive := fun _ => (H4 → (H4 → Option TH) → Option TH) → (H5 → Option TH) → Option TH) (fun a0 a1 a2 a3 a4 a5 a6 a7 f K => f a6 fun b => K (.mk a0 a1 a2 a3 a4 a5 b a7))) (H5.rec (motive := fun _ => (H4 → (H4 → Option TH) → Option TH) → (H5 → Option TH) → Option TH) (fun a0 a1 a2 a3 a4 a5 a6 a7 f K => f a7 fun b => K (.mk a0 a1 a2 a3 a4 a5 a6 b))) d
def setH5 (d : D8) (b : H4) (t : H5) : H5 :=
  match d with
  | .d0 => { t with a0 := b }
  | .d1 => { t with a1 := b }
  | .d2 => { t with a2 := b }
  | .d3 => { t with a3 := b }
  | .d4 => { t with a4 := b }
  | .d5 => { t with a5 := b }
  | .d6 => { t with a6 := b }
  | .d7 => { t with a7 := b }
theorem sel_setH5 (d e : D8) (b : H4) (t : H5) : selH5 e (setH5 d b t) = if d = e then b else selH5 e t := by cases d <;> cases e <;> rfl
theorem updH5_eq (d : D8) (t : H5) (f : (H4 → (H4 → Option TH) → Option TH)) (K : (H5 → Option TH)) : updH5 d t f K = f (selH5 d t) fun b => K (setH5 d b t) := by cases d <;> cases t <;> rfl
noncomputable def selH6 (d : D8) : H6 → H5 := D8.rec (motive := fun _ => H6 → H5) (fun t => t.a0) (fun t => t.a1) (fun t => t.a2) (fun t => t.a3) (fun t => t.a4) (fun t => t.a5) (fun t => t.a6) (fun t => t.a7) d
noncomputable def updH6 (d : D8) : H6 → (H5 → (H5 → Option TH) → Option TH) → (H6 → Option TH) → Option TH := D8.rec (motive := fun _ => H6 → (H5 → (H5 → Option TH) → Option TH) → (H6 → Option TH) → Option TH) (H6.rec (motive := fun _ => (H5 → (H5 → Option TH) → Option TH) → (H6 → Option TH) → Option TH) (fun a0 a1 a2 a3 a4 a5 a6 a7 f K => f a0 fun b => K (.mk b a1 a2 a3 a4 a5 a6 a7))) (H6.rec (motive := fun _ => (H5 → (H5 → Option TH) → Option TH) → (H6 → Option TH) → Option TH) (fun a0 a1 a2 a3 a4 a5 a6 a7 f K => f a1 fun b => K (.mk a0 b a2 a3 a4 a5 a6 a7))) (H6.rec (motive := fun _ => (H5 → (H5 → Option TH) → Option TH) → (H6 → Option TH) → Option TH) (fun a0 a1 a2 a3 a4 a5 a6 a7 f K => f a2 fun b => K (.mk a0 a1 b a3 a4 a5 a6 a7))) (H6.rec (motive := fun _ => (H5 → (H5 → Option TH) → Option TH) → (H6 → Option TH) → Option TH) (fun a0 a1 a2 a3 a4 a5 a6 a7 f K => f a3 fun b => K (.mk a0 a1 a2 b a4 a5 a6 a7))) (H6.rec (motive := fun _ => (H5 → (H5 → Option TH) → Option TH) → (H6 → Option TH) → Option TH) (fun a0 a1 a2 a3 a4 a5 a6 a7 f K => f a4 fun b => K (.mk a0 a1 a2 a3 b a5 a6 a7))) (H6.rec (motive := fun _ => (H5 → (H5 → Option TH) → Option TH) → (H6 → Option TH) → Option TH) (fun a0 a1 a2 a3 a4 a5 a6 a7 f K => f a5 fun b => K (.mk a0 a1 a2 a3 a4 b a6 a7))) (H6.rec (motive := fun _ => (H5 → (H5 → Option TH) → Option TH) → (H6 → Option TH) → Option TH) (fun a0 a1 a2 a3 a4 a5 a6 a7 f K => f a6 fun b => K (.mk a0 a1 a2 a3 a4 a5 b a7))) (H6.rec (motive := fun _ => (H5 → (H5 → Option TH) → Option TH) → (H6 → Option TH) → Option TH) (fun a0 a1 a2 a3 a4 a5 a6 a7 f K => f a7 fun b => K (.mk a0 a1 a2 a3 a4 a5 a6 b))) d
def setH6 (d : D8) (b : H5) (t : H6) : H6 :=
  match d with
  | .d0 => { t with a0 := b }
  | .d1 => { t with a1 := b }
  | .d2 => { t with a2 := b }
  | .d3 => { t with a3 := b }
  | .d4 => { t with a4 := b }
  | .d5 => { t with a5 := b }
  | .d6 => { t with a6 := b }
  | .d7 => { t with a7 := b }
theorem sel_setH6 (d e : D8) (b : H5) (t : H6) : selH6 e (setH6 d b t) = if d = e then b else selH6 e t := by cases d <;> cases e <;> rfl
theorem updH6_eq (d : D8) (t : H6) (f : (H5 → (H5 → Option TH) → Option TH)) (K : (H6 → Option TH)) : updH6 d t f K = f (selH6 d t) fun b => K (setH6 d b t) := by cases d <;> cases t <;> rfl
noncomputable def nilH1 : H1 := ⟨none, none, none, none, none, none, none, none⟩
noncomputable def nilH2 : H2 := ⟨nilH1, nilH1, nilH1, nilH1, nilH1, nilH1, nilH1, nilH1⟩
noncomputable def nilH3 : H3 := ⟨nilH2, nilH2, nilH2, nilH2, nilH2, nilH2, nilH2, nilH2⟩
noncomputable def nilH4 : H4 := ⟨nilH3, nilH3, nilH3, nilH3, nilH3, nilH3, nilH3, nilH3⟩
noncomputable def nilH5 : H5 := ⟨nilH4, nilH4, nilH4, nilH4, nilH4, nilH4, nilH4, nilH4⟩
noncomputable def nilH6 : H6 := ⟨nilH5, nilH5, nilH5, nilH5, nilH5, nilH5, nilH5, nilH5⟩
noncomputable def getH1 (t : H1) (k : Nat) : Option AObj := selH1 (g1 k) t
noncomputable def putH1 (x : Option AObj) (k : Nat) (t : H1) (K : H1 → Option TH) : Option TH := updH1 (g1 k) t (fun _ K => K x) K
noncomputable def getH2 (t : H2) (k : Nat) : Option AObj := getH1 (selH2 (g2 k) t) k
noncomputable def putH2 (x : Option AObj) (k : Nat) (t : H2) (K : H2 → Option TH) : Option TH := updH2 (g2 k) t (putH1 x k) K
noncomputable def getH3 (t : H3) (k : Nat) : Option AObj := getH2 (selH3 (g3 k) t) k
noncomputable def putH3 (x : Option AObj) (k : Nat) (t : H3) (K : H3 → Option TH) : Option TH := updH3 (g3 k) t (putH2 x k) K
noncomputable def getH4 (t : H4) (k : Nat) : Option AObj := getH3 (selH4 (g4 k) t) k
noncomputable def putH4 (x : Option AObj) (k : Nat) (t : H4) (K : H4 → Option TH) : Option TH := updH4 (g4 k) t (putH3 x k) K
noncomputable def getH5 (t : H5) (k : Nat) : Option AObj := getH4 (selH5 (g5 k) t) k
noncomputable def putH5 (x : Option AObj) (k : Nat) (t : H5) (K : H5 → Option TH) : Option TH := updH5 (g5 k) t (putH4 x k) K
noncomputable def getH6 (t : H6) (k : Nat) : Option AObj := getH5 (selH6 (g6 k) t) k
noncomputable def putH6 (x : Option AObj) (k : Nat) (t : H6) (K : H6 → Option TH) : Option TH := updH6 (g6 k) t (putH5 x k) K
theorem nilH1_get (j : Nat) : getH1 nilH1 j = none := by
  unfold getH1; cases g1 j <;> rfl
theorem putH1_par {x : Option AObj} {k : Nat} {t : H1} : ∃ t', (∀ K : H1 → Option TH, putH1 x k t K = K t') ∧ ∀ j, getH1 t' j = if j % 8 = k % 8 then x else getH1 t j := by
  refine ⟨setH1 (g1 k) x t, fun K => by unfold putH1; rw [updH1_eq], fun j => ?_⟩
  unfold getH1
  rw [sel_setH1]
  by_cases hj : j % 8 = k % 8
  · rw [if_pos (show g1 k = g1 j by unfold g1; rw [nmod, nmod, hj]), if_pos hj]
  · rw [if_neg (show ¬ g1 k = g1 j from fun e => hj ((dig_mod e).symm)), if_neg hj]
theorem nilH2_get (j : Nat) : getH2 nilH2 j = none := by
  unfold getH2; cases g2 j <;> exact nilH1_get j
theorem putH2_par {x : Option AObj} {k : Nat} {t : H2} : ∃ t', (∀ K : H2 → Option TH, putH2 x k t K = K t') ∧ ∀ j, getH2 t' j = if j % 64 = k % 64 then x else getH2 t j := by
  obtain ⟨u, hK, hu⟩ := putH1_par (x := x) (k := k) (t := selH2 (g2 k) t)
  refine ⟨setH2 (g2 k) u t, fun K => by unfold putH2; rw [updH2_eq]; exact hK _, fun j => ?_⟩
  unfold getH2
  rw [sel_setH2]
  by_cases hd : g2 k = g2 j
  · have e : k / 8 % 8 = j / 8 % 8 := dig_mod hd
    rw [if_pos hd, hu, ← hd]
    by_cases hj : j % 8 = k % 8
    · rw [if_pos hj, if_pos (by omega)]
    · rw [if_neg hj, if_neg (by omega)]
  · rw [if_neg hd, if_neg (fun e => hd (by unfold g2; rw [nmod, nmod, ndiv, ndiv, show k / 8 % 8 = j / 8 % 8 by omega]))]
theorem nilH3_get (j : Nat) : getH3 nilH3 j = none := by
  unfold getH3; cases g3 j <;> exact nilH2_get j
theorem putH3_par {x : Option AObj} {k : Nat} {t : H3} : ∃ t', (∀ K : H3 → Option TH, putH3 x k t K = K t') ∧ ∀ j, getH3 t' j = if j % 512 = k % 512 then x else getH3 t j := by
  obtain ⟨u, hK, hu⟩ := putH2_par (x := x) (k := k) (t := selH3 (g3 k) t)
  refine ⟨setH3 (g3 k) u t, fun K => by unfold putH3; rw [updH3_eq]; exact hK _, fun j => ?_⟩
  unfold getH3
  rw [sel_setH3]
  by_cases hd : g3 k = g3 j
  · have e : k / 64 % 8 = j / 64 % 8 := dig_mod hd
    rw [if_pos hd, hu, ← hd]
    by_cases hj : j % 64 = k % 64
    · rw [if_pos hj, if_pos (by omega)]
    · rw [if_neg hj, if_neg (by omega)]
  · rw [if_neg hd, if_neg (fun e => hd (by unfold g3; rw [nmod, nmod, ndiv, ndiv, show k / 64 % 8 = j / 64 % 8 by omega]))]
theorem nilH4_get (j : Nat) : getH4 nilH4 j = none := by
  unfold getH4; cases g4 j <;> exact nilH3_get j
theorem putH4_par {x : Option AObj} {k : Nat} {t : H4} : ∃ t', (∀ K : H4 → Option TH, putH4 x k t K = K t') ∧ ∀ j, getH4 t' j = if j % 4096 = k % 4096 then x else getH4 t j := by
  obtain ⟨u, hK, hu⟩ := putH3_par (x := x) (k := k) (t := selH4 (g4 k) t)
  refine ⟨setH4 (g4 k) u t, fun K => by unfold putH4; rw [updH4_eq]; exact hK _, fun j => ?_⟩
  unfold getH4
  rw [sel_setH4]
  by_cases hd : g4 k = g4 j
  · have e : k / 512 % 8 = j / 512 % 8 := dig_mod hd
    rw [if_pos hd, hu, ← hd]
    by_cases hj : j % 512 = k % 512
    · rw [if_pos hj, if_pos (by omega)]
    · rw [if_neg hj, if_neg (by omega)]
  · rw [if_neg hd, if_neg (fun e => hd (by unfold g4; rw [nmod, nmod, ndiv, ndiv, show k / 512 % 8 = j / 512 % 8 by omega]))]
theorem nilH5_get (j : Nat) : getH5 nilH5 j = none := by
  unfold getH5; cases g5 j <;> exact nilH4_get j
theorem putH5_par {x : Option AObj} {k : Nat} {t : H5} : ∃ t', (∀ K : H5 → Option TH, putH5 x k t K = K t') ∧ ∀ j, getH5 t' j = if j % 32768 = k % 32768 then x else getH5 t j := by
  obtain ⟨u, hK, hu⟩ := putH4_par (x := x) (k := k) (t := selH5 (g5 k) t)
  refine ⟨setH5 (g5 k) u t, fun K => by unfold putH5; rw [updH5_eq]; exact hK _, fun j => ?_⟩
  unfold getH5
  rw [sel_setH5]
  by_cases hd : g5 k = g5 j
  · have e : k / 4096 % 8 = j / 4096 % 8 := dig_mod hd
    rw [if_pos hd, hu, ← hd]
    by_cases hj : j % 4096 = k % 4096
    · rw [if_pos hj, if_pos (by omega)]
    · rw [if_neg hj, if_neg (by omega)]
  · rw [if_neg hd, if_neg (fun e => hd (by unfold g5; rw [nmod, nmod, ndiv, ndiv, show k / 4096 % 8 = j / 4096 % 8 by omega]))]
theorem nilH6_get (j : Nat) : getH6 nilH6 j = none := by
  unfold getH6; cases g6 j <;> exact nilH5_get j
theorem putH6_par {x : Option AObj} {k : Nat} {t : H6} : ∃ t', (∀ K : H6 → Option TH, putH6 x k t K = K t') ∧ ∀ j, getH6 t' j = if j % 262144 = k % 262144 then x else getH6 t j := by
  obtain ⟨u, hK, hu⟩ := putH5_par (x := x) (k := k) (t := selH6 (g6 k) t)
  refine ⟨setH6 (g6 k) u t, fun K => by unfold putH6; rw [updH6_eq]; exact hK _, fun j => ?_⟩
  unfold getH6
  rw [sel_setH6]
  by_cases hd : g6 k = g6 j
  · have e : k / 32768 % 8 = j / 32768 % 8 := dig_mod hd
    rw [if_pos hd, hu, ← hd]
    by_cases hj : j % 32768 = k % 32768
    · rw [if_pos hj, if_pos (by omega)]
    · rw [if_neg hj, if_neg (by omega)]
  · rw [if_neg hd, if_neg (fun e => hd (by unfold g6; rw [nmod, nmod, ndiv, ndiv, show k / 32768 % 8 = j / 32768 % 8 by omega]))]
noncomputable def TH.get (t : TH) : Nat → Option AObj :=
  TH.rec (motive := fun _ => Nat → Option AObj) (fun _ => none) (fun t k => bif Nat.blt k 8 then getH1 t k else none) (fun t k => bif Nat.blt k 64 then getH2 t k else none) (fun t k => bif Nat.blt k 512 then getH3 t k else none) (fun t k => bif Nat.blt k 4096 then getH4 t k else none) (fun t k => bif Nat.blt k 32768 then getH5 t k else none) (fun t k => bif Nat.blt k 262144 then getH6 t k else none) t
noncomputable def upH6 (x : Option AObj) (k : Nat) (t : H6) : Option TH := bif Nat.blt k 262144 then putH6 x k t (fun t => some (.t6 t)) else none
noncomputable def upH5 (x : Option AObj) (k : Nat) (t : H5) : Option TH := bif Nat.blt k 32768 then putH5 x k t (fun t => some (.t5 t)) else upH6 x k (.mk t nilH5 nilH5 nilH5 nilH5 nilH5 nilH5 nilH5)
noncomputable def upH4 (x : Option AObj) (k : Nat) (t : H4) : Option TH := bif Nat.blt k 4096 then putH4 x k t (fun t => some (.t4 t)) else upH5 x k (.mk t nilH4 nilH4 nilH4 nilH4 nilH4 nilH4 nilH4)
noncomputable def upH3 (x : Option AObj) (k : Nat) (t : H3) : Option TH := bif Nat.blt k 512 then putH3 x k t (fun t => some (.t3 t)) else upH4 x k (.mk t nilH3 nilH3 nilH3 nilH3 nilH3 nilH3 nilH3)
noncomputable def upH2 (x : Option AObj) (k : Nat) (t : H2) : Option TH := bif Nat.blt k 64 then putH2 x k t (fun t => some (.t2 t)) else upH3 x k (.mk t nilH2 nilH2 nilH2 nilH2 nilH2 nilH2 nilH2)
noncomputable def upH1 (x : Option AObj) (k : Nat) (t : H1) : Option TH := bif Nat.blt k 8 then putH1 x k t (fun t => some (.t1 t)) else upH2 x k (.mk t nilH1 nilH1 nilH1 nilH1 nilH1 nilH1 nilH1)
/-- Put at a number. -/
noncomputable def TH.put1 (t : TH) : Option AObj → Nat → Option TH :=
  TH.rec (motive := fun _ => Option AObj → Nat → Option TH) (fun x k => upH1 x k nilH1) (fun t x k => upH1 x k t) (fun t x k => upH2 x k t) (fun t x k => upH3 x k t) (fun t x k => upH4 x k t) (fun t x k => upH5 x k t) (fun t x k => upH6 x k t) t
noncomputable def TH.put {β : Type} (x : Option AObj) (_ : Nat) (t : TH) (k : Nat) (K : TH → Option β) : Option β :=
  Option.rec (motive := fun _ => Option β) none K (TH.put1 t x k)
theorem TH.get_leaf (k : Nat) : (TH.leaf).get k = none := rfl
theorem upH6_some {x : Option AObj} {k : Nat} {t : H6} {t' : TH} (h : upH6 x k t = some t') : ∀ j, t'.get j = if j = k then x else (TH.t6 t).get j := by
  unfold upH6 at h
  obtain ⟨u, hK, hu⟩ := putH6_par (x := x) (k := k) (t := t)
  cases hb : Nat.blt k 262144 with
  | true =>
    rw [hb, cond_true, hK] at h
    cases h
    intro j
    rw [Nat.blt_eq] at hb
    show (bif Nat.blt j 262144 then getH6 u j else none) = if j = k then x else (bif Nat.blt j 262144 then getH6 t j else none)
    cases hj : Nat.blt j 262144 with
    | true =>
      rw [Nat.blt_eq] at hj
      show getH6 u j = if j = k then x else getH6 t j
      rw [hu]
      by_cases e : j = k
      · rw [if_pos (by omega), if_pos e]
      · rw [if_neg (by omega), if_neg e]
    | false =>
      rw [if_neg (fun e => by rw [e] at hj; have := blt_t hb; rw [hj] at this; cases this)]
      rfl
  | false =>
    rw [hb, cond_false] at h
    cases h
theorem upH5_some {x : Option AObj} {k : Nat} {t : H5} {t' : TH} (h : upH5 x k t = some t') : ∀ j, t'.get j = if j = k then x else (TH.t5 t).get j := by
  unfold upH5 at h
  obtain ⟨u, hK, hu⟩ := putH5_par (x := x) (k := k) (t := t)
  cases hb : Nat.blt k 32768 with
  | true =>
    rw [hb, cond_true, hK] at h
    cases h
    intro j
    rw [Nat.blt_eq] at hb
    show (bif Nat.blt j 32768 then getH5 u j else none) = if j = k then x else (bif Nat.blt j 32768 then getH5 t j else none)
    cases hj : Nat.blt j 32768 with
    | true =>
      rw [Nat.blt_eq] at hj
      show getH5 u j = if j = k then x else getH5 t j
      rw [hu]
      by_cases e : j = k
      · rw [if_pos (by omega), if_pos e]
      · rw [if_neg (by omega), if_neg e]
    | false =>
      rw [if_neg (fun e => by rw [e] at hj; have := blt_t hb; rw [hj] at this; cases this)]
      rfl
  | false =>
    rw [hb, cond_false] at h
    have ht := upH6_some h
    intro j
    rw [ht]
    by_cases e : j = k
    · rw [if_pos e, if_pos e]
    · rw [if_neg e, if_neg e]
      show (bif Nat.blt j 262144 then getH5 (selH6 (g6 j) _) j else none) = (bif Nat.blt j 32768 then getH5 t j else none)
      cases hj : Nat.blt j 32768 with
      | true =>
        rw [Nat.blt_eq] at hj
        rw [show Nat.blt j 262144 = true from blt_t (by omega), show g6 j = .d0 by unfold g6; rw [nmod, ndiv, show j / 32768 % 8 = 0 by omega]; rfl]
        rfl
      | false =>
        have hj' : ¬ j < 32768 := fun l => by have := blt_t l; rw [hj] at this; cases this
        cases hj2 : Nat.blt j 262144 with
        | false => rfl
        | true =>
          rw [Nat.blt_eq] at hj2
          have hne : g6 j ≠ .d0 := fun e0 => by
            have := dig_mod (i := j / 32768) (j := 0) (show dig (Nat.mod (j / 32768) 8) = dig (Nat.mod 0 8) from e0)
            omega
          show getH5 (selH6 (g6 j) (.mk t nilH5 nilH5 nilH5 nilH5 nilH5 nilH5 nilH5)) j = none
          cases hg : g6 j <;> first | exact absurd hg hne | exact nilH5_get j
theorem upH4_some {x : Option AObj} {k : Nat} {t : H4} {t' : TH} (h : upH4 x k t = some t') : ∀ j, t'.get j = if j = k then x else (TH.t4 t).get j := by
  unfold upH4 at h
  obtain ⟨u, hK, hu⟩ := putH4_par (x := x) (k := k) (t := t)
  cases hb : Nat.blt k 4096 with
  | true =>
    rw [hb, cond_true, hK] at h
    cases h
    intro j
    rw [Nat.blt_eq] at hb
    show (bif Nat.blt j 4096 then getH4 u j else none) = if j = k then x else (bif Nat.blt j 4096 then getH4 t j else none)
    cases hj : Nat.blt j 4096 with
    | true =>
      rw [Nat.blt_eq] at hj
      show getH4 u j = if j = k then x else getH4 t j
      rw [hu]
      by_cases e : j = k
      · rw [if_pos (by omega), if_pos e]
      · rw [if_neg (by omega), if_neg e]
    | false =>
      rw [if_neg (fun e => by rw [e] at hj; have := blt_t hb; rw [hj] at this; cases this)]
      rfl
  | false =>
    rw [hb, cond_false] at h
    have ht := upH5_some h
    intro j
    rw [ht]
    by_cases e : j = k
    · rw [if_pos e, if_pos e]
    · rw [if_neg e, if_neg e]
      show (bif Nat.blt j 32768 then getH4 (selH5 (g5 j) _) j else none) = (bif Nat.blt j 4096 then getH4 t j else none)
      cases hj : Nat.blt j 4096 with
      | true =>
        rw [Nat.blt_eq] at hj
        rw [show Nat.blt j 32768 = true from blt_t (by omega), show g5 j = .d0 by unfold g5; rw [nmod, ndiv, show j / 4096 % 8 = 0 by omega]; rfl]
        rfl
      | false =>
        have hj' : ¬ j < 4096 := fun l => by have := blt_t l; rw [hj] at this; cases this
        cases hj2 : Nat.blt j 32768 with
        | false => rfl
        | true =>
          rw [Nat.blt_eq] at hj2
          have hne : g5 j ≠ .d0 := fun e0 => by
            have := dig_mod (i := j / 4096) (j := 0) (show dig (Nat.mod (j / 4096) 8) = dig (Nat.mod 0 8) from e0)
            omega
          show getH4 (selH5 (g5 j) (.mk t nilH4 nilH4 nilH4 nilH4 nilH4 nilH4 nilH4)) j = none
          cases hg : g5 j <;> first | exact absurd hg hne | exact nilH4_get j
theorem upH3_some {x : Option AObj} {k : Nat} {t : H3} {t' : TH} (h : upH3 x k t = some t') : ∀ j, t'.get j = if j = k then x else (TH.t3 t).get j := by
  unfold upH3 at h
  obtain ⟨u, hK, hu⟩ := putH3_par (x := x) (k := k) (t := t)
  cases hb : Nat.blt k 512 with
  | true =>
    rw [hb, cond_true, hK] at h
    cases h
    intro j
    rw [Nat.blt_eq] at hb
    show (bif Nat.blt j 512 then getH3 u j else none) = if j = k then x else (bif Nat.blt j 512 then getH3 t j else none)
    cases hj : Nat.blt j 512 with
    | true =>
      rw [Nat.blt_eq] at hj
      show getH3 u j = if j = k then x else getH3 t j
      rw [hu]
      by_cases e : j = k
      · rw [if_pos (by omega), if_pos e]
      · rw [if_neg (by omega), if_neg e]
    | false =>
      rw [if_neg (fun e => by rw [e] at hj; have := blt_t hb; rw [hj] at this; cases this)]
      rfl
  | false =>
    rw [hb, cond_false] at h
    have ht := upH4_some h
    intro j
    rw [ht]
    by_cases e : j = k
    · rw [if_pos e, if_pos e]
    · rw [if_neg e, if_neg e]
      show (bif Nat.blt j 4096 then getH3 (selH4 (g4 j) _) j else none) = (bif Nat.blt j 512 then getH3 t j else none)
      cases hj : Nat.blt j 512 with
      | true =>
        rw [Nat.blt_eq] at hj
        rw [show Nat.blt j 4096 = true from blt_t (by omega), show g4 j = .d0 by unfold g4; rw [nmod, ndiv, show j / 512 % 8 = 0 by omega]; rfl]
        rfl
      | false =>
        have hj' : ¬ j < 512 := fun l => by have := blt_t l; rw [hj] at this; cases this
        cases hj2 : Nat.blt j 4096 with
        | false => rfl
        | true =>
          rw [Nat.blt_eq] at hj2
          have hne : g4 j ≠ .d0 := fun e0 => by
            have := dig_mod (i := j / 512) (j := 0) (show dig (Nat.mod (j / 512) 8) = dig (Nat.mod 0 8) from e0)
            omega
          show getH3 (selH4 (g4 j) (.mk t nilH3 nilH3 nilH3 nilH3 nilH3 nilH3 nilH3)) j = none
          cases hg : g4 j <;> first | exact absurd hg hne | exact nilH3_get j
theorem upH2_some {x : Option AObj} {k : Nat} {t : H2} {t' : TH} (h : upH2 x k t = some t') : ∀ j, t'.get j = if j = k then x else (TH.t2 t).get j := by
  unfold upH2 at h
  obtain ⟨u, hK, hu⟩ := putH2_par (x := x) (k := k) (t := t)
  cases hb : Nat.blt k 64 with
  | true =>
    rw [hb, cond_true, hK] at h
    cases h
    intro j
    rw [Nat.blt_eq] at hb
    show (bif Nat.blt j 64 then getH2 u j else none) = if j = k then x else (bif Nat.blt j 64 then getH2 t j else none)
    cases hj : Nat.blt j 64 with
    | true =>
      rw [Nat.blt_eq] at hj
      show getH2 u j = if j = k then x else getH2 t j
      rw [hu]
      by_cases e : j = k
      · rw [if_pos (by omega), if_pos e]
      · rw [if_neg (by omega), if_neg e]
    | false =>
      rw [if_neg (fun e => by rw [e] at hj; have := blt_t hb; rw [hj] at this; cases this)]
      rfl
  | false =>
    rw [hb, cond_false] at h
    have ht := upH3_some h
    intro j
    rw [ht]
    by_cases e : j = k
    · rw [if_pos e, if_pos e]
    · rw [if_neg e, if_neg e]
      show (bif Nat.blt j 512 then getH2 (selH3 (g3 j) _) j else none) = (bif Nat.blt j 64 then getH2 t j else none)
      cases hj : Nat.blt j 64 with
      | true =>
        rw [Nat.blt_eq] at hj
        rw [show Nat.blt j 512 = true from blt_t (by omega), show g3 j = .d0 by unfold g3; rw [nmod, ndiv, show j / 64 % 8 = 0 by omega]; rfl]
        rfl
      | false =>
        have hj' : ¬ j < 64 := fun l => by have := blt_t l; rw [hj] at this; cases this
        cases hj2 : Nat.blt j 512 with
        | false => rfl
        | true =>
          rw [Nat.blt_eq] at hj2
          have hne : g3 j ≠ .d0 := fun e0 => by
            have := dig_mod (i := j / 64) (j := 0) (show dig (Nat.mod (j / 64) 8) = dig (Nat.mod 0 8) from e0)
            omega
          show getH2 (selH3 (g3 j) (.mk t nilH2 nilH2 nilH2 nilH2 nilH2 nilH2 nilH2)) j = none
          cases hg : g3 j <;> first | exact absurd hg hne | exact nilH2_get j
theorem upH1_some {x : Option AObj} {k : Nat} {t : H1} {t' : TH} (h : upH1 x k t = some t') : ∀ j, t'.get j = if j = k then x else (TH.t1 t).get j := by
  unfold upH1 at h
  obtain ⟨u, hK, hu⟩ := putH1_par (x := x) (k := k) (t := t)
  cases hb : Nat.blt k 8 with
  | true =>
    rw [hb, cond_true, hK] at h
    cases h
    intro j
    rw [Nat.blt_eq] at hb
    show (bif Nat.blt j 8 then getH1 u j else none) = if j = k then x else (bif Nat.blt j 8 then getH1 t j else none)
    cases hj : Nat.blt j 8 with
    | true =>
      rw [Nat.blt_eq] at hj
      show getH1 u j = if j = k then x else getH1 t j
      rw [hu]
      by_cases e : j = k
      · rw [if_pos (by omega), if_pos e]
      · rw [if_neg (by omega), if_neg e]
    | false =>
      rw [if_neg (fun e => by rw [e] at hj; have := blt_t hb; rw [hj] at this; cases this)]
      rfl
  | false =>
    rw [hb, cond_false] at h
    have ht := upH2_some h
    intro j
    rw [ht]
    by_cases e : j = k
    · rw [if_pos e, if_pos e]
    · rw [if_neg e, if_neg e]
      show (bif Nat.blt j 64 then getH1 (selH2 (g2 j) _) j else none) = (bif Nat.blt j 8 then getH1 t j else none)
      cases hj : Nat.blt j 8 with
      | true =>
        rw [Nat.blt_eq] at hj
        rw [show Nat.blt j 64 = true from blt_t (by omega), show g2 j = .d0 by unfold g2; rw [nmod, ndiv, show j / 8 % 8 = 0 by omega]; rfl]
        rfl
      | false =>
        have hj' : ¬ j < 8 := fun l => by have := blt_t l; rw [hj] at this; cases this
        cases hj2 : Nat.blt j 64 with
        | false => rfl
        | true =>
          rw [Nat.blt_eq] at hj2
          have hne : g2 j ≠ .d0 := fun e0 => by
            have := dig_mod (i := j / 8) (j := 0) (show dig (Nat.mod (j / 8) 8) = dig (Nat.mod 0 8) from e0)
            omega
          show getH1 (selH2 (g2 j) (.mk t nilH1 nilH1 nilH1 nilH1 nilH1 nilH1 nilH1)) j = none
          cases hg : g2 j <;> first | exact absurd hg hne | exact nilH1_get j
theorem TH.put1_some {x : Option AObj} {t : TH} {k : Nat} {t' : TH} (h : TH.put1 t x k = some t') : ∀ j, t'.get j = if j = k then x else t.get j := by
  cases t with
  | leaf =>
    have ht := upH1_some (show upH1 x k nilH1 = some t' from h)
    intro j
    rw [ht]
    by_cases e : j = k
    · rw [if_pos e, if_pos e]
    · rw [if_neg e, if_neg e]
      show (bif Nat.blt j 8 then getH1 nilH1 j else none) = none
      rw [nilH1_get]
      cases Nat.blt j 8 <;> rfl
  | t1 t => exact upH1_some (show upH1 x k t = some t' from h)
  | t2 t => exact upH2_some (show upH2 x k t = some t' from h)
  | t3 t => exact upH3_some (show upH3 x k t = some t' from h)
  | t4 t => exact upH4_some (show upH4 x k t = some t' from h)
  | t5 t => exact upH5_some (show upH5 x k t = some t' from h)
  | t6 t => exact upH6_some (show upH6 x k t = some t' from h)
theorem TH.put_some {β : Type} {x : Option AObj} {m : Nat} {t : TH} {k : Nat} {K : TH → Option β} {b : β} (h : TH.put x m t k K = some b) : ∃ t', K t' = some b ∧ ∀ j, t'.get j = if j = k then x else t.get j := by
  unfold TH.put at h
  cases hp : TH.put1 t x k with
  | none => rw [hp] at h; cases h
  | some u => rw [hp] at h; exact ⟨u, h, TH.put1_some hp⟩
theorem TH.put_par {x : Option AObj} {m : Nat} {t : TH} {k : Nat} : (∃ t', ∀ {β : Type} (K : TH → Option β), TH.put x m t k K = K t') ∨ ∀ {β : Type} (K : TH → Option β), TH.put x m t k K = none := by
  cases hp : TH.put1 t x k with
  | none => exact .inr fun K => by unfold TH.put; rw [hp]
  | some u => exact .inl ⟨u, fun K => by unfold TH.put; rw [hp]⟩
/-! end of maps of blocks -/
structure St where
  H : TH
  c : Nat
  lim : Nat

noncomputable def FzR (fz : Fz) (size : Nat) (p : Nat × Nat) : Prop :=
  match fz with
  | .upto k => p.1 = p.2 ∨ p.2 ≤ k
  | .mark => p = (size, size + 1)
  | .any => True
noncomputable def roF : Fz → Bool
  | .any => true
  | _ => false
noncomputable def roO : AObj → Bool
  | .cells _ _ _ _ _ fz => roF fz
  | _ => false

inductive DR (s : Ren) : Deferred → Deferred → Prop where
  | fn (f f' : Fn) (c c' a a' : Array Value) : FnR s f f' → VRs s c c' → VRs s a a' → DR s ⟨.fn f c, a⟩ ⟨.fn f' c', a'⟩
  | collected (g : Nat) (l : Loc) : s g = some l → DR s ⟨.collected g, #[]⟩ ⟨.collected l.blk, #[]⟩
inductive DRs (s : Ren) : List Deferred → List Deferred → Prop where
  | nil : DRs s [] []
  | cons {d d' ds ds'} : DR s d d' → DRs s ds ds' → DRs s (d :: ds) (d' :: ds')

inductive OR (s : Ren) : Obj → Obj → Prop where
  | map (es es' : Array MapEntry) (c : Nat) : es.size = es'.size → (∀ i (h : i < es.size) (h' : i < es'.size), VR s es[i].key es'[i].key ∧ VR s es[i].val es'[i].val ∧ es'[i].born = es[i].born) → OR s (.map es c) (.map es' c)
  | strIter (b : ByteArray) (p : Nat) : OR s (.stringIter b p) (.stringIter b p)
  | mapIterNil (a : Nat) (b : Array Nat) (c : Nat) : OR s (.mapIter none a b c) (.mapIter none a b c)
  | mapIter (g : Nat) (l : Loc) (a : Nat) (b : Array Nat) (c : Nat) : s g = some l → OR s (.mapIter (some g) a b c) (.mapIter (some l.blk) a b c)
  | deferred (ds ds' : List Deferred) : DRs s ds ds' → OR s (.deferred (some ds)) (.deferred (some ds'))
  | deferredNone : OR s (.deferred none) (.deferred none)

/-- Entries that stand for these keys and values. -/
inductive UZ (s : Ren) : List (Value × Value) → List MapEntry → Prop where
  | nil : UZ s [] []
  | cons {k v : Value} {e : MapEntry} {r : List (Value × Value)} {es : List MapEntry} : e.key = k → VR s v e.val → UZ s r es → UZ s ((k, v) :: r) (e :: es)
def UR (s : Ren) (es : List (Value × Value)) (es' : List MapEntry) : Prop := ∃ p, es'.Perm p ∧ UZ s es p
theorem UZ.mono {s s' : Ren} (hs : s.le s') {es : List (Value × Value)} {p : List MapEntry} (h : UZ s es p) : UZ s' es p := by
  induction h with
  | nil => exact .nil
  | cons h1 h2 _ ih => exact .cons h1 (h2.mono hs) ih
theorem UZ.append {s : Ren} {es es2 : List (Value × Value)} {p p2 : List MapEntry} (h : UZ s es p) (h2 : UZ s es2 p2) : UZ s (es ++ es2) (p ++ p2) := by
  induction h with
  | nil => exact h2
  | cons a b _ ih => exact .cons a b ih
theorem UZ.mem {s : Ren} {es : List (Value × Value)} {p : List MapEntry} (h : UZ s es p) {e : MapEntry} (he : e ∈ p) : ∃ v, (e.key, v) ∈ es ∧ VR s v e.val := by
  induction h with
  | nil => simp at he
  | @cons k v e' r es h1 h2 _ ih =>
    rcases List.mem_cons.1 he with rfl | h3
    · exact ⟨v, by rw [h1]; simp, h2⟩
    · obtain ⟨v', a, b⟩ := ih h3
      exact ⟨v', List.mem_cons_of_mem _ a, b⟩
noncomputable def CellsAt (s : Ren) (n : Nat) (t : TV) (c : Array Value) : Prop := ∀ i v, i < n → t.get i = some v → ∃ v', c[i]? = some v' ∧ VR s v v'
/-- Slots that are known. -/
def TmR (s : Ren) (tm : TV) (a : Array Value) : Prop := ∀ (t : Nat) (v : Value), tm.get t = some v → ∃ v', a[t]? = some v' ∧ VR s v v'
theorem TmR.mono {s s' : Ren} (hs : s.le s') {tm : TV} {a : Array Value} (h : TmR s tm a) : TmR s' tm a := fun t v e => let ⟨v', e1, r⟩ := h t v e; ⟨v', e1, r.mono hs⟩
structure LoopR (s : Ren) (stt : LoopState) (pend : Option Code) (fn : FuncId) (nt : Nat) (tm : TV) (ps : List Tmp) (a b : Code) (gd : Nat) (r : Loop) : Prop where
  state : r.state = stt
  pending : r.pending = pend
  fn : r.fn = fn
  nt : r.tmps.size = nt
  tm : TmR s tm r.tmps
  params : r.params.toList = ps
  assign : r.assign = a
  body : r.body = b
  defers : ∃ l, s gd = some l ∧ r.defers = l.blk
theorem LoopR.mono {s s' : Ren} (hs : s.le s') {stt : LoopState} {pend : Option Code} {fn : FuncId} {nt : Nat} {tm : TV} {ps : List Tmp} {a b : Code} {gd : Nat} {r : Loop} (h : LoopR s stt pend fn nt tm ps a b gd r) : LoopR s' stt pend fn nt tm ps a b gd r :=
  ⟨h.state, h.pending, h.fn, h.nt, h.tm.mono hs, h.params, h.assign, h.body, let ⟨l, e, q⟩ := h.defers; ⟨l, hs _ _ e, q⟩⟩
noncomputable def ObjR (s : Ren) (l : Loc) : AObj → Obj → Prop
  | .cells n t e esz opn fz, .cells c e' p => (roF fz = true ∨ e' = e) ∧ CellsAt s n t c ∧ (if opn then n ≤ c.size ∧ 0 < esz ∧ c.size = l.cap * esz else c.size = n) ∧ FzR fz c.size p
  | .obj o, x => OR s o x
  | .umap es, .map es' _ => UR s es es'.toList
  | .loop stt p fn nt tm ps a b gd, .loop r => LoopR s stt p fn nt tm ps a b gd r
  | _, _ => False

structure Mem (s : Ren) (st : St) (w : World) : Prop where
  at_ : ∀ g o, st.H.get g = some o → ∃ l x, s g = some l ∧ w.heap[l.blk]? = some x ∧ ObjR s l o x
  inj : ∀ g g' o o' l l', st.H.get g = some o → st.H.get g' = some o' → s g = some l → s g' = some l' → l.blk = l'.blk → g = g'
  new_ : ∀ g, st.c ≤ g → g < st.lim → s g = none

/-- One stretch of a run: what is known of the worlds at its ends. -/
structure Ev (s : Ren) (st : St) (w : World) (s' : Ren) (st' : St) (w' : World) : Prop where
  le : s.le s'
  os : w'.os = w.os
  tape : w'.tape = w.tape
  output : w'.output = w.output
  size : w.heap.size ≤ w'.heap.size
  frame : ∀ b, b < w.heap.size → (∀ g o l, st.H.get g = some o → s g = some l → l.blk ≠ b) → w'.heap[b]? = w.heap[b]?
  img : ∀ g o l, st'.H.get g = some o → s' g = some l → w.heap.size ≤ l.blk ∨ ∃ g0 o0 l0, st.H.get g0 = some o0 ∧ s g0 = some l0 ∧ l0.blk = l.blk
  cle : st.c ≤ st'.c
  lim : st'.lim = st.lim
  ids : ∀ g, ¬ (st.c ≤ g ∧ g < st.lim) → s' g = s g
  ro : ∀ g o l, st.H.get g = some o → roO o = true → s g = some l → st'.H.get g = some o ∧ w'.heap[l.blk]? = w.heap[l.blk]?

theorem Ev.refl (s : Ren) (st : St) (w : World) : Ev s st w s st w :=
  ⟨.refl s, rfl, rfl, rfl, Nat.le_refl _, fun _ _ _ => rfl, fun g o l h e => .inr ⟨g, o, l, h, e, rfl⟩, Nat.le_refl _, rfl, fun _ _ => rfl, fun _ _ _ h _ _ => ⟨h, rfl⟩⟩
theorem Ev.trans {s s1 s2 : Ren} {st st1 st2 : St} {w w1 w2 : World} (h : Ev s st w s1 st1 w1) (k : Ev s1 st1 w1 s2 st2 w2) : Ev s st w s2 st2 w2 := by
  refine ⟨h.le.trans k.le, k.os.trans h.os, k.tape.trans h.tape, k.output.trans h.output, Nat.le_trans h.size k.size, fun b hb hn => ?_, fun g o l hg hl => ?_, Nat.le_trans h.cle k.cle, k.lim.trans h.lim, fun g hg => ?_, fun g o l hg hr hl => ?_⟩
  · rw [k.frame b (Nat.lt_of_lt_of_le hb h.size) ?_, h.frame b hb hn]
    intro g o l hg hl he
    rcases h.img g o l hg hl with h1 | ⟨g0, o0, l0, h1, h2, h3⟩
    · omega
    · exact hn g0 o0 l0 h1 h2 (h3.trans he)
  · rcases k.img g o l hg hl with h1 | ⟨g0, o0, l0, h1, h2, h3⟩
    · exact .inl (Nat.le_trans h.size h1)
    · rcases h.img g0 o0 l0 h1 h2 with h4 | ⟨g1, o1, l1, h4, h5, h6⟩
      · exact .inl (h3 ▸ h4)
      · exact .inr ⟨g1, o1, l1, h4, h5, h6.trans h3⟩
  · rw [k.ids g (fun q => hg ⟨Nat.le_trans h.cle q.1, by rw [← h.lim]; exact q.2⟩), h.ids g hg]
  · obtain ⟨a1, a2⟩ := h.ro g o l hg hr hl
    obtain ⟨b1, b2⟩ := k.ro g o l a1 hr (h.le _ _ hl)
    exact ⟨b1, b2.trans a2⟩

theorem DR.mono {s s' : Ren} (hs : s.le s') {d d' : Deferred} (h : DR s d d') : DR s' d d' := by
  cases h with
  | fn f f' c c' a a' h1 h2 h3 => exact .fn _ _ _ _ _ _ (h1.mono hs) (h2.mono hs) (h3.mono hs)
  | collected g l e => exact .collected g l (hs _ _ e)
theorem DRs.mono {s s' : Ren} (hs : s.le s') {d d' : List Deferred} (h : DRs s d d') : DRs s' d d' := by
  induction h with
  | nil => exact .nil
  | cons h _ ih => exact .cons (h.mono hs) ih
theorem OR.mono {s s' : Ren} (hs : s.le s') {o o' : Obj} (h : OR s o o') : OR s' o o' := by
  cases h with
  | map es es' c h1 h2 => exact .map es es' c h1 fun i a b => ⟨(h2 i a b).1.mono hs, (h2 i a b).2.1.mono hs, (h2 i a b).2.2⟩
  | mapIter g l a b c e => exact .mapIter g l a b c (hs _ _ e)
  | deferred ds ds' h => exact .deferred ds ds' (h.mono hs)
  | _ => constructor
theorem ObjR.mono {s s' : Ren} (hs : s.le s') {l : Loc} {o : AObj} {x : Obj} (h : ObjR s l o x) : ObjR s' l o x := by
  cases o with
  | obj o => exact OR.mono hs h
  | umap es =>
    cases x with
    | map es' c => obtain ⟨p, h1, h2⟩ := h; exact ⟨p, h1, h2.mono hs⟩
    | _ => exact h.elim
  | loop stt p fn nt tm ps a b gd =>
    cases x with
    | loop r => exact LoopR.mono hs h
    | _ => exact h.elim
  | cells n t e esz opn fz =>
    cases x with
    | cells c e' p =>
      obtain ⟨h1, h2, h3⟩ := h
      exact ⟨h1, fun i v hi hv => let ⟨v', a, b⟩ := h2 i v hi hv; ⟨v', a, b.mono hs⟩, h3⟩
    | _ => exact h.elim

/-- A draw turns no block. -/
theorem Mem.draws {s : Ren} {st : St} {w w' : World} (h : Mem s st w) (hw : w'.heap = w.heap) : Mem s st w' :=
  ⟨fun g o hg => by rw [hw]; exact h.at_ g o hg, h.inj, h.new_⟩
theorem Ev.draws {s : Ren} {st : St} {w w' : World} (hw : w'.heap = w.heap) (h1 : w'.os = w.os) (h2 : w'.tape = w.tape) (h3 : w'.output = w.output) : Ev s st w s st w' :=
  ⟨.refl s, h1, h2, h3, by rw [hw]; exact Nat.le_refl _, fun _ _ _ => by rw [hw], fun g o l h e => .inr ⟨g, o, l, h, e, rfl⟩, Nat.le_refl _, rfl, fun _ _ => rfl, fun _ _ _ h _ _ => ⟨h, by rw [hw]⟩⟩

/-- A state with its numbers worked out. -/
noncomputable def normS {β : Type} (st : St) : (St → β) → β :=
  St.rec (motive := fun _ => (St → β) → β) (fun H c lim K => forceN c fun c => forceN lim fun lim => K ⟨H, c, lim⟩) st
theorem normS_eq {β : Type} (st : St) (K : St → β) : normS st K = K st := rfl
noncomputable def newO {β : Type} (o : AObj) (st : St) : (Nat → St → Option β) → Option β :=
  St.rec (motive := fun _ => (Nat → St → Option β) → Option β) (fun H c lim K => forceN c fun c => bif Nat.blt c lim then TH.put (some o) FUEL H c fun H => K c ⟨H, Nat.succ c, lim⟩ else none) st
theorem newO_eq {β : Type} (o : AObj) (st : St) (K : Nat → St → Option β) : newO o st K = bif Nat.blt st.c st.lim then TH.put (some o) FUEL st.H st.c fun H => K st.c ⟨H, Nat.succ st.c, st.lim⟩ else none := rfl

theorem Mem.lt {s : Ren} {st : St} {w : World} (h : Mem s st w) {g : Nat} {o : AObj} {l : Loc} (hg : st.H.get g = some o) (hl : s g = some l) : l.blk < w.heap.size := by
  obtain ⟨l', x, h1, h2, _⟩ := h.at_ g o hg
  cases h1.symm.trans hl
  rcases Nat.lt_or_ge l.blk w.heap.size with h3 | h3
  · exact h3
  · rw [Array.getElem?_eq_none h3] at h2; cases h2

/-- A new block. -/
theorem newO_ok {β : Type} {s : Ren} {st : St} {w : World} {o : AObj} {K : Nat → St → Option β} {b : β} (hM : Mem s st w) (h : newO o st K = some b) (x : Obj) (cap : Nat)
    (hx : ∀ s', s.le s' → s' st.c = some ⟨w.heap.size, cap⟩ → ObjR s' ⟨w.heap.size, cap⟩ o x) :
    ∃ s' st', K st.c st' = some b ∧ Mem s' st' (w.alloc x) ∧ Ev s st w s' st' (w.alloc x) ∧ s' st.c = some ⟨w.heap.size, cap⟩ := by
  rw [newO_eq] at h
  cases hlim : Nat.blt st.c st.lim with
  | false => simp [hlim] at h
  | true =>
  simp only [hlim, cond_true] at h
  rw [Nat.blt_eq] at hlim
  obtain ⟨H, hK, hg⟩ := TH.put_some h
  let s' : Ren := fun g => if g = st.c then some ⟨w.heap.size, cap⟩ else s g
  have hs' : s' st.c = some ⟨w.heap.size, cap⟩ := by simp [s']
  have hle : s.le s' := by
    intro g l e
    have : g ≠ st.c := fun h => by rw [h, hM.new_ _ (Nat.le_refl _) hlim] at e; cases e
    simp [s', this, e]
  have hold : ∀ k, k < w.heap.size → (w.alloc x).heap[k]? = w.heap[k]? := fun k hk => Below.heap_alloc w x k hk
  refine ⟨s', _, hK, ⟨fun g o' hg' => ?_, fun g g' o1 o2 l l' h1 h2 e1 e2 he => ?_, fun g hge hgl => ?_⟩, ⟨hle, rfl, rfl, rfl, by simp, fun b hb _ => hold b hb, fun g o' l hg' e => ?_, by simp, rfl, fun g hg => ?_, fun g o' l hg' hr e => ?_⟩, hs'⟩
  · simp only [hg] at hg'
    split at hg'
    · rename_i hc
      subst hc
      cases hg'
      exact ⟨_, x, hs', heap_alloc_new w x, hx s' hle hs'⟩
    · obtain ⟨l, y, h1, h2, h3⟩ := hM.at_ g o' hg'
      exact ⟨l, y, hle _ _ h1, by rw [hold _ (hM.lt hg' h1)]; exact h2, h3.mono hle⟩
  · simp only [hg] at h1 h2
    simp only [s'] at e1 e2
    split at h1 <;> split at h2
    · simp_all
    · rename_i hc hc'
      simp only [hc, if_true] at e1
      simp only [hc', if_false] at e2
      cases e1
      have := hM.lt h2 e2
      simp at he
      omega
    · rename_i hc hc'
      simp only [hc', if_true] at e2
      simp only [hc, if_false] at e1
      cases e2
      have := hM.lt h1 e1
      simp at he
      omega
    · rename_i hc hc'
      simp only [hc, if_false] at e1
      simp only [hc', if_false] at e2
      exact hM.inj _ _ _ _ _ _ h1 h2 e1 e2 he
  · have hge' : st.c + 1 ≤ g := hge
    have : g ≠ st.c := by omega
    simp [s', this, hM.new_ g (by omega) hgl]
  · simp only [hg] at hg'
    split at hg'
    · rename_i hc
      subst hc
      cases hs'.symm.trans e
      exact .inl (Nat.le_refl _)
    · rename_i hc
      simp only [s', hc, if_false] at e
      exact .inr ⟨g, o', l, hg', e, rfl⟩
  · have : g ≠ st.c := fun h => hg ⟨by omega, by omega⟩
    simp [s', this]
  · have hne : g ≠ st.c := fun h => by rw [h, hM.new_ _ (Nat.le_refl _) hlim] at e; cases e
    refine ⟨?_, hold _ (hM.lt hg' e)⟩
    show H.get g = _
    rw [hg, if_neg hne]
    exact hg'

/-- What a cell holds. -/
noncomputable def loadO (st : St) (g off : Nat) : Option Value :=
  match st.H.get g with
  | some (.cells n t _ _ _ _) => bif Nat.blt off n then t.get off else none
  | _ => none
theorem loadO_ok {s : Ren} {st : St} {w : World} {g off : Nat} {v : Value} {l : Loc} (hM : Mem s st w) (hl : s g = some l) (h : loadO st g off = some v) : ∃ v', w.cell? ⟨l.blk, off, none⟩ = some v' ∧ VR s v v' := by
  unfold loadO at h
  split at h
  · rename_i n t e esz opn fz hg
    cases hb : Nat.blt off n with
    | false => simp [hb] at h
    | true =>
      simp only [hb, cond_true] at h
      obtain ⟨l', x, h1, h2, h3⟩ := hM.at_ g _ hg
      cases h1.symm.trans hl
      cases x with
      | cells c e' p =>
        obtain ⟨v', hv, hr⟩ := h3.2.1 off v (by simpa [Nat.blt_eq] using hb) h
        exact ⟨v', by simp [World.cell?, h2, hv], hr⟩
      | _ => exact h3.elim
  · cases h

noncomputable def oneV : Value → Bool
  | .agg _ | .tuple _ => false
  | _ => true
theorem oneV_of {s : Ren} {v v' : Value} (h : VR s v v') (h1 : oneV v = true) : v'.oneCell' = true := by
  cases h <;> first | rfl | simp [oneV] at h1

noncomputable def storeO {β : Type} (g off : Nat) (v : Value) (st : St) (K : St → Option β) : Option β :=
  match st.H.get g with
  | some (.cells n t e esz opn (.upto k)) => bif Nat.blt off n && Nat.ble k off && oneV v then TV.put (some v) FUEL t off fun t' => TH.put (some (.cells n t' e esz opn (.upto k))) FUEL st.H g fun H => K ⟨H, st.c, st.lim⟩ else none
  | some (.cells n t e esz opn .mark) => bif Nat.blt off n && oneV v then TV.put (some v) FUEL t off fun t' => TH.put (some (.cells n t' e esz opn .mark)) FUEL st.H g fun H => K ⟨H, st.c, st.lim⟩ else none
  | _ => none

/-- A block that is turned in place. -/
theorem Mem.turn {s : Ren} {st : St} {w w' : World} {g : Nat} {o o' : AObj} {l : Loc} {x x' : Obj} {H : TH} (hM : Mem s st w) (hl : s g = some l) (hg : st.H.get g = some o) (_hx : w.heap[l.blk]? = some x)
    (hH : ∀ j, H.get j = if j = g then some o' else st.H.get j) (hw : ∀ k, w'.heap[k]? = if k = l.blk then some x' else w.heap[k]?) (hr : ObjR s l o' x')
    (h1 : w'.os = w.os) (h2 : w'.tape = w.tape) (h3 : w'.output = w.output) (hro : roO o = false := by rfl) : Mem s ⟨H, st.c, st.lim⟩ w' ∧ Ev s st w s ⟨H, st.c, st.lim⟩ w' := by
  have hsz : w.heap.size ≤ w'.heap.size := by
    rcases Nat.lt_or_ge w'.heap.size w.heap.size with hlt | hge
    · have := hw w'.heap.size
      rw [Array.getElem?_eq_none (Nat.le_refl _)] at this
      split at this
      · cases this
      · rw [Array.getElem?_eq_getElem hlt] at this; cases this
    · exact hge
  refine ⟨⟨fun j q hj => ?_, fun a b o1 o2 l1 l2 ha hb e1 e2 he => ?_, hM.new_⟩, ⟨.refl s, h1, h2, h3, hsz, fun b hb hn => ?_, fun j q lj hj e => ?_, Nat.le_refl _, rfl, fun _ _ => rfl, fun j q lj hj hrq e => ?_⟩⟩
  · simp only [hH] at hj
    split at hj
    · rename_i hc
      subst hc
      cases hj
      exact ⟨l, x', hl, by simp [hw], hr⟩
    · rename_i hc
      obtain ⟨lj, y, e1, e2, e3⟩ := hM.at_ j q hj
      refine ⟨lj, y, e1, ?_, e3⟩
      rw [hw, if_neg (fun h => hc (hM.inj _ _ _ _ _ _ hj hg e1 hl h))]
      exact e2
  · have q1 : ∃ o, st.H.get a = some o := by
      simp only [hH] at ha
      split at ha
      · rename_i hc; exact ⟨_, hc ▸ hg⟩
      · exact ⟨_, ha⟩
    have q2 : ∃ o, st.H.get b = some o := by
      simp only [hH] at hb
      split at hb
      · rename_i hc; exact ⟨_, hc ▸ hg⟩
      · exact ⟨_, hb⟩
    obtain ⟨oa, qa⟩ := q1
    obtain ⟨ob, qb⟩ := q2
    exact hM.inj a b oa ob l1 l2 qa qb e1 e2 he
  · rw [hw, if_neg (fun h => hn g o l hg hl h.symm)]
  · simp only [hH] at hj
    split at hj
    · rename_i hc; exact .inr ⟨g, o, l, hg, hl, by rw [hc, hl] at e; cases e; rfl⟩
    · exact .inr ⟨j, q, lj, hj, e, rfl⟩
  · have hne : j ≠ g := fun h => by
      rw [h, hg] at hj
      cases hj
      rw [hro] at hrq
      cases hrq
    refine ⟨?_, ?_⟩
    · show H.get j = _
      rw [hH, if_neg hne]
      exact hj
    · rw [hw, if_neg (fun h => hne (hM.inj _ _ _ _ _ _ hj hg e hl h))]

theorem setCell_at (w : World) (b off : Nat) (v : Value) (c : Array Value) (e : TypeId) (p : Nat × Nat) (h : w.heap[b]? = some (.cells c e p)) (k : Nat) :
    (w.setCell ⟨b, off, none⟩ v).heap[k]? = if k = b then some (.cells (c.setIfInBounds off v) e p) else w.heap[k]? := by
  simp only [World.setCell, Array.getElem?_modify]
  by_cases hk : k = b
  · subst hk; simp [h]
  · have : ¬ b = k := fun h => hk h.symm
    simp [hk, this]
theorem cellsAt_put {s : Ren} {n : Nat} {t t' : TV} {c : Array Value} {off : Nat} {v v' : Value} (h : CellsAt s n t c) (ht : ∀ j, t'.get j = if j = off then some v else t.get j) (hn : off < c.size) (hv : VR s v v') :
    CellsAt s n t' (c.setIfInBounds off v') := by
  intro i u hi hu
  rw [ht] at hu
  split at hu
  · rename_i hc
    subst hc
    cases hu
    exact ⟨v', by simp [hn], hv⟩
  · rename_i hc
    obtain ⟨u', h1, h2⟩ := h i u hi hu
    exact ⟨u', by rw [Array.getElem?_setIfInBounds_ne (fun e => hc e.symm)]; exact h1, h2⟩
theorem storeO_ok {β : Type} {s : Ren} {st : St} {w : World} {g off : Nat} {v v' : Value} {l : Loc} {K : St → Option β} {b : β} (hM : Mem s st w) (hl : s g = some l) (hv : VR s v v') (h : storeO g off v st K = some b) :
    ∃ st', K st' = some b ∧ Mem s st' (w.setCell ⟨l.blk, off, none⟩ v') ∧ Ev s st w s st' (w.setCell ⟨l.blk, off, none⟩ v') ∧ (w.cell? ⟨l.blk, off, none⟩).isSome = true ∧ w.frozen? ⟨l.blk, off, none⟩ = false ∧ v'.oneCell' = true ∧ st'.c = st.c := by
  unfold storeO at h
  split at h
  · rename_i n t e esz opn k hg
    cases hb : (Nat.blt off n && Nat.ble k off && oneV v) with
    | false => simp [hb] at h
    | true =>
      simp only [hb, cond_true] at h
      simp only [Bool.and_eq_true, Nat.blt_eq, Nat.ble_eq] at hb
      obtain ⟨t', h', ht⟩ := TV.put_some h
      obtain ⟨H, hK, hH⟩ := TH.put_some h'
      obtain ⟨l', x, e1, e2, e3⟩ := hM.at_ g _ hg
      cases e1.symm.trans hl
      cases x with
      | cells c e' p =>
        obtain ⟨r1, r2, r3, r4⟩ := e3
        have hn : off < c.size := by
          cases opn
          · have : c.size = n := by simpa using r3
            omega
          · have : n ≤ c.size := by simp at r3; exact r3.1
            omega
        have hsize : (c.setIfInBounds off v').size = c.size := by simp
        obtain ⟨m1, m2⟩ := Mem.turn hM hl hg e2 hH (setCell_at w l.blk off v' c e' p e2) (o' := .cells n t' e esz opn (.upto k)) (x' := .cells (c.setIfInBounds off v') e' p) ⟨r1, cellsAt_put r2 ht hn hv, by rw [hsize]; exact r3, by rw [hsize]; exact r4⟩ rfl rfl rfl
        refine ⟨_, hK, m1, m2, by simp [World.cell?, e2, hn], ?_, oneV_of hv hb.2, rfl⟩
        simp only [World.frozen?, e2]
        simp only [FzR] at r4
        rw [Bool.eq_false_iff]
        simp
        omega
      | _ => exact e3.elim
  · rename_i n t e esz opn hg
    cases hb : (Nat.blt off n && oneV v) with
    | false => simp [hb] at h
    | true =>
      simp only [hb, cond_true] at h
      simp only [Bool.and_eq_true, Nat.blt_eq] at hb
      obtain ⟨t', h', ht⟩ := TV.put_some h
      obtain ⟨H, hK, hH⟩ := TH.put_some h'
      obtain ⟨l', x, e1, e2, e3⟩ := hM.at_ g _ hg
      cases e1.symm.trans hl
      cases x with
      | cells c e' p =>
        obtain ⟨r1, r2, r3, r4⟩ := e3
        have hn : off < c.size := by
          cases opn
          · have : c.size = n := by simpa using r3
            omega
          · have : n ≤ c.size := by simp at r3; exact r3.1
            omega
        have hsize : (c.setIfInBounds off v').size = c.size := by simp
        obtain ⟨m1, m2⟩ := Mem.turn hM hl hg e2 hH (setCell_at w l.blk off v' c e' p e2) (o' := .cells n t' e esz opn .mark) (x' := .cells (c.setIfInBounds off v') e' p) ⟨r1, cellsAt_put r2 ht hn hv, by rw [hsize]; exact r3, by rw [hsize]; exact r4⟩ rfl rfl rfl
        refine ⟨_, hK, m1, m2, by simp [World.cell?, e2, hn], ?_, oneV_of hv hb.2, rfl⟩
        simp only [World.frozen?, e2]
        simp only [FzR] at r4
        subst r4
        rw [Bool.eq_false_iff]
        simp
        omega
      | _ => exact e3.elim
  · cases h

/-- Many cells in a row. -/
noncomputable def loadsO (st : St) (g : Nat) : Nat → Nat → Option (List Value)
  | _, 0 => some []
  | off, n + 1 =>
    match loadO st g off with
    | none => none
    | some v => match loadsO st g (Nat.succ off) n with
      | none => none
      | some vs => some (v :: vs)
theorem loadsO_ok {s : Ren} {st : St} {w : World} {g : Nat} {l : Loc} (hM : Mem s st w) (hl : s g = some l) : ∀ {n off : Nat} {vs : List Value}, loadsO st g off n = some vs →
    vs.length = n ∧ ∃ vs' : List Value, vs'.length = n ∧ (∀ (j : Nat) (v' : Value), vs'[j]? = some v' → w.cell? ⟨l.blk, off + j, none⟩ = some v') ∧ ∀ (j : Nat) (v : Value), vs[j]? = some v → ∃ v', vs'[j]? = some v' ∧ VR s v v'
  | 0, off, vs, h => by
    cases h
    exact ⟨rfl, [], rfl, fun j v' h => by simp at h, fun j v h => by simp at h⟩
  | n + 1, off, vs, h => by
    unfold loadsO at h
    split at h
    · cases h
    · rename_i v hv
      split at h
      · cases h
      · rename_i r hr
        cases h
        obtain ⟨v', c1, c2⟩ := loadO_ok hM hl hv
        obtain ⟨h1, vs', h2, h3, h4⟩ := loadsO_ok hM hl hr
        refine ⟨by simp [h1], v' :: vs', by simp [h2], fun j u hu => ?_, fun j u hu => ?_⟩
        · cases j with
          | zero => simp at hu; subst hu; exact c1
          | succ j =>
            have := h3 j u (by simpa using hu)
            rwa [show off + (j + 1) = off.succ + j by omega]
        · cases j with
          | zero => simp at hu; subst hu; exact ⟨v', rfl, c2⟩
          | succ j =>
            obtain ⟨u', e1, e2⟩ := h4 j u (by simpa using hu)
            exact ⟨u', by simpa using e1, e2⟩
noncomputable def storesO {β : Type} (g : Nat) : Nat → List Value → St → (St → Option β) → Option β
  | _, [], st, K => K st
  | off, v :: r, st, K => storeO g off v st fun st => storesO g (Nat.succ off) r st K
theorem addr_add (b o i : Nat) : (⟨b, o, none⟩ : Addr).add i = ⟨b, o + i, none⟩ := by unfold Addr.add; split <;> simp_all
theorem storesO_ok {β : Type} {P : Program} {s : Ren} {g : Nat} {l : Loc} {K : St → Option β} {b : β} (hl : s g = some l) : ∀ {vs vs' : List Value} {st : St} {w : World} (off i : Nat), Mem s st w → vs.length = vs'.length →
    (∀ (j : Nat) (v : Value), vs[j]? = some v → ∃ v', vs'[j]? = some v' ∧ VR s v v') → storesO g (off + i) vs st K = some b →
    ∃ st' w', K st' = some b ∧ (storeCells ⟨l.blk, off, none⟩ vs' i).run P w = .ok () w' ∧ Mem s st' w' ∧ Ev s st w s st' w' ∧ st'.c = st.c
  | [], vs', st, w, off, i, hM, hlen, _, h => by
    have : vs' = [] := List.eq_nil_of_length_eq_zero (by simpa using hlen.symm)
    subst this
    exact ⟨st, w, h, rfl, hM, .refl _ _ _, rfl⟩
  | v :: r, [], st, w, off, i, hM, hlen, _, h => by simp at hlen
  | v :: r, v' :: r', st, w, off, i, hM, hlen, hvs, h => by
    have hv : VR s v v' := by
      obtain ⟨u, e, hu⟩ := hvs 0 v rfl
      simp at e; subst e; exact hu
    unfold storesO at h
    obtain ⟨st1, h1, hM1, hE1, hc, hf, ho, hc1⟩ := storeO_ok hM hl hv h
    obtain ⟨st2, w2, hK, hrun, hM2, hE2, hc2⟩ := storesO_ok (P := P) hl (vs' := r') off (i + 1) hM1 (by simpa using hlen) (fun j u hu => by
      obtain ⟨u', e1, e2⟩ := hvs (j + 1) u (by simpa using hu)
      exact ⟨u', by simpa using e1, e2⟩) (by rw [show off + (i + 1) = (off + i).succ by omega]; exact h1)
    obtain ⟨u, hu⟩ := Option.isSome_iff_exists.1 hc
    have hst : (store ((⟨l.blk, off, none⟩ : Addr).add i) v').run P w = .ok () (w.setCell ⟨l.blk, off + i, none⟩ v') := by
      rw [addr_add, run_store P w _ v' _ ho]
      simp [hu, hf]
    exact ⟨st2, w2, hK, by simp only [storeCells, Sem.run_bind, hst, Result.andThen_ok, hrun], hM2, hE1.trans hE2, by rw [hc2, hc1]⟩

end Go.Proofs.Ytfilbknnpjbmcaa.Cx
