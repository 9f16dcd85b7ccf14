/- What the utilities of package dirs do with an operand, as relations: the code, and the tree then. No program of its own. -/
import Derived.Test.YtmofodaecakkfaaGreatKb30
import Derived.Test.YtmofodaecakkfaaGreatKb36
import Derived.Test.YtmofodaecakkfaaGreatKb07
import Derived.Test.YtmofodaecakkfaaGreatKb32
import Derived.Test.YtmofodaecakkfaaGreatKb27
namespace Go.Proofs.YtmofodaecakkfaaGreat
open Go.RowKit Px Nx Wk
namespace Dn
/-- Where a path leads. -/
def Leads (n : Nd) (fo : Bool) (t : ByteArray) (o : Out) : Prop := Run n stepsB dirB absB fo [] (stepsB t) 0 (dirB t) o
def Is (r : Int × Nd) (c : Int) (n' : Nd) : Prop := c = r.1 ∧ n' = r.2
abbrev Rel := Nd → ByteArray → Int → Nd → Prop
/-- By the place where a path ends. -/
def byEnd (fo : Bool) (f : Nd → List ByteArray → UInt8 → Int → Nd → Prop) : Rel := fun n t c n' => ∃ o, Leads n fo t o ∧ match o with
  | .err e => Is (e, n) c n'
  | .ok p k => f n p k c n'
def mkOneR : Rel := byEnd false fun n p _ => Is (makeD n p dirN)
def rmdirR : Rel := byEnd false fun n p _ => Is (removeD n p (wrongDir n p))
def missR : Rel := byEnd true fun n p k c n' => if k = 0 then Is (makeD n p dirN) c n' else if k = 2 then Is (0, n) c n' else Is (55, n) c n'
def linkO : Out → Bool
  | .ok _ k => decide (k = 3)
  | .err _ => false
def touchR : Rel := fun n t => byEnd true (fun n p k c n' => if k = 0 then (if dirB t = true then Is (5, n) c n' else ∃ o2, Leads n false t o2 ∧ if linkO o2 = true then Is (5, n) c n' else Is (touchD n p) c n') else Is (touchD n p) c n') n t
def rmR (f r : Bool) : Rel := fun n t c n' => ∃ o, Leads n false t o ∧ match o with
  | .err e => Is (if e = 5 ∧ f = true then 0 else e, n) c n'
  | .ok p k => if k = 0 then Is (if f = true then 0 else 5, n) c n' else if k = 2 then (if r = true then Is (removeD n p (wrongAll p)) c n' else Is (55, n) c n') else Is (removeD n p (wrongFile n p)) c n'
/-- The path of steps. -/
def pathOf (l : List ByteArray) : ByteArray := ⟨(47 :: Lib.join (l.map (·.data.toList)) [47]).toArray⟩
/-- The directories that are missing on the way of steps, those ahead being made. -/
inductive WayR : List ByteArray → List ByteArray → Nd → Int → Nd → Prop where
  | done (pre : List ByteArray) (n : Nd) : WayR pre [] n 0 n
  | stop {pre r : List ByteArray} {s : ByteArray} {n n' : Nd} {c : Int} : missR n (pathOf (pre ++ [s])) c n' → c ≠ 0 → WayR pre (s :: r) n c n'
  | next {pre r : List ByteArray} {s : ByteArray} {n n1 n' : Nd} {c : Int} : missR n (pathOf (pre ++ [s])) 0 n1 → WayR (pre ++ [s]) r n1 c n' → WayR pre (s :: r) n c n'
def wayR : Rel := fun n t c n' => WayR [] (stepsB t) n c n'
def mkR (p : Bool) : Rel := fun n t c n' => if p = true then wayR n t c n' else mkOneR n t c n'
/-- An operand, if it is a path. -/
def operR (R : Rel) : Rel := fun n t c n' => if checkL t.data.toList = 0 then R n t c n' else Is ((checkL t.data.toList : Int), n) c n'
/-- Operands, one behind the other: which ones are refused. -/
inductive Ops (R : Rel) : Nd → List ByteArray → List (ByteArray × Int) → Nd → Prop where
  | nil (n : Nd) : Ops R n [] [] n
  | ok {n n1 n' : Nd} {t : ByteArray} {l : List ByteArray} {bad : List (ByteArray × Int)} : R n t 0 n1 → Ops R n1 l bad n' → Ops R n (t :: l) bad n'
  | bad {n n1 n' : Nd} {t : ByteArray} {l : List ByteArray} {bad : List (ByteArray × Int)} {c : Int} : R n t c n1 → c ≠ 0 → Ops R n1 l bad n' → Ops R n (t :: l) ((t, c) :: bad) n'
theorem Ops.snoc_ok {R : Rel} {n n1 n' : Nd} {l : List ByteArray} {bad : List (ByteArray × Int)} {t : ByteArray} (h : Ops R n l bad n1) (ht : R n1 t 0 n') : Ops R n (l ++ [t]) bad n' := by
  induction h with
  | nil n => exact .ok ht (.nil _)
  | ok h1 _ ih => exact .ok h1 (ih ht)
  | bad h1 h2 _ ih => exact .bad h1 h2 (ih ht)
theorem Ops.snoc_bad {R : Rel} {n n1 n' : Nd} {l : List ByteArray} {bad : List (ByteArray × Int)} {t : ByteArray} {c : Int} (h : Ops R n l bad n1) (ht : R n1 t c n') (hc : c ≠ 0) : Ops R n (l ++ [t]) (bad ++ [(t, c)]) n' := by
  induction h with
  | nil n => exact .bad ht hc (.nil _)
  | ok h1 _ ih => exact .ok h1 (ih ht)
  | bad h1 h2 _ ih => exact .bad h1 h2 (ih ht)
/-- The line of a refused operand. -/
def lineL (name : ByteArray) (x : ByteArray × Int) : List UInt8 := name.data.toList ++ [58, 32] ++ x.1.data.toList ++ [58, 32] ++ (reasonD x.2).data.toList ++ [10]
def linesL (name : ByteArray) (bad : List (ByteArray × Int)) : List UInt8 := bad.flatMap (lineL name)

/-- A relation that a tree of so many nodes goes through: with at most d more. -/
def Grows (R : Rel) (d : Nat) : Prop := ∀ {N : Nat} {n n' : Nd} {t : ByteArray} {c : Int}, TreeN N n → t.size ≤ 256 → R n t c n' → TreeN (N + d) n'
theorem good_make {N : Nat} {n : Nd} (h : TreeN N n) (p : List ByteArray) : TreeN (N + 1) (makeD n p dirN).2 := ⟨(make_well h.well).1, (make_well h.well).2.trans h.kind, Nat.le_trans (make_nodes h.well) (Nat.add_le_add_right h.nodes 1)⟩
theorem good_touch {N : Nat} {n : Nd} (h : TreeN N n) (p : List ByteArray) : TreeN (N + 1) (touchD n p).2 := ⟨(touch_well h.well).1, (touch_well h.well).2.trans h.kind, Nat.le_trans (touch_nodes h.well) (Nat.add_le_add_right h.nodes 1)⟩
theorem good_remove {N : Nat} {n : Nd} (h : TreeN N n) (p : List ByteArray) (c : Int) : TreeN (N + 1) (removeD n p c).2 := ⟨(remove_well h.well).1, (remove_well h.well).2.trans h.kind, Nat.le_trans (remove_nodes h.well) (Nat.le_trans h.nodes (Nat.le_add_right _ _))⟩
theorem good_is {N : Nat} {r : Int × Nd} {c : Int} {n' : Nd} (h : Is r c n') (hr : TreeN N r.2) : TreeN N n' := h.2 ▸ hr
theorem grows_mkOne : Grows mkOneR 1 := fun {N n n' t c} h _ ⟨o, _, ho⟩ => by
  cases o with
  | err e => exact good_is ho (h.more (Nat.le_add_right _ _))
  | ok p k => exact good_is ho (good_make h p)
theorem grows_rmdir : Grows rmdirR 1 := fun {N n n' t c} h _ ⟨o, _, ho⟩ => by
  cases o with
  | err e => exact good_is ho (h.more (Nat.le_add_right _ _))
  | ok p k => exact good_is ho (good_remove h p _)
theorem grows_miss {N : Nat} {n n' : Nd} {t : ByteArray} {c : Int} (h : TreeN N n) (hr : missR n t c n') : TreeN (N + 1) n' := by
  obtain ⟨o, _, ho⟩ := hr
  cases o with
  | err e => exact good_is ho (h.more (Nat.le_add_right _ _))
  | ok p k =>
    dsimp only at ho
    split at ho
    · exact good_is ho (good_make h p)
    · split at ho <;> exact good_is ho (h.more (Nat.le_add_right _ _))
theorem grows_touch : Grows touchR 1 := fun {N n n' t c} h _ ⟨o, _, ho⟩ => by
  cases o with
  | err e => exact good_is ho (h.more (Nat.le_add_right _ _))
  | ok p k =>
    dsimp only at ho
    split at ho
    · split at ho
      · exact good_is ho (h.more (Nat.le_add_right _ _))
      · obtain ⟨o2, _, ho⟩ := ho
        split at ho
        · exact good_is ho (h.more (Nat.le_add_right _ _))
        · exact good_is ho (good_touch h p)
    · exact good_is ho (good_touch h p)
theorem grows_rm (f r : Bool) : Grows (rmR f r) 1 := fun {N n n' t c} h _ ⟨o, _, ho⟩ => by
  cases o with
  | err e => exact good_is ho (h.more (Nat.le_add_right _ _))
  | ok p k =>
    dsimp only at ho
    split at ho
    · exact good_is ho (h.more (Nat.le_add_right _ _))
    · split at ho
      · split at ho
        · exact good_is ho (good_remove h p _)
        · exact good_is ho (h.more (Nat.le_add_right _ _))
      · exact good_is ho (good_remove h p _)
theorem way_grows {pre r : List ByteArray} {n n' : Nd} {c : Int} (h : WayR pre r n c n') : ∀ {N : Nat}, TreeN N n → TreeN (N + r.length) n' := by
  induction h with
  | done pre n => exact fun h => h
  | stop h1 _ => intro N hG; exact (grows_miss hG h1).more (by rw [List.length_cons]; omega)
  | next h1 _ ih => intro N hG; exact (ih (grows_miss hG h1)).more (by rw [List.length_cons]; omega)
theorem grows_mk (p : Bool) : Grows (mkR p) 257 := fun {N n n' t c} h ht hr => by
  unfold mkR at hr
  split at hr
  · have := stepsB_len t
    exact (way_grows hr h).more (by omega)
  · exact (grows_mkOne h ht hr).more (by omega)
theorem grows_oper {R : Rel} {d : Nat} (hg : Grows R d) {N : Nat} {n n' : Nd} {t : ByteArray} {c : Int} (h : TreeN N n) (hr : operR R n t c n') : TreeN (N + d) n' := by
  unfold operR at hr
  split at hr
  · rename_i hc
    refine hg h ?_ hr
    unfold checkL at hc
    split at hc
    · cases hc
    · split at hc
      · cases hc
      · rename_i hl; rw [Array.length_toList] at hl; exact Nat.not_lt.1 hl
  · exact good_is hr (h.more (Nat.le_add_right _ _))
theorem ops_grows {R : Rel} {d : Nat} (hg : Grows R d) {n n' : Nd} {l : List ByteArray} {bad : List (ByteArray × Int)} (h : Ops (operR R) n l bad n') : ∀ {N : Nat}, TreeN N n → TreeN (N + d * l.length) n' := by
  induction h with
  | nil n => exact fun h => h
  | ok h1 _ ih => intro N hG; exact (ih (grows_oper hg hG h1)).more (by rw [List.length_cons, Nat.mul_succ]; omega)
  | bad h1 _ _ ih => intro N hG; exact (ih (grows_oper hg hG h1)).more (by rw [List.length_cons, Nat.mul_succ]; omega)
end Dn
end Go.Proofs.YtmofodaecakkfaaGreat
/- Walks: small functions of package prim: isRoot, isNone; lists of texts compared. -/
namespace Go.Proofs.YtmofodaecakkfaaGreat
open Go.RowKit Px Nx
/-- A list of texts that stays while block b turns. -/
def PlT (w : World) (b : Nat) (v : Value) (l : List ByteArray) : Prop := ∀ w', w.grownBy w' (some b) → PlR w' v l
theorem grown_below {w w' : World} {b : Nat} (h : Below w.heap.size w w') : w.grownBy w' (some b) := ⟨h.os, h.tape, h.output, h.size, fun k hk _ => h.block k hk⟩
theorem PlT.r {w : World} {b : Nat} {v : Value} {l : List ByteArray} (h : PlT w b v l) : PlR w v l := h w (grown_below (Below.refl _ _))
theorem PlT.by {w w' : World} {b : Nat} {v : Value} {l : List ByteArray} (h : PlT w b v l) (hg : w.grownBy w' (some b)) : PlT w' b v l := fun w2 h2 => h w2 ⟨h2.os.trans hg.os, h2.tape.trans hg.tape, h2.output.trans hg.output, Nat.le_trans hg.size h2.size, fun k hk hn => (h2.block k (Nat.lt_of_lt_of_le hk hg.size) hn).trans (hg.block k hk hn)⟩
theorem PlT.kept {w w' : World} {b : Nat} {v : Value} {l : List ByteArray} (h : PlT w b v l) (hb : Below w.heap.size w w') : PlT w' b v l := h.by (grown_below hb)
theorem grown_two {w w1 w' : World} {b : Nat} (hg : w.grownBy w1 (some b)) (h2 : w1.grownBy w' (some b)) : w.grownBy w' (some b) := ⟨h2.os.trans hg.os, h2.tape.trans hg.tape, h2.output.trans hg.output, Nat.le_trans hg.size h2.size, fun k hk hn => (h2.block k (Nat.lt_of_lt_of_le hk hg.size) hn).trans (hg.block k hk hn)⟩

set_option maxRecDepth 100000 in
theorem isRoot_any {w : World} {pv : Value} {place : List ByteArray} (hp : PlR w pv place) :
    Calls Tryz.prog 86 #[pv] w fun e w' => e = .returned (.bool (decide (place.length = 0))) ∧ w = w' := by
  obtain ⟨p, c, rfl, hst, hlc, hcm⟩ := hp
  generalize place.length = k at *
  have e0 : ((k : Int) == 0) = decide (k = 0) := by rw [Bool.eq_iff_iff]; simp
  obtain ⟨kb, hkb⟩ : ∃ kb, decide (k = 0) = kb := ⟨_, rfl⟩
  rw [hkb] at e0 ⊢
  clear hkb hst
  go_enter Tryz.func86, Tryz.ntmps86
  go_wp2_with fail
  go_ret
  exact ⟨rfl, rfl⟩

theorem ahead_kind (k b : Nat) (w : World) : (nilAhead (k + 1) 29 (.pointer (some ⟨b, 0, none⟩)) "Kind").run Tryz.prog w = .ok (some false) w := by kernel_rfl
theorem eql_none (b : Nat) (w : World) : (binOp BinOp.eql 49 (.iface 29 (.pointer (some ⟨b, 0, none⟩))) (.iface 29 (.pointer none))).run Tryz.prog w = .ok (.bool false) w := by kernel_rfl
theorem meth_Kind (k b : Nat) (w : World) : (method (k + 1) 29 (.pointer (some ⟨b, 0, none⟩)) "Kind").run Tryz.prog w = .ok (15, .pointer (some ⟨b, 0, none⟩)) w := by kernel_rfl
theorem meth_Put (k b : Nat) (w : World) : (method (k + 1) 29 (.pointer (some ⟨b, 0, none⟩)) "Put").run Tryz.prog w = .ok (143, .pointer (some ⟨b, 0, none⟩)) w := by kernel_rfl
theorem meth_Del (k b : Nat) (w : World) : (method (k + 1) 29 (.pointer (some ⟨b, 0, none⟩)) "Del").run Tryz.prog w = .ok (141, .pointer (some ⟨b, 0, none⟩)) w := by kernel_rfl
theorem meth_Empty (k b : Nat) (w : World) : (method (k + 1) 29 (.pointer (some ⟨b, 0, none⟩)) "Empty").run Tryz.prog w = .ok (142, .pointer (some ⟨b, 0, none⟩)) w := by kernel_rfl
attribute [local go_sem] eql_none

set_option maxRecDepth 100000 in
theorem pisNone_any (b : Nat) (w : World) :
    Calls Tryz.prog 105 #[.iface 29 (.pointer (some ⟨b, 0, none⟩))] w fun e w' => e = .returned (.bool false) ∧ w = w' := by
  go_enter Tryz.func105, Tryz.ntmps105
  go_wp2_with fail
  go_ret
  exact ⟨rfl, rfl⟩

end Go.Proofs.YtmofodaecakkfaaGreat
