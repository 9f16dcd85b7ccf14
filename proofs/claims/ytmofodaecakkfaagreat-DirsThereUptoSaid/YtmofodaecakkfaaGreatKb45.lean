/- Walks of package dirs: is there no file system; what a utility does with an operand, if that is a path. -/
import Derived.Test.YtmofodaecakkfaaGreatKb43
import Derived.Test.YtmofodaecakkfaaGreatKb44
import Derived.Test.YtmofodaecakkfaaGreatKb12
import Derived.Test.YtmofodaecakkfaaGreatKb11
namespace Go.Proofs.YtmofodaecakkfaaGreat
open Go.RowKit Px Nx Wk Dn
attribute [local go_sem] ahead_kind meth_Kind eql_none

set_option maxRecDepth 100000 in
set_option maxHeartbeats 4000000 in
theorem disNone_any {w : World} {b : Nat} {n : Nd} {v0 v1 v2 v3 : Value} (h : TreeX w b n v0 v1 v2 v3) (hw : n.well = true) (hB : n.girth ≤ 200000000) (hk : n.kind = 2) :
    Calls Tryz.prog 22 #[.iface 29 (.pointer (some ⟨b, 0, none⟩))] w fun e w' => e = .returned (.bool false) ∧ Below w.heap.size w w' := by
  have HK := Lib.hid (fkind_any h hw hB (nil_pl w))
  rw [show ((n.at_ []).getD absent).kind = 2 from hk] at HK
  clear h
  go_enter Tryz.func22, Tryz.ntmps22
  go_wp2_with fail
  refine HK.out.mono ?_
  rintro e w1 ⟨rfl, hb⟩
  have HB := Lib.hid hb
  clear hb
  go_wp2_with fail
  go_ret
  exact ⟨rfl, HB.out⟩
/-- A utility as a value. -/
def utilV (O : ByteArray) (A F : Nat) : Value := .agg #[.string O, .int .u8 A, .func (.func F) #[] #[]]
theorem check_size {t : ByteArray} (h : checkL t.data.toList = 0) : t.size ≤ 256 := by
  unfold checkL at h
  split at h
  · cases h
  · split at h
    · cases h
    · rename_i hl; rw [Array.length_toList] at hl; exact Nat.not_lt.1 hl

set_option maxRecDepth 100000 in
set_option maxHeartbeats 8000000 in
theorem doesWith_makeDir {U : Nat → Prop} {w : World} {b N : Nat} {n : Nd} {v0 v1 v2 v3 : Value} (h : TreeU U w b n v0 v1 v2 v3) (hG : TreeN N n) (hN : N + 257 ≤ 20000) (S : ByteArray) (up : Option Addr) (un uc : Nat) (t : ByteArray) (ht : t.size ≤ 40000) :
    Calls Tryz.prog 40 #[utilV ⟨#[112]⟩ 0 34, callV S (.slice up un uc) b, .string t] w fun e w' => DidR U (operR (mkR (hasB S 112))) n t w b e w' := by
  have HCH : Hid (∀ wx, Calls Tryz.prog 71 #[.string t] wx fun e w' => e = .returned (.int .i64 (checkL t.data.toList)) ∧ Hid (Below wx.heap.size wx w')) := Lib.hid fun wx => check_any t (by omega) wx
  have HDO : Hid (t.size ≤ 256 → ∀ wx, Below w.heap.size w wx → Calls Tryz.prog 34 #[callV S (.slice up un uc) b, .string t] wx fun e w' => DidR U (mkR (hasB S 112)) n t wx b e w') := Lib.hid fun hs wx hb => dmakeDir_any (h.kept hb) hG (by omega) S up un uc t (by omega)
  have HZ : Hid (checkL t.data.toList = 0 → t.size ≤ 256) := Lib.hid check_size
  have HO1 : Hid (checkL t.data.toList = 0 → ∀ c n', (mkR (hasB S 112)) n t c n' → operR (mkR (hasB S 112)) n t c n') := Lib.hid fun h0 c n' hr => by unfold operR; rw [if_pos h0]; exact hr
  have HO2 : Hid (checkL t.data.toList ≠ 0 → operR (mkR (hasB S 112)) n t (checkL t.data.toList : Int) n) := Lib.hid fun h0 => by unfold operR; rw [if_neg h0]; exact ⟨rfl, rfl⟩
  have HT := Lib.hid h
  have HAL : Hid (∀ (o1 o2 : Obj), Below w.heap.size w ((w.alloc o1).alloc o2)) := Lib.hid fun o1 o2 => below_alloc (below_alloc (Below.refl _ _))
  clear h
  generalize checkL t.data.toList = ck at *
  unfold callV at HDO
  unfold callV utilV
  go_enter Tryz.func40, Tryz.ntmps40
  go_wp2_with fail
  refine (HCH.out _).mono ?_
  rintro e w1 ⟨rfl, hb1⟩
  have HB1 : Hid (Below w.heap.size w w1) := Lib.hid ((HAL.out _ _).trans (hb1.out.mono (HAL.out _ _).size))
  have c0 := cell_kept hb1.out (cell_alloc (cell_first (i := 2) rfl))
  have d0 := cell_kept hb1.out (cell_firstE (i := 0) (g := w.heap.size + 1) (by simp) rfl)
  have d1 := cell_kept hb1.out (cell_firstE (i := 1) (g := w.heap.size + 1) (by simp) rfl)
  have d2 := cell_kept hb1.out (cell_firstE (i := 2) (g := w.heap.size + 1) (by simp) rfl)
  clear hb1
  by_cases h0 : ck = 0
  · subst h0
    go_wp2_with fail
    refine (HDO.out (HZ.out (by first | trivial | rfl)) _ HB1.out).mono ?_
    rintro e w2 ⟨cc, nn, rfl, hr, ht2, hg2⟩
    have HR := Lib.hid hr
    have HT2 := Lib.hid ht2
    have HG2 := Lib.hid hg2
    clear hr ht2 hg2
    go_wp2_with fail
    go_ret
    exact ⟨_, _, rfl, HO1.out (by first | trivial | rfl) _ _ HR.out, HT2.out, grown_trans (grown_below HB1.out) HG2.out⟩
  · have e0 : ((ck : Int) != 0) = true := bne_iff_ne.2 (by omega)
    have H0 := Lib.hid h0
    clear h0
    go_wp2_with fail
    go_ret
    exact ⟨_, _, rfl, HO2.out H0.out, ⟨_, _, _, _, HT.out.kept HB1.out⟩, grown_below HB1.out⟩

set_option maxRecDepth 100000 in
set_option maxHeartbeats 8000000 in
theorem doesWith_removeDir {U : Nat → Prop} {w : World} {b N : Nat} {n : Nd} {v0 v1 v2 v3 : Value} (h : TreeU U w b n v0 v1 v2 v3) (hG : TreeN N n) (hN : N + 257 ≤ 20000) (S : ByteArray) (up : Option Addr) (un uc : Nat) (t : ByteArray) (ht : t.size ≤ 40000) :
    Calls Tryz.prog 40 #[utilV ⟨#[]⟩ 0 35, callV S (.slice up un uc) b, .string t] w fun e w' => DidR U (operR rmdirR) n t w b e w' := by
  have HCH : Hid (∀ wx, Calls Tryz.prog 71 #[.string t] wx fun e w' => e = .returned (.int .i64 (checkL t.data.toList)) ∧ Hid (Below wx.heap.size wx w')) := Lib.hid fun wx => check_any t (by omega) wx
  have HDO : Hid (t.size ≤ 256 → ∀ wx, Below w.heap.size w wx → Calls Tryz.prog 35 #[callV S (.slice up un uc) b, .string t] wx fun e w' => DidR U rmdirR n t wx b e w') := Lib.hid fun hs wx hb => dremoveDir_any (h.kept hb) hG (by omega) S up un uc t (by omega)
  have HZ : Hid (checkL t.data.toList = 0 → t.size ≤ 256) := Lib.hid check_size
  have HO1 : Hid (checkL t.data.toList = 0 → ∀ c n', rmdirR n t c n' → operR rmdirR n t c n') := Lib.hid fun h0 c n' hr => by unfold operR; rw [if_pos h0]; exact hr
  have HO2 : Hid (checkL t.data.toList ≠ 0 → operR rmdirR n t (checkL t.data.toList : Int) n) := Lib.hid fun h0 => by unfold operR; rw [if_neg h0]; exact ⟨rfl, rfl⟩
  have HT := Lib.hid h
  have HAL : Hid (∀ (o1 o2 : Obj), Below w.heap.size w ((w.alloc o1).alloc o2)) := Lib.hid fun o1 o2 => below_alloc (below_alloc (Below.refl _ _))
  clear h
  generalize checkL t.data.toList = ck at *
  unfold callV at HDO
  unfold callV utilV
  go_enter Tryz.func40, Tryz.ntmps40
  go_wp2_with fail
  refine (HCH.out _).mono ?_
  rintro e w1 ⟨rfl, hb1⟩
  have HB1 : Hid (Below w.heap.size w w1) := Lib.hid ((HAL.out _ _).trans (hb1.out.mono (HAL.out _ _).size))
  have c0 := cell_kept hb1.out (cell_alloc (cell_first (i := 2) rfl))
  have d0 := cell_kept hb1.out (cell_firstE (i := 0) (g := w.heap.size + 1) (by simp) rfl)
  have d1 := cell_kept hb1.out (cell_firstE (i := 1) (g := w.heap.size + 1) (by simp) rfl)
  have d2 := cell_kept hb1.out (cell_firstE (i := 2) (g := w.heap.size + 1) (by simp) rfl)
  clear hb1
  by_cases h0 : ck = 0
  · subst h0
    go_wp2_with fail
    refine (HDO.out (HZ.out (by first | trivial | rfl)) _ HB1.out).mono ?_
    rintro e w2 ⟨cc, nn, rfl, hr, ht2, hg2⟩
    have HR := Lib.hid hr
    have HT2 := Lib.hid ht2
    have HG2 := Lib.hid hg2
    clear hr ht2 hg2
    go_wp2_with fail
    go_ret
    exact ⟨_, _, rfl, HO1.out (by first | trivial | rfl) _ _ HR.out, HT2.out, grown_trans (grown_below HB1.out) HG2.out⟩
  · have e0 : ((ck : Int) != 0) = true := bne_iff_ne.2 (by omega)
    have H0 := Lib.hid h0
    clear h0
    go_wp2_with fail
    go_ret
    exact ⟨_, _, rfl, HO2.out H0.out, ⟨_, _, _, _, HT.out.kept HB1.out⟩, grown_below HB1.out⟩

set_option maxRecDepth 100000 in
set_option maxHeartbeats 8000000 in
theorem doesWith_touch {U : Nat → Prop} {w : World} {b N : Nat} {n : Nd} {v0 v1 v2 v3 : Value} (h : TreeU U w b n v0 v1 v2 v3) (hG : TreeN N n) (hN : N + 257 ≤ 20000) (S : ByteArray) (up : Option Addr) (un uc : Nat) (t : ByteArray) (ht : t.size ≤ 40000) :
    Calls Tryz.prog 40 #[utilV ⟨#[]⟩ 0 36, callV S (.slice up un uc) b, .string t] w fun e w' => DidR U (operR touchR) n t w b e w' := by
  have HCH : Hid (∀ wx, Calls Tryz.prog 71 #[.string t] wx fun e w' => e = .returned (.int .i64 (checkL t.data.toList)) ∧ Hid (Below wx.heap.size wx w')) := Lib.hid fun wx => check_any t (by omega) wx
  have HDO : Hid (t.size ≤ 256 → ∀ wx, Below w.heap.size w wx → Calls Tryz.prog 36 #[callV S (.slice up un uc) b, .string t] wx fun e w' => DidR U touchR n t wx b e w') := Lib.hid fun hs wx hb => dtouch_any (h.kept hb) hG (by omega) S up un uc t (by omega)
  have HZ : Hid (checkL t.data.toList = 0 → t.size ≤ 256) := Lib.hid check_size
  have HO1 : Hid (checkL t.data.toList = 0 → ∀ c n', touchR n t c n' → operR touchR n t c n') := Lib.hid fun h0 c n' hr => by unfold operR; rw [if_pos h0]; exact hr
  have HO2 : Hid (checkL t.data.toList ≠ 0 → operR touchR n t (checkL t.data.toList : Int) n) := Lib.hid fun h0 => by unfold operR; rw [if_neg h0]; exact ⟨rfl, rfl⟩
  have HT := Lib.hid h
  have HAL : Hid (∀ (o1 o2 : Obj), Below w.heap.size w ((w.alloc o1).alloc o2)) := Lib.hid fun o1 o2 => below_alloc (below_alloc (Below.refl _ _))
  clear h
  generalize checkL t.data.toList = ck at *
  unfold callV at HDO
  unfold callV utilV
  go_enter Tryz.func40, Tryz.ntmps40
  go_wp2_with fail
  refine (HCH.out _).mono ?_
  rintro e w1 ⟨rfl, hb1⟩
  have HB1 : Hid (Below w.heap.size w w1) := Lib.hid ((HAL.out _ _).trans (hb1.out.mono (HAL.out _ _).size))
  have c0 := cell_kept hb1.out (cell_alloc (cell_first (i := 2) rfl))
  have d0 := cell_kept hb1.out (cell_firstE (i := 0) (g := w.heap.size + 1) (by simp) rfl)
  have d1 := cell_kept hb1.out (cell_firstE (i := 1) (g := w.heap.size + 1) (by simp) rfl)
  have d2 := cell_kept hb1.out (cell_firstE (i := 2) (g := w.heap.size + 1) (by simp) rfl)
  clear hb1
  by_cases h0 : ck = 0
  · subst h0
    go_wp2_with fail
    refine (HDO.out (HZ.out (by first | trivial | rfl)) _ HB1.out).mono ?_
    rintro e w2 ⟨cc, nn, rfl, hr, ht2, hg2⟩
    have HR := Lib.hid hr
    have HT2 := Lib.hid ht2
    have HG2 := Lib.hid hg2
    clear hr ht2 hg2
    go_wp2_with fail
    go_ret
    exact ⟨_, _, rfl, HO1.out (by first | trivial | rfl) _ _ HR.out, HT2.out, grown_trans (grown_below HB1.out) HG2.out⟩
  · have e0 : ((ck : Int) != 0) = true := bne_iff_ne.2 (by omega)
    have H0 := Lib.hid h0
    clear h0
    go_wp2_with fail
    go_ret
    exact ⟨_, _, rfl, HO2.out H0.out, ⟨_, _, _, _, HT.out.kept HB1.out⟩, grown_below HB1.out⟩

set_option maxRecDepth 100000 in
set_option maxHeartbeats 8000000 in
theorem doesWith_remove {U : Nat → Prop} {w : World} {b N : Nat} {n : Nd} {v0 v1 v2 v3 : Value} (h : TreeU U w b n v0 v1 v2 v3) (hG : TreeN N n) (hN : N + 257 ≤ 20000) (S : ByteArray) (up : Option Addr) (un uc : Nat) (t : ByteArray) (ht : t.size ≤ 40000) :
    Calls Tryz.prog 40 #[utilV ⟨#[102, 114]⟩ 102 37, callV S (.slice up un uc) b, .string t] w fun e w' => DidR U (operR (rmR (hasB S 102) (hasB S 114))) n t w b e w' := by
  have HCH : Hid (∀ wx, Calls Tryz.prog 71 #[.string t] wx fun e w' => e = .returned (.int .i64 (checkL t.data.toList)) ∧ Hid (Below wx.heap.size wx w')) := Lib.hid fun wx => check_any t (by omega) wx
  have HDO : Hid (t.size ≤ 256 → ∀ wx, Below w.heap.size w wx → Calls Tryz.prog 37 #[callV S (.slice up un uc) b, .string t] wx fun e w' => DidR U (rmR (hasB S 102) (hasB S 114)) n t wx b e w') := Lib.hid fun hs wx hb => dremove_any (h.kept hb) hG (by omega) S up un uc t (by omega)
  have HZ : Hid (checkL t.data.toList = 0 → t.size ≤ 256) := Lib.hid check_size
  have HO1 : Hid (checkL t.data.toList = 0 → ∀ c n', (rmR (hasB S 102) (hasB S 114)) n t c n' → operR (rmR (hasB S 102) (hasB S 114)) n t c n') := Lib.hid fun h0 c n' hr => by unfold operR; rw [if_pos h0]; exact hr
  have HO2 : Hid (checkL t.data.toList ≠ 0 → operR (rmR (hasB S 102) (hasB S 114)) n t (checkL t.data.toList : Int) n) := Lib.hid fun h0 => by unfold operR; rw [if_neg h0]; exact ⟨rfl, rfl⟩
  have HT := Lib.hid h
  have HAL : Hid (∀ (o1 o2 : Obj), Below w.heap.size w ((w.alloc o1).alloc o2)) := Lib.hid fun o1 o2 => below_alloc (below_alloc (Below.refl _ _))
  clear h
  generalize checkL t.data.toList = ck at *
  unfold callV at HDO
  unfold callV utilV
  go_enter Tryz.func40, Tryz.ntmps40
  go_wp2_with fail
  refine (HCH.out _).mono ?_
  rintro e w1 ⟨rfl, hb1⟩
  have HB1 : Hid (Below w.heap.size w w1) := Lib.hid ((HAL.out _ _).trans (hb1.out.mono (HAL.out _ _).size))
  have c0 := cell_kept hb1.out (cell_alloc (cell_first (i := 2) rfl))
  have d0 := cell_kept hb1.out (cell_firstE (i := 0) (g := w.heap.size + 1) (by simp) rfl)
  have d1 := cell_kept hb1.out (cell_firstE (i := 1) (g := w.heap.size + 1) (by simp) rfl)
  have d2 := cell_kept hb1.out (cell_firstE (i := 2) (g := w.heap.size + 1) (by simp) rfl)
  clear hb1
  by_cases h0 : ck = 0
  · subst h0
    go_wp2_with fail
    refine (HDO.out (HZ.out (by first | trivial | rfl)) _ HB1.out).mono ?_
    rintro e w2 ⟨cc, nn, rfl, hr, ht2, hg2⟩
    have HR := Lib.hid hr
    have HT2 := Lib.hid ht2
    have HG2 := Lib.hid hg2
    clear hr ht2 hg2
    go_wp2_with fail
    go_ret
    exact ⟨_, _, rfl, HO1.out (by first | trivial | rfl) _ _ HR.out, HT2.out, grown_trans (grown_below HB1.out) HG2.out⟩
  · have e0 : ((ck : Int) != 0) = true := bne_iff_ne.2 (by omega)
    have H0 := Lib.hid h0
    clear h0
    go_wp2_with fail
    go_ret
    exact ⟨_, _, rfl, HO2.out H0.out, ⟨_, _, _, _, HT.out.kept HB1.out⟩, grown_below HB1.out⟩
end Go.Proofs.YtmofodaecakkfaaGreat
/- What a run of a utility comes to, as data; a tree that stays while a builder turns. -/
namespace Go.Proofs.YtmofodaecakkfaaGreat
open Go.RowKit Px Nx Wk Dn Ox
namespace Dn
/-- A run of a utility: its letters, the one with which it needs no operands, what it does; the words behind its name. -/
def RunD (O : List UInt8) (A : UInt8) (R : ByteArray → Rel) (n : Nd) (name : ByteArray) (xs : List ByteArray) (code : Int) (err : ByteArray) (n' : Nd) : Prop :=
  (((parseD O xs 0 xs.length).2.2 ≠ 0 ∨ ((parseD O xs 0 xs.length).2.1 = [] ∧ hasB (parseD O xs 0 xs.length).1 A = false)) ∧ code = 2 ∧ err = name ++ ⟨#[58, 32, 117, 115, 97, 103, 101, 10]⟩ ∧ n' = n) ∨
  ((parseD O xs 0 xs.length).2.2 = 0 ∧ ∃ bad, Ops (operR (R (parseD O xs 0 xs.length).1)) n (parseD O xs 0 xs.length).2.1 bad n' ∧ ((bad = [] ∧ code = 0 ∧ err = ⟨#[]⟩) ∨ (bad ≠ [] ∧ code = 1 ∧ err = ⟨(linesL name bad).toArray⟩)))
def RunQ (O : List UInt8) (A : UInt8) (R : ByteArray → Rel) (n : Nd) (name : ByteArray) (xs : List ByteArray) (w : World) (b : Nat) (e : Ending) (w' : World) : Prop :=
  ∃ code err n', e = .returned (.tuple #[.int .i64 code, .string err]) ∧ RunD O A R n name xs code err n' ∧ (∃ x0 x1 x2 x3, TreeX w' b n' x0 x1 x2 x3) ∧ w.grownBy w' (some b)
theorem lines_snoc (name : ByteArray) (bad : List (ByteArray × Int)) (x : ByteArray × Int) : linesL name (bad ++ [x]) = linesL name bad ++ lineL name x := by simp [linesL]
theorem line_cat (name y : ByteArray) (c : Int) : (name ++ ⟨#[58, 32]⟩ ++ y ++ ⟨#[58, 32]⟩ ++ reasonD c ++ ⟨#[10]⟩ : ByteArray).data.toList = lineL name (y, c) := by
  simp [lineL, ByteArray.data_append]
theorem line_ne (name : ByteArray) (x : ByteArray × Int) : lineL name x ≠ [] := by simp [lineL]
theorem bif_size {b : Bool} {x y : ByteArray} (hx : x.size ≤ 20) (hy : y.size ≤ 20) : (bif b then x else y).size ≤ 20 := by cases b <;> assumption
theorem reason_size (c : Int) : (reasonD c).size ≤ 20 := by
  unfold reasonD
  exact bif_size (of_decide_eq_true (by kernel_rfl)) (bif_size (of_decide_eq_true (by kernel_rfl)) (bif_size (of_decide_eq_true (by kernel_rfl)) (bif_size (of_decide_eq_true (by kernel_rfl)) (bif_size (of_decide_eq_true (by kernel_rfl)) (bif_size (of_decide_eq_true (by kernel_rfl)) (bif_size (of_decide_eq_true (by kernel_rfl)) (bif_size (of_decide_eq_true (by kernel_rfl)) (of_decide_eq_true (by kernel_rfl)))))))))
theorem lines_size (name : ByteArray) (hn : name.size ≤ 600) : ∀ bad : List (ByteArray × Int), (∀ x ∈ bad, x.1.size ≤ 600) → (linesL name bad).length ≤ 1300 * bad.length
  | [], _ => Nat.zero_le _
  | x :: r, h => by
    have ih := lines_size name hn r fun y hy => h y (List.mem_cons_of_mem _ hy)
    have h1 := h x (by simp)
    have h2 := reason_size x.2
    have e : linesL name (x :: r) = lineL name x ++ linesL name r := by simp [linesL]
    rw [e, List.length_append, List.length_cons]
    have e2 : (lineL name x).length = name.size + x.1.size + (reasonD x.2).size + 5 := by
      have q : ∀ s : ByteArray, s.data.toList.length = s.size := fun s => by rw [Array.length_toList]; rfl
      simp only [lineL, List.length_append, q, List.length_cons, List.length_nil]
      omega
    rw [e2]
    omega
/-- What was refused is of the operands. -/
theorem bad_mem {R : Rel} {n n' : Nd} {l : List ByteArray} {bad : List (ByteArray × Int)} (h : Ops R n l bad n') : (∀ x ∈ bad, x.1 ∈ l) ∧ bad.length ≤ l.length := by
  induction h with
  | nil n => exact ⟨fun x hx => by simp at hx, Nat.le_refl _⟩
  | ok _ _ ih => exact ⟨fun x hx => List.mem_cons_of_mem _ (ih.1 x hx), Nat.le_trans ih.2 (by simp)⟩
  | bad _ _ _ ih =>
    refine ⟨fun x hx => ?_, by simpa using ih.2⟩
    rcases List.mem_cons.1 hx with rfl | hx
    · simp
    · exact List.mem_cons_of_mem _ (ih.1 x hx)
theorem cut_mem {kn : List UInt8} : ∀ {l : List ByteArray} {t : List UInt8} {ops : List ByteArray}, cutD kn l = some (t, ops) → ∀ y ∈ ops, y ∈ l
  | [], t, ops, h, y, hy => by
    simp only [cutD, Option.some.injEq, Prod.mk.injEq] at h
    rw [← h.2] at hy
    exact hy
  | w :: r, t, ops, h, y, hy => by
    unfold cutD at h
    split at h
    · simp only [Option.some.injEq, Prod.mk.injEq] at h
      rw [← h.2] at hy
      exact List.mem_cons_of_mem _ hy
    · split at h
      · simp only [Option.some.injEq, Prod.mk.injEq] at h
        rw [← h.2] at hy
        exact hy
      · split at h
        · cases hr : cutD kn r with
          | none => rw [hr] at h; cases h
          | some q =>
            obtain ⟨q1, q2⟩ := q
            rw [hr] at h
            simp only [Option.map_some, Option.some.injEq, Prod.mk.injEq] at h
            rw [← h.2] at hy
            exact List.mem_cons_of_mem _ (cut_mem hr y hy)
        · cases h
theorem parse_mem {kn : List UInt8} {xs : List ByteArray} {a b : Int} {y : ByteArray} (h : y ∈ (parseD kn xs a b).2.1) : y ∈ xs := by
  unfold parseD at h
  split at h
  · simp at h
  · split at h
    · simp at h
    · rename_i t ops hc
      split at h
      · simp at h
      · exact cut_mem hc y h
theorem parse_len {kn : List UInt8} {xs : List ByteArray} {a b : Int} : (parseD kn xs a b).2.1.length ≤ xs.length := by
  unfold parseD
  split
  · exact Nat.zero_le _
  · split
    · exact Nat.zero_le _
    · rename_i t ops hc
      split
      · exact Nat.zero_le _
      · exact cutD_len hc
end Dn
theorem NodeX.lt {w : World} {S : Nat → Prop} {cs : List Value} {x : Nd} (h : NodeX w S cs x) : NodeX w (fun k => S k ∧ k < w.heap.size) cs x := by
  induction h with
  | mk kind text names kids p q c d D h1 h2 h3 h4 h5 h6 h7 h8 _ ih =>
    refine .mk kind text names kids p q c d D h1 h2 h3 (fun a ha hl => ⟨h4 a ha hl, ?_⟩) h5 h6 h7 (fun a ha hl => ⟨h8 a ha hl, ?_⟩) ih
    · obtain ⟨b, o, e1, e2⟩ := h3 0 (by omega)
      rw [ha] at e1
      cases e1
      exact World.block_lt_of_cell? _ _ e2
    · obtain ⟨b, o, e1, hl4, hr⟩ := h7 0 (by omega)
      rw [ha] at e1
      cases e1
      obtain ⟨v, hv⟩ : ∃ v, (D 0)[0]? = some v := ⟨_, List.getElem?_eq_getElem (by omega)⟩
      exact World.block_lt_of_cell? _ _ (hr 0 v hv)
/-- A tree stays where its blocks stay. -/
theorem TreeS.stay {w w' : World} {S S' : Nat → Prop} {b : Nat} {n : Nd} {v0 v1 v2 v3 : Value} (h : TreeS w S b n v0 v1 v2 v3) (hb : w'.heap[b]? = w.heap[b]?) (hs : ∀ k, S k → k < w.heap.size → w'.heap[k]? = w.heap[k]? ∧ S' k) (ho : ¬ S' b) : TreeS w' S' b n v0 v1 v2 v3 :=
  ⟨hb.trans h.blk, (NodeX.lt h.node).same fun k hk => hs k hk.1 hk.2, ho⟩
end Go.Proofs.YtmofodaecakkfaaGreat
