/- Data: what a run of mv, cp, ln comes to is told; many sources, a directory at the goal: one behind the other. No program. -/
import Derived.Test.YtfilbknnpjbmcaaGreatDoorKb47
import Derived.Test.YtfilbknnpjbmcaaGreatDoorKb45
namespace Go.Proofs.YtfilbknnpjbmcaaGreatDoor
open Go.RowKit Px Nx Wk Dn Ox Mv
namespace Mv
theorem leads_oneM {n : Nd} {fo : Bool} {t : ByteArray} {o o' : Out} (h : Leads n fo t o) (h' : Leads n fo t o') : o = o' := run_det h h' (Nat.zero_le _)
theorem is_one {r : Int × Nd} {c c' : Int} {m m' : Nd} (h : Is r c m) (h' : Is r c' m') : c = c' ∧ m = m' := ⟨h.1.trans h'.1.symm, h.2.trans h'.2.symm⟩
def Det (R : Rel) : Prop := ∀ {n : Nd} {s : ByteArray} {c c' : Int} {m m' : Nd}, R n s c m → R n s c' m' → c = c' ∧ m = m'
theorem stands_det {n : Nd} {fo : Bool} {t : ByteArray} {c c' : Int} {p p' : List ByteArray} (h : standsR n fo t c p) (h' : standsR n fo t c' p') : c = c' ∧ p = p' := by
 unfold standsR at h h'
 split at h
 ·rename_i h0
  rw [if_pos h0] at h'
  exact ⟨h.1.trans h'.1.symm, h.2.trans h'.2.symm⟩
 ·rename_i h0
  rw [if_neg h0] at h'
  obtain ⟨o, h1, h2⟩ := h
  obtain ⟨o', h1', h2'⟩ := h'
  obtain rfl := leads_oneM h1 h1'
  cases o with
  | err e => exact ⟨h2.1.trans h2'.1.symm, h2.2.trans h2'.2.symm⟩
  | ok q k =>
   dsimp only at h2 h2'
   split at h2
   ·rename_i hk
    rw [if_pos hk] at h2'
    exact ⟨h2.1.trans h2'.1.symm, h2.2.trans h2'.2.symm⟩
   ·rename_i hk
    rw [if_neg hk] at h2'
    exact ⟨h2.1.trans h2'.1.symm, h2.2.trans h2'.2.symm⟩
theorem to_det {g : Goal} {s : ByteArray} {n m m' : Nd} {c c' : Int} {F : List ByteArray → Int × Nd} (h : byTo g s n c m fun tq => Is (F tq) c m) (h' : byTo g s n c' m' fun tq => Is (F tq) c' m') : c = c' ∧ m = m' := by
 unfold byTo at h h'
 cases ht : toD g s with
 | none => rw [ht] at h h'; exact is_one h h'
 | some q => rw [ht] at h h'; exact is_one h h'
theorem mv_det (g : Goal) : Det (mvR g) := by
 rintro n s c c' m m' ⟨e, p, h1, h2⟩ ⟨e', p', h1', h2'⟩
 obtain ⟨rfl, rfl⟩ := stands_det h1 h1'
 split at h2
 ·rename_i h0
  rw [if_pos h0] at h2'
  exact is_one h2 h2'
 ·rename_i h0
  rw [if_neg h0] at h2'
  exact to_det h2 h2'
theorem cp_det (d : Bool) (g : Goal) : Det (cpR d g) := by
 rintro n s c c' m m' ⟨e, p, h1, h2⟩ ⟨e', p', h1', h2'⟩
 obtain ⟨rfl, rfl⟩ := stands_det h1 h1'
 split at h2
 ·rename_i h0
  rw [if_pos h0] at h2'
  exact is_one h2 h2'
 ·rename_i h0
  rw [if_neg h0] at h2'
  exact to_det h2 h2'
theorem ln_det (f : Bool) (g : Goal) : Det (lnR f g) := by
 intro n s c c' m m' h h'
 unfold lnR at h h'
 split at h
 ·rename_i h0
  rw [if_pos h0] at h'
  exact is_one h h'
 ·rename_i h0
  rw [if_neg h0] at h'
  exact to_det h h'
theorem ops_det {R : Rel} (hR : Det R) {n m : Nd} {l : List ByteArray} {bad : List (ByteArray × Int)} (h : Ops R n l bad m) : ∀ {bad' : List (ByteArray × Int)} {m' : Nd}, Ops R n l bad' m' → bad = bad' ∧ m = m' := by
 induction h with
 | nil n => intro bad' m' h'; cases h'; exact ⟨rfl, rfl⟩
 | ok h1 _ ih =>
  intro bad' m' h'
  cases h' with
  | ok h1' h2' =>
   obtain ⟨_, rfl⟩ := hR h1 h1'
   exact ih h2'
  | bad h1' hc h2' => exact absurd (hR h1 h1').1.symm hc
 | bad h1 hc _ ih =>
  intro bad' m' h'
  cases h' with
  | ok h1' h2' => exact absurd (hR h1 h1').1 hc
  | bad h1' hc' h2' =>
   obtain ⟨rfl, rfl⟩ := hR h1 h1'
   obtain ⟨rfl, rfl⟩ := ih h2'
   exact ⟨rfl, rfl⟩
theorem ops_app {R : Rel} {n m : Nd} {l : List ByteArray} {bad : List (ByteArray × Int)} (h : Ops R n l bad m) : ∀ {l' : List ByteArray} {bad' : List (ByteArray × Int)} {m' : Nd}, Ops R m l' bad' m' → Ops R n (l ++ l') (bad ++ bad') m' := by
 induction h with
 | nil n => intro l' bad' m' h'; exact h'
 | ok h1 _ ih => intro l' bad' m' h'; exact .ok h1 (ih h')
 | bad h1 hc _ ih => intro l' bad' m' h'; exact .bad h1 hc (ih h')
structure TellM (name : ByteArray) (bad : List (ByteArray × Int)) (code : Int) (err : ByteArray) : Prop where
 code : code = if bad = [] then 0 else 1
 err : err = ⟨(linesM name bad).toArray⟩
structure DirAt (n : Nd) (goal : ByteArray) (P : List ByteArray) : Prop where
 check : checkL goal.data.toList = 0
 leads : Leads n true goal (.ok P 2)
theorem gom_into {cp : Bool} {R : Goal → Rel} {n n' : Nd} {name goal err : ByteArray} {l P : List ByteArray} {code : Int} (hd : DirAt n goal P) (h : GoM cp R n name (l ++ [goal]) code err n') : ∃ bad, Ops (R (.into P)) n l bad n' ∧ TellM name bad code err := by
 obtain ⟨c, g, h1, h2⟩ := h
 have e1 : (l ++ [goal]).getD ((l ++ [goal]).length - 1) ByteArray.empty = goal := by simp
 have e2 : (l ++ [goal]).take ((l ++ [goal]).length - 1) = l := by simp
 rw [e1] at h1
 rw [e2] at h2
 unfold goalR at h1
 rw [if_neg (fun h => h hd.check)] at h1
 obtain ⟨o, ho, h1⟩ := h1
 obtain rfl := leads_oneM ho hd.leads
 dsimp only at h1
 rw [if_pos rfl] at h1
 obtain ⟨rfl, rfl⟩ := h1
 rcases h2 with ⟨h0, _⟩ | ⟨_, bad, ho, ⟨rfl, rfl, rfl⟩ | ⟨hb, rfl, rfl⟩⟩
 ·exact absurd rfl h0
 ·exact ⟨[], ho, ⟨rfl, rfl⟩⟩
 ·exact ⟨bad, ho, ⟨by rw [if_neg hb], rfl⟩⟩
structure Many (R : Rel) (n : Nd) (name : ByteArray) (l : List ByteArray) (code : Int) (err : ByteArray) (m : Nd) : Prop where
 all : ∃ bad, Ops R n l bad m ∧ TellM name bad code err
theorem many_nil (R : Rel) (n : Nd) (name : ByteArray) : Many R n name [] 0 ⟨#[]⟩ n := ⟨⟨[], .nil n, rfl, rfl⟩⟩
theorem many_snoc {cp : Bool} {R : Goal → Rel} {n m m' : Nd} {name goal e e' s : ByteArray} {l P : List ByteArray} {c c' : Int} (h : Many (R (.into P)) n name l c e m) (hd : DirAt m goal P) (hg : GoM cp R m name [s, goal] c' e' m') : Many (R (.into P)) n name (l ++ [s]) (max c c') (e ++ e') m' := by
 obtain ⟨bad, h1, rfl, rfl⟩ := h.all
 obtain ⟨bad', h1', rfl, rfl⟩ := gom_into (l := [s]) hd hg
 refine ⟨⟨bad ++ bad', ops_app h1 h1', ?_, ?_⟩⟩
 ·cases bad <;> cases bad' <;> rfl
 ·have : linesM name (bad ++ bad') = linesM name bad ++ linesM name bad' := by simp [linesM]
  rw [this]
  apply ByteArray.ext
  simp
theorem many_one {cp : Bool} {R : Goal → Rel} (hR : ∀ g, Det (R g)) {n m m' : Nd} {name goal e e' : ByteArray} {l P : List ByteArray} {c c' : Int} (hd : DirAt n goal P) (h : Many (R (.into P)) n name l c e m) (hg : GoM cp R n name (l ++ [goal]) c' e' m') : c = c' ∧ e = e' ∧ m = m' := by
 obtain ⟨bad, h1, rfl, rfl⟩ := h.all
 obtain ⟨bad', h1', rfl, rfl⟩ := gom_into hd hg
 obtain ⟨rfl, rfl⟩ := ops_det (R := R (.into P)) (hR (.into P)) h1 h1'
 exact ⟨rfl, rfl, rfl⟩
theorem parse_dd {O : List UInt8} (hO : O.all isLetter = true) {l : List ByteArray} (h1 : 2 ≤ l.length) (h2 : l.length ≤ 1000) : parseD O (⟨#[45, 45]⟩ :: l) 2 bigI = (setD [], l, 0) := by
 unfold parseD
 rw [if_neg (by rintro (h | h | h); exact absurd h (by decide); exact absurd h (by decide); rw [hO] at h; cases h)]
 have : cutD O (⟨#[45, 45]⟩ :: l) = some ([], l) := by rw [cutD, if_pos rfl]
 rw [this]
 dsimp only
 rw [if_neg (by unfold bigI; omega)]
theorem parse_od {O : List UInt8} (hO : O.all isLetter = true) {t : List UInt8} (ht : t ≠ []) (h45 : t ≠ [45]) (hk : t.all O.contains = true) {l : List ByteArray} (h1 : 2 ≤ l.length) (h2 : l.length ≤ 1000) : parseD O (⟨(45 :: t).toArray⟩ :: ⟨#[45, 45]⟩ :: l) 2 bigI = (setD t, l, 0) := by
 unfold parseD
 rw [if_neg (by rintro (h | h | h); exact absurd h (by decide); exact absurd h (by decide); rw [hO] at h; cases h)]
 have hs : ¬ ((⟨(45 :: t).toArray⟩ : ByteArray).size < 2 ∨ (⟨(45 :: t).toArray⟩ : ByteArray).data.toList.head? ≠ some 45) := by
  rintro (h | h)
  ·have : (⟨(45 :: t).toArray⟩ : ByteArray).size = t.length + 1 := by simp [ByteArray.size]
   rw [this] at h
   exact ht (List.length_eq_zero_iff.1 (by omega))
  ·exact h rfl
 have hne : (⟨(45 :: t).toArray⟩ : ByteArray) ≠ ⟨#[45, 45]⟩ := fun h => h45 (by
  have := congrArg (fun b : ByteArray => b.data.toList) h
  simpa using this)
 have : cutD O (⟨(45 :: t).toArray⟩ :: ⟨#[45, 45]⟩ :: l) = some (t, l) := by
  rw [cutD, if_neg hne, if_neg hs, if_pos (by simpa using hk), cutD, if_pos rfl]
  simp
 rw [this]
 dsimp only
 rw [if_neg (by unfold bigI; omega)]
end Mv
end Go.Proofs.YtfilbknnpjbmcaaGreatDoor
/- The five heads of calls that MovesMany knows: what Run of each comes to. No walk of its own. -/
namespace Go.Proofs.YtfilbknnpjbmcaaGreatDoor
open Go.RowKit Px Nx Wk Dn Ox Mv
def heads : List (List ByteArray) := [[⟨#[109, 118]⟩, ⟨#[45, 45]⟩], [⟨#[99, 112]⟩, ⟨#[45, 45]⟩], [⟨#[99, 112]⟩, ⟨#[45, 114]⟩, ⟨#[45, 45]⟩], [⟨#[108, 110]⟩, ⟨#[45, 115]⟩, ⟨#[45, 45]⟩], [⟨#[108, 110]⟩, ⟨#[45, 115, 102]⟩, ⟨#[45, 45]⟩]]
namespace Mv
theorem RunM.ops {O : List UInt8} {must : ByteArray → Bool} {cp : Bool} {R : ByteArray → Goal → Rel} {n n' : Nd} {name err S : ByteArray} {xs l : List ByteArray} {code : Int} (h : RunM O must cp R n name xs code err n') (hp : parseD O xs 2 bigI = (S, l, 0)) (hm : must S = true) : GoM cp (R S) n name l code err n' := by
 unfold RunM at h
 rw [hp] at h
 rcases h with ⟨h1 | h1, _⟩ | ⟨_, _, _, h⟩
 ·exact absurd rfl h1
 ·rw [hm] at h1; cases h1
 ·exact h
structure HeadOk (cp : Bool) (R : Goal → Rel) (name : ByteArray) (pre : List ByteArray) : Prop where
 det : ∀ g, Det (R g)
 grow : ∀ (g : Goal) (H : Nat) (nk nk' : Nd) (s : ByteArray) (c : Int), TreeG H nk → namesBulk g.place ≤ 700000 → R g nk s c nk' → TreeG (H + 5710000) nk'
 plen : pre.length = 1 ∨ pre.length = 2
 nm : name.size ≤ 600
 run : ∀ {w : World} {b b2 G : Nat} {n : Nd} {v0 v1 v2 v3 : Value}, TreeY b2 w b n v0 v1 v2 v3 → b2 < w.heap.size → TreeG G n → ∀ {bb oo c : Nat} {l : List ByteArray}, PlR w (.slice (some ⟨bb, oo, none⟩) ((pre ++ l).length + 1) c) (name :: (pre ++ l)) → 2 ≤ l.length → l.length ≤ 12 → (∀ x ∈ l, x.size ≤ 6000) → G + 5710000 * (l.length + 2) ≤ 90000000 →
  Calls Tryz.prog 10 #[.iface 28 (.pointer (some ⟨b, 0, none⟩)), .slice (some ⟨bb, oo, none⟩) ((pre ++ l).length + 1 : Nat) c] w fun e w' => ∃ code err n', e = .returned (.tuple #[.int .i64 code, .string ⟨#[]⟩, .string err, .bool true]) ∧ GoM cp R n name l code err n' ∧ (∃ x0 x1 x2 x3, TreeY b2 w' b n' x0 x1 x2 x3) ∧ w.grownBy w' (some b)
theorem pre_sizes {pre l : List ByteArray} (hp : ∀ x ∈ pre, x.size ≤ 6000) (h : ∀ x ∈ l, x.size ≤ 6000) : ∀ x ∈ pre ++ l, x.size ≤ 6000 := fun x hx => (List.mem_append.1 hx).elim (hp x) (h x)
theorem head_mv : HeadOk false (fun g => mvR g) nMv [⟨#[45, 45]⟩] where
 det g := mv_det g
 grow := grow_mv
 plen := .inl rfl
 nm := of_decide_eq_true (by kernel_rfl)
 run := by
  intro w b b2 G n v0 v1 v2 v3 h hb2 hG bb oo c l hx h2 h12 hs hN
  refine (RunY_mv h hb2 hG (K := l.length + 2) hN hx (by simp; omega) (pre_sizes (by intro x hx; simp only [List.mem_cons, List.not_mem_nil, or_false] at hx; rw [hx]; decide) hs) (by simp)).mono ?_
  rintro e w' ⟨code, err, n', he, hr, ht, hg⟩
  exact ⟨code, err, n', he, hr.ops (S := setD []) (l := l) (parse_dd (l := l) (by decide) h2 (by omega)) rfl, ht, hg⟩
theorem head_cp : HeadOk true (fun g => cpR (hasB (setD []) 114 || hasB (setD []) 82) g) nCp [⟨#[45, 45]⟩] where
 det g := cp_det _ g
 grow := grow_cp _
 plen := .inl rfl
 nm := of_decide_eq_true (by kernel_rfl)
 run := by
  intro w b b2 G n v0 v1 v2 v3 h hb2 hG bb oo c l hx h2 h12 hs hN
  refine (RunY_cp h hb2 hG (K := l.length + 2) hN hx (by simp; omega) (pre_sizes (by intro x hx; simp only [List.mem_cons, List.not_mem_nil, or_false] at hx; rw [hx]; decide) hs) (by simp)).mono ?_
  rintro e w' ⟨code, err, n', he, hr, ht, hg⟩
  exact ⟨code, err, n', he, hr.ops (S := setD []) (l := l) (parse_dd (l := l) (by decide) h2 (by omega)) rfl, ht, hg⟩
theorem head_cpr (t : UInt8) (ht : t = 114 ∨ t = 82) : HeadOk true (fun g => cpR (hasB (setD [t]) 114 || hasB (setD [t]) 82) g) nCp [⟨#[45, t]⟩, ⟨#[45, 45]⟩] where
 det g := cp_det _ g
 grow := grow_cp _
 plen := .inr rfl
 nm := of_decide_eq_true (by kernel_rfl)
 run := by
  intro w b b2 G n v0 v1 v2 v3 h hb2 hG bb oo c l hx h2 h12 hs hN
  have hsz : ∀ x ∈ ([⟨#[45, t]⟩, ⟨#[45, 45]⟩] : List ByteArray), x.size ≤ 6000 := by
   intro x hx
   simp only [List.mem_cons, List.not_mem_nil, or_false] at hx
   rcases hx with rfl | rfl
   ·show 2 ≤ 6000
    omega
   ·decide
  refine (RunY_cp h hb2 hG (K := l.length + 2) hN hx (by simp; omega) (pre_sizes hsz hs) (by simp)).mono ?_
  rintro e w' ⟨code, err, n', he, hr, ht', hg⟩
  have hp : parseD [82, 102, 114] ([⟨#[45, t]⟩, ⟨#[45, 45]⟩] ++ l) 2 bigI = (setD [t], l, 0) := parse_od (O := [82, 102, 114]) (t := [t]) (l := l) (by decide) (by simp) (by rcases ht with rfl | rfl <;> decide) (by rcases ht with rfl | rfl <;> decide) h2 (by omega)
  exact ⟨code, err, n', he, hr.ops hp rfl, ht', hg⟩
theorem head_ln : HeadOk false (fun g => lnR (hasB (setD [115]) 102) g) nLn [⟨#[45, 115]⟩, ⟨#[45, 45]⟩] where
 det g := ln_det _ g
 grow := grow_ln _
 plen := .inr rfl
 nm := of_decide_eq_true (by kernel_rfl)
 run := by
  intro w b b2 G n v0 v1 v2 v3 h hb2 hG bb oo c l hx h2 h12 hs hN
  refine (RunY_ln h hb2 hG (K := l.length + 2) hN hx (by simp; omega) (pre_sizes (by intro x hx; simp only [List.mem_cons, List.not_mem_nil, or_false] at hx; rcases hx with rfl | rfl <;> decide) hs) (by simp)).mono ?_
  rintro e w' ⟨code, err, n', he, hr, ht', hg⟩
  have hp : parseD [102, 115] ([⟨#[45, 115]⟩, ⟨#[45, 45]⟩] ++ l) 2 bigI = (setD [115], l, 0) := parse_od (O := [102, 115]) (t := [115]) (l := l) (by decide) (by simp) (by decide) (by decide) h2 (by omega)
  exact ⟨code, err, n', he, hr.ops hp (of_decide_eq_true (by kernel_rfl)), ht', hg⟩
theorem head_lnf : HeadOk false (fun g => lnR (hasB (setD [115, 102]) 102) g) nLn [⟨#[45, 115, 102]⟩, ⟨#[45, 45]⟩] where
 det g := ln_det _ g
 grow := grow_ln _
 plen := .inr rfl
 nm := of_decide_eq_true (by kernel_rfl)
 run := by
  intro w b b2 G n v0 v1 v2 v3 h hb2 hG bb oo c l hx h2 h12 hs hN
  refine (RunY_ln h hb2 hG (K := l.length + 2) hN hx (by simp; omega) (pre_sizes (by intro x hx; simp only [List.mem_cons, List.not_mem_nil, or_false] at hx; rcases hx with rfl | rfl <;> decide) hs) (by simp)).mono ?_
  rintro e w' ⟨code, err, n', he, hr, ht', hg⟩
  have hp : parseD [102, 115] ([⟨#[45, 115, 102]⟩, ⟨#[45, 45]⟩] ++ l) 2 bigI = (setD [115, 102], l, 0) := parse_od (O := [102, 115]) (t := [115, 102]) (l := l) (by decide) (by simp) (by decide) (by decide) h2 (by omega)
  exact ⟨code, err, n', he, hr.ops hp (of_decide_eq_true (by kernel_rfl)), ht', hg⟩
theorem head_ok {hd : List ByteArray} (h : hd ∈ heads) : ∃ cp R name pre, hd = name :: pre ∧ HeadOk cp R name pre := by
 simp only [heads, List.mem_cons, List.not_mem_nil, or_false] at h
 rcases h with rfl | rfl | rfl | rfl | rfl
 ·exact ⟨_, _, _, _, rfl, head_mv⟩
 ·exact ⟨_, _, _, _, rfl, head_cp⟩
 ·exact ⟨_, _, _, _, rfl, head_cpr 114 (.inl rfl)⟩
 ·exact ⟨_, _, _, _, rfl, head_ln⟩
 ·exact ⟨_, _, _, _, rfl, head_lnf⟩
theorem ops_growM {R : Rel} (hgrow : ∀ (H : Nat) (nk nk' : Nd) (s : ByteArray) (c : Int), TreeG H nk → R nk s c nk' → TreeG (H + 5710000) nk') {n m : Nd} {l : List ByteArray} {bad : List (ByteArray × Int)} (h : Ops R n l bad m) : ∀ {G : Nat}, TreeG G n → TreeG (G + 5710000 * l.length) m := by
 induction h with
 | nil n => intro G hG; exact hG
 | ok h1 _ ih =>
  intro G hG
  have := ih (hgrow _ _ _ _ _ hG h1)
  exact this.more (by rw [List.length_cons]; omega)
 | bad h1 _ _ ih =>
  intro G hG
  have := ih (hgrow _ _ _ _ _ hG h1)
  exact this.more (by rw [List.length_cons]; omega)
theorem HeadOk.one {cp : Bool} {R : Goal → Rel} {name : ByteArray} {pre : List ByteArray} (h : HeadOk cp R name pre) {G : Nat} {m m' : Nd} (hG : TreeG G m) {goal s err : ByteArray} {P : List ByteArray} {c : Int} (hd : DirAt m goal P) (hs : goal.size ≤ 256) (hg : GoM cp R m name [s, goal] c err m') : TreeG (G + 5710000) m' := by
 obtain ⟨bad, h1, _⟩ := gom_into (l := [s]) hd hg
 exact ops_growM (fun H nk nk' s c ht hr => h.grow (.into P) H nk nk' s c ht (leads_names hG hd.leads hs) hr) h1 hG
theorem HeadOk.all {cp : Bool} {R : Goal → Rel} {name : ByteArray} {pre : List ByteArray} (h : HeadOk cp R name pre) {G : Nat} {m m' : Nd} (hG : TreeG G m) {goal err : ByteArray} {l P : List ByteArray} {c : Int} (hd : DirAt m goal P) (hs : goal.size ≤ 256) (hg : GoM cp R m name (l ++ [goal]) c err m') : TreeG (G + 5710000 * l.length) m' := by
 obtain ⟨bad, h1, _⟩ := gom_into hd hg
 exact ops_growM (fun H nk nk' s c ht hr => h.grow (.into P) H nk nk' s c ht (leads_names hG hd.leads hs) hr) h1 hG
end Mv
end Go.Proofs.YtfilbknnpjbmcaaGreatDoor
