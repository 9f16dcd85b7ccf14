/- Walks: Find and Spot: they tell where a way ends. -/
import Derived.Test.YtfilbknnpjbmcaaGreatDoorKb30
import Derived.Test.YtfilbknnpjbmcaaGreatDoorKb24
import Derived.Test.YtfilbknnpjbmcaaGreatDoorKb06
import Derived.Test.YtfilbknnpjbmcaaGreatDoorKb23
namespace Go.Proofs.YtfilbknnpjbmcaaGreatDoor
open Go.RowKit Px Nx Wk

def outR (w' : World) (o : Out) (e : Ending) : Prop := match o with
 | .ok p k => ∃ pv, e = .returned (.tuple #[pv, .int .u8 k.toNat, .int .i64 0]) ∧ PlR w' pv p
 | .err c => e = .returned (.tuple #[.slice none 0 0, .int .u8 0, .int .i64 c])
def outB (w w' : World) (o : Out) (e : Ending) : Prop := match o with
 | .ok p k => ∃ pv, e = .returned (.tuple #[pv, .int .u8 k.toNat, .int .i64 0]) ∧ w'.ownsRow w.heap.size 9 1 pv p.length (p.map Value.string)
 | .err c => e = .returned (.tuple #[.slice none 0 0, .int .u8 0, .int .i64 c])
def LeadsO (n : Nd) (fo : Bool) (t : ByteArray) (w : World) (e : Ending) (w' : World) : Prop := ∃ o, Run n stepsB dirB absB fo [] (stepsB t) 0 (dirB t) o ∧ outB w w' o e
def LeadsQ (n : Nd) (fo : Bool) (t : ByteArray) (e : Ending) (w' : World) : Prop := ∃ o, Run n stepsB dirB absB fo [] (stepsB t) 0 (dirB t) o ∧ outR w' o e
theorem LeadsO.q {n : Nd} {fo : Bool} {t : ByteArray} {w : World} {e : Ending} {w' : World} (h : LeadsO n fo t w e w') : LeadsQ n fo t e w' := by
 obtain ⟨o, ho, h⟩ := h
 refine ⟨o, ho, ?_⟩
 cases o with
 | err c => exact h
 | ok p k =>
  obtain ⟨pv, he, hp⟩ := h
  exact ⟨pv, he, plR_of_own hp⟩
theorem plG_old {w1 w2 : World} {g : Nat} {v : Value} {l : List ByteArray} (h : PlR w1 v l) (hb : Below w1.heap.size w1 w2) (hg : w1.heap.size ≤ g) : PlG w2 g v l := fun w' hw => h.grown (hb.grown hw hb.size fun k hk => by cases hk; exact hg)

theorem run_len {n : Nd} (hw : n.well = true) {fo : Bool} {at_ l : List ByteArray} {j : Nat} {a : Bool} {o : Out} (h : Run n stepsB dirB absB fo at_ l j a o) : j ≤ 8 → ∀ p k, o = .ok p k → p.length ≤ at_.length + l.length + (8 - j) * 300 := by
 induction h with
 | done at_ j a => intro hj p k e; cases e; omega
 | up at_ r j a o _ ih =>
  intro hj p k e
  have := ih hj p k e
  rw [List.length_dropLast] at this
  rw [List.length_cons]
  omega
 | ends at_ s j a h1 h2 => intro hj p k e; cases e; simp
 | none => intro hj p k e; cases e
 | dir at_ s r j a o h1 h2 h3 _ ih =>
  intro hj p k e
  have := ih hj p k e
  rw [List.length_append, List.length_singleton] at this
  rw [List.length_cons]
  omega
 | loop => intro hj p k e; cases e
 | link at_ s r j a o h1 h2 h3 h4 _ ih =>
  intro hj p k e
  have h5 := ih (by omega) p k e
  have htx : (textAt n (at_ ++ [s])).size ≤ 256 := by
   unfold textAt
   cases hat : n.at_ (at_ ++ [s]) with
   | none => decide
   | some y => exact text_small (well_at hw hat)
  have hsl := stepsB_len (textAt n (at_ ++ [s]))
  have hat : (if absB (textAt n (at_ ++ [s])) then [] else at_).length ≤ at_.length := by split <;> simp
  rw [List.length_append] at h5
  rw [List.length_cons]
  omega
 | file => intro hj p k e; cases e

set_option maxRecDepth 100000 in
set_option maxHeartbeats 4000000 in
theorem wisNone_any {w : World} {b : Nat} {n : Nd} {v0 v1 v2 v3 : Value} (h : TreeX w b n v0 v1 v2 v3) (hw : n.well = true) (hB : n.girth ≤ 200000000) (hk : n.kind = 2) :
  Calls Tryz.prog 62 #[.iface 28 (.pointer (some ⟨b, 0, none⟩))] w fun e w' => e = .returned (.bool false) ∧ Below w.heap.size w w' := by
 have HK := Lib.hid (fkind_any h hw hB (nil_pl w))
 rw [show ((n.at_ []).getD absent).kind = 2 from hk] at HK
 clear h
 go_enter Tryz.func62, Tryz.ntmps62
 go_wp2_with fail
 refine HK.out.mono ?_
 rintro e w1 ⟨rfl, hb⟩
 have HB := Lib.hid hb
 clear hb
 go_wp2_with fail
 go_ret
 exact ⟨rfl, HB.out⟩

theorem eql_some (a : Addr) (n c : Nat) (w : World) : (binOp BinOp.eql 22 (.slice (some a) n c) (.slice none 0 0)).run Tryz.prog w = .ok (.bool false) w := by kernel_rfl
theorem eql_nil (n c : Nat) (w : World) : (binOp BinOp.eql 22 (.slice none n c) (.slice none 0 0)).run Tryz.prog w = .ok (.bool true) w := by kernel_rfl
attribute [local go_sem] eql_some eql_nil

theorem own_nil (w : World) (base : Nat) : w.ownsRow base 9 1 (.slice none 0 0) 0 [] := ⟨rfl, .inl ⟨rfl, rfl⟩⟩
theorem own_less0 {w : World} {b b' : Nat} {e : TypeId} {v : Value} {n : Nat} {xs : List Value} (h : w.ownsRow b e 1 v n xs) (hb : b' ≤ b) : w.ownsRow b' e 1 v n xs := by
 refine ⟨h.1, ?_⟩
 rcases h.2 with h | ⟨g, cap, cur, a1, a2, r⟩
 ·exact .inl h
 ·exact .inr ⟨g, cap, cur, a1, Nat.le_trans hb a2, r⟩
set_option maxRecDepth 100000 in
set_option maxHeartbeats 4000000 in
theorem cloneL_any {w : World} {pv : Value} {xs : List ByteArray} (h : PlR w pv xs) (hl : xs.length ≤ 10000000) :
  Calls Tryz.prog 66 #[pv] w fun e w' => (∃ v, e = .returned v ∧ w'.ownsRow w.heap.size 9 1 v xs.length (xs.map Value.string) ∧ (pv = .slice none 0 0 → v = .slice none 0 0)) ∧ Below w.heap.size w w' := by
 obtain ⟨i0, hi, hz0, hz1, hz2⟩ := info_parts infoStr
 have HP := Lib.hid h
 obtain ⟨p, c, rfl, hs, hlc, hcm⟩ := h
 cases p with
 | none =>
  have hx0 : xs = [] := by
   cases xs with
   | nil => rfl
   | cons x r =>
    obtain ⟨b, o, he, _⟩ := hs 0 (by simp)
    cases he
  subst hx0
  clear hs
  go_enter Tryz.func66, Tryz.ntmps66
  go_wp2_with fail
  go_ret
  exact ⟨⟨_, rfl, own_nil _ _, fun _ => rfl⟩, Below.refl _ _⟩
 | some a =>
  have HRE : Hid (∀ wx, Below w.heap.size w wx → Reads wx (.slice (some a) xs.length c) xs.length 1 (xs.map Value.string)) := Lib.hid fun wx hx => reads_pl (HP.out.grown hx)
  clear hs
  have HSG : Hid (∀ {w1 : World}, Below w.heap.size w w1 → Strs w1 (some a) xs) := Lib.hid fun h => by
   obtain ⟨p', c', he, h1, _, _⟩ := HP.out.grown h
   obtain ⟨rfl, _, _⟩ : some a = p' ∧ xs.length = xs.length ∧ c = c' := by simpa using he
   exact h1
  go_enter Tryz.func66, Tryz.ntmps66
  go_wp2_with (at_builtin; refine wpList_append_strs _ rfl (.tmp 5) (.tmp 6) 22 rfl w.heap.size 9 i0 (.string ⟨#[]⟩) Tryz.underlying22 hi hz0 hz1 hz2 rfl _ _ _ rfl (empty_row _ _ _ (by simp) (by omega)) (some a) c xs rfl (HSG.out (wbelow_alloc (Below.refl _ _))) (by omega) (by simp) ?_; intro v7 w7 h1 h2 _)
  have hb7 : Below w.heap.size w w7 := (wbelow_alloc (Below.refl _ _)).grown h2 (by simp) fun k hk => by
   have : some w.heap.size = some k := hk
   cases this
   exact Nat.le_refl _
  have hv7 : w7.ownsRow w.heap.size 9 1 v7 xs.length (xs.map Value.string) := by simpa using h1
  go_ret
  exact ⟨⟨_, rfl, hv7, fun h => by cases h⟩, hb7⟩

set_option maxRecDepth 100000 in
set_option maxHeartbeats 8000000 in
theorem leads_to {w : World} {b : Nat} {n : Nd} {v0 v1 v2 v3 : Value} (h : TreeX w b n v0 v1 v2 v3) (hw : n.well = true) (hB : n.girth ≤ 200000000) (hk : n.kind = 2) (t : ByteArray) (ht : t.size ≤ 50000) (fo : Bool) :
  Calls Tryz.prog 35 #[.iface 28 (.pointer (some ⟨b, 0, none⟩)), .string t, .bool fo] w fun e w' => LeadsO n fo t w e w' ∧ Below w.heap.size w w' := by
 have HT := Lib.hid h
 have HN := Lib.hid (wisNone_any h hw hB hk)
 have hsl := stepsB_len t
 clear h
 go_enter Tryz.func35, Tryz.ntmps35
 go_wp2_with fail
 refine HN.out.mono ?_
 rintro e w1 ⟨rfl, hb1⟩
 have HT1 := Lib.hid (HT.out.kept hb1)
 have HB1 := Lib.hid hb1
 clear hb1 HT HN
 go_wp2_with fail
 refine (steps_own t (by omega) w1).mono ?_
 rintro e w2 ⟨vs, rfl, hown, hb2⟩
 have hpl := plR_of_own (xs := stepsB t) hown
 obtain ⟨ps, cs, rfl, _, _, _⟩ := id hpl
 have HPL := Lib.hid hpl
 have HT2 := Lib.hid (HT1.out.kept hb2)
 have HB2 := Lib.hid (HB1.out.trans (hb2.mono HB1.out.size))
 clear hown hpl hb2 HT1 HB1
 go_wp2_with fail
 refine (dir_any t w2 (by omega)).mono ?_
 rintro e w3 ⟨rfl, rfl⟩
 have hal : Below w2.heap.size w2 (w2.alloc (.cells #[.iface 28 (.pointer (some ⟨b, 0, none⟩)), .slice none 0 0, .slice ps (stepsB t).length cs, .int .i64 0, .bool fo, .bool (dirL t.data.toList)] 109)) := wbelow_alloc (Below.refl _ _)
 have HS4 : Hid (Six (w2.alloc (.cells #[.iface 28 (.pointer (some ⟨b, 0, none⟩)), .slice none 0 0, .slice ps (stepsB t).length cs, .int .i64 0, .bool fo, .bool (dirL t.data.toList)] 109)) w2.heap.size (.iface 28 (.pointer (some ⟨b, 0, none⟩))) (.slice none 0 0) (.slice ps (stepsB t).length cs) (.int .i64 ((0 : Nat) : Int)) (.bool fo) (.bool (dirB t))) := Lib.hid (heap_alloc_new w2 _)
 have hbl : b < w2.heap.size := HT2.out.lt
 have HT4 : Hid (TreeS (w2.alloc (.cells #[.iface 28 (.pointer (some ⟨b, 0, none⟩)), .slice none 0 0, .slice ps (stepsB t).length cs, .int .i64 0, .bool fo, .bool (dirL t.data.toList)] 109)) (fun k => k ≠ b ∧ k ≠ w2.heap.size) b n v0 v1 v2 v3) := Lib.hid ⟨(HT2.out.kept hal).blk, NodeX.weak (NodeX.grown (HT2.out.node.lt) hal) (fun k hk => ⟨hk.1, by have := hk.2; omega⟩), fun hh => hh.1 rfl⟩
 have HL4 := Lib.hid (plG_old HPL.out hal (Nat.le_refl _))
 have HA4 : Hid (PlG (w2.alloc (.cells #[.iface 28 (.pointer (some ⟨b, 0, none⟩)), .slice none 0 0, .slice ps (stepsB t).length cs, .int .i64 0, .bool fo, .bool (dirL t.data.toList)] 109)) w2.heap.size (.slice none 0 0) []) := Lib.hid fun w' _ => nil_pl w'
 have HB4 := Lib.hid (HB2.out.trans (hal.mono HB2.out.size))
 have hgw : w.heap.size ≤ w2.heap.size := HB2.out.size
 clear hal HT2 HB2 HPL
 go_upto_region 4 with fail
 generalize w2.alloc (.cells #[.iface 28 (.pointer (some ⟨b, 0, none⟩)), .slice none 0 0, .slice ps (stepsB t).length cs, .int .i64 0, .bool fo, .bool (dirL t.data.toList)] 109) = w4 at *
 generalize w2.heap.size = g at *
 go_wp2_with fail
 refine (walk_any HT4.out (Nat.ne_of_gt hbl) hw hB HS4.out HA4.out HL4.out (by omega) (by simp; omega)).mono ?_
 rintro e w5 ⟨⟨o, ho, hv⟩, hg⟩
 have HB5 : Hid (Below w.heap.size w w5) := Lib.hid (HB4.out.grown hg HB4.out.size fun k hk => by cases hk; exact hgw)
 have HO := Lib.hid ho
 clear ho hg HT4 HS4 HL4 HA4 HB4
 cases o with
 | err c =>
  have hv' : e = .returned (.tuple #[.slice none 0 0, .int .u8 0, .int .i64 c]) := hv
  subst hv'
  go_wp2_with fail
  refine (cloneL_any (nil_pl w5) (by decide)).mono ?_
  rintro e w6 ⟨⟨v, rfl, _, hvn⟩, hb6⟩
  obtain rfl := hvn rfl
  have HB6 := Lib.hid (HB5.out.trans (hb6.mono HB5.out.size))
  clear hb6
  go_wp2_with fail
  go_ret3
  exact ⟨⟨_, HO.out, rfl⟩, HB6.out⟩
 | ok p k =>
  obtain ⟨pv, he, hpv⟩ := hv
  subst he
  have hpl : p.length ≤ 10000000 := by
   have := run_len hw HO.out (by omega) p k rfl
   simp at this
   omega
  have HPV := Lib.hid hpv.now
  obtain ⟨pp, cp, rfl, _, _, _⟩ := hpv.parts
  clear hpv
  go_wp2_with fail
  refine (cloneL_any HPV.out hpl).mono ?_
  rintro e w6 ⟨⟨v, rfl, hv6, _⟩, hb6⟩
  have HV6 := Lib.hid (own_less0 hv6 HB5.out.size)
  have HB6 := Lib.hid (HB5.out.trans (hb6.mono HB5.out.size))
  clear hb6 hv6
  go_wp2_with fail
  go_ret3
  exact ⟨⟨_, HO.out, _, rfl, HV6.out⟩, HB6.out⟩

set_option maxRecDepth 100000 in
theorem wfindO_any {w : World} {b : Nat} {n : Nd} {v0 v1 v2 v3 : Value} (h : TreeX w b n v0 v1 v2 v3) (hw : n.well = true) (hB : n.girth ≤ 200000000) (hk : n.kind = 2) (t : ByteArray) (ht : t.size ≤ 50000) :
  Calls Tryz.prog 17 #[.iface 28 (.pointer (some ⟨b, 0, none⟩)), .string t] w fun e w' => LeadsO n true t w e w' ∧ Below w.heap.size w w' := by
 have HL := Lib.hid (leads_to h hw hB hk t ht true)
 clear h
 go_enter Tryz.func17, Tryz.ntmps17
 go_wp2_with fail
 refine HL.out.mono ?_
 rintro e w1 ⟨⟨o, ho, hv⟩, hb⟩
 have HB := Lib.hid hb
 have HO := Lib.hid ho
 clear hb ho
 cases o with
 | err c =>
  have hv' : e = .returned (.tuple #[.slice none 0 0, .int .u8 0, .int .i64 c]) := hv
  subst hv'
  go_wp2_with fail
  go_ret3
  exact ⟨⟨_, HO.out, rfl⟩, HB.out⟩
 | ok p k =>
  obtain ⟨pv, he, hpv⟩ := hv
  subst he
  have HV := Lib.hid hpv
  obtain ⟨pp, cp, rfl, _, _, _⟩ := plR_of_own hpv
  clear hpv
  go_wp2_with fail
  go_ret3
  exact ⟨⟨_, HO.out, _, rfl, HV.out⟩, HB.out⟩
theorem wfind_any {w : World} {b : Nat} {n : Nd} {v0 v1 v2 v3 : Value} (h : TreeX w b n v0 v1 v2 v3) (hw : n.well = true) (hB : n.girth ≤ 200000000) (hk : n.kind = 2) (t : ByteArray) (ht : t.size ≤ 50000) :
  Calls Tryz.prog 17 #[.iface 28 (.pointer (some ⟨b, 0, none⟩)), .string t] w fun e w' => LeadsQ n true t e w' ∧ Below w.heap.size w w' := (wfindO_any h hw hB hk t ht).mono fun _ _ h => ⟨h.1.q, h.2⟩
set_option maxRecDepth 100000 in
theorem wspotO_any {w : World} {b : Nat} {n : Nd} {v0 v1 v2 v3 : Value} (h : TreeX w b n v0 v1 v2 v3) (hw : n.well = true) (hB : n.girth ≤ 200000000) (hk : n.kind = 2) (t : ByteArray) (ht : t.size ≤ 50000) :
  Calls Tryz.prog 25 #[.iface 28 (.pointer (some ⟨b, 0, none⟩)), .string t] w fun e w' => LeadsO n false t w e w' ∧ Below w.heap.size w w' := by
 have HL := Lib.hid (leads_to h hw hB hk t ht false)
 clear h
 go_enter Tryz.func25, Tryz.ntmps25
 go_wp2_with fail
 refine HL.out.mono ?_
 rintro e w1 ⟨⟨o, ho, hv⟩, hb⟩
 have HB := Lib.hid hb
 have HO := Lib.hid ho
 clear hb ho
 cases o with
 | err c =>
  have hv' : e = .returned (.tuple #[.slice none 0 0, .int .u8 0, .int .i64 c]) := hv
  subst hv'
  go_wp2_with fail
  go_ret3
  exact ⟨⟨_, HO.out, rfl⟩, HB.out⟩
 | ok p k =>
  obtain ⟨pv, he, hpv⟩ := hv
  subst he
  have HV := Lib.hid hpv
  obtain ⟨pp, cp, rfl, _, _, _⟩ := plR_of_own hpv
  clear hpv
  go_wp2_with fail
  go_ret3
  exact ⟨⟨_, HO.out, _, rfl, HV.out⟩, HB.out⟩
theorem wspot_any {w : World} {b : Nat} {n : Nd} {v0 v1 v2 v3 : Value} (h : TreeX w b n v0 v1 v2 v3) (hw : n.well = true) (hB : n.girth ≤ 200000000) (hk : n.kind = 2) (t : ByteArray) (ht : t.size ≤ 50000) :
  Calls Tryz.prog 25 #[.iface 28 (.pointer (some ⟨b, 0, none⟩)), .string t] w fun e w' => LeadsQ n false t e w' ∧ Below w.heap.size w w' := (wspotO_any h hw hB hk t ht).mono fun _ _ h => ⟨h.1.q, h.2⟩
end Go.Proofs.YtfilbknnpjbmcaaGreatDoor
/- What the utilities of package dirs do with an operand, as relations: the code, and the tree then. No program of its own. -/
namespace Go.Proofs.YtfilbknnpjbmcaaGreatDoor
open Go.RowKit Px Nx Wk
namespace Dn
def Leads (n : Nd) (fo : Bool) (t : ByteArray) (o : Out) : Prop := Run n stepsB dirB absB fo [] (stepsB t) 0 (dirB t) o
def Is (r : Int × Nd) (c : Int) (n' : Nd) : Prop := c = r.1 ∧ n' = r.2
abbrev Rel := Nd → ByteArray → Int → Nd → Prop
def linkO : Out → Bool
 | .ok _ k => decide (k = 3)
 | .err _ => false
inductive Ops (R : Rel) : Nd → List ByteArray → List (ByteArray × Int) → Nd → Prop where
 | nil (n : Nd) : Ops R n [] [] n
 | ok {n n1 n' : Nd} {t : ByteArray} {l : List ByteArray} {bad : List (ByteArray × Int)} : R n t 0 n1 → Ops R n1 l bad n' → Ops R n (t :: l) bad n'
 | bad {n n1 n' : Nd} {t : ByteArray} {l : List ByteArray} {bad : List (ByteArray × Int)} {c : Int} : R n t c n1 → c ≠ 0 → Ops R n1 l bad n' → Ops R n (t :: l) ((t, c) :: bad) n'
theorem Ops.snoc_ok {R : Rel} {n n1 n' : Nd} {l : List ByteArray} {bad : List (ByteArray × Int)} {t : ByteArray} (h : Ops R n l bad n1) (ht : R n1 t 0 n') : Ops R n (l ++ [t]) bad n' := by
 induction h with
 | nil n => exact .ok ht (.nil _)
 | ok h1 _ ih => exact .ok h1 (ih ht)
 | bad h1 h2 _ ih => exact .bad h1 h2 (ih ht)
theorem Ops.snoc_bad {R : Rel} {n n1 n' : Nd} {l : List ByteArray} {bad : List (ByteArray × Int)} {t : ByteArray} {c : Int} (h : Ops R n l bad n1) (ht : R n1 t c n') (hc : c ≠ 0) : Ops R n (l ++ [t]) (bad ++ [(t, c)]) n' := by
 induction h with
 | nil n => exact .bad ht hc (.nil _)
 | ok h1 _ ih => exact .ok h1 (ih ht)
 | bad h1 h2 _ ih => exact .bad h1 h2 (ih ht)
end Dn
end Go.Proofs.YtfilbknnpjbmcaaGreatDoor
/- What the utilities of package moves do, as relations: where a goal leads to, and what is done with a source. No program of its own. -/
namespace Go.Proofs.YtfilbknnpjbmcaaGreatDoor
open Go.RowKit Px Nx Wk Dn
namespace Mv
structure TreeG (G : Nat) (n : Nd) : Prop where
 well : n.well = true
 kind : n.kind = 2
 girth : n.girth ≤ G
theorem TreeG.more {G H : Nat} {n : Nd} (h : TreeG G n) (hm : G ≤ H) : TreeG H n := ⟨h.well, h.kind, Nat.le_trans h.girth hm⟩
theorem names_le {M : Nat} : ∀ {p : List ByteArray}, (∀ s ∈ p, s.size ≤ M) → namesBulk p ≤ p.length * (M + 1)
 | [], _ => Nat.zero_le _
 | s :: r, h => by
  have h1 := h s (by simp)
  have h2 := names_le (p := r) fun x hx => h x (List.mem_cons_of_mem _ hx)
  have e : namesBulk (s :: r) = s.size + 1 + namesBulk r := by simp [namesBulk]
  rw [e, List.length_cons, Nat.succ_mul]
  omega
theorem leads_names {G : Nat} {n : Nd} (h : TreeG G n) {fo : Bool} {t : ByteArray} {p : List ByteArray} {k : UInt8} (hr : Leads n fo t (.ok p k)) (ht : t.size ≤ 256) : namesBulk p ≤ 700000 := by
 have h1 := run_len h.well hr (Nat.zero_le _) p k rfl
 have h2 := stepsB_len t
 have h3 := run_small (M := 256) (fun q s hs => by
  have a1 := step_size s hs
  have a2 := text_at h.well (p := q)
  omega) hr (fun s hs => by simp at hs) (fun s hs => by have := step_size s hs; omega) p k rfl
 have h4 := names_le h3
 have h5 : p.length ≤ 2700 := by simp at h1; omega
 have := Nat.mul_le_mul_right 257 h5
 omega
inductive Goal where
 | into (p : List ByteArray)
 | at_ (p : List ByteArray)
def noGoal : Goal := .at_ []
def IsG (c : Int) (g : Goal) (r : Int) (h : Goal) : Prop := r = c ∧ h = g
def spotR (n : Nd) (t : ByteArray) (c : Int) (g : Goal) : Prop := ∃ o, Leads n false t o ∧ match o with
 | .err e => IsG e noGoal c g
 | .ok q _ => IsG 0 (.at_ q) c g
def foundR (n : Nd) (t : ByteArray) (p : List ByteArray) (k : UInt8) (c : Int) (g : Goal) : Prop :=
 if k ≠ 0 then IsG 0 (.at_ p) c g else ∃ o, Leads n false t o ∧ if linkO o = true then IsG 5 noGoal c g else IsG 0 (.at_ p) c g
def leadsR (cp : Bool) (n : Nd) (t : ByteArray) (p : List ByteArray) (k : UInt8) (c : Int) (g : Goal) : Prop := if cp = true then foundR n t p k c g else spotR n t c g
def goalR (cp : Bool) (n : Nd) (t : ByteArray) (several : Bool) (c : Int) (g : Goal) : Prop :=
 if checkL t.data.toList ≠ 0 then IsG (checkL t.data.toList : Int) noGoal c g else ∃ o, Leads n true t o ∧ match o with
  | .err e => IsG e noGoal c g
  | .ok p k => if k = 2 then IsG 0 (.into p) c g else if k = 0 ∧ (several = true ∨ dirB t = true) then IsG 5 noGoal c g else if several = true then IsG 55 noGoal c g else leadsR cp n t p k c g
def lastB (s : ByteArray) : Option ByteArray := if nameL (lastF s.data.toList) = true then some ⟨(lastF s.data.toList).toArray⟩ else none
def toD (g : Goal) (s : ByteArray) : Option (List ByteArray) := match g with
 | .at_ p => some p
 | .into p => (lastB s).map fun x => p ++ [x]
def standsR (n : Nd) (fo : Bool) (t : ByteArray) (c : Int) (p : List ByteArray) : Prop :=
 if checkL t.data.toList ≠ 0 then c = (checkL t.data.toList : Int) ∧ p = [] else ∃ o, Leads n fo t o ∧ match o with
  | .err e => c = e ∧ p = []
  | .ok q k => if k = 0 then c = 5 ∧ p = [] else c = 0 ∧ p = q
def byTo (g : Goal) (s : ByteArray) (n : Nd) (c : Int) (n' : Nd) (f : List ByteArray → Prop) : Prop := match toD g s with
 | none => Is (4, n) c n'
 | some tq => f tq
def mvR (g : Goal) : Rel := fun n s c n' => ∃ e p, standsR n false s e p ∧ if e ≠ 0 then Is (e, n) c n' else byTo g s n c n' fun tq => Is (renameD n p tq) c n'
def cpR (deep : Bool) (g : Goal) : Rel := fun n s c n' => ∃ e p, standsR n (!deep) s e p ∧ if e ≠ 0 then Is (e, n) c n' else byTo g s n c n' fun tq => Is (copyingD n p tq deep) c n'
def linkD (f : Bool) (n : Nd) (tq : List ByteArray) (s : ByteArray) : Int × Nd :=
 if f = true ∧ kat n tq ≠ 0 then
  (if (removeD n tq (wrongFile n tq)).1 ≠ 0 then removeD n tq (wrongFile n tq) else makeD (removeD n tq (wrongFile n tq)).2 tq (linkN s))
 else makeD n tq (linkN s)
def lnR (f : Bool) (g : Goal) : Rel := fun n s c n' => if (linkN s).well = false then Is (4, n) c n' else byTo g s n c n' fun tq => Is (linkD f n tq s) c n'
structure KeptM (n : Nd) (r : Int × Nd) : Prop where
 same : r.1 ≠ 0 → r.2 = n
 well : r.2.well = true
 kind : r.2.kind = n.kind
 girth : r.2.girth ≤ n.girth + 2850000
theorem keptM_id {n : Nd} (hw : n.well = true) (c : Int) : KeptM n (c, n) := ⟨fun _ => rfl, hw, rfl, Nat.le_add_right _ _⟩
theorem keptM_bif {n : Nd} (b : Bool) {x y : Int × Nd} (hx : KeptM n x) (hy : KeptM n y) : KeptM n (bif b then x else y) := by cases b <;> assumption
theorem keptM_put {n y : Nd} {p : List ByteArray} (hw : n.well = true) (hp : namesBulk p ≤ 710000) (hy : y.well = true → y.girth ≤ 8000) : KeptM n (0, putD n p y) := by
 obtain ⟨h1, h2⟩ := put_well (N := y) (A := p) hw
 refine ⟨fun h => absurd rfl h, h1, h2, ?_⟩
 show (putD n p y).girth ≤ _
 unfold putD
 split
 ·rename_i h
  rw [Bool.and_eq_true] at h
  have := changed_girth (y := y) p n (.inl hw)
  have := hy h.2
  omega
 ·omega
theorem at_girth_le {n : Nd} {p : List ByteArray} : ((n.at_ p).getD absent).girth ≤ n.girth := by
 cases h : n.at_ p with
 | none =>
  have h3 : absent.girth ≤ 1 := of_decide_eq_true (by kernel_rfl)
  have := n.girth_pos
  show absent.girth ≤ _
  omega
 | some k => exact girth_at_all h
theorem keptM_move {n : Nd} {p q : List ByteArray} (hw : n.well = true) (hp : namesBulk p ≤ 710000) (hq : namesBulk q ≤ 710000) : KeptM n (0, moveD n p q) := by
 obtain ⟨h1, h2⟩ := move_well (A := p) (B := q) hw
 refine ⟨fun h => absurd rfl h, h1, h2, ?_⟩
 show (moveD n p q).girth ≤ _
 unfold moveD
 split
 ·rename_i hl
  have h3 := changed_girth (y := absent) p n (.inl hw)
  have h4 := changed_girth (y := (n.at_ p).getD absent) q (changedD (fun _ => absent) p n) (.inl (left_well hw hl).1)
  have h5 : absent.girth ≤ 100 := of_decide_eq_true (by kernel_rfl)
  have h6 := at_girth_le (n := n) (p := p)
  omega
 ·omega
theorem keptM_copy {n : Nd} {p q : List ByteArray} (hw : n.well = true) (hq : namesBulk q ≤ 710000) : KeptM n (0, copyD n p q) := by
 obtain ⟨h1, h2⟩ := copy_well (A := p) (B := q) hw
 refine ⟨fun h => absurd rfl h, h1, h2, ?_⟩
 show (copyD n p q).girth ≤ _
 unfold copyD
 split
 ·have h4 := changed_girth (y := (n.at_ p).getD absent) q n (.inl hw)
  have h6 := at_girth_le (n := n) (p := p)
  omega
 ·omega
theorem keptM_rename {n : Nd} {p q : List ByteArray} (hw : n.well = true) (hp : namesBulk p ≤ 710000) (hq : namesBulk q ≤ 710000) : KeptM n (renameD n p q) := by
 unfold renameD
 exact keptM_bif _ (keptM_bif _ (keptM_id hw _) (keptM_bif _ (keptM_id hw _) (keptM_bif _ (keptM_id hw _) (keptM_bif _ (keptM_id hw _) (keptM_bif _ (keptM_move hw hp hq) (keptM_id hw _)))))) (keptM_id hw _)
theorem keptM_copying {n : Nd} {p q : List ByteArray} (hw : n.well = true) (hq : namesBulk q ≤ 710000) (deep : Bool) : KeptM n (copyingD n p q deep) := by
 unfold copyingD
 exact keptM_bif _ (keptM_bif _ (keptM_id hw _) (keptM_bif _ (keptM_id hw _) (keptM_bif _ (keptM_id hw _) (keptM_bif _ (keptM_id hw _) (keptM_bif _ (keptM_copy hw hq) (keptM_id hw _)))))) (keptM_id hw _)
end Mv
end Go.Proofs.YtfilbknnpjbmcaaGreatDoor
