/- Walks: Find and Spot: they tell where a way ends. -/
import Derived.Test.YtfilbknnpjbmcaaGreatKa37
namespace Go.Proofs.YtfilbknnpjbmcaaGreat
open Go.RowKit Px Nx Wk

/-- What a path leads to, as it is told. -/
def outR (w' : World) (o : Out) (e : Ending) : Prop := match o with
  | .ok p k => ∃ pv, e = .returned (.tuple #[pv, .int .u8 k.toNat, .int .i64 0]) ∧ PlR w' pv p
  | .err c => e = .returned (.tuple #[.slice none 0 0, .int .u8 0, .int .i64 c])
/-- The same, where the place is in memory of its own, behind what there was in w. -/
def outB (w w' : World) (o : Out) (e : Ending) : Prop := match o with
  | .ok p k => ∃ pv, e = .returned (.tuple #[pv, .int .u8 k.toNat, .int .i64 0]) ∧ w'.ownsRow w.heap.size 9 1 pv p.length (p.map Value.string)
  | .err c => e = .returned (.tuple #[.slice none 0 0, .int .u8 0, .int .i64 c])
def LeadsO (n : Nd) (fo : Bool) (t : ByteArray) (w : World) (e : Ending) (w' : World) : Prop := ∃ o, Run n stepsB dirB absB fo [] (stepsB t) 0 (dirB t) o ∧ outB w w' o e
def LeadsQ (n : Nd) (fo : Bool) (t : ByteArray) (e : Ending) (w' : World) : Prop := ∃ o, Run n stepsB dirB absB fo [] (stepsB t) 0 (dirB t) o ∧ outR w' o e
theorem LeadsO.q {n : Nd} {fo : Bool} {t : ByteArray} {w : World} {e : Ending} {w' : World} (h : LeadsO n fo t w e w') : LeadsQ n fo t e w' := by
  obtain ⟨o, ho, h⟩ := h
  refine ⟨o, ho, ?_⟩
  cases o with
  | err c => exact h
  | ok p k =>
    obtain ⟨pv, he, hp⟩ := h
    exact ⟨pv, he, plR_of_own hp⟩
theorem plG_old {w1 w2 : World} {g : Nat} {v : Value} {l : List ByteArray} (h : PlR w1 v l) (hb : Below w1.heap.size w1 w2) (hg : w1.heap.size ≤ g) : PlG w2 g v l := fun w' hw => h.grown (hb.grown hw hb.size fun k hk => by cases hk; exact hg)

/-- How long a place may be. -/
theorem run_len {n : Nd} (hw : n.well = true) {fo : Bool} {at_ l : List ByteArray} {j : Nat} {a : Bool} {o : Out} (h : Run n stepsB dirB absB fo at_ l j a o) : j ≤ 8 → ∀ p k, o = .ok p k → p.length ≤ at_.length + l.length + (8 - j) * 300 := by
  induction h with
  | done at_ j a => intro hj p k e; cases e; omega
  | up at_ r j a o _ ih =>
    intro hj p k e
    have := ih hj p k e
    rw [List.length_dropLast] at this
    rw [List.length_cons]
    omega
  | ends at_ s j a h1 h2 => intro hj p k e; cases e; simp
  | none => intro hj p k e; cases e
  | dir at_ s r j a o h1 h2 h3 _ ih =>
    intro hj p k e
    have := ih hj p k e
    rw [List.length_append, List.length_singleton] at this
    rw [List.length_cons]
    omega
  | loop => intro hj p k e; cases e
  | link at_ s r j a o h1 h2 h3 h4 _ ih =>
    intro hj p k e
    have h5 := ih (by omega) p k e
    have htx : (textAt n (at_ ++ [s])).size ≤ 256 := by
      unfold textAt
      cases hat : n.at_ (at_ ++ [s]) with
      | none => decide
      | some y => exact text_small (well_at hw hat)
    have hsl := stepsB_len (textAt n (at_ ++ [s]))
    have hat : (if absB (textAt n (at_ ++ [s])) then [] else at_).length ≤ at_.length := by split <;> simp
    rw [List.length_append] at h5
    rw [List.length_cons]
    omega
  | file => intro hj p k e; cases e

set_option maxRecDepth 100000 in
set_option maxHeartbeats 4000000 in
theorem wisNone_any {w : World} {b : Nat} {n : Nd} {v0 v1 v2 v3 : Value} (h : TreeX w b n v0 v1 v2 v3) (hw : n.well = true) (hB : n.girth ≤ 200000000) (hk : n.kind = 2) :
    Calls Tryz.prog 59 #[.iface 28 (.pointer (some ⟨b, 0, none⟩))] w fun e w' => e = .returned (.bool false) ∧ Below w.heap.size w w' := by
  have HK := Lib.hid (fkind_any h hw hB (nil_pl w))
  rw [show ((n.at_ []).getD absent).kind = 2 from hk] at HK
  clear h
  go_enter Tryz.func59, Tryz.ntmps59
  go_wp2_with fail
  refine HK.out.mono ?_
  rintro e w1 ⟨rfl, hb⟩
  have HB := Lib.hid hb
  clear hb
  go_wp2_with fail
  go_ret
  exact ⟨rfl, HB.out⟩

theorem eql_some (a : Addr) (n c : Nat) (w : World) : (binOp BinOp.eql 22 (.slice (some a) n c) (.slice none 0 0)).run Tryz.prog w = .ok (.bool false) w := by kernel_rfl
theorem eql_nil (n c : Nat) (w : World) : (binOp BinOp.eql 22 (.slice none n c) (.slice none 0 0)).run Tryz.prog w = .ok (.bool true) w := by kernel_rfl
attribute [local go_sem] eql_some eql_nil

theorem own_nil (w : World) (base : Nat) : w.ownsRow base 9 1 (.slice none 0 0) 0 [] := ⟨rfl, .inl ⟨rfl, rfl⟩⟩
theorem own_less0 {w : World} {b b' : Nat} {e : TypeId} {v : Value} {n : Nat} {xs : List Value} (h : w.ownsRow b e 1 v n xs) (hb : b' ≤ b) : w.ownsRow b' e 1 v n xs := by
  refine ⟨h.1, ?_⟩
  rcases h.2 with h | ⟨g, cap, cur, a1, a2, r⟩
  · exact .inl h
  · exact .inr ⟨g, cap, cur, a1, Nat.le_trans hb a2, r⟩
set_option maxRecDepth 100000 in
set_option maxHeartbeats 4000000 in
theorem cloneL_any {w : World} {pv : Value} {xs : List ByteArray} (h : PlR w pv xs) (hl : xs.length ≤ 10000000) :
    Calls Tryz.prog 63 #[pv] w fun e w' => (∃ v, e = .returned v ∧ w'.ownsRow w.heap.size 9 1 v xs.length (xs.map Value.string) ∧ (pv = .slice none 0 0 → v = .slice none 0 0)) ∧ Below w.heap.size w w' := by
  obtain ⟨i0, hi, hz0, hz1, hz2⟩ := info_parts infoStr
  have HP := Lib.hid h
  obtain ⟨p, c, rfl, hs, hlc, hcm⟩ := h
  cases p with
  | none =>
    have hx0 : xs = [] := by
      cases xs with
      | nil => rfl
      | cons x r =>
        obtain ⟨b, o, he, _⟩ := hs 0 (by simp)
        cases he
    subst hx0
    clear hs
    go_enter Tryz.func63, Tryz.ntmps63
    go_wp2_with fail
    go_ret
    exact ⟨⟨_, rfl, own_nil _ _, fun _ => rfl⟩, Below.refl _ _⟩
  | some a =>
    have HRE : Hid (∀ wx, Below w.heap.size w wx → Reads wx (.slice (some a) xs.length c) xs.length 1 (xs.map Value.string)) := Lib.hid fun wx hx => reads_pl (HP.out.grown hx)
    clear hs
    have HSG : Hid (∀ {w1 : World}, Below w.heap.size w w1 → Strs w1 (some a) xs) := Lib.hid fun h => by
      obtain ⟨p', c', he, h1, _, _⟩ := HP.out.grown h
      obtain ⟨rfl, _, _⟩ : some a = p' ∧ xs.length = xs.length ∧ c = c' := by simpa using he
      exact h1
    go_enter Tryz.func63, Tryz.ntmps63
    go_wp2_with (at_builtin; refine wpList_append_strs _ rfl (.tmp 5) (.tmp 6) 22 rfl w.heap.size 9 i0 (.string ⟨#[]⟩) Tryz.underlying22 hi hz0 hz1 hz2 rfl _ _ _ rfl (empty_row _ _ _ (by simp) (by omega)) (some a) c xs rfl (HSG.out (wbelow_alloc (Below.refl _ _))) (by omega) (by simp) ?_; intro v7 w7 h1 h2 _)
    have hb7 : Below w.heap.size w w7 := (wbelow_alloc (Below.refl _ _)).grown h2 (by simp) fun k hk => by
      have : some w.heap.size = some k := hk
      cases this
      exact Nat.le_refl _
    have hv7 : w7.ownsRow w.heap.size 9 1 v7 xs.length (xs.map Value.string) := by simpa using h1
    go_ret
    exact ⟨⟨_, rfl, hv7, fun h => by cases h⟩, hb7⟩

set_option maxRecDepth 100000 in
set_option maxHeartbeats 8000000 in
theorem leads_to {w : World} {b : Nat} {n : Nd} {v0 v1 v2 v3 : Value} (h : TreeX w b n v0 v1 v2 v3) (hw : n.well = true) (hB : n.girth ≤ 200000000) (hk : n.kind = 2) (t : ByteArray) (ht : t.size ≤ 50000) (fo : Bool) :
    Calls Tryz.prog 42 #[.iface 28 (.pointer (some ⟨b, 0, none⟩)), .string t, .bool fo] w fun e w' => LeadsO n fo t w e w' ∧ Below w.heap.size w w' := by
  have HT := Lib.hid h
  have HN := Lib.hid (wisNone_any h hw hB hk)
  have hsl := stepsB_len t
  clear h
  go_enter Tryz.func42, Tryz.ntmps42
  go_wp2_with fail
  refine HN.out.mono ?_
  rintro e w1 ⟨rfl, hb1⟩
  have HT1 := Lib.hid (HT.out.kept hb1)
  have HB1 := Lib.hid hb1
  clear hb1 HT HN
  go_wp2_with fail
  refine (steps_own t (by omega) w1).mono ?_
  rintro e w2 ⟨vs, rfl, hown, hb2⟩
  have hpl := plR_of_own (xs := stepsB t) hown
  obtain ⟨ps, cs, rfl, _, _, _⟩ := id hpl
  have HPL := Lib.hid hpl
  have HT2 := Lib.hid (HT1.out.kept hb2)
  have HB2 := Lib.hid (HB1.out.trans (hb2.mono HB1.out.size))
  clear hown hpl hb2 HT1 HB1
  go_wp2_with fail
  refine (dir_any t w2 (by omega)).mono ?_
  rintro e w3 ⟨rfl, rfl⟩
  have hal : Below w2.heap.size w2 (w2.alloc (.cells #[.iface 28 (.pointer (some ⟨b, 0, none⟩)), .slice none 0 0, .slice ps (stepsB t).length cs, .int .i64 0, .bool fo, .bool (dirL t.data.toList)] 83)) := wbelow_alloc (Below.refl _ _)
  have HS4 : Hid (Six (w2.alloc (.cells #[.iface 28 (.pointer (some ⟨b, 0, none⟩)), .slice none 0 0, .slice ps (stepsB t).length cs, .int .i64 0, .bool fo, .bool (dirL t.data.toList)] 83)) w2.heap.size (.iface 28 (.pointer (some ⟨b, 0, none⟩))) (.slice none 0 0) (.slice ps (stepsB t).length cs) (.int .i64 ((0 : Nat) : Int)) (.bool fo) (.bool (dirB t))) := Lib.hid (heap_alloc_new w2 _)
  have hbl : b < w2.heap.size := HT2.out.lt
  have HT4 : Hid (TreeS (w2.alloc (.cells #[.iface 28 (.pointer (some ⟨b, 0, none⟩)), .slice none 0 0, .slice ps (stepsB t).length cs, .int .i64 0, .bool fo, .bool (dirL t.data.toList)] 83)) (fun k => k ≠ b ∧ k ≠ w2.heap.size) b n v0 v1 v2 v3) := Lib.hid ⟨(HT2.out.kept hal).blk, NodeX.weak (NodeX.grown (HT2.out.node.lt) hal) (fun k hk => ⟨hk.1, by have := hk.2; omega⟩), fun hh => hh.1 rfl⟩
  have HL4 := Lib.hid (plG_old HPL.out hal (Nat.le_refl _))
  have HA4 : Hid (PlG (w2.alloc (.cells #[.iface 28 (.pointer (some ⟨b, 0, none⟩)), .slice none 0 0, .slice ps (stepsB t).length cs, .int .i64 0, .bool fo, .bool (dirL t.data.toList)] 83)) w2.heap.size (.slice none 0 0) []) := Lib.hid fun w' _ => nil_pl w'
  have HB4 := Lib.hid (HB2.out.trans (hal.mono HB2.out.size))
  have hgw : w.heap.size ≤ w2.heap.size := HB2.out.size
  clear hal HT2 HB2 HPL
  go_upto_region 4 with fail
  generalize w2.alloc (.cells #[.iface 28 (.pointer (some ⟨b, 0, none⟩)), .slice none 0 0, .slice ps (stepsB t).length cs, .int .i64 0, .bool fo, .bool (dirL t.data.toList)] 83) = w4 at *
  generalize w2.heap.size = g at *
  go_wp2_with fail
  refine (walk_any HT4.out (Nat.ne_of_gt hbl) hw hB HS4.out HA4.out HL4.out (by omega) (by simp; omega)).mono ?_
  rintro e w5 ⟨⟨o, ho, hv⟩, hg⟩
  have HB5 : Hid (Below w.heap.size w w5) := Lib.hid (HB4.out.grown hg HB4.out.size fun k hk => by cases hk; exact hgw)
  have HO := Lib.hid ho
  clear ho hg HT4 HS4 HL4 HA4 HB4
  cases o with
  | err c =>
    have hv' : e = .returned (.tuple #[.slice none 0 0, .int .u8 0, .int .i64 c]) := hv
    subst hv'
    go_wp2_with fail
    refine (cloneL_any (nil_pl w5) (by decide)).mono ?_
    rintro e w6 ⟨⟨v, rfl, _, hvn⟩, hb6⟩
    obtain rfl := hvn rfl
    have HB6 := Lib.hid (HB5.out.trans (hb6.mono HB5.out.size))
    clear hb6
    go_wp2_with fail
    go_ret3
    exact ⟨⟨_, HO.out, rfl⟩, HB6.out⟩
  | ok p k =>
    obtain ⟨pv, he, hpv⟩ := hv
    subst he
    have hpl : p.length ≤ 10000000 := by
      have := run_len hw HO.out (by omega) p k rfl
      simp at this
      omega
    have HPV := Lib.hid hpv.now
    obtain ⟨pp, cp, rfl, _, _, _⟩ := hpv.parts
    clear hpv
    go_wp2_with fail
    refine (cloneL_any HPV.out hpl).mono ?_
    rintro e w6 ⟨⟨v, rfl, hv6, _⟩, hb6⟩
    have HV6 := Lib.hid (own_less0 hv6 HB5.out.size)
    have HB6 := Lib.hid (HB5.out.trans (hb6.mono HB5.out.size))
    clear hb6 hv6
    go_wp2_with fail
    go_ret3
    exact ⟨⟨_, HO.out, _, rfl, HV6.out⟩, HB6.out⟩

set_option maxRecDepth 100000 in
theorem wfindO_any {w : World} {b : Nat} {n : Nd} {v0 v1 v2 v3 : Value} (h : TreeX w b n v0 v1 v2 v3) (hw : n.well = true) (hB : n.girth ≤ 200000000) (hk : n.kind = 2) (t : ByteArray) (ht : t.size ≤ 50000) :
    Calls Tryz.prog 27 #[.iface 28 (.pointer (some ⟨b, 0, none⟩)), .string t] w fun e w' => LeadsO n true t w e w' ∧ Below w.heap.size w w' := by
  have HL := Lib.hid (leads_to h hw hB hk t ht true)
  clear h
  go_enter Tryz.func27, Tryz.ntmps27
  go_wp2_with fail
  refine HL.out.mono ?_
  rintro e w1 ⟨⟨o, ho, hv⟩, hb⟩
  have HB := Lib.hid hb
  have HO := Lib.hid ho
  clear hb ho
  cases o with
  | err c =>
    have hv' : e = .returned (.tuple #[.slice none 0 0, .int .u8 0, .int .i64 c]) := hv
    subst hv'
    go_wp2_with fail
    go_ret3
    exact ⟨⟨_, HO.out, rfl⟩, HB.out⟩
  | ok p k =>
    obtain ⟨pv, he, hpv⟩ := hv
    subst he
    have HV := Lib.hid hpv
    obtain ⟨pp, cp, rfl, _, _, _⟩ := plR_of_own hpv
    clear hpv
    go_wp2_with fail
    go_ret3
    exact ⟨⟨_, HO.out, _, rfl, HV.out⟩, HB.out⟩
theorem wfind_any {w : World} {b : Nat} {n : Nd} {v0 v1 v2 v3 : Value} (h : TreeX w b n v0 v1 v2 v3) (hw : n.well = true) (hB : n.girth ≤ 200000000) (hk : n.kind = 2) (t : ByteArray) (ht : t.size ≤ 50000) :
    Calls Tryz.prog 27 #[.iface 28 (.pointer (some ⟨b, 0, none⟩)), .string t] w fun e w' => LeadsQ n true t e w' ∧ Below w.heap.size w w' := (wfindO_any h hw hB hk t ht).mono fun _ _ h => ⟨h.1.q, h.2⟩
set_option maxRecDepth 100000 in
theorem wspotO_any {w : World} {b : Nat} {n : Nd} {v0 v1 v2 v3 : Value} (h : TreeX w b n v0 v1 v2 v3) (hw : n.well = true) (hB : n.girth ≤ 200000000) (hk : n.kind = 2) (t : ByteArray) (ht : t.size ≤ 50000) :
    Calls Tryz.prog 48 #[.iface 28 (.pointer (some ⟨b, 0, none⟩)), .string t] w fun e w' => LeadsO n false t w e w' ∧ Below w.heap.size w w' := by
  have HL := Lib.hid (leads_to h hw hB hk t ht false)
  clear h
  go_enter Tryz.func48, Tryz.ntmps48
  go_wp2_with fail
  refine HL.out.mono ?_
  rintro e w1 ⟨⟨o, ho, hv⟩, hb⟩
  have HB := Lib.hid hb
  have HO := Lib.hid ho
  clear hb ho
  cases o with
  | err c =>
    have hv' : e = .returned (.tuple #[.slice none 0 0, .int .u8 0, .int .i64 c]) := hv
    subst hv'
    go_wp2_with fail
    go_ret3
    exact ⟨⟨_, HO.out, rfl⟩, HB.out⟩
  | ok p k =>
    obtain ⟨pv, he, hpv⟩ := hv
    subst he
    have HV := Lib.hid hpv
    obtain ⟨pp, cp, rfl, _, _, _⟩ := plR_of_own hpv
    clear hpv
    go_wp2_with fail
    go_ret3
    exact ⟨⟨_, HO.out, _, rfl, HV.out⟩, HB.out⟩
theorem wspot_any {w : World} {b : Nat} {n : Nd} {v0 v1 v2 v3 : Value} (h : TreeX w b n v0 v1 v2 v3) (hw : n.well = true) (hB : n.girth ≤ 200000000) (hk : n.kind = 2) (t : ByteArray) (ht : t.size ≤ 50000) :
    Calls Tryz.prog 48 #[.iface 28 (.pointer (some ⟨b, 0, none⟩)), .string t] w fun e w' => LeadsQ n false t e w' ∧ Below w.heap.size w w' := (wspotO_any h hw hB hk t ht).mono fun _ _ h => ⟨h.1.q, h.2⟩
end Go.Proofs.YtfilbknnpjbmcaaGreat
