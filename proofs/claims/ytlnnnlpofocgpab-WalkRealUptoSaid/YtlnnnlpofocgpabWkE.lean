/- Walks: Find and Spot: they tell where a way ends. -/
import Derived.Test.YtlnnnlpofocgpabWkD
namespace Go.Proofs.Ytlnnnlpofocgpab
open Go.RowKit Px Nx Wk

/-- What a path leads to, as it is told. -/
def outR (w' : World) (o : Out) (e : Ending) : Prop := match o with
  | .ok p k => ∃ pv, e = .returned (.tuple #[pv, .int .u8 k.toNat, .int .i64 0]) ∧ PlR w' pv p
  | .err c => e = .returned (.tuple #[.slice none 0 0, .int .u8 0, .int .i64 c])
def LeadsQ (n : Nd) (fo : Bool) (t : ByteArray) (e : Ending) (w' : World) : Prop := ∃ o, Run n stepsB dirB absB fo [] (stepsB t) 0 (dirB t) o ∧ outR w' o e
theorem plG_old {w1 w2 : World} {g : Nat} {v : Value} {l : List ByteArray} (h : PlR w1 v l) (hb : Below w1.heap.size w1 w2) (hg : w1.heap.size ≤ g) : PlG w2 g v l := fun w' hw => h.grown (hb.grown hw hb.size fun k hk => by cases hk; exact hg)

/-- How long a place may be. -/
theorem run_len {n : Nd} (hw : n.well = true) {fo : Bool} {at_ l : List ByteArray} {j : Nat} {a : Bool} {o : Out} (h : Run n stepsB dirB absB fo at_ l j a o) : j ≤ 8 → ∀ p k, o = .ok p k → p.length ≤ at_.length + l.length + (8 - j) * 300 := by
  induction h with
  | done at_ j a => intro hj p k e; cases e; omega
  | up at_ r j a o _ ih =>
    intro hj p k e
    have := ih hj p k e
    rw [List.length_dropLast] at this
    rw [List.length_cons]
    omega
  | ends at_ s j a h1 h2 => intro hj p k e; cases e; simp
  | none => intro hj p k e; cases e
  | dir at_ s r j a o h1 h2 h3 _ ih =>
    intro hj p k e
    have := ih hj p k e
    rw [List.length_append, List.length_singleton] at this
    rw [List.length_cons]
    omega
  | loop => intro hj p k e; cases e
  | link at_ s r j a o h1 h2 h3 h4 _ ih =>
    intro hj p k e
    have h5 := ih (by omega) p k e
    have htx : (textAt n (at_ ++ [s])).size ≤ 256 := by
      unfold textAt
      cases hat : n.at_ (at_ ++ [s]) with
      | none => decide
      | some y => exact text_small (well_at hw hat)
    have hsl := stepsB_len (textAt n (at_ ++ [s]))
    have hat : (if absB (textAt n (at_ ++ [s])) then [] else at_).length ≤ at_.length := by split <;> simp
    rw [List.length_append] at h5
    rw [List.length_cons]
    omega
  | file => intro hj p k e; cases e

set_option maxRecDepth 100000 in
set_option maxHeartbeats 4000000 in
theorem wisNone_any {w : World} {b : Nat} {n : Nd} {v0 v1 v2 v3 : Value} (h : TreeX w b n v0 v1 v2 v3) (hw : n.well = true) (hB : n.girth ≤ 2000000) (hk : n.kind = 2) :
    Calls Try.prog 34 #[.iface 28 (.pointer (some ⟨b, 0, none⟩))] w fun e w' => e = .returned (.bool false) ∧ Below w.heap.size w w' := by
  have HK := Lib.hid (fkind_any h hw hB (nil_pl w))
  rw [show ((n.at_ []).getD absent).kind = 2 from hk] at HK
  clear h
  go_enter Try.func34, Try.ntmps34
  go_wp2_with fail
  refine HK.out.mono ?_
  rintro e w1 ⟨rfl, hb⟩
  have HB := Lib.hid hb
  clear hb
  go_wp2_with fail
  go_ret
  exact ⟨rfl, HB.out⟩

theorem eql_some (a : Addr) (n c : Nat) (w : World) : (binOp BinOp.eql 22 (.slice (some a) n c) (.slice none 0 0)).run Try.prog w = .ok (.bool false) w := by kernel_rfl
theorem eql_nil (n c : Nat) (w : World) : (binOp BinOp.eql 22 (.slice none n c) (.slice none 0 0)).run Try.prog w = .ok (.bool true) w := by kernel_rfl
attribute [local go_sem] eql_some eql_nil

set_option maxRecDepth 100000 in
set_option maxHeartbeats 4000000 in
theorem cloneL_any {w : World} {pv : Value} {xs : List ByteArray} (h : PlR w pv xs) (hl : xs.length ≤ 100000) :
    Calls Try.prog 38 #[pv] w fun e w' => (∃ v, e = .returned v ∧ PlR w' v xs ∧ (pv = .slice none 0 0 → v = .slice none 0 0)) ∧ Below w.heap.size w w' := by
  obtain ⟨i0, hi, hz0, hz1, hz2⟩ := info_parts infoStr
  have HP := Lib.hid h
  obtain ⟨p, c, rfl, hs, hlc, hcm⟩ := h
  cases p with
  | none =>
    have hx0 : xs = [] := by
      cases xs with
      | nil => rfl
      | cons x r =>
        obtain ⟨b, o, he, _⟩ := hs 0 (by simp)
        cases he
    subst hx0
    clear hs
    go_enter Try.func38, Try.ntmps38
    go_wp2_with fail
    go_ret
    exact ⟨⟨_, rfl, nil_pl w, fun _ => rfl⟩, Below.refl _ _⟩
  | some a =>
    have HRE : Hid (∀ wx, Below w.heap.size w wx → Reads wx (.slice (some a) xs.length c) xs.length 1 (xs.map Value.string)) := Lib.hid fun wx hx => reads_pl (HP.out.grown hx)
    clear hs
    have HSG : Hid (∀ {w1 : World}, Below w.heap.size w w1 → Strs w1 (some a) xs) := Lib.hid fun h => by
      obtain ⟨p', c', he, h1, _, _⟩ := HP.out.grown h
      obtain ⟨rfl, _, _⟩ : some a = p' ∧ xs.length = xs.length ∧ c = c' := by simpa using he
      exact h1
    go_enter Try.func38, Try.ntmps38
    go_wp2_with (at_builtin; refine wpList_append_strs _ rfl (.tmp 5) (.tmp 6) 22 rfl w.heap.size 9 i0 (.string ⟨#[]⟩) Try.underlying22 hi hz0 hz1 hz2 rfl _ _ _ rfl (empty_row _ _ _ (by simp) (by omega)) (some a) c xs rfl (HSG.out (wbelow_alloc (Below.refl _ _))) (by omega) (by simp) ?_; intro v7 w7 h1 h2 _)
    have hb7 : Below w.heap.size w w7 := (wbelow_alloc (Below.refl _ _)).grown h2 (by simp) fun k hk => by
      have : some w.heap.size = some k := hk
      cases this
      exact Nat.le_refl _
    have hv7 : PlR w7 v7 xs := plR_of_own (by simpa using h1)
    go_ret
    exact ⟨⟨_, rfl, hv7, fun h => by cases h⟩, hb7⟩

set_option maxRecDepth 100000 in
set_option maxHeartbeats 8000000 in
theorem leads_to {w : World} {b : Nat} {n : Nd} {v0 v1 v2 v3 : Value} (h : TreeX w b n v0 v1 v2 v3) (hw : n.well = true) (hB : n.girth ≤ 2000000) (hk : n.kind = 2) (t : ByteArray) (ht : t.size ≤ 50000) (fo : Bool) :
    Calls Try.prog 23 #[.iface 28 (.pointer (some ⟨b, 0, none⟩)), .string t, .bool fo] w fun e w' => LeadsQ n fo t e w' ∧ Below w.heap.size w w' := by
  have HT := Lib.hid h
  have HN := Lib.hid (wisNone_any h hw hB hk)
  have hsl := stepsB_len t
  clear h
  go_enter Try.func23, Try.ntmps23
  go_wp2_with fail
  refine HN.out.mono ?_
  rintro e w1 ⟨rfl, hb1⟩
  have HT1 := Lib.hid (HT.out.kept hb1)
  have HB1 := Lib.hid hb1
  clear hb1 HT HN
  go_wp2_with fail
  refine (steps_own t (by omega) w1).mono ?_
  rintro e w2 ⟨vs, rfl, hown, hb2⟩
  have hpl := plR_of_own (xs := stepsB t) hown
  obtain ⟨ps, cs, rfl, _, _, _⟩ := id hpl
  have HPL := Lib.hid hpl
  have HT2 := Lib.hid (HT1.out.kept hb2)
  have HB2 := Lib.hid (HB1.out.trans (hb2.mono HB1.out.size))
  clear hown hpl hb2 HT1 HB1
  go_wp2_with fail
  refine (dir_any t w2 (by omega)).mono ?_
  rintro e w3 ⟨rfl, rfl⟩
  have hal : Below w2.heap.size w2 (w2.alloc (.cells #[.iface 28 (.pointer (some ⟨b, 0, none⟩)), .slice none 0 0, .slice ps (stepsB t).length cs, .int .i64 0, .bool fo, .bool (dirL t.data.toList)] 70)) := wbelow_alloc (Below.refl _ _)
  have HS4 : Hid (Six (w2.alloc (.cells #[.iface 28 (.pointer (some ⟨b, 0, none⟩)), .slice none 0 0, .slice ps (stepsB t).length cs, .int .i64 0, .bool fo, .bool (dirL t.data.toList)] 70)) w2.heap.size (.iface 28 (.pointer (some ⟨b, 0, none⟩))) (.slice none 0 0) (.slice ps (stepsB t).length cs) (.int .i64 ((0 : Nat) : Int)) (.bool fo) (.bool (dirB t))) := Lib.hid (heap_alloc_new w2 _)
  have hbl : b < w2.heap.size := HT2.out.lt
  have HT4 : Hid (TreeS (w2.alloc (.cells #[.iface 28 (.pointer (some ⟨b, 0, none⟩)), .slice none 0 0, .slice ps (stepsB t).length cs, .int .i64 0, .bool fo, .bool (dirL t.data.toList)] 70)) (fun k => k ≠ b ∧ k ≠ w2.heap.size) b n v0 v1 v2 v3) := Lib.hid ⟨(HT2.out.kept hal).blk, NodeX.weak (NodeX.grown (HT2.out.node.lt) hal) (fun k hk => ⟨hk.1, by have := hk.2; omega⟩), fun hh => hh.1 rfl⟩
  have HL4 := Lib.hid (plG_old HPL.out hal (Nat.le_refl _))
  have HA4 : Hid (PlG (w2.alloc (.cells #[.iface 28 (.pointer (some ⟨b, 0, none⟩)), .slice none 0 0, .slice ps (stepsB t).length cs, .int .i64 0, .bool fo, .bool (dirL t.data.toList)] 70)) w2.heap.size (.slice none 0 0) []) := Lib.hid fun w' _ => nil_pl w'
  have HB4 := Lib.hid (HB2.out.trans (hal.mono HB2.out.size))
  have hgw : w.heap.size ≤ w2.heap.size := HB2.out.size
  clear hal HT2 HB2 HPL
  go_upto_region 4 with fail
  generalize w2.alloc (.cells #[.iface 28 (.pointer (some ⟨b, 0, none⟩)), .slice none 0 0, .slice ps (stepsB t).length cs, .int .i64 0, .bool fo, .bool (dirL t.data.toList)] 70) = w4 at *
  generalize w2.heap.size = g at *
  go_wp2_with fail
  refine (walk_any HT4.out (Nat.ne_of_gt hbl) hw hB HS4.out HA4.out HL4.out (by omega) (by simp; omega)).mono ?_
  rintro e w5 ⟨⟨o, ho, hv⟩, hg⟩
  have HB5 : Hid (Below w.heap.size w w5) := Lib.hid (HB4.out.grown hg HB4.out.size fun k hk => by cases hk; exact hgw)
  have HO := Lib.hid ho
  clear ho hg HT4 HS4 HL4 HA4 HB4
  cases o with
  | err c =>
    have hv' : e = .returned (.tuple #[.slice none 0 0, .int .u8 0, .int .i64 c]) := hv
    subst hv'
    go_wp2_with fail
    refine (cloneL_any (nil_pl w5) (by decide)).mono ?_
    rintro e w6 ⟨⟨v, rfl, _, hvn⟩, hb6⟩
    obtain rfl := hvn rfl
    have HB6 := Lib.hid (HB5.out.trans (hb6.mono HB5.out.size))
    clear hb6
    go_wp2_with fail
    go_ret3
    exact ⟨⟨_, HO.out, rfl⟩, HB6.out⟩
  | ok p k =>
    obtain ⟨pv, he, hpv⟩ := hv
    subst he
    have hpl : p.length ≤ 100000 := by
      have := run_len hw HO.out (by omega) p k rfl
      simp at this
      omega
    have HPV := Lib.hid hpv.now
    obtain ⟨pp, cp, rfl, _, _, _⟩ := hpv.parts
    clear hpv
    go_wp2_with fail
    refine (cloneL_any HPV.out hpl).mono ?_
    rintro e w6 ⟨⟨v, rfl, hv6, _⟩, hb6⟩
    have HV6 := Lib.hid hv6
    have HB6 := Lib.hid (HB5.out.trans (hb6.mono HB5.out.size))
    clear hb6 hv6
    go_wp2_with fail
    go_ret3
    exact ⟨⟨_, HO.out, _, rfl, HV6.out⟩, HB6.out⟩

set_option maxRecDepth 100000 in
theorem wfind_any {w : World} {b : Nat} {n : Nd} {v0 v1 v2 v3 : Value} (h : TreeX w b n v0 v1 v2 v3) (hw : n.well = true) (hB : n.girth ≤ 2000000) (hk : n.kind = 2) (t : ByteArray) (ht : t.size ≤ 50000) :
    Calls Try.prog 7 #[.iface 28 (.pointer (some ⟨b, 0, none⟩)), .string t] w fun e w' => LeadsQ n true t e w' ∧ Below w.heap.size w w' := by
  have HL := Lib.hid (leads_to h hw hB hk t ht true)
  clear h
  go_enter Try.func7, Try.ntmps7
  go_wp2_with fail
  refine HL.out.mono ?_
  rintro e w1 ⟨⟨o, ho, hv⟩, hb⟩
  have HB := Lib.hid hb
  have HO := Lib.hid ho
  clear hb ho
  cases o with
  | err c =>
    have hv' : e = .returned (.tuple #[.slice none 0 0, .int .u8 0, .int .i64 c]) := hv
    subst hv'
    go_wp2_with fail
    go_ret3
    exact ⟨⟨_, HO.out, rfl⟩, HB.out⟩
  | ok p k =>
    obtain ⟨pv, he, hpv⟩ := hv
    subst he
    have HV := Lib.hid hpv
    obtain ⟨pp, cp, rfl, _, _, _⟩ := hpv
    go_wp2_with fail
    go_ret3
    exact ⟨⟨_, HO.out, _, rfl, HV.out⟩, HB.out⟩
set_option maxRecDepth 100000 in
theorem wspot_any {w : World} {b : Nat} {n : Nd} {v0 v1 v2 v3 : Value} (h : TreeX w b n v0 v1 v2 v3) (hw : n.well = true) (hB : n.girth ≤ 2000000) (hk : n.kind = 2) (t : ByteArray) (ht : t.size ≤ 50000) :
    Calls Try.prog 8 #[.iface 28 (.pointer (some ⟨b, 0, none⟩)), .string t] w fun e w' => LeadsQ n false t e w' ∧ Below w.heap.size w w' := by
  have HL := Lib.hid (leads_to h hw hB hk t ht false)
  clear h
  go_enter Try.func8, Try.ntmps8
  go_wp2_with fail
  refine HL.out.mono ?_
  rintro e w1 ⟨⟨o, ho, hv⟩, hb⟩
  have HB := Lib.hid hb
  have HO := Lib.hid ho
  clear hb ho
  cases o with
  | err c =>
    have hv' : e = .returned (.tuple #[.slice none 0 0, .int .u8 0, .int .i64 c]) := hv
    subst hv'
    go_wp2_with fail
    go_ret3
    exact ⟨⟨_, HO.out, rfl⟩, HB.out⟩
  | ok p k =>
    obtain ⟨pv, he, hpv⟩ := hv
    subst he
    have HV := Lib.hid hpv
    obtain ⟨pp, cp, rfl, _, _, _⟩ := hpv
    go_wp2_with fail
    go_ret3
    exact ⟨⟨_, HO.out, _, rfl, HV.out⟩, HB.out⟩
end Go.Proofs.Ytlnnnlpofocgpab
/- Walks: what the statement on ways asks of closed paths: finds, spots, refused. -/
namespace Go.Proofs.Ytlnnnlpofocgpab
open Go.RowKit Px Nx Wk
namespace Wk
/-- Where a way ends, step by step. -/
def goF (n : Nd) (fo : Bool) : Nat → List ByteArray → List ByteArray → Nat → Bool → Option Out
  | 0, _, _, _, _ => .none
  | k + 1, at_, l, j, a => match l with
    | [] => some (.ok at_ 2)
    | s :: r =>
      if s = dots then goF n fo k at_.dropLast r j a
      else if r = [] ∧ endsD fo a (kindAt n (at_ ++ [s])) = true then some (.ok (at_ ++ [s]) (kindAt n (at_ ++ [s])))
      else if kindAt n (at_ ++ [s]) = 0 then some (.err 5)
      else if kindAt n (at_ ++ [s]) = 2 then goF n fo k (at_ ++ [s]) r j a
      else if kindAt n (at_ ++ [s]) = 3 then
        if j = 8 then some (.err 61) else goF n fo k (if absB (textAt n (at_ ++ [s])) then [] else at_) (stepsB (textAt n (at_ ++ [s])) ++ r) (j + 1) (a || (r.isEmpty && dirB (textAt n (at_ ++ [s]))))
      else some (.err 55)
theorem goF_run {n : Nd} {fo : Bool} : ∀ (k : Nat) {at_ l : List ByteArray} {j : Nat} {a : Bool} {o : Out}, goF n fo k at_ l j a = some o → Run n stepsB dirB absB fo at_ l j a o
  | 0, _, _, _, _, _, h => by cases h
  | k + 1, at_, l, j, a, o, h => by
    cases l with
    | nil =>
      rw [goF] at h
      cases h
      exact .done at_ j a
    | cons s r =>
      rw [goF] at h
      by_cases h1 : s = dots
      · rw [if_pos h1] at h
        subst h1
        exact .up at_ r j a o (goF_run k h)
      · rw [if_neg h1] at h
        by_cases h2 : r = [] ∧ endsD fo a (kindAt n (at_ ++ [s])) = true
        · rw [if_pos h2] at h
          obtain ⟨rfl, h2⟩ := h2
          cases h
          exact .ends at_ s j a h1 h2
        · rw [if_neg h2] at h
          have hg : GoesOn fo a (kindAt n (at_ ++ [s])) r := by
            by_cases hr : r = []
            · exact .inr (Bool.eq_false_iff.2 fun h3 => h2 ⟨hr, h3⟩)
            · exact .inl hr
          by_cases h3 : kindAt n (at_ ++ [s]) = 0
          · rw [if_pos h3] at h
            cases h
            exact .none at_ s r j a h1 hg h3
          · rw [if_neg h3] at h
            by_cases h4 : kindAt n (at_ ++ [s]) = 2
            · rw [if_pos h4] at h
              exact .dir at_ s r j a o h1 hg h4 (goF_run k h)
            · rw [if_neg h4] at h
              by_cases h5 : kindAt n (at_ ++ [s]) = 3
              · rw [if_pos h5] at h
                by_cases h6 : j = 8
                · rw [if_pos h6] at h
                  cases h
                  exact .loop at_ s r j a h1 hg h5 h6
                · rw [if_neg h6] at h
                  exact .link at_ s r j a o h1 hg h5 h6 (goF_run k h)
              · rw [if_neg h5] at h
                cases h
                exact .file at_ s r j a h1 hg h3 h4 h5
end Wk

set_option maxRecDepth 100000 in
set_option maxHeartbeats 4000000 in
theorem finds_ok {w : World} {b : Nat} {n : Nd} {v0 v1 v2 v3 : Value} (h : TreeX w b n v0 v1 v2 v3) (hw : n.well = true) (hB : n.girth ≤ 2000000) (hk : n.kind = 2) {t : ByteArray} (ht : t.size ≤ 50000) {k : UInt8} {pv : Value} {pl : List ByteArray} (hgo : goF n true 200 [] (stepsB t) 0 (dirB t) = some (.ok pl k)) (hp : PlR w pv pl) :
    Calls Try.prog 18 #[.pointer (some ⟨b, 0, none⟩), .string t, .int .u8 k.toNat, pv] w fun e w' => e = .returned (.bool true) ∧ Below w.heap.size w w' := by
  have HL := Lib.hid (wfind_any h hw hB hk t ht)
  have HG := Lib.hid (goF_run 200 hgo)
  have HP := Lib.hid hp
  obtain ⟨pp, pc, rfl, _, _, _⟩ := hp
  have ekk : (((k.toNat : Nat) : Int) == ((k.toNat : Nat) : Int)) = true := beq_self_eq_true _
  clear h hgo
  go_enter Try.func18, Try.ntmps18
  go_wp2_with fail
  refine HL.out.mono ?_
  rintro e w1 ⟨⟨o, ho, hv⟩, hb⟩
  obtain rfl := run_det ho HG.out (Nat.zero_le _)
  obtain ⟨qv, he, hq⟩ := hv
  subst he
  have HB := Lib.hid hb
  have HS := Lib.hid (same_at (Below.refl _ _) hq (HP.out.grown hb))
  rw [show sameL pl pl = true from decide_eq_true rfl] at HS
  obtain ⟨pq, cq, rfl, _, _, _⟩ := hq
  clear hb ho HL HG
  go_wp2_with fail
  refine HS.out.mono ?_
  rintro e w2 ⟨rfl, hb2⟩
  have HB2 := Lib.hid (HB.out.trans (hb2.mono HB.out.size))
  clear hb2
  go_wp2_with fail
  go_ret
  exact ⟨rfl, HB2.out⟩

set_option maxRecDepth 100000 in
set_option maxHeartbeats 4000000 in
theorem spots_ok {w : World} {b : Nat} {n : Nd} {v0 v1 v2 v3 : Value} (h : TreeX w b n v0 v1 v2 v3) (hw : n.well = true) (hB : n.girth ≤ 2000000) (hk : n.kind = 2) {t : ByteArray} (ht : t.size ≤ 50000) {k : UInt8} {pv : Value} {pl : List ByteArray} (hgo : goF n false 200 [] (stepsB t) 0 (dirB t) = some (.ok pl k)) (hp : PlR w pv pl) :
    Calls Try.prog 19 #[.pointer (some ⟨b, 0, none⟩), .string t, .int .u8 k.toNat, pv] w fun e w' => e = .returned (.bool true) ∧ Below w.heap.size w w' := by
  have HL := Lib.hid (wspot_any h hw hB hk t ht)
  have HG := Lib.hid (goF_run 200 hgo)
  have HP := Lib.hid hp
  obtain ⟨pp, pc, rfl, _, _, _⟩ := hp
  have ekk : (((k.toNat : Nat) : Int) == ((k.toNat : Nat) : Int)) = true := beq_self_eq_true _
  clear h hgo
  go_enter Try.func19, Try.ntmps19
  go_wp2_with fail
  refine HL.out.mono ?_
  rintro e w1 ⟨⟨o, ho, hv⟩, hb⟩
  obtain rfl := run_det ho HG.out (Nat.zero_le _)
  obtain ⟨qv, he, hq⟩ := hv
  subst he
  have HB := Lib.hid hb
  have HS := Lib.hid (same_at (Below.refl _ _) hq (HP.out.grown hb))
  rw [show sameL pl pl = true from decide_eq_true rfl] at HS
  obtain ⟨pq, cq, rfl, _, _, _⟩ := hq
  clear hb ho HL HG
  go_wp2_with fail
  refine HS.out.mono ?_
  rintro e w2 ⟨rfl, hb2⟩
  have HB2 := Lib.hid (HB.out.trans (hb2.mono HB.out.size))
  clear hb2
  go_wp2_with fail
  go_ret
  exact ⟨rfl, HB2.out⟩

set_option maxRecDepth 100000 in
set_option maxHeartbeats 4000000 in
theorem refused_ok {w : World} {b : Nat} {n : Nd} {v0 v1 v2 v3 : Value} (h : TreeX w b n v0 v1 v2 v3) (hw : n.well = true) (hB : n.girth ≤ 2000000) (hk : n.kind = 2) {t : ByteArray} (ht : t.size ≤ 50000) {c : Int} (hgo : goF n true 200 [] (stepsB t) 0 (dirB t) = some (.err c)) (hgo2 : goF n false 200 [] (stepsB t) 0 (dirB t) = some (.err c)) :
    Calls Try.prog 20 #[.pointer (some ⟨b, 0, none⟩), .string t, .int .i64 c] w fun e w' => e = .returned (.bool true) ∧ Below w.heap.size w w' := by
  have HL := Lib.hid (wfind_any h hw hB hk t ht)
  have HL2 : Hid (∀ wx, Below w.heap.size w wx → Calls Try.prog 8 #[.iface 28 (.pointer (some ⟨b, 0, none⟩)), .string t] wx fun e w' => LeadsQ n false t e w' ∧ Below wx.heap.size wx w') := Lib.hid fun wx hx => wspot_any (h.kept hx) hw hB hk t ht
  have HG := Lib.hid (goF_run 200 hgo)
  have HG2 := Lib.hid (goF_run 200 hgo2)
  have ekk : (c == c) = true := beq_self_eq_true _
  clear h hgo hgo2
  go_enter Try.func20, Try.ntmps20
  go_wp2_with fail
  refine HL.out.mono ?_
  rintro e w1 ⟨⟨o, ho, hv⟩, hb⟩
  obtain rfl := run_det ho HG.out (Nat.zero_le _)
  have hv' : e = .returned (.tuple #[.slice none 0 0, .int .u8 0, .int .i64 c]) := hv
  subst hv'
  have HB := Lib.hid hb
  clear hb ho HL HG hv
  go_wp2_with fail
  refine (HL2.out _ HB.out).mono ?_
  rintro e w2 ⟨⟨o, ho, hv⟩, hb2⟩
  obtain rfl := run_det ho HG2.out (Nat.zero_le _)
  have hv' : e = .returned (.tuple #[.slice none 0 0, .int .u8 0, .int .i64 c]) := hv
  subst hv'
  have HB2 := Lib.hid (HB.out.trans (hb2.mono HB.out.size))
  clear hb2 ho hv
  go_wp2_with fail
  go_ret
  exact ⟨rfl, HB2.out⟩
end Go.Proofs.Ytlnnnlpofocgpab
