/- Walks of package dirs: Run without words. -/
import Derived.Test.YtmofodaecakkfaaGreatKa47
import Derived.Deep.RegionHeld3
import Derived.Test.YtmofodaecakkfaaGreatKa45
import Derived.Test.YtmofodaecakkfaaGreatKa28
import Derived.Test.YtmofodaecakkfaaGreatKa48
namespace Go.Proofs.YtmofodaecakkfaaGreat
open Go.RowKit Px Nx Wk Dn Ox
set_option maxRecDepth 100000 in
theorem Run_nil {w : World} {b : Nat} {v : Value} (hx : PlR w v []) {Q : Ending → World → Prop} (hQ : ∀ w', w' = w ∨ w' = w.drew → Q (.returned (.tuple #[.int .i64 0, .string ⟨#[]⟩, .string ⟨#[]⟩, .bool false])) w') :
    Calls Tryz.prog 8 #[.iface 29 (.pointer (some ⟨b, 0, none⟩)), v] w Q := by
  obtain ⟨p, c, rfl, _, _, _⟩ := hx
  go_enter Tryz.func8, Tryz.ntmps8
  go_wp2_with fail
  go_returns
  exact hQ _ (.inl rfl)
end Go.Proofs.YtmofodaecakkfaaGreat
/- What a run's relations leave: one refused operand leaves all, mkdir and touch take nothing away, rmdir and rm make nothing. -/
namespace Go.Proofs.YtmofodaecakkfaaGreat
open Go.RowKit Px Nx Wk Dn Ox

namespace Dn
def Same (R : Rel) : Prop := ∀ {n n' : Nd} {t : ByteArray} {c : Int}, R n t c n' → c ≠ 0 → n' = n
/-- All of the one is in the other, a whole tree, too. -/
def Up (R : Rel) : Prop := ∀ {n n' : Nd} {t : ByteArray} {c : Int}, n.well = true → n.kind = 2 → R n t c n' → withinD n n' = true ∧ n'.well = true ∧ n'.kind = 2
def Down (R : Rel) : Prop := ∀ {n n' : Nd} {t : ByteArray} {c : Int}, n.well = true → n.kind = 2 → R n t c n' → withinD n' n = true ∧ n'.well = true ∧ n'.kind = 2
theorem byEnd_or {fo : Bool} {f : Nd → List ByteArray → UInt8 → Int → Nd → Prop} {n n' : Nd} {t : ByteArray} {c : Int} (h : byEnd fo f n t c n') : n' = n ∨ ∃ p k, Leads n fo t (.ok p k) ∧ f n p k c n' := by
  obtain ⟨o, ho, h⟩ := h
  cases o with
  | err e => exact .inl h.2
  | ok p k => exact .inr ⟨p, k, ho, h⟩
theorem is_same {r : Int × Nd} {n n' : Nd} {c : Int} (h : Is r c n') (hc : c ≠ 0) (hs : r.1 ≠ 0 → r.2 = n) : n' = n := by
  rw [h.2]
  exact hs (h.1 ▸ hc)
theorem same_mkOne : Same mkOneR := fun h hc => by
  rcases byEnd_or h with e | ⟨p, k, _, h⟩
  · exact e
  · exact is_same h hc make_same
theorem same_rmdir : Same rmdirR := fun h hc => by
  rcases byEnd_or h with e | ⟨p, k, _, h⟩
  · exact e
  · exact is_same h hc remove_same
theorem same_touch : Same touchR := fun h hc => by
  rcases byEnd_or h with e | ⟨p, k, _, h⟩
  · exact e
  · try dsimp only at h
    split at h
    · split at h
      · exact h.2
      · obtain ⟨o2, _, h⟩ := h
        split at h
        · exact h.2
        · exact is_same h hc touch_same
    · exact is_same h hc touch_same
theorem same_rm (f r : Bool) : Same (rmR f r) := fun h hc => by
  obtain ⟨o, _, h⟩ := h
  cases o with
  | err e => exact h.2
  | ok p k =>
    try dsimp only at h
    split at h
    · exact h.2
    · split at h
      · split at h
        · exact is_same h hc remove_same
        · exact h.2
      · exact is_same h hc remove_same
theorem same_oper {R : Rel} (h : Same R) : Same (operR R) := fun hr hc => by
  unfold operR at hr
  split at hr
  · exact h hr hc
  · exact hr.2
theorem ops_one {R : Rel} (hs : Same R) {n n' : Nd} {t : ByteArray} {bad : List (ByteArray × Int)} (h : Ops R n [t] bad n') (hb : bad ≠ []) : n' = n := by
  cases h with
  | ok _ h2 => cases h2; exact absurd rfl hb
  | bad h1 hc h2 => cases h2; exact hs h1 hc
theorem up_id {n : Nd} (hw : n.well = true) (hk : n.kind = 2) : withinD n n = true ∧ n.well = true ∧ n.kind = 2 := ⟨within_refl n, hw, hk⟩
theorem up_makeD {n : Nd} (hw : n.well = true) (hk : n.kind = 2) (p : List ByteArray) : withinD n (makeD n p dirN).2 = true ∧ (makeD n p dirN).2.well = true ∧ (makeD n p dirN).2.kind = 2 := ⟨within_make hw hk p, (make_well hw).1, (make_well hw).2.trans hk⟩
theorem up_touchD {n : Nd} (hw : n.well = true) (hk : n.kind = 2) (p : List ByteArray) : withinD n (touchD n p).2 = true ∧ (touchD n p).2.well = true ∧ (touchD n p).2.kind = 2 := ⟨within_touch hw hk p, (touch_well hw).1, (touch_well hw).2.trans hk⟩
theorem down_removeD {n : Nd} (hw : n.well = true) (hk : n.kind = 2) (p : List ByteArray) (c : Int) : withinD (removeD n p c).2 n = true ∧ (removeD n p c).2.well = true ∧ (removeD n p c).2.kind = 2 := ⟨within_remove hw p c, (remove_well hw).1, (remove_well hw).2.trans hk⟩
theorem up_mkOne : Up mkOneR := fun hw hk h => by
  rcases byEnd_or h with rfl | ⟨p, k, _, h⟩
  · exact up_id hw hk
  · rw [h.2]; exact up_makeD hw hk p
theorem up_miss : Up missR := fun hw hk h => by
  rcases byEnd_or h with rfl | ⟨p, k, _, h⟩
  · exact up_id hw hk
  · try dsimp only at h
    split at h
    · rw [h.2]; exact up_makeD hw hk p
    · split at h <;> (rw [h.2]; exact up_id hw hk)
theorem up_way {pre r : List ByteArray} {n n' : Nd} {c : Int} (h : WayR pre r n c n') : n.well = true → n.kind = 2 → withinD n n' = true ∧ n'.well = true ∧ n'.kind = 2 := by
  induction h with
  | done pre n => exact fun hw hk => up_id hw hk
  | stop h1 _ => exact fun hw hk => up_miss hw hk h1
  | next h1 _ ih =>
    intro hw hk
    obtain ⟨a, b, d⟩ := up_miss hw hk h1
    obtain ⟨e, f, g⟩ := ih b d
    exact ⟨within_trans _ a e, f, g⟩
theorem up_mk (p : Bool) : Up (mkR p) := fun hw hk h => by
  unfold mkR at h
  split at h
  · exact up_way h hw hk
  · exact up_mkOne hw hk h
theorem up_touchR : Up touchR := fun hw hk h => by
  rcases byEnd_or h with rfl | ⟨p, k, _, h⟩
  · exact up_id hw hk
  · try dsimp only at h
    split at h
    · split at h
      · rw [h.2]; exact up_id hw hk
      · obtain ⟨o2, _, h⟩ := h
        split at h
        · rw [h.2]; exact up_id hw hk
        · rw [h.2]; exact up_touchD hw hk p
    · rw [h.2]; exact up_touchD hw hk p
theorem down_rmdir : Down rmdirR := fun hw hk h => by
  rcases byEnd_or h with rfl | ⟨p, k, _, h⟩
  · exact up_id hw hk
  · rw [h.2]; exact down_removeD hw hk p _
theorem down_rm (f r : Bool) : Down (rmR f r) := fun hw hk h => by
  obtain ⟨o, _, h⟩ := h
  cases o with
  | err e => rw [h.2]; exact up_id hw hk
  | ok p k =>
    try dsimp only at h
    split at h
    · rw [h.2]; exact up_id hw hk
    · split at h
      · split at h
        · rw [h.2]; exact down_removeD hw hk p _
        · rw [h.2]; exact up_id hw hk
      · rw [h.2]; exact down_removeD hw hk p _
theorem up_oper {R : Rel} (h : Up R) : Up (operR R) := fun hw hk hr => by
  unfold operR at hr
  split at hr
  · exact h hw hk hr
  · rw [hr.2]; exact up_id hw hk
theorem down_oper {R : Rel} (h : Down R) : Down (operR R) := fun hw hk hr => by
  unfold operR at hr
  split at hr
  · exact h hw hk hr
  · rw [hr.2]; exact up_id hw hk
theorem up_ops {R : Rel} (hR : Up R) {n n' : Nd} {l : List ByteArray} {bad : List (ByteArray × Int)} (h : Ops R n l bad n') : n.well = true → n.kind = 2 → withinD n n' = true ∧ n'.well = true ∧ n'.kind = 2 := by
  induction h with
  | nil n => exact fun hw hk => up_id hw hk
  | ok h1 _ ih =>
    intro hw hk
    obtain ⟨a, b, d⟩ := hR hw hk h1
    obtain ⟨e, f, g⟩ := ih b d
    exact ⟨within_trans _ a e, f, g⟩
  | bad h1 _ _ ih =>
    intro hw hk
    obtain ⟨a, b, d⟩ := hR hw hk h1
    obtain ⟨e, f, g⟩ := ih b d
    exact ⟨within_trans _ a e, f, g⟩
theorem down_ops {R : Rel} (hR : Down R) {n n' : Nd} {l : List ByteArray} {bad : List (ByteArray × Int)} (h : Ops R n l bad n') : n.well = true → n.kind = 2 → withinD n' n = true ∧ n'.well = true ∧ n'.kind = 2 := by
  induction h with
  | nil n => exact fun hw hk => up_id hw hk
  | ok h1 _ ih =>
    intro hw hk
    obtain ⟨a, b, d⟩ := hR hw hk h1
    obtain ⟨e, f, g⟩ := ih b d
    exact ⟨within_trans _ e a, f, g⟩
  | bad h1 _ _ ih =>
    intro hw hk
    obtain ⟨a, b, d⟩ := hR hw hk h1
    obtain ⟨e, f, g⟩ := ih b d
    exact ⟨within_trans _ e a, f, g⟩
/-- One word is an operand, or there is none. -/
theorem parse_one {kn : List UInt8} {t : ByteArray} {a b : Int} : (parseD kn [t] a b).2.1 = [] ∨ (parseD kn [t] a b).2.1 = [t] ∧ (parseD kn [t] a b).1 = setD [] := by
  unfold parseD
  split
  · exact .inl rfl
  · split
    · exact .inl rfl
    · rename_i tt ops hc
      split
      · exact .inl rfl
      · unfold cutD at hc
        split at hc
        · cases hc; exact .inl rfl
        · split at hc
          · cases hc; exact .inr ⟨rfl, rfl⟩
          · split at hc
            · refine .inl ?_
              simp only [cutD, Option.map_some, Option.some.injEq, Prod.mk.injEq] at hc
              exact hc.2.symm
            · cases hc
theorem runD_codes {O : List UInt8} {A : UInt8} {R : ByteArray → Rel} {n n' : Nd} {name err : ByteArray} {xs : List ByteArray} {code : Int} (h : RunD O A R n name xs code err n') : (code = 0 ∨ code = 1 ∨ code = 2) ∧ (code = 0 ↔ err = ⟨#[]⟩) ∧ (code = 2 → n' = n) := by
  rcases h with ⟨_, rfl, rfl, rfl⟩ | ⟨_, bad, ho, ⟨rfl, rfl, rfl⟩ | ⟨hb, rfl, rfl⟩⟩
  · refine ⟨.inr (.inr rfl), ⟨fun h => absurd h (by decide), fun h => ?_⟩, fun _ => rfl⟩
    have := congrArg ByteArray.size h
    rw [ByteArray.size_append] at this
    exact absurd this (by show ¬ name.size + 8 = 0; omega)
  · exact ⟨.inl rfl, ⟨fun _ => rfl, fun _ => rfl⟩, fun h => absurd h (by decide)⟩
  · refine ⟨.inr (.inl rfl), ⟨fun h => absurd h (by decide), fun h => ?_⟩, fun h => absurd h (by decide)⟩
    have h2 : linesL name bad = [] := by
      have := congrArg (fun s : ByteArray => s.data.toList) h
      simpa using this
    cases bad with
    | nil => exact absurd rfl hb
    | cons x r =>
      have e : linesL name (x :: r) = lineL name x ++ linesL name r := by simp [linesL]
      rw [e] at h2
      exact absurd (List.append_eq_nil_iff.1 h2).1 (line_ne name x)
theorem runD_one {O : List UInt8} {A : UInt8} {R : ByteArray → Rel} (hs : Same (R (setD []))) {n n' : Nd} {name err t : ByteArray} {code : Int} (h : RunD O A R n name [t] code err n') (hc : code = 1) : n' = n := by
  rcases h with ⟨_, rfl, _, _⟩ | ⟨_, bad, ho, ⟨_, rfl, _⟩ | ⟨hb, _, _⟩⟩
  · exact absurd hc (by decide)
  · exact absurd hc (by decide)
  · rcases parse_one (kn := O) (t := t) (a := 0) (b := ([t] : List ByteArray).length) with e | ⟨e, e2⟩
    · rw [e] at ho
      cases ho
      exact absurd rfl hb
    · rw [e, e2] at ho
      exact ops_one (same_oper hs) ho hb
theorem runD_ops {O : List UInt8} {A : UInt8} {R : ByteArray → Rel} {n n' : Nd} {name err : ByteArray} {xs : List ByteArray} {code : Int} (h : RunD O A R n name xs code err n') : n' = n ∨ ∃ bad, Ops (operR (R (parseD O xs 0 xs.length).1)) n (parseD O xs 0 xs.length).2.1 bad n' := by
  rcases h with ⟨_, _, _, e⟩ | ⟨_, bad, ho, _⟩
  · exact .inl e
  · exact .inr ⟨bad, ho⟩
end Dn
end Go.Proofs.YtmofodaecakkfaaGreat
/- dirs.Run over any words, and what it leaves. -/
namespace Go.Proofs.YtmofodaecakkfaaGreat
open Go.RowKit Px Nx Wk Dn Ox

theorem Run_any {w : World} {b N : Nat} {n : Nd} {v0 v1 v2 v3 v : Value} (h : TreeX w b n v0 v1 v2 v3) (hG : TreeN N n) (hN : N ≤ 200) {xs : List ByteArray} (hx : PlR w v xs) (hxl : xs.length ≤ 40) (hxs : ∀ x ∈ xs, x.size ≤ 600) :
    Calls Tryz.prog 8 #[.iface 29 (.pointer (some ⟨b, 0, none⟩)), v] w fun e w' => AnsQ n xs w b e w' := by
  cases xs with
  | nil =>
    refine Run_nil hx fun w' hw => ?_
    rcases hw with rfl | rfl
    · exact ⟨_, _, _, _, rfl, .inl ⟨rfl, rfl, rfl, rfl, fun _ _ e => by cases e⟩, ⟨_, _, _, _, h⟩, grown_below (Below.refl _ _)⟩
    · exact ⟨_, _, _, _, rfl, .inl ⟨rfl, rfl, rfl, rfl, fun _ _ e => by cases e⟩, ⟨_, _, _, _, h.kept (Below.refl _ _).drew⟩, grown_below (Below.refl _ _).drew⟩
  | cons s rest =>
    have hx2 := hx
    obtain ⟨p, c, rfl, hs, hl, hm⟩ := hx
    obtain ⟨bb, oo, rfl, _⟩ := hs 0 (by simp)
    have hl2 : rest.length ≤ 39 := by rw [List.length_cons] at hxl; omega
    rcases no_util (s := s) with rfl | rfl | rfl | rfl | hno
    · exact Run_makeDir h hG hN hx2 hl2 hxs
    · exact Run_removeDir h hG hN hx2 hl2 hxs
    · exact Run_touch h hG hN hx2 hl2 hxs
    · exact Run_remove h hG hN hx2 hl2 hxs
    · exact Run_none h hG hN s hno hx2 hl2
namespace Dn
theorem no_p : hasB (setD []) 112 = false := by kernel_rfl
theorem ans_not {n n' : Nd} {xs : List ByteArray} {code : Int} {err : ByteArray} (h : AnsD n xs code err false n') : code = 0 ∧ err = ⟨#[]⟩ ∧ n' = n := by
  rcases h with ⟨_, h1, h2, h3, _⟩ | ⟨h, _⟩
  · exact ⟨h1, h2, h3⟩
  · cases h
theorem same_nop : Same ((fun S => mkR (hasB S 112)) (setD [])) := by
  show Same (mkR (hasB (setD []) 112))
  rw [no_p]
  exact fun h hc => same_mkOne h hc
theorem ans_keeps {n n' : Nd} {xs : List ByteArray} {code : Int} {err : ByteArray} (hw : n.well = true) (hk : n.kind = 2) (h : AnsD n xs code err true n') :
    (code = 0 ∨ code = 1 ∨ code = 2) ∧ (code = 0 ↔ err = ⟨#[]⟩) ∧ n'.well = true ∧ n'.kind = 2 ∧ (code = 2 → n' = n) ∧ (code = 1 → xs.length = 2 → n' = n) ∧
      ∃ name rest, xs = name :: rest ∧ ((name = nMkdir ∨ name = nTouch) ∧ withinD n n' = true ∨ (name = nRmdir ∨ name = nRm) ∧ withinD n' n = true) := by
  have key : ∀ {O : List UInt8} {A : UInt8} {R : ByteArray → Rel} {name : ByteArray} {rest : List ByteArray}, RunD O A R n name rest code err n' → Same (R (setD [])) → (code = 0 ∨ code = 1 ∨ code = 2) ∧ (code = 0 ↔ err = ⟨#[]⟩) ∧ (code = 2 → n' = n) ∧ (code = 1 → (name :: rest).length = 2 → n' = n) := by
    intro O A R name rest h hs
    obtain ⟨a, b, c⟩ := runD_codes h
    refine ⟨a, b, c, fun hc hl => ?_⟩
    obtain ⟨t, rfl⟩ : ∃ t, rest = [t] := List.length_eq_one_iff.1 (by rw [List.length_cons] at hl; omega)
    exact runD_one hs h hc
  have up : ∀ {O : List UInt8} {A : UInt8} {R : ByteArray → Rel} {name : ByteArray} {rest : List ByteArray}, RunD O A R n name rest code err n' → (∀ S, Up (R S)) → withinD n n' = true ∧ n'.well = true ∧ n'.kind = 2 := by
    intro O A R name rest h hu
    rcases runD_ops h with rfl | ⟨bad, ho⟩
    · exact up_id hw hk
    · exact up_ops (up_oper (hu _)) ho hw hk
  have down : ∀ {O : List UInt8} {A : UInt8} {R : ByteArray → Rel} {name : ByteArray} {rest : List ByteArray}, RunD O A R n name rest code err n' → (∀ S, Down (R S)) → withinD n' n = true ∧ n'.well = true ∧ n'.kind = 2 := by
    intro O A R name rest h hu
    rcases runD_ops h with rfl | ⟨bad, ho⟩
    · exact up_id hw hk
    · exact down_ops (down_oper (hu _)) ho hw hk
  rcases h with ⟨h, _⟩ | ⟨_, name, rest, rfl, ⟨hn, h⟩ | ⟨hn, h⟩ | ⟨hn, h⟩ | ⟨hn, h⟩⟩
  · cases h
  · obtain ⟨a, b, c, d⟩ := key h same_nop
    obtain ⟨e, f, g⟩ := up h fun S => up_mk _
    exact ⟨a, b, f, g, c, d, _, _, rfl, .inl ⟨.inl hn, e⟩⟩
  · obtain ⟨a, b, c, d⟩ := key h same_rmdir
    obtain ⟨e, f, g⟩ := down h fun S => down_rmdir
    exact ⟨a, b, f, g, c, d, _, _, rfl, .inr ⟨.inl hn, e⟩⟩
  · obtain ⟨a, b, c, d⟩ := key h same_touch
    obtain ⟨e, f, g⟩ := up h fun S => up_touchR
    exact ⟨a, b, f, g, c, d, _, _, rfl, .inl ⟨.inr hn, e⟩⟩
  · obtain ⟨a, b, c, d⟩ := key h (same_rm _ _)
    obtain ⟨e, f, g⟩ := down h fun S => down_rm _ _
    exact ⟨a, b, f, g, c, d, _, _, rfl, .inr ⟨.inr hn, e⟩⟩
end Dn
end Go.Proofs.YtmofodaecakkfaaGreat
