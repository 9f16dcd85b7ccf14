/- The statements' own check that package probe answers at all: true in any world. -/
import Derived.Test.YtfilbknnpjbmcaaGreatKa43
import Derived.Test.YtfilbknnpjbmcaaGreatKa29
namespace Go.Proofs.YtfilbknnpjbmcaaGreat
open Go.RowKit Px Nx Wk Pr
namespace Wk
/-- Where a way ends, step by step. -/
def goF (n : Nd) (fo : Bool) : Nat → List ByteArray → List ByteArray → Nat → Bool → Option Out
  | 0, _, _, _, _ => .none
  | k + 1, at_, l, j, a => match l with
    | [] => some (.ok at_ 2)
    | s :: r =>
      if s = dots then goF n fo k at_.dropLast r j a
      else if r = [] ∧ endsD fo a (kindAt n (at_ ++ [s])) = true then some (.ok (at_ ++ [s]) (kindAt n (at_ ++ [s])))
      else if kindAt n (at_ ++ [s]) = 0 then some (.err 5)
      else if kindAt n (at_ ++ [s]) = 2 then goF n fo k (at_ ++ [s]) r j a
      else if kindAt n (at_ ++ [s]) = 3 then
        if j = 8 then some (.err 61) else goF n fo k (if absB (textAt n (at_ ++ [s])) then [] else at_) (stepsB (textAt n (at_ ++ [s])) ++ r) (j + 1) (a || (r.isEmpty && dirB (textAt n (at_ ++ [s]))))
      else some (.err 55)
theorem goF_run {n : Nd} {fo : Bool} : ∀ (k : Nat) {at_ l : List ByteArray} {j : Nat} {a : Bool} {o : Out}, goF n fo k at_ l j a = some o → Run n stepsB dirB absB fo at_ l j a o
  | 0, _, _, _, _, _, h => by cases h
  | k + 1, at_, l, j, a, o, h => by
    cases l with
    | nil =>
      rw [goF] at h
      cases h
      exact .done at_ j a
    | cons s r =>
      rw [goF] at h
      by_cases h1 : s = dots
      · rw [if_pos h1] at h
        subst h1
        exact .up at_ r j a o (goF_run k h)
      · rw [if_neg h1] at h
        by_cases h2 : r = [] ∧ endsD fo a (kindAt n (at_ ++ [s])) = true
        · rw [if_pos h2] at h
          obtain ⟨rfl, h2⟩ := h2
          cases h
          exact .ends at_ s j a h1 h2
        · rw [if_neg h2] at h
          have hg : GoesOn fo a (kindAt n (at_ ++ [s])) r := by
            by_cases hr : r = []
            · exact .inr (Bool.eq_false_iff.2 fun h3 => h2 ⟨hr, h3⟩)
            · exact .inl hr
          by_cases h3 : kindAt n (at_ ++ [s]) = 0
          · rw [if_pos h3] at h
            cases h
            exact .none at_ s r j a h1 hg h3
          · rw [if_neg h3] at h
            by_cases h4 : kindAt n (at_ ++ [s]) = 2
            · rw [if_pos h4] at h
              exact .dir at_ s r j a o h1 hg h4 (goF_run k h)
            · rw [if_neg h4] at h
              by_cases h5 : kindAt n (at_ ++ [s]) = 3
              · rw [if_pos h5] at h
                by_cases h6 : j = 8
                · rw [if_pos h6] at h
                  cases h
                  exact .loop at_ s r j a h1 hg h5 h6
                · rw [if_neg h6] at h
                  exact .link at_ s r j a o h1 hg h5 h6 (goF_run k h)
              · rw [if_neg h5] at h
                cases h
                exact .file at_ s r j a h1 hg h3 h4 h5
end Wk
namespace Works14
/-- A block of cells. -/
def Bk (w : World) (g : Nat) (vs : List Value) (t : TypeId) : Prop := w.heap[g]? = some (.cells vs.toArray t (0, 0))
theorem Bk.lt {w : World} {g : Nat} {vs : List Value} {t : TypeId} (h : Bk w g vs t) : g < w.heap.size := by
  rcases Nat.lt_or_ge g w.heap.size with hlt | hge
  · exact hlt
  · unfold Bk at h; rw [Array.getElem?_eq_none hge] at h; cases h
theorem Bk.kept {w w' : World} {g : Nat} {vs : List Value} {t : TypeId} (h : Bk w g vs t) (hb : Below w.heap.size w w') : Bk w' g vs t := by
  have := h.lt
  unfold Bk at *
  rw [hb.block _ this]; exact h
theorem Bk.new (w : World) (vs : List Value) (t : TypeId) : Bk (w.alloc (.cells vs.toArray t)) w.heap.size vs t := heap_alloc_new w _
theorem Bk.at {w : World} {g : Nat} {vs : List Value} {t : TypeId} (h : Bk w g vs t) {j : Nat} {v : Value} (hj : vs[j]? = some v) : w.cell? ⟨g, j, none⟩ = some v := by
  rw [cell_of_row _ _ _ _ _ _ h]
  simpa using hj
theorem Bk.strs {w : World} {g : Nat} {l : List ByteArray} {t : TypeId} (h : Bk w g (l.map Value.string) t) : Strs w (some ⟨g, 0, none⟩) l := by
  intro i hi
  refine ⟨g, 0, rfl, ?_⟩
  rw [Nat.zero_add]
  refine h.at ?_
  rw [List.getElem?_map, List.getElem?_eq_getElem hi, List.getD_eq_getElem?_getD, List.getElem?_eq_getElem hi]
  rfl
theorem Bk.pl {w : World} {g : Nat} {l : List ByteArray} {t : TypeId} (h : Bk w g (l.map Value.string) t) (hl : l.length ≤ maxLen) : PlR w (.slice (some ⟨g, 0, none⟩) l.length l.length) l := ⟨_, _, rfl, h.strs, Nat.le_refl _, hl⟩
theorem Bk.node {w : World} {g h : Nat} {l : List ByteArray} {zs : List Value} {kids : List Nd} {t t' : TypeId} (hn : Bk w g (l.map Value.string) t) (hk : Bk w h zs t') (hz : All4 (NodeR w) zs kids) (hl : l.length ≤ maxLen) (hm : kids.length ≤ maxLen) :
    NodeR w [.int .u8 2, .string ByteArray.empty, .slice (some ⟨g, 0, none⟩) l.length l.length, .slice (some ⟨h, 0, none⟩) kids.length kids.length] (.mk 2 ByteArray.empty l kids) := by
  refine .mk 2 ByteArray.empty l kids _ _ l.length kids.length (fun i => (zs.drop (i * 4)).take 4) (Nat.le_refl _) hl hn.strs (Nat.le_refl _) hm ?_ (fun i x hx => (hz.at i x hx).1)
  intro i hi
  refine ⟨h, 0, rfl, (hz.at i _ (List.getElem?_eq_getElem hi)).2, fun j u hj => ?_⟩
  have hj4 : j < 4 := by
    have := (List.getElem?_eq_some_iff.1 hj).1
    rw [List.length_take] at this
    omega
  have hj' : ((zs.drop (i * 4)).take 4)[j]? = some u := hj
  rw [List.getElem?_take_of_lt hj4, List.getElem?_drop] at hj'
  rw [Nat.zero_add]
  exact hk.at hj'
theorem Bk.by {w w' : World} {g m : Nat} {vs : List Value} {t : TypeId} (h : Bk w g vs t) (hg : w.grownBy w' (some m)) (hne : g ≠ m) : Bk w' g vs t := by
  have := h.lt
  unfold Bk at *
  rw [hg.block _ this (by simpa using hne)]; exact h
theorem leaf (w : World) (s : ByteArray) : NodeR w [.int .u8 1, .string s, .slice none 0 0, .slice none 0 0] (.mk 1 s [] []) :=
  .mk 1 s [] [] none none 0 0 (fun _ => []) (Nat.le_refl _) (Nat.zero_le _) (fun i hi => absurd hi (Nat.not_lt_zero _)) (Nat.le_refl _) (Nat.zero_le _) (fun i hi => absurd hi (Nat.not_lt_zero _)) (fun i x hx => by simp at hx)
theorem Bk.newE {w : World} {g : Nat} {vs : List Value} {t : TypeId} (hg : g = w.heap.size) : Bk (w.alloc (.cells vs.toArray t)) g vs t := hg ▸ Bk.new w vs t
theorem Bk.al {w : World} {g : Nat} {vs : List Value} {t : TypeId} {o : Obj} (h : Bk w g vs t) : Bk (w.alloc o) g vs t := h.kept (below_alloc (Below.refl _ _))
theorem below_turn {W w w' : World} {b : Nat} (h : Below W.heap.size W w) (hg : w.grownBy w' (some b)) (hb : W.heap.size ≤ b) : Below W.heap.size W w' := h.grown hg h.size fun k hk => by cases hk; exact hb

def tA : ByteArray := ⟨#[97]⟩
def tB : ByteArray := ⟨#[98]⟩
def tD : ByteArray := ⟨#[100]⟩
def tL : ByteArray := ⟨#[108]⟩
def root : Nd := .mk 2 ByteArray.empty [tA, tD, tL] [.mk 1 ⟨#[120]⟩ [] [], .mk 2 ByteArray.empty [] [], .mk 3 tD [] []]
theorem leafK (w : World) (k : UInt8) (s : ByteArray) : NodeR w [.int .u8 k.toNat, .string s, .slice none 0 0, .slice none 0 0] (.mk k s [] []) :=
  .mk k s [] [] none none 0 0 (fun _ => []) (Nat.le_refl _) (Nat.zero_le _) (fun i hi => absurd hi (Nat.not_lt_zero _)) (Nat.le_refl _) (Nat.zero_le _) (fun i hi => absurd hi (Nat.not_lt_zero _)) (fun i x hx => by simp at hx)
theorem root_may : root.may = true := by kernel_rfl
theorem root_tr : Tr root := ⟨by kernel_rfl, by kernel_rfl, of_decide_eq_true (by kernel_rfl)⟩
theorem k_l {K : Bool → ByteArray → UInt8} (h : Orc root K) : K true tL = 2 := h.of (.inr ⟨by kernel_rfl, .ok [tD] 2, goF_run 20 (by kernel_rfl), rfl⟩)
theorem k_a {K : Bool → ByteArray → UInt8} (h : Orc root K) : K true tA = 1 := h.of (.inr ⟨by kernel_rfl, .ok [tA] 1, goF_run 20 (by kernel_rfl), rfl⟩)
theorem run1 {K : Bool → ByteArray → UInt8} (h : Orc root K) : runD K [sOpen, sD, tL, sShut] = ⟨0, ⟨#[]⟩, ⟨#[]⟩, true⟩ := by
  have e : runD K [sOpen, sD, tL, sShut] = ⟨(testD sOpen (some (decide (K true tL = 2)))).1, ⟨#[]⟩, (testD sOpen (some (decide (K true tL = 2)))).2, true⟩ := by kernel_rfl
  rw [e, k_l h]
  rfl
theorem run2 (K : Bool → ByteArray → UInt8) : runD K [sEcho, tA, tB] = ⟨0, ⟨#[97, 32, 98, 10]⟩, ⟨#[]⟩, true⟩ := by kernel_rfl
theorem run3 {K : Bool → ByteArray → UInt8} (h : Orc root K) : holdsD K [sBang, sF, tA] = some false := by
  have e : holdsD K [sBang, sF, tA] = some (!decide (K true tA = 1)) := by kernel_rfl
  rw [e, k_a h]
  rfl
end Works14
open Works14
set_option maxRecDepth 100000 in
set_option maxHeartbeats 8000000 in
theorem example_any (W : World) : Calls Tryz.prog 14 #[] W fun e w' => (∃ b y0 y1 y2 y3, e = .returned (.pointer (some ⟨b, 0, none⟩)) ∧ W.heap.size ≤ b ∧ TreeX w' b root y0 y1 y2 y3) ∧ Below W.heap.size W w' := by
  go_enter Tryz.func14, Tryz.ntmps14
  go_wp2_with fail
  have HBW : Hid (Below W.heap.size W ((W.alloc (.cells #[.string ⟨#[97]⟩, .string ⟨#[100]⟩, .string ⟨#[108]⟩] 9)).alloc (.cells #[.int .u8 1, .string ⟨#[120]⟩, .slice none 0 0, .slice none 0 0, .int .u8 2, .string ⟨#[]⟩, .slice none 0 0, .slice none 0 0, .int .u8 3, .string ⟨#[100]⟩, .slice none 0 0, .slice none 0 0] 25))) := Lib.hid (below_alloc (below_alloc (Below.refl _ _)))
  have B1 : Hid (Bk ((W.alloc (.cells #[.string ⟨#[97]⟩, .string ⟨#[100]⟩, .string ⟨#[108]⟩] 9)).alloc (.cells #[.int .u8 1, .string ⟨#[120]⟩, .slice none 0 0, .slice none 0 0, .int .u8 2, .string ⟨#[]⟩, .slice none 0 0, .slice none 0 0, .int .u8 3, .string ⟨#[100]⟩, .slice none 0 0, .slice none 0 0] 25)) W.heap.size [.string ⟨#[97]⟩, .string ⟨#[100]⟩, .string ⟨#[108]⟩] 9) := Lib.hid (Bk.al (Bk.newE rfl))
  have B2 : Hid (Bk ((W.alloc (.cells #[.string ⟨#[97]⟩, .string ⟨#[100]⟩, .string ⟨#[108]⟩] 9)).alloc (.cells #[.int .u8 1, .string ⟨#[120]⟩, .slice none 0 0, .slice none 0 0, .int .u8 2, .string ⟨#[]⟩, .slice none 0 0, .slice none 0 0, .int .u8 3, .string ⟨#[100]⟩, .slice none 0 0, .slice none 0 0] 25)) (W.heap.size + 1) [.int .u8 1, .string ⟨#[120]⟩, .slice none 0 0, .slice none 0 0, .int .u8 2, .string ⟨#[]⟩, .slice none 0 0, .slice none 0 0, .int .u8 3, .string ⟨#[100]⟩, .slice none 0 0, .slice none 0 0] 25) := Lib.hid (Bk.newE (by simp))
  generalize ((W.alloc (.cells #[.string ⟨#[97]⟩, .string ⟨#[100]⟩, .string ⟨#[108]⟩] 9)).alloc (.cells #[.int .u8 1, .string ⟨#[120]⟩, .slice none 0 0, .slice none 0 0, .int .u8 2, .string ⟨#[]⟩, .slice none 0 0, .slice none 0 0, .int .u8 3, .string ⟨#[100]⟩, .slice none 0 0, .slice none 0 0] 25)) = w7 at *
  have HN : Hid (NodeR w7 [.int .u8 2, .string ⟨#[]⟩, .slice (some ⟨W.heap.size, 0, none⟩) 3 3, .slice (some ⟨W.heap.size + 1, 0, none⟩) 3 3] root) := Lib.hid (B1.out.node (l := [tA, tD, tL]) B2.out (.cons _ _ _ _ rfl (leafK _ 1 _) (.cons _ _ _ _ rfl (leafK _ 2 _) (.one rfl (leafK _ 3 _)))) (by decide) (by decide))
  refine (fnew_any HN.out (by have := root_tr.girth; omega) w7 (Below.refl _ _)).mono ?_
  rintro e w10 ⟨hnw, hb⟩
  rw [if_pos root_may] at hnw
  obtain ⟨b, y0, y1, y2, y3, rfl, hbb, ht, _⟩ := hnw
  have hbW : W.heap.size ≤ b := Nat.le_trans HBW.out.size hbb
  have HBX := Lib.hid (HBW.out.trans (hb.mono HBW.out.size))
  have HT := Lib.hid ht
  clear hb ht hbb HN B1 B2 HBW
  go_wp2_with fail
  go_ret
  exact ⟨⟨b, _, _, _, _, rfl, hbW, HT.out⟩, HBX.out⟩
set_option maxRecDepth 100000 in
set_option maxHeartbeats 8000000 in
theorem awake_any (W : World) : Calls Tryz.prog 6 #[] W fun e w' => e = .returned (.bool true) ∧ Below W.heap.size W w' := by
  go_enter Tryz.func6, Tryz.ntmps6
  go_wp2_with fail
  refine (example_any W).mono ?_
  rintro e w0 ⟨⟨b, y0, y1, y2, y3, rfl, hbW, ht⟩, hb⟩
  have HBW := Lib.hid hb
  have HT := Lib.hid ht
  obtain ⟨K, hK⟩ := orc root
  have HK := Lib.hid hK
  clear hb ht hK
  go_wp2_with fail
  have hal : Below w0.heap.size w0 (w0.alloc (.cells #[.string ⟨#[91]⟩, .string ⟨#[45, 100]⟩, .string ⟨#[108]⟩, .string ⟨#[93]⟩] 9)) := below_alloc (Below.refl _ _)
  have HB1 := Lib.hid (HBW.out.trans (hal.mono HBW.out.size))
  have HT1 := Lib.hid (HT.out.kept hal)
  have P1 : Hid (Bk (w0.alloc (.cells #[.string ⟨#[91]⟩, .string ⟨#[45, 100]⟩, .string ⟨#[108]⟩, .string ⟨#[93]⟩] 9)) w0.heap.size [.string ⟨#[91]⟩, .string ⟨#[45, 100]⟩, .string ⟨#[108]⟩, .string ⟨#[93]⟩] 9) := Lib.hid (Bk.new w0 _ _)
  clear hal HBW HT
  generalize (w0.alloc (.cells #[.string ⟨#[91]⟩, .string ⟨#[45, 100]⟩, .string ⟨#[108]⟩, .string ⟨#[93]⟩] 9)) = w1 at *
  generalize w0.heap.size = g1 at *
  refine (pRun_any HT1.out root_tr HK.out [sOpen, sD, tL, sShut] (by decide) (of_decide_eq_true (by kernel_rfl)) (P1.out.pl (l := [sOpen, sD, tL, sShut]) (by decide))).mono ?_
  rintro e w2 ⟨he, hb⟩
  rw [run1 HK.out] at he
  subst he
  have HB2 := Lib.hid (HB1.out.trans (hb.mono HB1.out.size))
  have HT2 := Lib.hid (HT1.out.kept hb)
  clear hb HB1 HT1 P1
  unfold Ans.val
  go_wp2_with fail
  have hal : Below w2.heap.size w2 (w2.alloc (.cells #[.string ⟨#[101, 99, 104, 111]⟩, .string ⟨#[97]⟩, .string ⟨#[98]⟩] 9)) := below_alloc (Below.refl _ _)
  have HB3 := Lib.hid (HB2.out.trans (hal.mono HB2.out.size))
  have HT3 := Lib.hid (HT2.out.kept hal)
  have P1 : Hid (Bk (w2.alloc (.cells #[.string ⟨#[101, 99, 104, 111]⟩, .string ⟨#[97]⟩, .string ⟨#[98]⟩] 9)) w2.heap.size [.string ⟨#[101, 99, 104, 111]⟩, .string ⟨#[97]⟩, .string ⟨#[98]⟩] 9) := Lib.hid (Bk.new w2 _ _)
  clear hal HB2 HT2
  generalize (w2.alloc (.cells #[.string ⟨#[101, 99, 104, 111]⟩, .string ⟨#[97]⟩, .string ⟨#[98]⟩] 9)) = w3 at *
  generalize w2.heap.size = g2 at *
  refine (pRun_any HT3.out root_tr HK.out [sEcho, tA, tB] (by decide) (of_decide_eq_true (by kernel_rfl)) (P1.out.pl (l := [sEcho, tA, tB]) (by decide))).mono ?_
  rintro e w4 ⟨he, hb⟩
  rw [run2] at he
  subst he
  have HB4 := Lib.hid (HB3.out.trans (hb.mono HB3.out.size))
  have HT4 := Lib.hid (HT3.out.kept hb)
  clear hb HB3 HT3 P1
  unfold Ans.val
  go_wp2_with fail
  have hal : Below w4.heap.size w4 (w4.alloc (.cells #[.string ⟨#[33]⟩, .string ⟨#[45, 102]⟩, .string ⟨#[97]⟩] 9)) := below_alloc (Below.refl _ _)
  have HB5 := Lib.hid (HB4.out.trans (hal.mono HB4.out.size))
  have HT5 := Lib.hid (HT4.out.kept hal)
  have P1 : Hid (Bk (w4.alloc (.cells #[.string ⟨#[33]⟩, .string ⟨#[45, 102]⟩, .string ⟨#[97]⟩] 9)) w4.heap.size [.string ⟨#[33]⟩, .string ⟨#[45, 102]⟩, .string ⟨#[97]⟩] 9) := Lib.hid (Bk.new w4 _ _)
  clear hal HB4 HT4
  generalize (w4.alloc (.cells #[.string ⟨#[33]⟩, .string ⟨#[45, 102]⟩, .string ⟨#[97]⟩] 9)) = w5 at *
  generalize w4.heap.size = g3 at *
  refine (pHolds_any HT5.out root_tr HK.out [sBang, sF, tA] (of_decide_eq_true (by kernel_rfl)) (P1.out.pl (l := [sBang, sF, tA]) (by decide))).mono ?_
  rintro e w6 ⟨he, hb⟩
  rw [run3 HK.out] at he
  have he : e = .returned (.tuple #[.bool false, .bool true]) := he
  subst he
  have HB6 := Lib.hid (HB5.out.trans (hb.mono HB5.out.size))
  clear hb HB5 HT5 P1
  go_wp2_with fail
  go_ret
  exact ⟨rfl, HB6.out⟩
end Go.Proofs.YtfilbknnpjbmcaaGreat
