/- Walks of package moves: what a utility does with a source. -/
import Derived.Test.YtfilbknnpjbmcaaGreatDoorKb38
import Derived.Test.YtfilbknnpjbmcaaGreatDoorKb40
namespace Go.Proofs.YtfilbknnpjbmcaaGreatDoor
open Go.RowKit Px Nx Wk Dn Ox Mv
namespace Mv
theorem mv_bad {g : Goal} {n : Nd} {s : ByteArray} {c : Int} {p : List ByteArray} (h : standsR n false s c p) (hc : c ≠ 0) : mvR g n s c n := ⟨c, p, h, by rw [if_pos hc]; exact ⟨rfl, rfl⟩⟩
theorem mv_none {g : Goal} {n : Nd} {s : ByteArray} {p : List ByteArray} (h : standsR n false s 0 p) (ht : toD g s = none) : mvR g n s 4 n := ⟨0, p, h, by rw [if_neg (by decide)]; unfold byTo; rw [ht]; exact ⟨rfl, rfl⟩⟩
theorem mv_some {g : Goal} {n : Nd} {s : ByteArray} {p q : List ByteArray} (h : standsR n false s 0 p) (ht : toD g s = some q) : mvR g n s (renameD n p q).1 (renameD n p q).2 := ⟨0, p, h, by rw [if_neg (by decide)]; unfold byTo; rw [ht]; exact ⟨rfl, rfl⟩⟩
theorem cp_bad {d : Bool} {g : Goal} {n : Nd} {s : ByteArray} {c : Int} {p : List ByteArray} (h : standsR n (!d) s c p) (hc : c ≠ 0) : cpR d g n s c n := ⟨c, p, h, by rw [if_pos hc]; exact ⟨rfl, rfl⟩⟩
theorem cp_none {d : Bool} {g : Goal} {n : Nd} {s : ByteArray} {p : List ByteArray} (h : standsR n (!d) s 0 p) (ht : toD g s = none) : cpR d g n s 4 n := ⟨0, p, h, by rw [if_neg (by decide)]; unfold byTo; rw [ht]; exact ⟨rfl, rfl⟩⟩
theorem cp_some {d : Bool} {g : Goal} {n : Nd} {s : ByteArray} {p q : List ByteArray} (h : standsR n (!d) s 0 p) (ht : toD g s = some q) : cpR d g n s (copyingD n p q d).1 (copyingD n p q d).2 := ⟨0, p, h, by rw [if_neg (by decide)]; unfold byTo; rw [ht]; exact ⟨rfl, rfl⟩⟩
theorem ln_bad {f : Bool} {g : Goal} {n : Nd} {s : ByteArray} (h : (linkN s).well = false) : lnR f g n s 4 n := by unfold lnR; rw [if_pos h]; exact ⟨rfl, rfl⟩
theorem ln_none {f : Bool} {g : Goal} {n : Nd} {s : ByteArray} (h : (linkN s).well = true) (ht : toD g s = none) : lnR f g n s 4 n := by unfold lnR byTo; rw [if_neg (by rw [h]; decide), ht]; exact ⟨rfl, rfl⟩
theorem ln_some {f : Bool} {g : Goal} {n : Nd} {s : ByteArray} {q : List ByteArray} (h : (linkN s).well = true) (ht : toD g s = some q) : lnR f g n s (linkD f n q s).1 (linkD f n q s).2 := by unfold lnR byTo; rw [if_neg (by rw [h]; decide), ht]; exact ⟨rfl, rfl⟩
theorem stands_names {G : Nat} {n : Nd} (h : TreeG G n) {fo : Bool} {t : ByteArray} {p : List ByteArray} (hs : standsR n fo t 0 p) : namesBulk p ≤ 700000 := by
 obtain ⟨hc, k, _, hl⟩ := stands_ok hs
 exact leads_names h hl (check_size hc)
theorem link_small {s : ByteArray} (h : (linkN s).well = true) : s.size ≤ 256 := text_small h
end Mv

set_option maxRecDepth 100000 in
set_option maxHeartbeats 8000000 in
theorem send_mv {U : Nat → Prop} {w : World} {b G : Nat} {n : Nd} {v0 v1 v2 v3 : Value} (h : TreeU U w b n v0 v1 v2 v3) (hG : TreeG G n) (hN : G ≤ 90000000) (O M : ByteArray) (L : Nat) (S : ByteArray) (up : Option Addr) (un uc : Nat) (s : ByteArray) (hs : s.size ≤ 40000) (g : Goal) {pp : Option Addr} {m cp : Nat} (hp : PlT w b (.slice pp m cp) g.place) (hgn : namesBulk g.place ≤ 700000) :
  Calls Tryz.prog 56 #[utV O M L 49, callV S (.slice up un uc) b, .string s, .agg #[.slice pp m cp, .bool g.isIn]] w fun e w' => DidR U (mvR g) n s w b e w' := by
 have HLK : Hid (∀ wx, Below w.heap.size w wx → Calls Tryz.prog 49 #[.agg #[.string S, .slice up un uc, .iface 28 (.pointer (some ⟨b, 0, none⟩))], .string s] wx fun e w' => LooksMv n s wx b e w') := Lib.hid fun wx hb => renames_any (h.kept hb).x hG (by omega) S up un uc s hs
 have hlt := h.lt
 have HPL : Hid (∀ wx, Below w.heap.size w wx → Calls Tryz.prog 93 #[.agg #[.slice pp m cp, .bool g.isIn], .string s] wx fun e w' => PlaceQ g s wx b e w') := Lib.hid fun wx hb => placeOf_any (Nat.lt_of_lt_of_le hlt hb.size) g (hp.kept hb) (Nat.le_trans (namesBulk_len _) hgn) s hs
 have HT := Lib.hid h
 have HG := Lib.hid hG
 clear h hG hp
 unfold utV callV
 go_enter Tryz.func56, Tryz.ntmps56
 have HB0 : Hid (Below w.heap.size w (((w.alloc (.cells #[.string O, .string M, .func (.func L) #[] #[], .func (.func 49) #[] #[]] 63)).alloc (.cells #[.string S, .slice up un uc, .iface 28 (.pointer (some ⟨b, 0, none⟩))] 96)).alloc (.cells #[.slice pp m cp, .bool g.isIn] 98))) := Lib.hid (below_alloc (below_alloc (below_alloc (Below.refl _ _))))
 go_wp2_with fail
 have hD0 : (((w.alloc (.cells #[.string O, .string M, .func (.func L) #[] #[], .func (.func 49) #[] #[]] 63)).alloc (.cells #[.string S, .slice up un uc, .iface 28 (.pointer (some ⟨b, 0, none⟩))] 96)).alloc (.cells #[.slice pp m cp, .bool g.isIn] 98)).cell? ⟨w.heap.size + 1 + 1, 0, none⟩ = some (.slice pp m cp) := cell_firstE (by simp) rfl
 have hD1 : (((w.alloc (.cells #[.string O, .string M, .func (.func L) #[] #[], .func (.func 49) #[] #[]] 63)).alloc (.cells #[.string S, .slice up un uc, .iface 28 (.pointer (some ⟨b, 0, none⟩))] 96)).alloc (.cells #[.slice pp m cp, .bool g.isIn] 98)).cell? ⟨w.heap.size + 1 + 1, 1, none⟩ = some (.bool g.isIn) := cell_firstE (by simp) rfl
 generalize (((w.alloc (.cells #[.string O, .string M, .func (.func L) #[] #[], .func (.func 49) #[] #[]] 63)).alloc (.cells #[.string S, .slice up un uc, .iface 28 (.pointer (some ⟨b, 0, none⟩))] 96)).alloc (.cells #[.slice pp m cp, .bool g.isIn] 98)) = w0 at *
 refine (HLK.out _ HB0.out).mono ?_
 rintro e w2 ⟨c, p, hst, hb2, hh⟩
 have HB2 : Hid (Below w.heap.size w w2) := Lib.hid (HB0.out.trans (hb2.mono HB0.out.size))
 replace hD0 := cell_kept hb2 hD0
 replace hD1 := cell_kept hb2 hD1
 clear hb2 HB0
 rcases hh with ⟨hc, rfl⟩ | ⟨rfl, g2, g6, pv, rfl, hc2, hc8, hpp⟩
 ·have e0 : (c != 0) = true := bne_iff_ne.2 hc
  have HS := Lib.hid hst
  have HC := Lib.hid hc
  clear hst hc
  go_wp2_with fail
  go_ret
  exact ⟨_, _, rfl, mv_bad HS.out HC.out, ⟨_, _, _, _, HT.out.kept HB2.out⟩, grown_below HB2.out⟩
 ·have HS := Lib.hid hst
  have HC2 := Lib.hid hc2
  have HC8 := Lib.hid hc8
  have HPP := Lib.hid hpp
  clear hst hc2 hc8 hpp
  go_wp2_with fail
  refine (HPL.out _ HB2.out).mono ?_
  rintro e w3 ⟨hh, hb3⟩
  have HB3 : Hid (Below w.heap.size w w3) := Lib.hid (HB2.out.trans (hb3.mono HB2.out.size))
  have HK3 : Hid (Below w2.heap.size w2 w3) := Lib.hid hb3
  clear hb3 hD0 hD1
  rcases hh with ⟨hto, rfl⟩ | ⟨q, hto, hnt, pt, mt, ct, rfl, hpt⟩
  ·have HTO := Lib.hid hto
   clear hto
   go_wp2_with fail
   go_ret
   exact ⟨_, _, rfl, mv_none HS.out HTO.out, ⟨_, _, _, _, HT.out.kept HB3.out⟩, grown_below HB3.out⟩
  ·have HTO := Lib.hid hto
   have hc := renames1_any (HT.out.kept HB3.out) HG.out (by omega) (cell_kept HK3.out HC2.out) (cell_kept HK3.out HC8.out) (HPP.out.kept HK3.out) hpt (Nat.le_trans (stands_names HG.out HS.out) (by decide)) (by omega)
   have HC := Lib.hid hc
   clear hto hpt hc
   go_wp2_with fail
   refine HC.out.mono ?_
   rintro e w4 hd
   obtain ⟨cc, rfl, hd⟩ := did_ex hd
   have HD := Lib.hid hd
   clear hd
   go_wp2_with fail
   go_ret
   obtain ⟨q1, q2, q3⟩ := HD.out
   refine ⟨_, _, rfl, ?_, q2, grown_trans (grown_below HB3.out) q3⟩
   cases q1
   exact mv_some HS.out HTO.out

set_option maxRecDepth 100000 in
set_option maxHeartbeats 8000000 in
theorem send_cp {U : Nat → Prop} {w : World} {b G : Nat} {n : Nd} {v0 v1 v2 v3 : Value} (h : TreeU U w b n v0 v1 v2 v3) (hG : TreeG G n) (hN : G ≤ 90000000) (O M : ByteArray) (L : Nat) (S : ByteArray) (up : Option Addr) (un uc : Nat) (s : ByteArray) (hs : s.size ≤ 40000) (g : Goal) {pp : Option Addr} {m cp : Nat} (hp : PlT w b (.slice pp m cp) g.place) (hgn : namesBulk g.place ≤ 700000) :
  Calls Tryz.prog 56 #[utV O M L 51, callV S (.slice up un uc) b, .string s, .agg #[.slice pp m cp, .bool g.isIn]] w fun e w' => DidR U (cpR (hasB S 114 || hasB S 82) g) n s w b e w' := by
 have HLK : Hid (∀ wx, Below w.heap.size w wx → Calls Tryz.prog 51 #[.agg #[.string S, .slice up un uc, .iface 28 (.pointer (some ⟨b, 0, none⟩))], .string s] wx fun e w' => LooksCp (hasB S 114 || hasB S 82) n s wx b e w') := Lib.hid fun wx hb => copies_any (h.kept hb).x hG (by omega) S up un uc s hs
 have hlt := h.lt
 have HPL : Hid (∀ wx, Below w.heap.size w wx → Calls Tryz.prog 93 #[.agg #[.slice pp m cp, .bool g.isIn], .string s] wx fun e w' => PlaceQ g s wx b e w') := Lib.hid fun wx hb => placeOf_any (Nat.lt_of_lt_of_le hlt hb.size) g (hp.kept hb) (Nat.le_trans (namesBulk_len _) hgn) s hs
 have HT := Lib.hid h
 have HG := Lib.hid hG
 clear h hG hp
 unfold utV callV
 go_enter Tryz.func56, Tryz.ntmps56
 have HB0 : Hid (Below w.heap.size w (((w.alloc (.cells #[.string O, .string M, .func (.func L) #[] #[], .func (.func 51) #[] #[]] 63)).alloc (.cells #[.string S, .slice up un uc, .iface 28 (.pointer (some ⟨b, 0, none⟩))] 96)).alloc (.cells #[.slice pp m cp, .bool g.isIn] 98))) := Lib.hid (below_alloc (below_alloc (below_alloc (Below.refl _ _))))
 go_wp2_with fail
 have hD0 : (((w.alloc (.cells #[.string O, .string M, .func (.func L) #[] #[], .func (.func 51) #[] #[]] 63)).alloc (.cells #[.string S, .slice up un uc, .iface 28 (.pointer (some ⟨b, 0, none⟩))] 96)).alloc (.cells #[.slice pp m cp, .bool g.isIn] 98)).cell? ⟨w.heap.size + 1 + 1, 0, none⟩ = some (.slice pp m cp) := cell_firstE (by simp) rfl
 have hD1 : (((w.alloc (.cells #[.string O, .string M, .func (.func L) #[] #[], .func (.func 51) #[] #[]] 63)).alloc (.cells #[.string S, .slice up un uc, .iface 28 (.pointer (some ⟨b, 0, none⟩))] 96)).alloc (.cells #[.slice pp m cp, .bool g.isIn] 98)).cell? ⟨w.heap.size + 1 + 1, 1, none⟩ = some (.bool g.isIn) := cell_firstE (by simp) rfl
 generalize (((w.alloc (.cells #[.string O, .string M, .func (.func L) #[] #[], .func (.func 51) #[] #[]] 63)).alloc (.cells #[.string S, .slice up un uc, .iface 28 (.pointer (some ⟨b, 0, none⟩))] 96)).alloc (.cells #[.slice pp m cp, .bool g.isIn] 98)) = w0 at *
 refine (HLK.out _ HB0.out).mono ?_
 rintro e w2 ⟨c, p, hst, hb2, hh⟩
 have HB2 : Hid (Below w.heap.size w w2) := Lib.hid (HB0.out.trans (hb2.mono HB0.out.size))
 replace hD0 := cell_kept hb2 hD0
 replace hD1 := cell_kept hb2 hD1
 clear hb2 HB0
 rcases hh with ⟨hc, rfl⟩ | ⟨rfl, g2, g6, g8, pv, rfl, hc2, hc8, hc6, hpp⟩
 ·have e0 : (c != 0) = true := bne_iff_ne.2 hc
  have HS := Lib.hid hst
  have HC := Lib.hid hc
  clear hst hc
  go_wp2_with fail
  go_ret
  exact ⟨_, _, rfl, cp_bad HS.out HC.out, ⟨_, _, _, _, HT.out.kept HB2.out⟩, grown_below HB2.out⟩
 ·have HS := Lib.hid hst
  have HC2 := Lib.hid hc2
  have HC8 := Lib.hid hc8
  have HC6 := Lib.hid hc6
  have HPP := Lib.hid hpp
  clear hst hc2 hc8 hc6 hpp
  go_wp2_with fail
  refine (HPL.out _ HB2.out).mono ?_
  rintro e w3 ⟨hh, hb3⟩
  have HB3 : Hid (Below w.heap.size w w3) := Lib.hid (HB2.out.trans (hb3.mono HB2.out.size))
  have HK3 : Hid (Below w2.heap.size w2 w3) := Lib.hid hb3
  clear hb3 hD0 hD1
  rcases hh with ⟨hto, rfl⟩ | ⟨q, hto, hnt, pt, mt, ct, rfl, hpt⟩
  ·have HTO := Lib.hid hto
   clear hto
   go_wp2_with fail
   go_ret
   exact ⟨_, _, rfl, cp_none HS.out HTO.out, ⟨_, _, _, _, HT.out.kept HB3.out⟩, grown_below HB3.out⟩
  ·have HTO := Lib.hid hto
   have hc := copies1_any (HT.out.kept HB3.out) HG.out (by omega) (cell_kept HK3.out HC2.out) (cell_kept HK3.out HC8.out) (cell_kept HK3.out HC6.out) (HPP.out.kept HK3.out) hpt (Nat.le_trans (stands_names HG.out HS.out) (by decide)) (by omega)
   have HC := Lib.hid hc
   clear hto hpt hc
   go_wp2_with fail
   refine HC.out.mono ?_
   rintro e w4 hd
   obtain ⟨cc, rfl, hd⟩ := did_ex hd
   have HD := Lib.hid hd
   clear hd
   go_wp2_with fail
   go_ret
   obtain ⟨q1, q2, q3⟩ := HD.out
   refine ⟨_, _, rfl, ?_, q2, grown_trans (grown_below HB3.out) q3⟩
   cases q1
   exact cp_some HS.out HTO.out

set_option maxRecDepth 100000 in
set_option maxHeartbeats 8000000 in
theorem send_ln {U : Nat → Prop} {w : World} {b G : Nat} {n : Nd} {v0 v1 v2 v3 : Value} (h : TreeU U w b n v0 v1 v2 v3) (hG : TreeG G n) (hN : G ≤ 90000000) (O M : ByteArray) (L : Nat) (S : ByteArray) (up : Option Addr) (un uc : Nat) (s : ByteArray) (hs : s.size ≤ 40000) (g : Goal) {pp : Option Addr} {m cp : Nat} (hp : PlT w b (.slice pp m cp) g.place) (hgn : namesBulk g.place ≤ 700000) :
  Calls Tryz.prog 56 #[utV O M L 52, callV S (.slice up un uc) b, .string s, .agg #[.slice pp m cp, .bool g.isIn]] w fun e w' => DidR U (lnR (hasB S 102) g) n s w b e w' := by
 have HLK : Hid (∀ wx, Below w.heap.size w wx → Calls Tryz.prog 52 #[.agg #[.string S, .slice up un uc, .iface 28 (.pointer (some ⟨b, 0, none⟩))], .string s] wx fun e w' => LooksLn S (.slice up un uc) s wx b e w') := Lib.hid fun wx hb => links_any wx b S up un uc s
 have hlt := h.lt
 have HPL : Hid (∀ wx, Below w.heap.size w wx → Calls Tryz.prog 93 #[.agg #[.slice pp m cp, .bool g.isIn], .string s] wx fun e w' => PlaceQ g s wx b e w') := Lib.hid fun wx hb => placeOf_any (Nat.lt_of_lt_of_le hlt hb.size) g (hp.kept hb) (Nat.le_trans (namesBulk_len _) hgn) s hs
 have HT := Lib.hid h
 have HG := Lib.hid hG
 clear h hG hp
 unfold utV callV
 go_enter Tryz.func56, Tryz.ntmps56
 have HB0 : Hid (Below w.heap.size w (((w.alloc (.cells #[.string O, .string M, .func (.func L) #[] #[], .func (.func 52) #[] #[]] 63)).alloc (.cells #[.string S, .slice up un uc, .iface 28 (.pointer (some ⟨b, 0, none⟩))] 96)).alloc (.cells #[.slice pp m cp, .bool g.isIn] 98))) := Lib.hid (below_alloc (below_alloc (below_alloc (Below.refl _ _))))
 go_wp2_with fail
 have hD0 : (((w.alloc (.cells #[.string O, .string M, .func (.func L) #[] #[], .func (.func 52) #[] #[]] 63)).alloc (.cells #[.string S, .slice up un uc, .iface 28 (.pointer (some ⟨b, 0, none⟩))] 96)).alloc (.cells #[.slice pp m cp, .bool g.isIn] 98)).cell? ⟨w.heap.size + 1 + 1, 0, none⟩ = some (.slice pp m cp) := cell_firstE (by simp) rfl
 have hD1 : (((w.alloc (.cells #[.string O, .string M, .func (.func L) #[] #[], .func (.func 52) #[] #[]] 63)).alloc (.cells #[.string S, .slice up un uc, .iface 28 (.pointer (some ⟨b, 0, none⟩))] 96)).alloc (.cells #[.slice pp m cp, .bool g.isIn] 98)).cell? ⟨w.heap.size + 1 + 1, 1, none⟩ = some (.bool g.isIn) := cell_firstE (by simp) rfl
 generalize (((w.alloc (.cells #[.string O, .string M, .func (.func L) #[] #[], .func (.func 52) #[] #[]] 63)).alloc (.cells #[.string S, .slice up un uc, .iface 28 (.pointer (some ⟨b, 0, none⟩))] 96)).alloc (.cells #[.slice pp m cp, .bool g.isIn] 98)) = w0 at *
 refine (HLK.out _ HB0.out).mono ?_
 rintro e w2 ⟨hb2, hh⟩
 have HB2 : Hid (Below w.heap.size w w2) := Lib.hid (HB0.out.trans (hb2.mono HB0.out.size))
 replace hD0 := cell_kept hb2 hD0
 replace hD1 := cell_kept hb2 hD1
 have hs0 := HB0.out.size
 clear hb2 HB0
 rcases hh with ⟨hw, rfl⟩ | ⟨hw, g2, g3, hg2, hg3, rfl, k0, k1, k2, k3⟩
 ·have HW := Lib.hid hw
  clear hw
  go_wp2_with fail
  go_ret
  exact ⟨_, _, rfl, ln_bad HW.out, ⟨_, _, _, _, HT.out.kept HB2.out⟩, grown_below HB2.out⟩
 ·have HW := Lib.hid hw
  have HKK : Hid (w2.cell? ⟨g2, 0, none⟩ = some (.string S) ∧ w2.cell? ⟨g2, 1, none⟩ = some (.slice up un uc) ∧ w2.cell? ⟨g2, 2, none⟩ = some (.iface 28 (.pointer (some ⟨b, 0, none⟩))) ∧ w2.cell? ⟨g3, 0, none⟩ = some (.string s)) := Lib.hid ⟨k0, k1, k2, k3⟩
  clear hw k0 k1 k2 k3
  go_wp2_with fail
  refine (HPL.out _ HB2.out).mono ?_
  rintro e w3 ⟨hh, hb3⟩
  have HB3 : Hid (Below w.heap.size w w3) := Lib.hid (HB2.out.trans (hb3.mono HB2.out.size))
  have HK3 : Hid (Below w2.heap.size w2 w3) := Lib.hid hb3
  clear hb3 hD0 hD1
  rcases hh with ⟨hto, rfl⟩ | ⟨q, hto, hnt, pt, mt, ct, rfl, hpt⟩
  ·have HTO := Lib.hid hto
   clear hto
   go_wp2_with fail
   go_ret
   exact ⟨_, _, rfl, ln_none HW.out HTO.out, ⟨_, _, _, _, HT.out.kept HB3.out⟩, grown_below HB3.out⟩
  ·have HTO := Lib.hid hto
   have hc := links1_any (HT.out.kept HB3.out) HG.out (by omega) (cell_kept HK3.out HKK.out.1) (cell_kept HK3.out HKK.out.2.1) (cell_kept HK3.out HKK.out.2.2.1) (cell_kept HK3.out HKK.out.2.2.2) (by omega) (by omega) hpt (by omega) (Nat.le_trans (link_small HW.out) (by decide))
   have HC := Lib.hid hc
   clear hto hpt hc
   go_wp2_with fail
   refine HC.out.mono ?_
   rintro e w4 hd
   obtain ⟨cc, rfl, hd⟩ := did_ex hd
   have HD := Lib.hid hd
   clear hd
   go_wp2_with fail
   go_ret
   obtain ⟨q1, q2, q3⟩ := HD.out
   refine ⟨_, _, rfl, ?_, q2, grown_trans (grown_below HB3.out) q3⟩
   cases q1
   exact ln_some HW.out HTO.out
end Go.Proofs.YtfilbknnpjbmcaaGreatDoor
