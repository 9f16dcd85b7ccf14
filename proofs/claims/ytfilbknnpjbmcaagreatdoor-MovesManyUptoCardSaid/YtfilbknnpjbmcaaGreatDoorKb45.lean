/- Walks of package moves: Run of each utility. -/
import Derived.Test.YtfilbknnpjbmcaaGreatDoorKb44
namespace Go.Proofs.YtfilbknnpjbmcaaGreatDoor
open Go.RowKit Px Nx Wk Dn Ox Mv

namespace Mv
def nMv : ByteArray := ⟨#[109, 118]⟩
def nCp : ByteArray := ⟨#[99, 112]⟩
def nLn : ByteArray := ⟨#[108, 110]⟩
theorem hgoal_names {G : Nat} {n : Nd} (h : TreeG G n) {cp : Bool} (t : ByteArray) (sev : Bool) (c : Int) (g : Goal) (hg : goalR cp n t sev c g) : namesBulk g.place ≤ 700000 := by
 have h0 : namesBulk noGoal.place ≤ 700000 := Nat.zero_le _
 have hi : ∀ {c1 : Int} {g1 : Goal}, namesBulk g1.place ≤ 700000 → IsG c1 g1 c g → namesBulk g.place ≤ 700000 := fun h1 h2 => h2.2 ▸ h1
 unfold goalR at hg
 split at hg
 ·exact hi h0 hg
 ·rename_i hc
  have hs := check_size (t := t) (by omega)
  obtain ⟨o, ho, hg⟩ := hg
  cases o with
  | err e => exact hi h0 hg
  | ok p k =>
   have hp := leads_names h ho hs
   dsimp only at hg
   split at hg
   ·exact hi (g1 := .into p) hp hg
   ·split at hg
    ·exact hi h0 hg
    ·split at hg
     ·exact hi h0 hg
     ·unfold leadsR at hg
      split at hg
      ·unfold foundR at hg
       split at hg
       ·exact hi (g1 := .at_ p) hp hg
       ·obtain ⟨o2, _, hg⟩ := hg
        split at hg
        ·exact hi h0 hg
        ·exact hi (g1 := .at_ p) hp hg
      ·obtain ⟨o2, ho2, hg⟩ := hg
       cases o2 with
       | err e => exact hi h0 hg
       | ok q k2 => exact hi (g1 := .at_ q) (leads_names h ho2 hs) hg
theorem last_names {s x : ByteArray} (h : lastB s = some x) : x.size ≤ 64 := by
 unfold lastB at h
 split at h
 ·rename_i hn
  cases h
  unfold nameL at hn
  simp only [Bool.and_eq_true, decide_eq_true_eq] at hn
  have := hn.1.2
  show (lastF s.data.toList).toArray.size ≤ 64
  rw [List.size_toArray]
  exact this
 ·cases h
theorem to_names {g : Goal} {s : ByteArray} {q : List ByteArray} (h : toD g s = some q) (hg : namesBulk g.place ≤ 700000) : namesBulk q ≤ 710000 := by
 cases g with
 | at_ p => cases h; exact Nat.le_trans hg (by decide)
 | into p =>
  have h : (lastB s).map (fun x => p ++ [x]) = some q := h
  cases hl : lastB s with
  | none => rw [hl] at h; cases h
  | some x =>
   rw [hl] at h
   cases h
   have := last_names hl
   have hg : namesBulk p ≤ 700000 := hg
   rw [names_snoc]
   omega
theorem grow_kept {G : Nat} {n n' : Nd} {r : Int × Nd} {c : Int} (h : TreeG G n) (hk : KeptM n r) (hi : Is r c n') : TreeG (G + 5710000) n' := by
 obtain ⟨_, rfl⟩ := hi
 exact ⟨hk.well, hk.kind.trans h.kind, by have := hk.girth; have := h.girth; omega⟩
theorem grow_mv (g : Goal) (H : Nat) (nk nk' : Nd) (s : ByteArray) (c : Int) (h : TreeG H nk) (hg : namesBulk g.place ≤ 700000) (hr : mvR g nk s c nk') : TreeG (H + 5710000) nk' := by
 obtain ⟨e, p, hst, hr⟩ := hr
 split at hr
 ·exact grow_kept h (keptM_id h.well _) hr
 ·rename_i he
  have he : e = 0 := by omega
  subst he
  unfold byTo at hr
  split at hr
  ·exact grow_kept h (keptM_id h.well _) hr
  ·rename_i q hq
   exact grow_kept h (keptM_rename h.well (Nat.le_trans (stands_names h hst) (by decide)) (to_names hq hg)) hr
theorem grow_cp (d : Bool) (g : Goal) (H : Nat) (nk nk' : Nd) (s : ByteArray) (c : Int) (h : TreeG H nk) (hg : namesBulk g.place ≤ 700000) (hr : cpR d g nk s c nk') : TreeG (H + 5710000) nk' := by
 obtain ⟨e, p, hst, hr⟩ := hr
 split at hr
 ·exact grow_kept h (keptM_id h.well _) hr
 ·unfold byTo at hr
  split at hr
  ·exact grow_kept h (keptM_id h.well _) hr
  ·rename_i q hq
   exact grow_kept h (keptM_copying h.well (to_names hq hg) d) hr
theorem grow_ln (f : Bool) (g : Goal) (H : Nat) (nk nk' : Nd) (s : ByteArray) (c : Int) (h : TreeG H nk) (hg : namesBulk g.place ≤ 700000) (hr : lnR f g nk s c nk') : TreeG (H + 5710000) nk' := by
 unfold lnR at hr
 split at hr
 ·exact grow_kept h (keptM_id h.well _) hr
 ·rename_i hw
  have hw : (linkN s).well = true := by simpa using hw
  have hs := link_small hw
  unfold byTo at hr
  split at hr
  ·exact grow_kept h (keptM_id h.well _) hr
  ·rename_i q hq
   have hq := to_names hq hg
   have hl : (linkN s).well = true → (linkN s).girth ≤ 8000 := fun _ => link_girth (by omega)
   unfold linkD at hr
   split at hr
   ·have hk := keptM_remove h.well hq (wrongFile nk q)
    split at hr
    ·exact grow_kept h hk hr
    ·have h2 := keptM_make (y := linkN s) hk.well hq hl
     obtain ⟨_, rfl⟩ := hr
     exact ⟨h2.well, (h2.kind.trans hk.kind).trans h.kind, by have := h2.girth; have := hk.girth; have := h.girth; omega⟩
   ·exact grow_kept h (keptM_make h.well hq hl) hr
end Mv
set_option maxRecDepth 100000 in
set_option maxHeartbeats 4000000 in
theorem contains_no (S : ByteArray) (wx : World) : Calls Tryz.prog 32 #[.string S, .string ⟨#[]⟩] wx fun e w' => e = .returned (.bool ((fun _ => true) S)) ∧ w' = wx := by
 have h1 : Calls Tryz.prog 94 #[.string S, .string ⟨#[]⟩] wx fun e w' => e = .returned (.int .i64 0) ∧ w' = wx := by
  go_enter Tryz.func94, Tryz.ntmps94
  go_wp2_with fail
  go_ret
  exact ⟨rfl, rfl⟩
 have h2 : Calls Tryz.prog 58 #[.string S, .string ⟨#[]⟩] wx fun e w' => e = .returned (.int .i64 0) ∧ w' = wx := by
  go_enter Tryz.func58, Tryz.ntmps58
  go_wp2_with fail
  refine h1.mono ?_
  rintro e w1 ⟨rfl, rfl⟩
  go_wp2_with fail
  go_ret
  exact ⟨rfl, rfl⟩
 go_enter Tryz.func32, Tryz.ntmps32
 go_wp2_with fail
 refine h2.mono ?_
 rintro e w1 ⟨rfl, rfl⟩
 go_wp2_with fail
 go_ret
 exact ⟨rfl, rfl⟩

theorem RunY_mv {w : World} {b b2 G : Nat} {n : Nd} {v0 v1 v2 v3 : Value} (h : TreeY b2 w b n v0 v1 v2 v3) (hb2 : b2 < w.heap.size) (hG : TreeG G n) {K : Nat} (hN : G + 5710000 * K ≤ 90000000) {bb oo c : Nat} {rest : List ByteArray} (hx : PlR w (.slice (some ⟨bb, oo, none⟩) (rest.length + 1) c) (nMv :: rest)) (hxl : rest.length ≤ 14) (hxs : ∀ x ∈ rest, x.size ≤ 6000) (hxK : rest.length ≤ K) :
  Calls Tryz.prog 10 #[.iface 28 (.pointer (some ⟨b, 0, none⟩)), .slice (some ⟨bb, oo, none⟩) (rest.length + 1 : Nat) c] w fun e w' => ∃ code err n', e = .returned (.tuple #[.int .i64 code, .string ⟨#[]⟩, .string err, .bool true]) ∧ RunM [102] (fun _ => true) false (fun _ => mvR) n nMv rest code err n' ∧ (∃ x0 x1 x2 x3, TreeY b2 w' b n' x0 x1 x2 x3) ∧ w.grownBy w' (some b) := by
 refine Run_is h hG (by omega) nMv (x0 := ⟨([102] : List UInt8).toArray⟩) (x1 := ⟨#[]⟩) (fj := 48) (fi := 49) (P := fun code err n' => RunM [102] (fun _ => true) false (fun _ => mvR) n nMv rest code err n') (fun wx r hr => ?_) (fun wx xv hb hp => ?_) hx hxl
 ·rcases lookup_u wx r 3 nMv hr with ⟨_, q⟩ | ⟨p, hp, e, q⟩
  ·exact absurd rfl (q (nMv, ⟨#[102]⟩, ⟨#[]⟩, 48, 49) (by unfold utils; exact .head _))
  ·simp only [utils, List.mem_cons, List.not_mem_nil, or_false] at hp
   rcases hp with rfl | rfl | rfl <;> first | exact q | exact absurd e (by decide)
 ·exact run_gen (h.kept hb) (Nat.lt_of_lt_of_le hb2 hb.size) hG hN [102] ⟨#[]⟩ 48 49 (fun _ => true) false (fun _ => mvR) (by decide) (fun S wx => contains_no S wx) (fun wy S up un uc t sev hb2 ht => lookAtGoal_spot ((h.kept hb).kept hb2).x hG (by omega) S up un uc _ ⟨#[]⟩ 49 t ht sev)
   (fun U wy H nk x0 x1 x2 x3 hu hg hh S up un uc s hs g pp m cc hp hn => send_mv hu hg hh _ ⟨#[]⟩ 48 S up un uc s hs g hp hn) (fun S g => grow_mv g) (hgoal_names hG) nMv (of_decide_eq_true (by kernel_rfl)) hp hxl hxs hxK
theorem Run_mv {w : World} {b G : Nat} {n : Nd} {v0 v1 v2 v3 : Value} (h : TreeX w b n v0 v1 v2 v3) (hG : TreeG G n) {K : Nat} (hN : G + 5710000 * K ≤ 90000000) {bb oo c : Nat} {rest : List ByteArray} (hx : PlR w (.slice (some ⟨bb, oo, none⟩) (rest.length + 1) c) (nMv :: rest)) (hxl : rest.length ≤ 14) (hxs : ∀ x ∈ rest, x.size ≤ 6000) (hxK : rest.length ≤ K) :
  Calls Tryz.prog 10 #[.iface 28 (.pointer (some ⟨b, 0, none⟩)), .slice (some ⟨bb, oo, none⟩) (rest.length + 1 : Nat) c] w fun e w' => ∃ code err n', e = .returned (.tuple #[.int .i64 code, .string ⟨#[]⟩, .string err, .bool true]) ∧ RunM [102] (fun _ => true) false (fun _ => mvR) n nMv rest code err n' ∧ (∃ x0 x1 x2 x3, TreeX w' b n' x0 x1 x2 x3) ∧ w.grownBy w' (some b) :=
 (RunY_mv (b2 := b) (TreeX.y h) h.lt hG hN hx hxl hxs hxK).mono fun e w' ⟨code, err, n', he, hr, ⟨x0, x1, x2, x3, ht⟩, hg⟩ => ⟨code, err, n', he, hr, ⟨_, _, _, _, ht.x⟩, hg⟩

theorem RunY_cp {w : World} {b b2 G : Nat} {n : Nd} {v0 v1 v2 v3 : Value} (h : TreeY b2 w b n v0 v1 v2 v3) (hb2 : b2 < w.heap.size) (hG : TreeG G n) {K : Nat} (hN : G + 5710000 * K ≤ 90000000) {bb oo c : Nat} {rest : List ByteArray} (hx : PlR w (.slice (some ⟨bb, oo, none⟩) (rest.length + 1) c) (nCp :: rest)) (hxl : rest.length ≤ 14) (hxs : ∀ x ∈ rest, x.size ≤ 6000) (hxK : rest.length ≤ K) :
  Calls Tryz.prog 10 #[.iface 28 (.pointer (some ⟨b, 0, none⟩)), .slice (some ⟨bb, oo, none⟩) (rest.length + 1 : Nat) c] w fun e w' => ∃ code err n', e = .returned (.tuple #[.int .i64 code, .string ⟨#[]⟩, .string err, .bool true]) ∧ RunM [82, 102, 114] (fun _ => true) true (fun S => cpR (hasB S 114 || hasB S 82)) n nCp rest code err n' ∧ (∃ x0 x1 x2 x3, TreeY b2 w' b n' x0 x1 x2 x3) ∧ w.grownBy w' (some b) := by
 refine Run_is h hG (by omega) nCp (x0 := ⟨([82, 102, 114] : List UInt8).toArray⟩) (x1 := ⟨#[]⟩) (fj := 50) (fi := 51) (P := fun code err n' => RunM [82, 102, 114] (fun _ => true) true (fun S => cpR (hasB S 114 || hasB S 82)) n nCp rest code err n') (fun wx r hr => ?_) (fun wx xv hb hp => ?_) hx hxl
 ·rcases lookup_u wx r 3 nCp hr with ⟨_, q⟩ | ⟨p, hp, e, q⟩
  ·exact absurd rfl (q (nCp, ⟨#[82, 102, 114]⟩, ⟨#[]⟩, 50, 51) (by unfold utils; exact .tail _ (.head _)))
  ·simp only [utils, List.mem_cons, List.not_mem_nil, or_false] at hp
   rcases hp with rfl | rfl | rfl <;> first | exact q | exact absurd e (by decide)
 ·exact run_gen (h.kept hb) (Nat.lt_of_lt_of_le hb2 hb.size) hG hN [82, 102, 114] ⟨#[]⟩ 50 51 (fun _ => true) true (fun S => cpR (hasB S 114 || hasB S 82)) (by decide) (fun S wx => contains_no S wx) (fun wy S up un uc t sev hb2 ht => lookAtGoal_found ((h.kept hb).kept hb2).x hG (by omega) S up un uc _ ⟨#[]⟩ 51 t ht sev)
   (fun U wy H nk x0 x1 x2 x3 hu hg hh S up un uc s hs g pp m cc hp hn => send_cp hu hg hh _ ⟨#[]⟩ 50 S up un uc s hs g hp hn) (fun S g => grow_cp _ g) (hgoal_names hG) nCp (of_decide_eq_true (by kernel_rfl)) hp hxl hxs hxK
theorem Run_cp {w : World} {b G : Nat} {n : Nd} {v0 v1 v2 v3 : Value} (h : TreeX w b n v0 v1 v2 v3) (hG : TreeG G n) {K : Nat} (hN : G + 5710000 * K ≤ 90000000) {bb oo c : Nat} {rest : List ByteArray} (hx : PlR w (.slice (some ⟨bb, oo, none⟩) (rest.length + 1) c) (nCp :: rest)) (hxl : rest.length ≤ 14) (hxs : ∀ x ∈ rest, x.size ≤ 6000) (hxK : rest.length ≤ K) :
  Calls Tryz.prog 10 #[.iface 28 (.pointer (some ⟨b, 0, none⟩)), .slice (some ⟨bb, oo, none⟩) (rest.length + 1 : Nat) c] w fun e w' => ∃ code err n', e = .returned (.tuple #[.int .i64 code, .string ⟨#[]⟩, .string err, .bool true]) ∧ RunM [82, 102, 114] (fun _ => true) true (fun S => cpR (hasB S 114 || hasB S 82)) n nCp rest code err n' ∧ (∃ x0 x1 x2 x3, TreeX w' b n' x0 x1 x2 x3) ∧ w.grownBy w' (some b) :=
 (RunY_cp (b2 := b) (TreeX.y h) h.lt hG hN hx hxl hxs hxK).mono fun e w' ⟨code, err, n', he, hr, ⟨x0, x1, x2, x3, ht⟩, hg⟩ => ⟨code, err, n', he, hr, ⟨_, _, _, _, ht.x⟩, hg⟩

theorem RunY_ln {w : World} {b b2 G : Nat} {n : Nd} {v0 v1 v2 v3 : Value} (h : TreeY b2 w b n v0 v1 v2 v3) (hb2 : b2 < w.heap.size) (hG : TreeG G n) {K : Nat} (hN : G + 5710000 * K ≤ 90000000) {bb oo c : Nat} {rest : List ByteArray} (hx : PlR w (.slice (some ⟨bb, oo, none⟩) (rest.length + 1) c) (nLn :: rest)) (hxl : rest.length ≤ 14) (hxs : ∀ x ∈ rest, x.size ≤ 6000) (hxK : rest.length ≤ K) :
  Calls Tryz.prog 10 #[.iface 28 (.pointer (some ⟨b, 0, none⟩)), .slice (some ⟨bb, oo, none⟩) (rest.length + 1 : Nat) c] w fun e w' => ∃ code err n', e = .returned (.tuple #[.int .i64 code, .string ⟨#[]⟩, .string err, .bool true]) ∧ RunM [102, 115] (fun S => hasB S 115) false (fun S => lnR (hasB S 102)) n nLn rest code err n' ∧ (∃ x0 x1 x2 x3, TreeY b2 w' b n' x0 x1 x2 x3) ∧ w.grownBy w' (some b) := by
 refine Run_is h hG (by omega) nLn (x0 := ⟨([102, 115] : List UInt8).toArray⟩) (x1 := ⟨#[115]⟩) (fj := 48) (fi := 52) (P := fun code err n' => RunM [102, 115] (fun S => hasB S 115) false (fun S => lnR (hasB S 102)) n nLn rest code err n') (fun wx r hr => ?_) (fun wx xv hb hp => ?_) hx hxl
 ·rcases lookup_u wx r 3 nLn hr with ⟨_, q⟩ | ⟨p, hp, e, q⟩
  ·exact absurd rfl (q (nLn, ⟨#[102, 115]⟩, ⟨#[115]⟩, 48, 52) (by unfold utils; exact .tail _ (.tail _ (.head _))))
  ·simp only [utils, List.mem_cons, List.not_mem_nil, or_false] at hp
   rcases hp with rfl | rfl | rfl <;> first | exact q | exact absurd e (by decide)
 ·exact run_gen (h.kept hb) (Nat.lt_of_lt_of_le hb2 hb.size) hG hN [102, 115] ⟨#[115]⟩ 48 52 (fun S => hasB S 115) false (fun S => lnR (hasB S 102)) (by decide) (fun S wx => Tryz.strings_Contains_one S 115 wx) (fun wy S up un uc t sev hb2 ht => lookAtGoal_spot ((h.kept hb).kept hb2).x hG (by omega) S up un uc _ ⟨#[115]⟩ 52 t ht sev)
   (fun U wy H nk x0 x1 x2 x3 hu hg hh S up un uc s hs g pp m cc hp hn => send_ln hu hg hh _ ⟨#[115]⟩ 48 S up un uc s hs g hp hn) (fun S g => grow_ln _ g) (hgoal_names hG) nLn (of_decide_eq_true (by kernel_rfl)) hp hxl hxs hxK
theorem Run_ln {w : World} {b G : Nat} {n : Nd} {v0 v1 v2 v3 : Value} (h : TreeX w b n v0 v1 v2 v3) (hG : TreeG G n) {K : Nat} (hN : G + 5710000 * K ≤ 90000000) {bb oo c : Nat} {rest : List ByteArray} (hx : PlR w (.slice (some ⟨bb, oo, none⟩) (rest.length + 1) c) (nLn :: rest)) (hxl : rest.length ≤ 14) (hxs : ∀ x ∈ rest, x.size ≤ 6000) (hxK : rest.length ≤ K) :
  Calls Tryz.prog 10 #[.iface 28 (.pointer (some ⟨b, 0, none⟩)), .slice (some ⟨bb, oo, none⟩) (rest.length + 1 : Nat) c] w fun e w' => ∃ code err n', e = .returned (.tuple #[.int .i64 code, .string ⟨#[]⟩, .string err, .bool true]) ∧ RunM [102, 115] (fun S => hasB S 115) false (fun S => lnR (hasB S 102)) n nLn rest code err n' ∧ (∃ x0 x1 x2 x3, TreeX w' b n' x0 x1 x2 x3) ∧ w.grownBy w' (some b) :=
 (RunY_ln (b2 := b) (TreeX.y h) h.lt hG hN hx hxl hxs hxK).mono fun e w' ⟨code, err, n', he, hr, ⟨x0, x1, x2, x3, ht⟩, hg⟩ => ⟨code, err, n', he, hr, ⟨_, _, _, _, ht.x⟩, hg⟩
end Go.Proofs.YtfilbknnpjbmcaaGreatDoor
