/- Walks: the statements' own check that package moves answers at all (works), true in any world. -/
import Derived.Test.YtfilbknnpjbmcaaGreatDoorKb46
import Derived.Test.YtfilbknnpjbmcaaGreatDoorKb47
import Derived.Test.YtfilbknnpjbmcaaGreatDoorKb11
namespace Go.Proofs.YtfilbknnpjbmcaaGreatDoor
open Go.RowKit Px Nx Wk Dn Ox Mv
namespace Works13
def WordsAt (w : World) (v : Value) (l : List ByteArray) : Prop := ∃ g, v = .slice (some ⟨g, 0, none⟩) l.length l.length ∧ Bk w g (l.map Value.string) 9
def KidsAt (w : World) (v : Value) (l : List Nd) : Prop := ∃ g zs, v = .slice (some ⟨g, 0, none⟩) l.length l.length ∧ Bk w g zs 25 ∧ All4 (NodeR w) zs l
def NodeAt (w : World) (v : Value) (n : Nd) : Prop := ∃ c0 c1 c2 c3, v = .agg #[c0, c1, c2, c3] ∧ NodeR w [c0, c1, c2, c3] n
theorem WordsAt.kept {w w' : World} {v : Value} {l : List ByteArray} (h : WordsAt w v l) (hb : Below w.heap.size w w') : WordsAt w' v l := by
 obtain ⟨g, e, h⟩ := h
 exact ⟨g, e, h.kept hb⟩
theorem All4.kept {w w' : World} {zs : List Value} {l : List Nd} (h : All4 (NodeR w) zs l) (hb : Below w.heap.size w w') : All4 (NodeR w') zs l := by
 induction h with
 | nil => exact .nil
 | cons a b c d h1 h2 _ ih => exact .cons a b c d h1 (NodeR.grown hb h2) ih
theorem KidsAt.kept {w w' : World} {v : Value} {l : List Nd} (h : KidsAt w v l) (hb : Below w.heap.size w w') : KidsAt w' v l := by
 obtain ⟨g, zs, e, h, h2⟩ := h
 exact ⟨g, zs, e, h.kept hb, All4.kept h2 hb⟩
theorem NodeAt.kept {w w' : World} {v : Value} {n : Nd} (h : NodeAt w v n) (hb : Below w.heap.size w w') : NodeAt w' v n := by
 obtain ⟨a, b, c, d, e, h⟩ := h
 exact ⟨a, b, c, d, e, NodeR.grown hb h⟩
def NodeE (n : Nd) (e : Ending) (w' : World) : Prop := ∃ v, e = .returned v ∧ NodeAt w' v n
theorem leafL (w : World) (s : ByteArray) : NodeR w [.int .u8 3, .string s, .slice none 0 0, .slice none 0 0] (.mk 3 s [] []) := leafK w 3 s
set_option maxRecDepth 100000 in
theorem file_at (w : World) (s : ByteArray) : Calls Tryz.prog 20 #[.string s] w fun e w' => NodeE (fN s) e w' ∧ Below w.heap.size w w' := by
 go_enter Tryz.func20, Tryz.ntmps20
 go_wp2_with fail
 refine bodyPost_ret (v := .agg #[.int .u8 1, .string s, .slice none 0 0, .slice none 0 0]) (by simp [results, Tryz.results20, go_sem]) rfl ?_
 exact ⟨⟨_, rfl, _, _, _, _, rfl, leaf _ _⟩, below_alloc (Below.refl _ _)⟩
set_option maxRecDepth 100000 in
theorem link_at (w : World) (s : ByteArray) : Calls Tryz.prog 21 #[.string s] w fun e w' => NodeE (lN s) e w' ∧ Below w.heap.size w w' := by
 go_enter Tryz.func21, Tryz.ntmps21
 go_wp2_with fail
 refine bodyPost_ret (v := .agg #[.int .u8 3, .string s, .slice none 0 0, .slice none 0 0]) (by simp [results, Tryz.results21, go_sem]) rfl ?_
 exact ⟨⟨_, rfl, _, _, _, _, rfl, leafL _ _⟩, below_alloc (Below.refl _ _)⟩
set_option maxRecDepth 100000 in
theorem dir_at {w : World} {v1 v2 : Value} {l : List ByteArray} {k : List Nd} (h1 : WordsAt w v1 l) (h2 : KidsAt w v2 k) (hl : l.length ≤ maxLen) (hk : k.length ≤ maxLen) : Calls Tryz.prog 19 #[v1, v2] w fun e w' => NodeE (dN l k) e w' ∧ Below w.heap.size w w' := by
 obtain ⟨g, rfl, hg⟩ := h1
 obtain ⟨g2, zs, rfl, hz, ha⟩ := h2
 have HN := Lib.hid (hg.node hz ha hl hk)
 clear hg hz ha hl hk
 go_enter Tryz.func19, Tryz.ntmps19
 go_wp2_with fail
 refine bodyPost_ret (v := .agg #[.int .u8 2, .string ⟨#[]⟩, .slice (some ⟨g, 0, none⟩) l.length l.length, .slice (some ⟨g2, 0, none⟩) k.length k.length]) (by simp [results, Tryz.results19, go_sem]) rfl ?_
 exact ⟨⟨_, rfl, _, _, _, _, rfl, NodeR.grown (below_alloc (Below.refl _ _)) HN.out⟩, below_alloc (Below.refl _ _)⟩
inductive Pk where
 | node (n : Nd)
 | words (l : List ByteArray)
 | kids (l : List Nd)
 | yes
def hold : Pk → World → Value → Prop
 | .node n, w, v => NodeAt w v n
 | .words l, w, v => WordsAt w v l
 | .kids l, w, v => KidsAt w v l
 | .yes, _, v => v = .bool true
theorem hold_kept {k : Pk} {w w' : World} {v : Value} (hb : Below w.heap.size w w') (h : hold k w v) : hold k w' v := by
 cases k with
 | node n => exact NodeAt.kept h hb
 | words l => exact WordsAt.kept h hb
 | kids l => exact KidsAt.kept h hb
 | yes => exact h
def tab4 : List Pk := [.node nN, .words [⟨#[100]⟩], .words [⟨#[97]⟩, ⟨#[101]⟩], .node (fN ⟨#[120]⟩), .node (fN ⟨#[]⟩), .kids [(fN ⟨#[120]⟩), (fN ⟨#[]⟩)], .node (dN [⟨#[97]⟩, ⟨#[101]⟩] [(fN ⟨#[120]⟩), (fN ⟨#[]⟩)]), .kids [(dN [⟨#[97]⟩, ⟨#[101]⟩] [(fN ⟨#[120]⟩), (fN ⟨#[]⟩)])], .node (dN [⟨#[100]⟩] [(dN [⟨#[97]⟩, ⟨#[101]⟩] [(fN ⟨#[120]⟩), (fN ⟨#[]⟩)])]), .words [⟨#[109, 118]⟩, ⟨#[97]⟩, ⟨#[100]⟩], .yes, .yes, .node nN, .node nN, .words [⟨#[109, 118]⟩, ⟨#[97]⟩, ⟨#[98]⟩, ⟨#[99]⟩], .yes, .yes, .yes, .node nN, .node nN, .words [⟨#[109, 118]⟩, ⟨#[100]⟩, ⟨#[100]⟩], .yes, .yes, .yes, .node nN, .node nN, .words [⟨#[99, 112]⟩, ⟨#[100]⟩, ⟨#[113]⟩], .yes, .yes, .yes, .node nN, .words [⟨#[97]⟩, ⟨#[100]⟩, ⟨#[113]⟩], .node (fN ⟨#[120]⟩), .node dD, .node dD, .kids [(fN ⟨#[120]⟩), dD, dD], .node (dN [⟨#[97]⟩, ⟨#[100]⟩, ⟨#[113]⟩] [(fN ⟨#[120]⟩), dD, dD]), .words [⟨#[99, 112]⟩, ⟨#[45, 114]⟩, ⟨#[100]⟩, ⟨#[113]⟩], .yes, .yes, .yes, .words [⟨#[97]⟩], .node (fN ⟨#[120]⟩), .kids [(fN ⟨#[120]⟩)], .node (dN [⟨#[97]⟩] [(fN ⟨#[120]⟩)]), .node bN, .words [⟨#[108, 110]⟩, ⟨#[45, 115]⟩, ⟨#[97]⟩, ⟨#[108]⟩], .yes, .yes, .yes, .node bN, .words [⟨#[97]⟩, ⟨#[108]⟩, ⟨#[109]⟩], .node (fN ⟨#[120]⟩), .node (lN ⟨#[97]⟩), .node (fN ⟨#[120]⟩), .kids [(fN ⟨#[120]⟩), (lN ⟨#[97]⟩), (fN ⟨#[120]⟩)], .node (dN [⟨#[97]⟩, ⟨#[108]⟩, ⟨#[109]⟩] [(fN ⟨#[120]⟩), (lN ⟨#[97]⟩), (fN ⟨#[120]⟩)]), .words [⟨#[99, 112]⟩, ⟨#[108]⟩, ⟨#[109]⟩], .yes, .yes, .yes, .node nN, .node nN, .words [⟨#[108, 110]⟩, ⟨#[97]⟩, ⟨#[98]⟩], .yes, .yes, .yes, .node nN, .node nN, .words [⟨#[109, 118]⟩, ⟨#[97]⟩], .yes, .yes, .yes]
theorem call1 {w : World} {va vb vw : Value} (ha : hold (.node nN) w va) (hb : hold (.node (dN [⟨#[100]⟩] [(dN [⟨#[97]⟩, ⟨#[101]⟩] [(fN ⟨#[120]⟩), (fN ⟨#[]⟩)])])) w vb) (hw : hold (.words [⟨#[109, 118]⟩, ⟨#[97]⟩, ⟨#[100]⟩]) w vw) :
  Calls Tryz.prog 22 #[va, .int .i64 0, .string ⟨#[]⟩, vb, vw] w fun e w' => e = .returned (.bool true) ∧ Below w.heap.size w w' := by
 obtain ⟨a0, a1, a2, a3, rfl, ha⟩ := ha
 obtain ⟨b0, b1, b2, b3, rfl, hb⟩ := hb
 obtain ⟨g, rfl, hw⟩ := hw
 have hG : TreeG 1000000 nN := ⟨by kernel_rfl, by kernel_rfl, of_decide_eq_true (by kernel_rfl)⟩
 exact runs_ok (m := (dN [⟨#[100]⟩] [(dN [⟨#[97]⟩, ⟨#[101]⟩] [(fN ⟨#[120]⟩), (fN ⟨#[]⟩)])])) ha hb (by kernel_rfl) hG.girth (by kernel_rfl) (of_decide_eq_true (by kernel_rfl)) 0 ⟨#[]⟩ (xs := [⟨#[109, 118]⟩, ⟨#[97]⟩, ⟨#[100]⟩]) (hw.pl (of_decide_eq_true (by kernel_rfl)))
  (fun wx b y0 y1 y2 y3 ht hp => Run_mv ht hG (K := 14) (of_decide_eq_true (by kernel_rfl)) (rest := [⟨#[97]⟩, ⟨#[100]⟩]) hp (of_decide_eq_true (by kernel_rfl)) (of_decide_eq_true (by kernel_rfl)) (of_decide_eq_true (by kernel_rfl)))
  (fun c1 e1 n1 hr => run_is (fun _ g => mv_is g) w1 hr)
theorem call2 {w : World} {va vb vw : Value} (ha : hold (.node nN) w va) (hb : hold (.node nN) w vb) (hw : hold (.words [⟨#[109, 118]⟩, ⟨#[97]⟩, ⟨#[98]⟩, ⟨#[99]⟩]) w vw) :
  Calls Tryz.prog 22 #[va, .int .i64 1, .string ⟨#[109, 118, 58, 32, 99, 58, 32, 110, 111, 116, 32, 116, 104, 101, 114, 101, 10]⟩, vb, vw] w fun e w' => e = .returned (.bool true) ∧ Below w.heap.size w w' := by
 obtain ⟨a0, a1, a2, a3, rfl, ha⟩ := ha
 obtain ⟨b0, b1, b2, b3, rfl, hb⟩ := hb
 obtain ⟨g, rfl, hw⟩ := hw
 have hG : TreeG 1000000 nN := ⟨by kernel_rfl, by kernel_rfl, of_decide_eq_true (by kernel_rfl)⟩
 exact runs_ok (m := nN) ha hb (by kernel_rfl) hG.girth (by kernel_rfl) (of_decide_eq_true (by kernel_rfl)) 1 ⟨#[109, 118, 58, 32, 99, 58, 32, 110, 111, 116, 32, 116, 104, 101, 114, 101, 10]⟩ (xs := [⟨#[109, 118]⟩, ⟨#[97]⟩, ⟨#[98]⟩, ⟨#[99]⟩]) (hw.pl (of_decide_eq_true (by kernel_rfl)))
  (fun wx b y0 y1 y2 y3 ht hp => Run_mv ht hG (K := 14) (of_decide_eq_true (by kernel_rfl)) (rest := [⟨#[97]⟩, ⟨#[98]⟩, ⟨#[99]⟩]) hp (of_decide_eq_true (by kernel_rfl)) (of_decide_eq_true (by kernel_rfl)) (of_decide_eq_true (by kernel_rfl)))
  (fun c1 e1 n1 hr => run_is (fun _ g => mv_is g) w2 hr)
theorem call3 {w : World} {va vb vw : Value} (ha : hold (.node nN) w va) (hb : hold (.node nN) w vb) (hw : hold (.words [⟨#[109, 118]⟩, ⟨#[100]⟩, ⟨#[100]⟩]) w vw) :
  Calls Tryz.prog 22 #[va, .int .i64 1, .string ⟨#[109, 118, 58, 32, 100, 58, 32, 105, 110, 116, 111, 32, 105, 116, 115, 101, 108, 102, 10]⟩, vb, vw] w fun e w' => e = .returned (.bool true) ∧ Below w.heap.size w w' := by
 obtain ⟨a0, a1, a2, a3, rfl, ha⟩ := ha
 obtain ⟨b0, b1, b2, b3, rfl, hb⟩ := hb
 obtain ⟨g, rfl, hw⟩ := hw
 have hG : TreeG 1000000 nN := ⟨by kernel_rfl, by kernel_rfl, of_decide_eq_true (by kernel_rfl)⟩
 exact runs_ok (m := nN) ha hb (by kernel_rfl) hG.girth (by kernel_rfl) (of_decide_eq_true (by kernel_rfl)) 1 ⟨#[109, 118, 58, 32, 100, 58, 32, 105, 110, 116, 111, 32, 105, 116, 115, 101, 108, 102, 10]⟩ (xs := [⟨#[109, 118]⟩, ⟨#[100]⟩, ⟨#[100]⟩]) (hw.pl (of_decide_eq_true (by kernel_rfl)))
  (fun wx b y0 y1 y2 y3 ht hp => Run_mv ht hG (K := 14) (of_decide_eq_true (by kernel_rfl)) (rest := [⟨#[100]⟩, ⟨#[100]⟩]) hp (of_decide_eq_true (by kernel_rfl)) (of_decide_eq_true (by kernel_rfl)) (of_decide_eq_true (by kernel_rfl)))
  (fun c1 e1 n1 hr => run_is (fun _ g => mv_is g) w3 hr)
theorem call4 {w : World} {va vb vw : Value} (ha : hold (.node nN) w va) (hb : hold (.node nN) w vb) (hw : hold (.words [⟨#[99, 112]⟩, ⟨#[100]⟩, ⟨#[113]⟩]) w vw) :
  Calls Tryz.prog 22 #[va, .int .i64 1, .string ⟨#[99, 112, 58, 32, 100, 58, 32, 119, 114, 111, 110, 103, 32, 107, 105, 110, 100, 10]⟩, vb, vw] w fun e w' => e = .returned (.bool true) ∧ Below w.heap.size w w' := by
 obtain ⟨a0, a1, a2, a3, rfl, ha⟩ := ha
 obtain ⟨b0, b1, b2, b3, rfl, hb⟩ := hb
 obtain ⟨g, rfl, hw⟩ := hw
 have hG : TreeG 1000000 nN := ⟨by kernel_rfl, by kernel_rfl, of_decide_eq_true (by kernel_rfl)⟩
 exact runs_ok (m := nN) ha hb (by kernel_rfl) hG.girth (by kernel_rfl) (of_decide_eq_true (by kernel_rfl)) 1 ⟨#[99, 112, 58, 32, 100, 58, 32, 119, 114, 111, 110, 103, 32, 107, 105, 110, 100, 10]⟩ (xs := [⟨#[99, 112]⟩, ⟨#[100]⟩, ⟨#[113]⟩]) (hw.pl (of_decide_eq_true (by kernel_rfl)))
  (fun wx b y0 y1 y2 y3 ht hp => Run_cp ht hG (K := 14) (of_decide_eq_true (by kernel_rfl)) (rest := [⟨#[100]⟩, ⟨#[113]⟩]) hp (of_decide_eq_true (by kernel_rfl)) (of_decide_eq_true (by kernel_rfl)) (of_decide_eq_true (by kernel_rfl)))
  (fun c1 e1 n1 hr => run_is (fun _ g => cp_is _ g) w4 hr)
theorem call5 {w : World} {va vb vw : Value} (ha : hold (.node nN) w va) (hb : hold (.node (dN [⟨#[97]⟩, ⟨#[100]⟩, ⟨#[113]⟩] [(fN ⟨#[120]⟩), dD, dD])) w vb) (hw : hold (.words [⟨#[99, 112]⟩, ⟨#[45, 114]⟩, ⟨#[100]⟩, ⟨#[113]⟩]) w vw) :
  Calls Tryz.prog 22 #[va, .int .i64 0, .string ⟨#[]⟩, vb, vw] w fun e w' => e = .returned (.bool true) ∧ Below w.heap.size w w' := by
 obtain ⟨a0, a1, a2, a3, rfl, ha⟩ := ha
 obtain ⟨b0, b1, b2, b3, rfl, hb⟩ := hb
 obtain ⟨g, rfl, hw⟩ := hw
 have hG : TreeG 1000000 nN := ⟨by kernel_rfl, by kernel_rfl, of_decide_eq_true (by kernel_rfl)⟩
 exact runs_ok (m := (dN [⟨#[97]⟩, ⟨#[100]⟩, ⟨#[113]⟩] [(fN ⟨#[120]⟩), dD, dD])) ha hb (by kernel_rfl) hG.girth (by kernel_rfl) (of_decide_eq_true (by kernel_rfl)) 0 ⟨#[]⟩ (xs := [⟨#[99, 112]⟩, ⟨#[45, 114]⟩, ⟨#[100]⟩, ⟨#[113]⟩]) (hw.pl (of_decide_eq_true (by kernel_rfl)))
  (fun wx b y0 y1 y2 y3 ht hp => Run_cp ht hG (K := 14) (of_decide_eq_true (by kernel_rfl)) (rest := [⟨#[45, 114]⟩, ⟨#[100]⟩, ⟨#[113]⟩]) hp (of_decide_eq_true (by kernel_rfl)) (of_decide_eq_true (by kernel_rfl)) (of_decide_eq_true (by kernel_rfl)))
  (fun c1 e1 n1 hr => run_is (fun _ g => cp_is _ g) w5 hr)
theorem call6 {w : World} {va vb vw : Value} (ha : hold (.node (dN [⟨#[97]⟩] [(fN ⟨#[120]⟩)])) w va) (hb : hold (.node bN) w vb) (hw : hold (.words [⟨#[108, 110]⟩, ⟨#[45, 115]⟩, ⟨#[97]⟩, ⟨#[108]⟩]) w vw) :
  Calls Tryz.prog 22 #[va, .int .i64 0, .string ⟨#[]⟩, vb, vw] w fun e w' => e = .returned (.bool true) ∧ Below w.heap.size w w' := by
 obtain ⟨a0, a1, a2, a3, rfl, ha⟩ := ha
 obtain ⟨b0, b1, b2, b3, rfl, hb⟩ := hb
 obtain ⟨g, rfl, hw⟩ := hw
 have hG : TreeG 1000000 (dN [⟨#[97]⟩] [(fN ⟨#[120]⟩)]) := ⟨by kernel_rfl, by kernel_rfl, of_decide_eq_true (by kernel_rfl)⟩
 exact runs_ok (m := bN) ha hb (by kernel_rfl) hG.girth (by kernel_rfl) (of_decide_eq_true (by kernel_rfl)) 0 ⟨#[]⟩ (xs := [⟨#[108, 110]⟩, ⟨#[45, 115]⟩, ⟨#[97]⟩, ⟨#[108]⟩]) (hw.pl (of_decide_eq_true (by kernel_rfl)))
  (fun wx b y0 y1 y2 y3 ht hp => Run_ln ht hG (K := 14) (of_decide_eq_true (by kernel_rfl)) (rest := [⟨#[45, 115]⟩, ⟨#[97]⟩, ⟨#[108]⟩]) hp (of_decide_eq_true (by kernel_rfl)) (of_decide_eq_true (by kernel_rfl)) (of_decide_eq_true (by kernel_rfl)))
  (fun c1 e1 n1 hr => run_is (fun _ g => ln_is _ g) w6 hr)
theorem call7 {w : World} {va vb vw : Value} (ha : hold (.node bN) w va) (hb : hold (.node (dN [⟨#[97]⟩, ⟨#[108]⟩, ⟨#[109]⟩] [(fN ⟨#[120]⟩), (lN ⟨#[97]⟩), (fN ⟨#[120]⟩)])) w vb) (hw : hold (.words [⟨#[99, 112]⟩, ⟨#[108]⟩, ⟨#[109]⟩]) w vw) :
  Calls Tryz.prog 22 #[va, .int .i64 0, .string ⟨#[]⟩, vb, vw] w fun e w' => e = .returned (.bool true) ∧ Below w.heap.size w w' := by
 obtain ⟨a0, a1, a2, a3, rfl, ha⟩ := ha
 obtain ⟨b0, b1, b2, b3, rfl, hb⟩ := hb
 obtain ⟨g, rfl, hw⟩ := hw
 have hG : TreeG 1000000 bN := ⟨by kernel_rfl, by kernel_rfl, of_decide_eq_true (by kernel_rfl)⟩
 exact runs_ok (m := (dN [⟨#[97]⟩, ⟨#[108]⟩, ⟨#[109]⟩] [(fN ⟨#[120]⟩), (lN ⟨#[97]⟩), (fN ⟨#[120]⟩)])) ha hb (by kernel_rfl) hG.girth (by kernel_rfl) (of_decide_eq_true (by kernel_rfl)) 0 ⟨#[]⟩ (xs := [⟨#[99, 112]⟩, ⟨#[108]⟩, ⟨#[109]⟩]) (hw.pl (of_decide_eq_true (by kernel_rfl)))
  (fun wx b y0 y1 y2 y3 ht hp => Run_cp ht hG (K := 14) (of_decide_eq_true (by kernel_rfl)) (rest := [⟨#[108]⟩, ⟨#[109]⟩]) hp (of_decide_eq_true (by kernel_rfl)) (of_decide_eq_true (by kernel_rfl)) (of_decide_eq_true (by kernel_rfl)))
  (fun c1 e1 n1 hr => run_is (fun _ g => cp_is _ g) w7 hr)
theorem call8 {w : World} {va vb vw : Value} (ha : hold (.node nN) w va) (hb : hold (.node nN) w vb) (hw : hold (.words [⟨#[108, 110]⟩, ⟨#[97]⟩, ⟨#[98]⟩]) w vw) :
  Calls Tryz.prog 22 #[va, .int .i64 2, .string ⟨#[108, 110, 58, 32, 117, 115, 97, 103, 101, 10]⟩, vb, vw] w fun e w' => e = .returned (.bool true) ∧ Below w.heap.size w w' := by
 obtain ⟨a0, a1, a2, a3, rfl, ha⟩ := ha
 obtain ⟨b0, b1, b2, b3, rfl, hb⟩ := hb
 obtain ⟨g, rfl, hw⟩ := hw
 have hG : TreeG 1000000 nN := ⟨by kernel_rfl, by kernel_rfl, of_decide_eq_true (by kernel_rfl)⟩
 exact runs_ok (m := nN) ha hb (by kernel_rfl) hG.girth (by kernel_rfl) (of_decide_eq_true (by kernel_rfl)) 2 ⟨#[108, 110, 58, 32, 117, 115, 97, 103, 101, 10]⟩ (xs := [⟨#[108, 110]⟩, ⟨#[97]⟩, ⟨#[98]⟩]) (hw.pl (of_decide_eq_true (by kernel_rfl)))
  (fun wx b y0 y1 y2 y3 ht hp => Run_ln ht hG (K := 14) (of_decide_eq_true (by kernel_rfl)) (rest := [⟨#[97]⟩, ⟨#[98]⟩]) hp (of_decide_eq_true (by kernel_rfl)) (of_decide_eq_true (by kernel_rfl)) (of_decide_eq_true (by kernel_rfl)))
  (fun c1 e1 n1 hr => run_is (fun _ g => ln_is _ g) w8 hr)
theorem call9 {w : World} {va vb vw : Value} (ha : hold (.node nN) w va) (hb : hold (.node nN) w vb) (hw : hold (.words [⟨#[109, 118]⟩, ⟨#[97]⟩]) w vw) :
  Calls Tryz.prog 22 #[va, .int .i64 2, .string ⟨#[109, 118, 58, 32, 117, 115, 97, 103, 101, 10]⟩, vb, vw] w fun e w' => e = .returned (.bool true) ∧ Below w.heap.size w w' := by
 obtain ⟨a0, a1, a2, a3, rfl, ha⟩ := ha
 obtain ⟨b0, b1, b2, b3, rfl, hb⟩ := hb
 obtain ⟨g, rfl, hw⟩ := hw
 have hG : TreeG 1000000 nN := ⟨by kernel_rfl, by kernel_rfl, of_decide_eq_true (by kernel_rfl)⟩
 exact runs_ok (m := nN) ha hb (by kernel_rfl) hG.girth (by kernel_rfl) (of_decide_eq_true (by kernel_rfl)) 2 ⟨#[109, 118, 58, 32, 117, 115, 97, 103, 101, 10]⟩ (xs := [⟨#[109, 118]⟩, ⟨#[97]⟩]) (hw.pl (of_decide_eq_true (by kernel_rfl)))
  (fun wx b y0 y1 y2 y3 ht hp => Run_mv ht hG (K := 14) (of_decide_eq_true (by kernel_rfl)) (rest := [⟨#[97]⟩]) hp (of_decide_eq_true (by kernel_rfl)) (of_decide_eq_true (by kernel_rfl)) (of_decide_eq_true (by kernel_rfl)))
  (fun c1 e1 n1 hr => run_is (fun _ g => mv_is g) w9 hr)
end Works13
end Go.Proofs.YtfilbknnpjbmcaaGreatDoor
