/- The statements' own check that package walk answers at all: true in any world. -/
import Derived.Test.YtlnnnlpofocgpabWkE
namespace Go.Proofs.Ytlnnnlpofocgpab
open Go.RowKit Px Nx Wk
namespace Works9
/-- A block of cells. -/
def Bk (w : World) (g : Nat) (vs : List Value) (t : TypeId) : Prop := w.heap[g]? = some (.cells vs.toArray t (0, 0))
theorem Bk.lt {w : World} {g : Nat} {vs : List Value} {t : TypeId} (h : Bk w g vs t) : g < w.heap.size := by
  rcases Nat.lt_or_ge g w.heap.size with hlt | hge
  · exact hlt
  · unfold Bk at h; rw [Array.getElem?_eq_none hge] at h; cases h
theorem Bk.kept {w w' : World} {g : Nat} {vs : List Value} {t : TypeId} (h : Bk w g vs t) (hb : Below w.heap.size w w') : Bk w' g vs t := by
  have := h.lt
  unfold Bk at *
  rw [hb.block _ this]; exact h
theorem Bk.new (w : World) (vs : List Value) (t : TypeId) : Bk (w.alloc (.cells vs.toArray t)) w.heap.size vs t := heap_alloc_new w _
theorem Bk.at {w : World} {g : Nat} {vs : List Value} {t : TypeId} (h : Bk w g vs t) {j : Nat} {v : Value} (hj : vs[j]? = some v) : w.cell? ⟨g, j, none⟩ = some v := by
  rw [cell_of_row _ _ _ _ _ _ h]
  simpa using hj
theorem Bk.strs {w : World} {g : Nat} {l : List ByteArray} {t : TypeId} (h : Bk w g (l.map Value.string) t) : Strs w (some ⟨g, 0, none⟩) l := by
  intro i hi
  refine ⟨g, 0, rfl, ?_⟩
  rw [Nat.zero_add]
  refine h.at ?_
  rw [List.getElem?_map, List.getElem?_eq_getElem hi, List.getD_eq_getElem?_getD, List.getElem?_eq_getElem hi]
  rfl
theorem Bk.pl {w : World} {g : Nat} {l : List ByteArray} {t : TypeId} (h : Bk w g (l.map Value.string) t) (hl : l.length ≤ maxLen) : PlR w (.slice (some ⟨g, 0, none⟩) l.length l.length) l := ⟨_, _, rfl, h.strs, Nat.le_refl _, hl⟩
theorem Bk.node {w : World} {g h : Nat} {l : List ByteArray} {zs : List Value} {kids : List Nd} {t t' : TypeId} (hn : Bk w g (l.map Value.string) t) (hk : Bk w h zs t') (hz : All4 (NodeR w) zs kids) (hl : l.length ≤ maxLen) (hm : kids.length ≤ maxLen) :
    NodeR w [.int .u8 2, .string ByteArray.empty, .slice (some ⟨g, 0, none⟩) l.length l.length, .slice (some ⟨h, 0, none⟩) kids.length kids.length] (.mk 2 ByteArray.empty l kids) := by
  refine .mk 2 ByteArray.empty l kids _ _ l.length kids.length (fun i => (zs.drop (i * 4)).take 4) (Nat.le_refl _) hl hn.strs (Nat.le_refl _) hm ?_ (fun i x hx => (hz.at i x hx).1)
  intro i hi
  refine ⟨h, 0, rfl, (hz.at i _ (List.getElem?_eq_getElem hi)).2, fun j u hj => ?_⟩
  have hj4 : j < 4 := by
    have := (List.getElem?_eq_some_iff.1 hj).1
    rw [List.length_take] at this
    omega
  have hj' : ((zs.drop (i * 4)).take 4)[j]? = some u := hj
  rw [List.getElem?_take_of_lt hj4, List.getElem?_drop] at hj'
  rw [Nat.zero_add]
  exact hk.at hj'
theorem Bk.by {w w' : World} {g m : Nat} {vs : List Value} {t : TypeId} (h : Bk w g vs t) (hg : w.grownBy w' (some m)) (hne : g ≠ m) : Bk w' g vs t := by
  have := h.lt
  unfold Bk at *
  rw [hg.block _ this (by simpa using hne)]; exact h
theorem leaf (w : World) (s : ByteArray) : NodeR w [.int .u8 1, .string s, .slice none 0 0, .slice none 0 0] (.mk 1 s [] []) :=
  .mk 1 s [] [] none none 0 0 (fun _ => []) (Nat.le_refl _) (Nat.zero_le _) (fun i hi => absurd hi (Nat.not_lt_zero _)) (Nat.le_refl _) (Nat.zero_le _) (fun i hi => absurd hi (Nat.not_lt_zero _)) (fun i x hx => by simp at hx)
theorem Bk.newE {w : World} {g : Nat} {vs : List Value} {t : TypeId} (hg : g = w.heap.size) : Bk (w.alloc (.cells vs.toArray t)) g vs t := hg ▸ Bk.new w vs t
theorem leaf3 (w : World) (s : ByteArray) : NodeR w [.int .u8 3, .string s, .slice none 0 0, .slice none 0 0] (.mk 3 s [] []) :=
  .mk 3 s [] [] none none 0 0 (fun _ => []) (Nat.le_refl _) (Nat.zero_le _) (fun i hi => absurd hi (Nat.not_lt_zero _)) (Nat.le_refl _) (Nat.zero_le _) (fun i hi => absurd hi (Nat.not_lt_zero _)) (fun i x hx => by simp at hx)
theorem file9 (w : World) : Calls Try.prog 16 #[] w fun e w' => e = .returned (.agg #[.int .u8 1, .string ⟨#[]⟩, .slice none 0 0, .slice none 0 0]) ∧ Below w.heap.size w w' := by
  go_enter Try.func16, Try.ntmps16
  go_wp2_with fail
  refine bodyPost_ret (v := .agg #[.int .u8 1, .string ⟨#[]⟩, .slice none 0 0, .slice none 0 0]) (by simp [results, Try.results16, go_sem]) rfl ?_
  exact ⟨rfl, (Below.refl _ _).alloc (Nat.le_refl _) _⟩
theorem link9 (s : ByteArray) (w : World) : Calls Try.prog 17 #[.string s] w fun e w' => e = .returned (.agg #[.int .u8 3, .string s, .slice none 0 0, .slice none 0 0]) ∧ Below w.heap.size w w' := by
  go_enter Try.func17, Try.ntmps17
  go_wp2_with fail
  refine bodyPost_ret (v := .agg #[.int .u8 3, .string s, .slice none 0 0, .slice none 0 0]) (by simp [results, Try.results17, go_sem]) rfl ?_
  exact ⟨rfl, (Below.refl _ _).alloc (Nat.le_refl _) _⟩
theorem dir9 (p : Option Addr) (n c : Nat) (q : Option Addr) (m d : Nat) (w : World) : Calls Try.prog 15 #[.slice p n c, .slice q m d] w fun e w' => e = .returned (.agg #[.int .u8 2, .string ⟨#[]⟩, .slice p n c, .slice q m d]) ∧ Below w.heap.size w w' := by
  go_enter Try.func15, Try.ntmps15
  go_wp2_with fail
  refine bodyPost_ret (v := .agg #[.int .u8 2, .string ⟨#[]⟩, .slice p n c, .slice q m d]) (by simp [results, Try.results15, go_sem]) rfl ?_
  exact ⟨rfl, (Below.refl _ _).alloc (Nat.le_refl _) _⟩

def tD : ByteArray := ⟨#[100]⟩
def tL : ByteArray := ⟨#[108]⟩
def tM : ByteArray := ⟨#[109]⟩
def tN : ByteArray := ⟨#[110]⟩
def tO : ByteArray := ⟨#[111]⟩
def tF : ByteArray := ⟨#[102]⟩
def tX : ByteArray := ⟨#[120]⟩
def tLF : ByteArray := ⟨#[47, 108, 47, 102]⟩
def tDX : ByteArray := ⟨#[100, 47, 120]⟩
def root : Nd := .mk 2 ByteArray.empty [tD, tL, tM, tN, tO] [.mk 2 ByteArray.empty [tF] [.mk 1 ByteArray.empty [] []], .mk 3 tD [] [], .mk 3 tLF [] [], .mk 3 tDX [] [], .mk 3 tO [] []]
theorem root_may : root.may = true := by kernel_rfl
theorem root_well : root.well = true := by kernel_rfl
theorem root_small : root.girth ≤ 2000000 := of_decide_eq_true (by kernel_rfl)
theorem g1 : goF root true 200 [] (stepsB (⟨#[108, 47, 102]⟩ : ByteArray)) 0 (dirB (⟨#[108, 47, 102]⟩ : ByteArray)) = some (.ok [tD, tF] 1) := by kernel_rfl
theorem g2 : goF root false 200 [] (stepsB (⟨#[108]⟩ : ByteArray)) 0 (dirB (⟨#[108]⟩ : ByteArray)) = some (.ok [tL] 3) := by kernel_rfl
theorem g3 : goF root false 200 [] (stepsB (⟨#[108, 47]⟩ : ByteArray)) 0 (dirB (⟨#[108, 47]⟩ : ByteArray)) = some (.ok [tD] 2) := by kernel_rfl
theorem g4 : goF root true 200 [] (stepsB (⟨#[108]⟩ : ByteArray)) 0 (dirB (⟨#[108]⟩ : ByteArray)) = some (.ok [tD] 2) := by kernel_rfl
theorem g5 : goF root true 200 [] (stepsB (⟨#[109]⟩ : ByteArray)) 0 (dirB (⟨#[109]⟩ : ByteArray)) = some (.ok [tD, tF] 1) := by kernel_rfl
theorem g6 : goF root true 200 [] (stepsB (⟨#[109, 47]⟩ : ByteArray)) 0 (dirB (⟨#[109, 47]⟩ : ByteArray)) = some (.err 55) := by kernel_rfl
theorem g7 : goF root false 200 [] (stepsB (⟨#[109, 47]⟩ : ByteArray)) 0 (dirB (⟨#[109, 47]⟩ : ByteArray)) = some (.err 55) := by kernel_rfl
theorem g8 : goF root true 200 [] (stepsB (⟨#[111]⟩ : ByteArray)) 0 (dirB (⟨#[111]⟩ : ByteArray)) = some (.err 61) := by kernel_rfl
theorem g9 : goF root false 200 [] (stepsB (⟨#[111]⟩ : ByteArray)) 0 (dirB (⟨#[111]⟩ : ByteArray)) = some (.ok [tO] 3) := by kernel_rfl
theorem g10 : goF root true 200 [] (stepsB (⟨#[110]⟩ : ByteArray)) 0 (dirB (⟨#[110]⟩ : ByteArray)) = some (.ok [tD, tX] 0) := by kernel_rfl
theorem g11 : goF root true 200 [] (stepsB (⟨#[110, 47, 121]⟩ : ByteArray)) 0 (dirB (⟨#[110, 47, 121]⟩ : ByteArray)) = some (.err 5) := by kernel_rfl
theorem g12 : goF root false 200 [] (stepsB (⟨#[110, 47, 121]⟩ : ByteArray)) 0 (dirB (⟨#[110, 47, 121]⟩ : ByteArray)) = some (.err 5) := by kernel_rfl
theorem g13 : goF root true 200 [] (stepsB (⟨#[100, 47, 46, 46]⟩ : ByteArray)) 0 (dirB (⟨#[100, 47, 46, 46]⟩ : ByteArray)) = some (.ok [] 2) := by kernel_rfl
theorem g14 : goF root true 200 [] (stepsB (⟨#[100, 47, 102, 47, 46, 46]⟩ : ByteArray)) 0 (dirB (⟨#[100, 47, 102, 47, 46, 46]⟩ : ByteArray)) = some (.err 55) := by kernel_rfl
theorem g15 : goF root false 200 [] (stepsB (⟨#[100, 47, 102, 47, 46, 46]⟩ : ByteArray)) 0 (dirB (⟨#[100, 47, 102, 47, 46, 46]⟩ : ByteArray)) = some (.err 55) := by kernel_rfl

set_option maxRecDepth 100000 in
set_option maxHeartbeats 8000000 in
theorem works_any (W : World) : Calls Try.prog 4 #[] W fun e w' => e = .returned (.bool true) ∧ Below W.heap.size W w' := by
  go_enter Try.func4, Try.ntmps4
  go_wp2_with fail
  have HBW : Hid (Below W.heap.size W W) := Lib.hid (Below.refl _ _)
  have HBW2 : Hid (Below W.heap.size W ((W.alloc (.cells #[.string ⟨#[100]⟩, .string ⟨#[108]⟩, .string ⟨#[109]⟩, .string ⟨#[110]⟩, .string ⟨#[111]⟩] 9)).alloc (.cells #[.string ⟨#[102]⟩] 9))) := Lib.hid (wbelow_alloc (wbelow_alloc (Below.refl _ _)))
  have B1 : Hid (Bk ((W.alloc (.cells #[.string ⟨#[100]⟩, .string ⟨#[108]⟩, .string ⟨#[109]⟩, .string ⟨#[110]⟩, .string ⟨#[111]⟩] 9)).alloc (.cells #[.string ⟨#[102]⟩] 9)) W.heap.size [.string ⟨#[100]⟩, .string ⟨#[108]⟩, .string ⟨#[109]⟩, .string ⟨#[110]⟩, .string ⟨#[111]⟩] 9) := Lib.hid ((Bk.new W [.string ⟨#[100]⟩, .string ⟨#[108]⟩, .string ⟨#[109]⟩, .string ⟨#[110]⟩, .string ⟨#[111]⟩] 9).kept (wbelow_alloc (Below.refl _ _)))
  have B2 : Hid (Bk ((W.alloc (.cells #[.string ⟨#[100]⟩, .string ⟨#[108]⟩, .string ⟨#[109]⟩, .string ⟨#[110]⟩, .string ⟨#[111]⟩] 9)).alloc (.cells #[.string ⟨#[102]⟩] 9)) (W.heap.size + 1) [.string ⟨#[102]⟩] 9) := Lib.hid (Bk.newE (by simp))
  clear HBW
  have HBW := HBW2
  clear HBW2
  generalize ((W.alloc (.cells #[.string ⟨#[100]⟩, .string ⟨#[108]⟩, .string ⟨#[109]⟩, .string ⟨#[110]⟩, .string ⟨#[111]⟩] 9)).alloc (.cells #[.string ⟨#[102]⟩] 9)) = w1 at *
  refine (file9 w1).mono ?_
  rintro e w2 ⟨rfl, hb⟩
  have HBW' := Lib.hid (HBW.out.trans ((hb).mono HBW.out.size))
  have B1' := Lib.hid (B1.out.kept hb)
  have B2' := Lib.hid (B2.out.kept hb)
  clear HBW B1 B2
  have HBW := HBW'
  clear HBW'
  have B1 := B1'
  clear B1'
  have B2 := B2'
  clear B2'
  clear hb
  go_wp2_with fail
  have hal : Below w2.heap.size w2 (w2.alloc (.cells #[.int .u8 1, .string ⟨#[]⟩, .slice none 0 0, .slice none 0 0] 25)) := (Below.refl _ _).alloc (Nat.le_refl _) _
  have HBW' := Lib.hid (HBW.out.trans ((hal).mono HBW.out.size))
  have B1' := Lib.hid (B1.out.kept hal)
  have B2' := Lib.hid (B2.out.kept hal)
  clear HBW B1 B2
  have HBW := HBW'
  clear HBW'
  have B1 := B1'
  clear B1'
  have B2 := B2'
  clear B2'
  have B3 : Hid (Bk (w2.alloc (.cells #[.int .u8 1, .string ⟨#[]⟩, .slice none 0 0, .slice none 0 0] 25)) w2.heap.size [.int .u8 1, .string ⟨#[]⟩, .slice none 0 0, .slice none 0 0] 25) := Lib.hid (Bk.new w2 [.int .u8 1, .string ⟨#[]⟩, .slice none 0 0, .slice none 0 0] 25)
  clear hal
  generalize (w2.alloc (.cells #[.int .u8 1, .string ⟨#[]⟩, .slice none 0 0, .slice none 0 0] 25)) = w3 at *
  generalize w2.heap.size = gB3 at *
  refine (dir9 _ _ _ _ _ _ w3).mono ?_
  rintro e w4 ⟨rfl, hb⟩
  have HBW' := Lib.hid (HBW.out.trans ((hb).mono HBW.out.size))
  have B1' := Lib.hid (B1.out.kept hb)
  have B2' := Lib.hid (B2.out.kept hb)
  have B3' := Lib.hid (B3.out.kept hb)
  clear HBW B1 B2 B3
  have HBW := HBW'
  clear HBW'
  have B1 := B1'
  clear B1'
  have B2 := B2'
  clear B2'
  have B3 := B3'
  clear B3'
  clear hb
  go_wp2_with fail
  refine (link9 _ w4).mono ?_
  rintro e w5 ⟨rfl, hb⟩
  have HBW' := Lib.hid (HBW.out.trans ((hb).mono HBW.out.size))
  have B1' := Lib.hid (B1.out.kept hb)
  have B2' := Lib.hid (B2.out.kept hb)
  have B3' := Lib.hid (B3.out.kept hb)
  clear HBW B1 B2 B3
  have HBW := HBW'
  clear HBW'
  have B1 := B1'
  clear B1'
  have B2 := B2'
  clear B2'
  have B3 := B3'
  clear B3'
  clear hb
  go_wp2_with fail
  refine (link9 _ w5).mono ?_
  rintro e w6 ⟨rfl, hb⟩
  have HBW' := Lib.hid (HBW.out.trans ((hb).mono HBW.out.size))
  have B1' := Lib.hid (B1.out.kept hb)
  have B2' := Lib.hid (B2.out.kept hb)
  have B3' := Lib.hid (B3.out.kept hb)
  clear HBW B1 B2 B3
  have HBW := HBW'
  clear HBW'
  have B1 := B1'
  clear B1'
  have B2 := B2'
  clear B2'
  have B3 := B3'
  clear B3'
  clear hb
  go_wp2_with fail
  refine (link9 _ w6).mono ?_
  rintro e w7 ⟨rfl, hb⟩
  have HBW' := Lib.hid (HBW.out.trans ((hb).mono HBW.out.size))
  have B1' := Lib.hid (B1.out.kept hb)
  have B2' := Lib.hid (B2.out.kept hb)
  have B3' := Lib.hid (B3.out.kept hb)
  clear HBW B1 B2 B3
  have HBW := HBW'
  clear HBW'
  have B1 := B1'
  clear B1'
  have B2 := B2'
  clear B2'
  have B3 := B3'
  clear B3'
  clear hb
  go_wp2_with fail
  refine (link9 _ w7).mono ?_
  rintro e w8 ⟨rfl, hb⟩
  have HBW' := Lib.hid (HBW.out.trans ((hb).mono HBW.out.size))
  have B1' := Lib.hid (B1.out.kept hb)
  have B2' := Lib.hid (B2.out.kept hb)
  have B3' := Lib.hid (B3.out.kept hb)
  clear HBW B1 B2 B3
  have HBW := HBW'
  clear HBW'
  have B1 := B1'
  clear B1'
  have B2 := B2'
  clear B2'
  have B3 := B3'
  clear B3'
  clear hb
  go_wp2_with fail
  have hal : Below w8.heap.size w8 (w8.alloc (.cells #[.int .u8 2, .string ⟨#[]⟩, .slice (some ⟨W.heap.size + 1, 0, none⟩) 1 1, .slice (some ⟨gB3, 0, none⟩) 1 1, .int .u8 3, .string ⟨#[100]⟩, .slice none 0 0, .slice none 0 0, .int .u8 3, .string ⟨#[47, 108, 47, 102]⟩, .slice none 0 0, .slice none 0 0, .int .u8 3, .string ⟨#[100, 47, 120]⟩, .slice none 0 0, .slice none 0 0, .int .u8 3, .string ⟨#[111]⟩, .slice none 0 0, .slice none 0 0] 25)) := (Below.refl _ _).alloc (Nat.le_refl _) _
  have HBW' := Lib.hid (HBW.out.trans ((hal).mono HBW.out.size))
  have B1' := Lib.hid (B1.out.kept hal)
  have B2' := Lib.hid (B2.out.kept hal)
  have B3' := Lib.hid (B3.out.kept hal)
  clear HBW B1 B2 B3
  have HBW := HBW'
  clear HBW'
  have B1 := B1'
  clear B1'
  have B2 := B2'
  clear B2'
  have B3 := B3'
  clear B3'
  have B4 : Hid (Bk (w8.alloc (.cells #[.int .u8 2, .string ⟨#[]⟩, .slice (some ⟨W.heap.size + 1, 0, none⟩) 1 1, .slice (some ⟨gB3, 0, none⟩) 1 1, .int .u8 3, .string ⟨#[100]⟩, .slice none 0 0, .slice none 0 0, .int .u8 3, .string ⟨#[47, 108, 47, 102]⟩, .slice none 0 0, .slice none 0 0, .int .u8 3, .string ⟨#[100, 47, 120]⟩, .slice none 0 0, .slice none 0 0, .int .u8 3, .string ⟨#[111]⟩, .slice none 0 0, .slice none 0 0] 25)) w8.heap.size [.int .u8 2, .string ⟨#[]⟩, .slice (some ⟨W.heap.size + 1, 0, none⟩) 1 1, .slice (some ⟨gB3, 0, none⟩) 1 1, .int .u8 3, .string ⟨#[100]⟩, .slice none 0 0, .slice none 0 0, .int .u8 3, .string ⟨#[47, 108, 47, 102]⟩, .slice none 0 0, .slice none 0 0, .int .u8 3, .string ⟨#[100, 47, 120]⟩, .slice none 0 0, .slice none 0 0, .int .u8 3, .string ⟨#[111]⟩, .slice none 0 0, .slice none 0 0] 25) := Lib.hid (Bk.new w8 [.int .u8 2, .string ⟨#[]⟩, .slice (some ⟨W.heap.size + 1, 0, none⟩) 1 1, .slice (some ⟨gB3, 0, none⟩) 1 1, .int .u8 3, .string ⟨#[100]⟩, .slice none 0 0, .slice none 0 0, .int .u8 3, .string ⟨#[47, 108, 47, 102]⟩, .slice none 0 0, .slice none 0 0, .int .u8 3, .string ⟨#[100, 47, 120]⟩, .slice none 0 0, .slice none 0 0, .int .u8 3, .string ⟨#[111]⟩, .slice none 0 0, .slice none 0 0] 25)
  clear hal
  generalize (w8.alloc (.cells #[.int .u8 2, .string ⟨#[]⟩, .slice (some ⟨W.heap.size + 1, 0, none⟩) 1 1, .slice (some ⟨gB3, 0, none⟩) 1 1, .int .u8 3, .string ⟨#[100]⟩, .slice none 0 0, .slice none 0 0, .int .u8 3, .string ⟨#[47, 108, 47, 102]⟩, .slice none 0 0, .slice none 0 0, .int .u8 3, .string ⟨#[100, 47, 120]⟩, .slice none 0 0, .slice none 0 0, .int .u8 3, .string ⟨#[111]⟩, .slice none 0 0, .slice none 0 0] 25)) = w9 at *
  generalize w8.heap.size = gB4 at *
  refine (dir9 _ _ _ _ _ _ w9).mono ?_
  rintro e w10 ⟨rfl, hb⟩
  have HBW' := Lib.hid (HBW.out.trans ((hb).mono HBW.out.size))
  have B1' := Lib.hid (B1.out.kept hb)
  have B2' := Lib.hid (B2.out.kept hb)
  have B3' := Lib.hid (B3.out.kept hb)
  have B4' := Lib.hid (B4.out.kept hb)
  clear HBW B1 B2 B3 B4
  have HBW := HBW'
  clear HBW'
  have B1 := B1'
  clear B1'
  have B2 := B2'
  clear B2'
  have B3 := B3'
  clear B3'
  have B4 := B4'
  clear B4'
  clear hb
  go_wp2_with fail
  have HN : Hid (NodeR w10 [.int .u8 2, .string ⟨#[]⟩, .slice (some ⟨W.heap.size, 0, none⟩) 5 5, .slice (some ⟨gB4, 0, none⟩) 5 5] root) := Lib.hid (B1.out.node (l := [tD, tL, tM, tN, tO]) B4.out (.cons _ _ _ _ rfl (B2.out.node (l := [tF]) B3.out (.one rfl (leaf _ _)) (by decide) (by decide)) (.cons _ _ _ _ rfl (leaf3 _ _) (.cons _ _ _ _ rfl (leaf3 _ _) (.cons _ _ _ _ rfl (leaf3 _ _) (.one rfl (leaf3 _ _)))))) (by decide) (by decide))
  refine (fnew_any HN.out root_small w10 (Below.refl _ _)).mono ?_
  rintro e w11 ⟨hnw, hb⟩
  rw [if_pos root_may] at hnw
  obtain ⟨b, y0, y1, y2, y3, rfl, hbb, ht, _⟩ := hnw
  have HBX := Lib.hid (HBW.out.trans (hb.mono HBW.out.size))
  have HT := Lib.hid ht
  clear hb ht hbb HN B1 B2 B3 B4 HBW
  have HBW := HBX
  clear HBX
  go_wp2_with fail
  have hal : Below w11.heap.size w11 (w11.alloc (.cells #[.string ⟨#[100]⟩, .string ⟨#[102]⟩] 9)) := (Below.refl _ _).alloc (Nat.le_refl _) _
  have HBW' := Lib.hid (HBW.out.trans ((hal).mono HBW.out.size))
  have HT' := Lib.hid (HT.out.kept hal)
  clear HBW HT
  have HBW := HBW'
  clear HBW'
  have HT := HT'
  clear HT'
  have P1 : Hid (Bk (w11.alloc (.cells #[.string ⟨#[100]⟩, .string ⟨#[102]⟩] 9)) w11.heap.size [.string ⟨#[100]⟩, .string ⟨#[102]⟩] 9) := Lib.hid (Bk.new w11 [.string ⟨#[100]⟩, .string ⟨#[102]⟩] 9)
  clear hal
  generalize (w11.alloc (.cells #[.string ⟨#[100]⟩, .string ⟨#[102]⟩] 9)) = w12 at *
  generalize w11.heap.size = gP1 at *
  refine (finds_ok HT.out root_well root_small (by kernel_rfl) (t := (⟨#[108, 47, 102]⟩ : ByteArray)) (by decide) g1 (P1.out.pl (l := [tD, tF]) (by decide))).mono ?_
  rintro e w13 ⟨rfl, hb⟩
  have HBW' := Lib.hid (HBW.out.trans ((hb).mono HBW.out.size))
  have HT' := Lib.hid (HT.out.kept hb)
  clear HBW HT
  have HBW := HBW'
  clear HBW'
  have HT := HT'
  clear HT'
  clear hb P1
  go_wp2_with fail
  have hal : Below w13.heap.size w13 (w13.alloc (.cells #[.string ⟨#[108]⟩] 9)) := (Below.refl _ _).alloc (Nat.le_refl _) _
  have HBW' := Lib.hid (HBW.out.trans ((hal).mono HBW.out.size))
  have HT' := Lib.hid (HT.out.kept hal)
  clear HBW HT
  have HBW := HBW'
  clear HBW'
  have HT := HT'
  clear HT'
  have P2 : Hid (Bk (w13.alloc (.cells #[.string ⟨#[108]⟩] 9)) w13.heap.size [.string ⟨#[108]⟩] 9) := Lib.hid (Bk.new w13 [.string ⟨#[108]⟩] 9)
  clear hal
  generalize (w13.alloc (.cells #[.string ⟨#[108]⟩] 9)) = w14 at *
  generalize w13.heap.size = gP2 at *
  refine (spots_ok HT.out root_well root_small (by kernel_rfl) (t := (⟨#[108]⟩ : ByteArray)) (by decide) g2 (P2.out.pl (l := [tL]) (by decide))).mono ?_
  rintro e w15 ⟨rfl, hb⟩
  have HBW' := Lib.hid (HBW.out.trans ((hb).mono HBW.out.size))
  have HT' := Lib.hid (HT.out.kept hb)
  clear HBW HT
  have HBW := HBW'
  clear HBW'
  have HT := HT'
  clear HT'
  clear hb P2
  go_wp2_with fail
  have hal : Below w15.heap.size w15 (w15.alloc (.cells #[.string ⟨#[100]⟩] 9)) := (Below.refl _ _).alloc (Nat.le_refl _) _
  have HBW' := Lib.hid (HBW.out.trans ((hal).mono HBW.out.size))
  have HT' := Lib.hid (HT.out.kept hal)
  clear HBW HT
  have HBW := HBW'
  clear HBW'
  have HT := HT'
  clear HT'
  have P3 : Hid (Bk (w15.alloc (.cells #[.string ⟨#[100]⟩] 9)) w15.heap.size [.string ⟨#[100]⟩] 9) := Lib.hid (Bk.new w15 [.string ⟨#[100]⟩] 9)
  clear hal
  generalize (w15.alloc (.cells #[.string ⟨#[100]⟩] 9)) = w16 at *
  generalize w15.heap.size = gP3 at *
  refine (spots_ok HT.out root_well root_small (by kernel_rfl) (t := (⟨#[108, 47]⟩ : ByteArray)) (by decide) g3 (P3.out.pl (l := [tD]) (by decide))).mono ?_
  rintro e w17 ⟨rfl, hb⟩
  have HBW' := Lib.hid (HBW.out.trans ((hb).mono HBW.out.size))
  have HT' := Lib.hid (HT.out.kept hb)
  clear HBW HT
  have HBW := HBW'
  clear HBW'
  have HT := HT'
  clear HT'
  clear hb P3
  go_wp2_with fail
  have hal : Below w17.heap.size w17 (w17.alloc (.cells #[.string ⟨#[100]⟩] 9)) := (Below.refl _ _).alloc (Nat.le_refl _) _
  have HBW' := Lib.hid (HBW.out.trans ((hal).mono HBW.out.size))
  have HT' := Lib.hid (HT.out.kept hal)
  clear HBW HT
  have HBW := HBW'
  clear HBW'
  have HT := HT'
  clear HT'
  have P4 : Hid (Bk (w17.alloc (.cells #[.string ⟨#[100]⟩] 9)) w17.heap.size [.string ⟨#[100]⟩] 9) := Lib.hid (Bk.new w17 [.string ⟨#[100]⟩] 9)
  clear hal
  generalize (w17.alloc (.cells #[.string ⟨#[100]⟩] 9)) = w18 at *
  generalize w17.heap.size = gP4 at *
  refine (finds_ok HT.out root_well root_small (by kernel_rfl) (t := (⟨#[108]⟩ : ByteArray)) (by decide) g4 (P4.out.pl (l := [tD]) (by decide))).mono ?_
  rintro e w19 ⟨rfl, hb⟩
  have HBW' := Lib.hid (HBW.out.trans ((hb).mono HBW.out.size))
  have HT' := Lib.hid (HT.out.kept hb)
  clear HBW HT
  have HBW := HBW'
  clear HBW'
  have HT := HT'
  clear HT'
  clear hb P4
  go_wp2_with fail
  have hal : Below w19.heap.size w19 (w19.alloc (.cells #[.string ⟨#[100]⟩, .string ⟨#[102]⟩] 9)) := (Below.refl _ _).alloc (Nat.le_refl _) _
  have HBW' := Lib.hid (HBW.out.trans ((hal).mono HBW.out.size))
  have HT' := Lib.hid (HT.out.kept hal)
  clear HBW HT
  have HBW := HBW'
  clear HBW'
  have HT := HT'
  clear HT'
  have P5 : Hid (Bk (w19.alloc (.cells #[.string ⟨#[100]⟩, .string ⟨#[102]⟩] 9)) w19.heap.size [.string ⟨#[100]⟩, .string ⟨#[102]⟩] 9) := Lib.hid (Bk.new w19 [.string ⟨#[100]⟩, .string ⟨#[102]⟩] 9)
  clear hal
  generalize (w19.alloc (.cells #[.string ⟨#[100]⟩, .string ⟨#[102]⟩] 9)) = w20 at *
  generalize w19.heap.size = gP5 at *
  refine (finds_ok HT.out root_well root_small (by kernel_rfl) (t := (⟨#[109]⟩ : ByteArray)) (by decide) g5 (P5.out.pl (l := [tD, tF]) (by decide))).mono ?_
  rintro e w21 ⟨rfl, hb⟩
  have HBW' := Lib.hid (HBW.out.trans ((hb).mono HBW.out.size))
  have HT' := Lib.hid (HT.out.kept hb)
  clear HBW HT
  have HBW := HBW'
  clear HBW'
  have HT := HT'
  clear HT'
  clear hb P5
  go_wp2_with fail
  refine (refused_ok HT.out root_well root_small (by kernel_rfl) (t := (⟨#[109, 47]⟩ : ByteArray)) (by decide) g6 g7).mono ?_
  rintro e w22 ⟨rfl, hb⟩
  have HBW' := Lib.hid (HBW.out.trans ((hb).mono HBW.out.size))
  have HT' := Lib.hid (HT.out.kept hb)
  clear HBW HT
  have HBW := HBW'
  clear HBW'
  have HT := HT'
  clear HT'
  clear hb
  go_wp2_with fail
  refine (wfind_any HT.out root_well root_small (by kernel_rfl) (⟨#[111]⟩ : ByteArray) (by decide)).mono ?_
  rintro e w23 ⟨⟨o, ho, hv⟩, hb⟩
  obtain rfl := run_det ho (goF_run 200 g8) (Nat.zero_le _)
  have hv' : e = .returned (.tuple #[.slice none 0 0, .int .u8 0, .int .i64 61]) := hv
  subst hv'
  have HBW' := Lib.hid (HBW.out.trans ((hb).mono HBW.out.size))
  have HT' := Lib.hid (HT.out.kept hb)
  clear HBW HT
  have HBW := HBW'
  clear HBW'
  have HT := HT'
  clear HT'
  clear hb ho hv
  go_wp2_with fail
  have hal : Below w23.heap.size w23 (w23.alloc (.cells #[.string ⟨#[111]⟩] 9)) := (Below.refl _ _).alloc (Nat.le_refl _) _
  have HBW' := Lib.hid (HBW.out.trans ((hal).mono HBW.out.size))
  have HT' := Lib.hid (HT.out.kept hal)
  clear HBW HT
  have HBW := HBW'
  clear HBW'
  have HT := HT'
  clear HT'
  have P6 : Hid (Bk (w23.alloc (.cells #[.string ⟨#[111]⟩] 9)) w23.heap.size [.string ⟨#[111]⟩] 9) := Lib.hid (Bk.new w23 [.string ⟨#[111]⟩] 9)
  clear hal
  generalize (w23.alloc (.cells #[.string ⟨#[111]⟩] 9)) = w24 at *
  generalize w23.heap.size = gP6 at *
  refine (spots_ok HT.out root_well root_small (by kernel_rfl) (t := (⟨#[111]⟩ : ByteArray)) (by decide) g9 (P6.out.pl (l := [tO]) (by decide))).mono ?_
  rintro e w25 ⟨rfl, hb⟩
  have HBW' := Lib.hid (HBW.out.trans ((hb).mono HBW.out.size))
  have HT' := Lib.hid (HT.out.kept hb)
  clear HBW HT
  have HBW := HBW'
  clear HBW'
  have HT := HT'
  clear HT'
  clear hb P6
  go_wp2_with fail
  have hal : Below w25.heap.size w25 (w25.alloc (.cells #[.string ⟨#[100]⟩, .string ⟨#[120]⟩] 9)) := (Below.refl _ _).alloc (Nat.le_refl _) _
  have HBW' := Lib.hid (HBW.out.trans ((hal).mono HBW.out.size))
  have HT' := Lib.hid (HT.out.kept hal)
  clear HBW HT
  have HBW := HBW'
  clear HBW'
  have HT := HT'
  clear HT'
  have P7 : Hid (Bk (w25.alloc (.cells #[.string ⟨#[100]⟩, .string ⟨#[120]⟩] 9)) w25.heap.size [.string ⟨#[100]⟩, .string ⟨#[120]⟩] 9) := Lib.hid (Bk.new w25 [.string ⟨#[100]⟩, .string ⟨#[120]⟩] 9)
  clear hal
  generalize (w25.alloc (.cells #[.string ⟨#[100]⟩, .string ⟨#[120]⟩] 9)) = w26 at *
  generalize w25.heap.size = gP7 at *
  refine (finds_ok HT.out root_well root_small (by kernel_rfl) (t := (⟨#[110]⟩ : ByteArray)) (by decide) g10 (P7.out.pl (l := [tD, tX]) (by decide))).mono ?_
  rintro e w27 ⟨rfl, hb⟩
  have HBW' := Lib.hid (HBW.out.trans ((hb).mono HBW.out.size))
  have HT' := Lib.hid (HT.out.kept hb)
  clear HBW HT
  have HBW := HBW'
  clear HBW'
  have HT := HT'
  clear HT'
  clear hb P7
  go_wp2_with fail
  refine (refused_ok HT.out root_well root_small (by kernel_rfl) (t := (⟨#[110, 47, 121]⟩ : ByteArray)) (by decide) g11 g12).mono ?_
  rintro e w28 ⟨rfl, hb⟩
  have HBW' := Lib.hid (HBW.out.trans ((hb).mono HBW.out.size))
  have HT' := Lib.hid (HT.out.kept hb)
  clear HBW HT
  have HBW := HBW'
  clear HBW'
  have HT := HT'
  clear HT'
  clear hb
  go_wp2_with fail
  refine (finds_ok HT.out root_well root_small (by kernel_rfl) (t := (⟨#[100, 47, 46, 46]⟩ : ByteArray)) (by decide) g13 (nil_pl _)).mono ?_
  rintro e w29 ⟨rfl, hb⟩
  have HBW' := Lib.hid (HBW.out.trans ((hb).mono HBW.out.size))
  have HT' := Lib.hid (HT.out.kept hb)
  clear HBW HT
  have HBW := HBW'
  clear HBW'
  have HT := HT'
  clear HT'
  clear hb
  go_wp2_with fail
  refine (refused_ok HT.out root_well root_small (by kernel_rfl) (t := (⟨#[100, 47, 102, 47, 46, 46]⟩ : ByteArray)) (by decide) g14 g15).mono ?_
  rintro e w30 ⟨rfl, hb⟩
  have HBW' := Lib.hid (HBW.out.trans ((hb).mono HBW.out.size))
  have HT' := Lib.hid (HT.out.kept hb)
  clear HBW HT
  have HBW := HBW'
  clear HBW'
  have HT := HT'
  clear HT'
  clear hb
  go_wp2_with fail
  go_ret
  exact ⟨rfl, HBW.out⟩
end Works9
end Go.Proofs.Ytlnnnlpofocgpab
