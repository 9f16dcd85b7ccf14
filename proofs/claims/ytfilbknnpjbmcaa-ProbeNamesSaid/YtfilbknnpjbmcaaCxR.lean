/- A closed call, run: what is known of the operations of a drawn region, gone through in turn. No program of its own. -/
import Derived.Test.YtfilbknnpjbmcaaCxQ
namespace Go.Proofs.Ytfilbknnpjbmcaa.Cx
open Go Go.RowKit Go.BigFrame

/- The numbers of those that stand ahead. -/
theorem fold_bits (acc : List Nat) : ∀ (l : List Edge) (s j : Nat), (l.foldl (fun s e => bif Region.binds .any e then s ||| (1 <<< e.on ||| acc.getD e.on 0) else s) s).testBit j = true →
    s.testBit j = true ∨ ∃ e ∈ l, Region.binds .any e = true ∧ (e.on = j ∨ (acc.getD e.on 0).testBit j = true)
  | [], s, j, h => .inl h
  | e :: l, s, j, h => by
    simp only [List.foldl_cons] at h
    rcases fold_bits acc l _ j h with h1 | ⟨e', h1, h2⟩
    · cases hb : Region.binds .any e with
      | false => simp only [hb, cond_false] at h1; exact .inl h1
      | true =>
        simp only [hb, cond_true, Nat.testBit_or, Bool.or_eq_true, Nat.one_shiftLeft, Nat.testBit_two_pow, decide_eq_true_eq] at h1
        rcases h1 with h1 | h1 | h1
        · exact .inl h1
        · exact .inr ⟨e, by simp, hb, .inl h1⟩
        · exact .inr ⟨e, by simp, hb, .inr h1⟩
    · exact .inr ⟨e', by simp [h1], h2⟩
theorem masks_spec : ∀ (l : List Oper) (acc : List Nat), ∃ ms, masks l acc = acc ++ ms ∧ ms.length = l.length ∧ ∀ (q : Nat) (o : Oper), l[q]? = some o → ms[q]? = some (maskOf o (acc ++ ms.take q))
  | [], acc => ⟨[], by simp [masks], rfl, fun q o h => by simp at h⟩
  | o :: r, acc => by
    obtain ⟨ms, h1, h2, h3⟩ := masks_spec r (acc ++ [maskOf o acc])
    refine ⟨maskOf o acc :: ms, by simp [masks, h1], by simp [h2], fun q x hq => ?_⟩
    cases q with
    | zero => simp at hq; subst hq; simp
    | succ q =>
      have := h3 q x (by simpa using hq)
      simpa using this
theorem pre_spec : ∀ (l : List Oper) (ms : List Nat) (i k : Nat), ms.length = l.length → (pre l ms i k).length = l.length ∧ ∀ (q : Nat) (x : PR), (pre l ms i k)[q]? = some x → x.i = i + q ∧ l[q]? = some x.o ∧ ms[q]? = some x.m ∧ x.k = k + newsIn (l.take q)
  | [], ms, i, k, _ => ⟨by simp [pre], fun q x h => by simp [pre] at h⟩
  | o :: r, [], i, k, h => by simp at h
  | o :: r, m :: ms, i, k, h => by
    obtain ⟨h1, h2⟩ := pre_spec r ms (i + 1) (bif newK o.op then Nat.succ k else k) (by simpa using h)
    refine ⟨by simp [pre, h1], fun q x hq => ?_⟩
    cases q with
    | zero => simp [pre] at hq; subst hq; simp [newsIn]
    | succ q =>
      have := h2 q x (by simpa [pre] using hq)
      refine ⟨by omega, by simpa using this.2.1, by simpa using this.2.2.1, ?_⟩
      rw [this.2.2.2, List.take_succ_cons, newsIn]
      cases newK o.op <;> simp <;> omega
theorem newsIn_take : ∀ (l : List Oper) (q q' : Nat) (o : Oper), l[q]? = some o → newK o.op = true → q < q' → newsIn (l.take q) < newsIn (l.take q')
  | [], q, q', o, h, _, _ => by simp at h
  | x :: l, 0, q' + 1, o, h, hk, _ => by
    obtain rfl : x = o := by simpa using h
    simp [newsIn, hk]
  | x :: l, q + 1, q' + 1, o, h, hk, hq => by
    have := newsIn_take l q q' o (by simpa using h) hk (by omega)
    simp only [List.take_succ_cons, newsIn]
    cases newK x.op <;> simp <;> omega
  | x :: l, _, 0, o, _, _, hq => by omega
theorem newsIn_lt {l : List Oper} {q : Nat} {o : Oper} (h : l[q]? = some o) (hk : newK o.op = true) : newsIn (l.take q) < newsIn l := by
  have := newsIn_take l q l.length o h hk (List.getElem?_eq_some_iff.1 h).1
  rwa [List.take_length] at this
theorem preOf_len (ops : Array Oper) : (preOf ops).length = ops.size := by
  obtain ⟨ms, h1, h2, _⟩ := masks_spec ops.toList []
  have := (pre_spec ops.toList (masks ops.toList []) 0 0 (by rw [h1]; simpa using h2)).1
  simpa [preOf] using this
theorem preOf_at {ops : Array Oper} {q : Nat} {x : PR} (h : (preOf ops)[q]? = some x) : x.i = q ∧ ops[q]? = some x.o := by
  obtain ⟨ms, h1, h2, _⟩ := masks_spec ops.toList []
  obtain ⟨e1, e2, _⟩ := (pre_spec ops.toList (masks ops.toList []) 0 0 (by rw [h1]; simpa using h2)).2 q x h
  exact ⟨by omega, by simpa using e2⟩
theorem preOf_k {ops : Array Oper} {q : Nat} {x : PR} (h : (preOf ops)[q]? = some x) : x.k = newsIn (ops.toList.take q) := by
  obtain ⟨ms, h1, h2, _⟩ := masks_spec ops.toList []
  have := ((pre_spec ops.toList (masks ops.toList []) 0 0 (by rw [h1]; simpa using h2)).2 q x h).2.2.2
  omega
theorem preOf_bit {ops : Array Oper} {q j : Nat} {x : PR} (h : (preOf ops)[q]? = some x) (hb : x.m.testBit j = true) :
    ∃ e ∈ x.o.after.toList, Region.binds .any e = true ∧ (e.on = j ∨ e.on < q ∧ ∃ y, (preOf ops)[e.on]? = some y ∧ y.m.testBit j = true) := by
  obtain ⟨ms, h1, h2, h3⟩ := masks_spec ops.toList []
  simp only [List.nil_append] at h1 h3
  have hp := pre_spec ops.toList (masks ops.toList []) 0 0 (by rw [h1]; exact h2)
  obtain ⟨e1, e2, e3, _⟩ := hp.2 q x h
  rw [h1] at e3
  have := h3 q x.o e2
  rw [e3] at this
  have hm : x.m = maskOf x.o (ms.take q) := by simpa using this
  rw [hm] at hb
  rcases fold_bits _ _ 0 j hb with h4 | ⟨e, h4, h5, h6⟩
  · simp at h4
  · refine ⟨e, h4, h5, h6.imp id fun h6 => ?_⟩
    by_cases hlt : e.on < q
    · refine ⟨hlt, ?_⟩
      have hq : q < (preOf ops).length := (List.getElem?_eq_some_iff.1 h).1
      have hy : (preOf ops)[e.on]? = some ((preOf ops)[e.on]'(by omega)) := List.getElem?_eq_getElem (by omega)
      refine ⟨_, hy, ?_⟩
      obtain ⟨f1, f2, f3, _⟩ := hp.2 e.on _ hy
      rw [h1] at f3
      have : (ms.take q).getD e.on 0 = ((preOf ops)[e.on]'(by omega)).m := by
        rw [List.getD_eq_getElem?_getD, List.getElem?_take, if_pos hlt, f3]; rfl
      rw [this] at h6
      exact h6
    · rw [List.getD_eq_getElem?_getD, List.getElem?_take, if_neg hlt] at h6
      simp at h6

theorem maskF_eq {o : Oper} {tr : T Nat} {acc : List Nat} (h : ∀ j, tr.get j = acc[j]?) : maskF o tr = maskOf o acc := by
  unfold maskF maskOf
  congr 1
  funext s e
  rw [h, List.getD_eq_getElem?_getD]
  cases acc[e.on]? <;> rfl
theorem preF_ok {β : Type} : ∀ {l : List Oper} {tr : T Nat} {i k : Nat} {K : List PR → Option β} {b : β} {acc : List Nat}, (∀ j, tr.get j = acc[j]?) → acc.length = i → preF l tr i k K = some b → ∃ ms, masks l acc = acc ++ ms ∧ K (pre l ms i k) = some b
  | [], tr, i, k, K, b, acc, _, _, h => ⟨[], by simp [masks], h⟩
  | o :: r, tr, i, k, K, b, acc, ht, hi, h => by
    have h : T.put (some (maskF o tr)) FUEL tr i (fun tr' => preF r tr' (i + 1) (bif newK o.op then Nat.succ k else k) fun l => K (⟨i, maskF o tr, k, o⟩ :: l)) = some b := h
    rw [maskF_eq ht] at h
    obtain ⟨tr', h1, h2⟩ := T.put_some h
    obtain ⟨ms, h3, h4⟩ := preF_ok (acc := acc ++ [maskOf o acc]) (fun j => by
      rw [h2, ht]
      by_cases hj : j = i
      · subst hj; subst hi; simp
      · rw [if_neg hj]
        by_cases hlt : j < i
        · rw [List.getElem?_append_left (by omega)]
        · rw [List.getElem?_eq_none (by omega), List.getElem?_eq_none (by simp; omega)]) (by simp [hi]) h1
    refine ⟨maskOf o acc :: ms, by rw [masks, h3]; simp, ?_⟩
    exact h4
theorem dstT_ok {β : Type} : ∀ {l : List PR} {t : T PR} {K : T PR → Option β} {b : β}, dstT l t K = some b → ∃ t', K t' = some b ∧ (∀ d q, t.get d = some q → t'.get d = some q) ∧ ∀ q ∈ l, ∀ d, q.o.dst = some d → t'.get d = some q
  | [], t, K, b, h => ⟨t, h, fun _ _ h => h, fun q hq => by simp at hq⟩
  | p :: r, t, K, b, h => by
    unfold dstT at h
    split at h
    · rename_i hd
      obtain ⟨t', h1, h2, h3⟩ := dstT_ok h
      refine ⟨t', h1, h2, fun q hq d hqd => ?_⟩
      rcases List.mem_cons.1 hq with e | e
      · subst e; rw [hd] at hqd; cases hqd
      · exact h3 q e d hqd
    · rename_i d hd
      split at h
      · cases h
      · rename_i hn
        obtain ⟨tm, h0, hm⟩ := T.put_some h
        obtain ⟨t', h1, h2, h3⟩ := dstT_ok h0
        refine ⟨t', h1, fun e q hq => h2 e q ?_, fun q hq e hqd => ?_⟩
        · rw [hm]
          by_cases he : e = d
          · subst he; rw [hn] at hq; cases hq
          · rw [if_neg he]; exact hq
        · rcases List.mem_cons.1 hq with e1 | e1
          · subst e1
            rw [hd] at hqd
            cases hqd
            exact h2 d q (by rw [hm, if_pos rfl])
          · exact h3 q e1 e hqd
theorem okR_ok {ops : Array Oper} {l : List PR} (h : okR ops = some l) : l = preOf ops ∧ regOk ops = true := by
  unfold okR at h
  split at h
  · rename_i l' hl
    cases hr : regF ops l' with
    | false => rw [hr] at h; cases h
    | true =>
      rw [hr] at h
      simp only [cond_true, Option.some.injEq] at h
      subst h
      obtain ⟨ms, h1, h2⟩ := preF_ok (acc := []) (fun j => by rw [T.get_leaf]; rfl) rfl hl
      have hpre : l' = preOf ops := by
        unfold preOf
        rw [h1]
        simp only [Option.some.injEq] at h2
        rw [List.nil_append]
        exact h2.symm
      refine ⟨hpre, ?_⟩
      unfold regF at hr
      split at hr
      · rename_i hx
        obtain ⟨t, h3, _, h5⟩ := dstT_ok hx
        simp only [Option.some.injEq] at h3
        rw [hpre] at h3 h5
        unfold regOk
        rw [Bool.and_eq_true]
        refine ⟨List.all_eq_true.2 fun p hp => ?_, List.all_eq_true.2 fun p hp => List.all_eq_true.2 fun q hq => ?_⟩
        · have := List.all_eq_true.1 h3 p hp
          rw [Bool.and_eq_true] at this
          exact this.1
        · have hp' := List.all_eq_true.1 h3 p hp
          rw [Bool.and_eq_true] at hp'
          unfold noClash
          cases hqd : q.o.dst with
          | none => simp
          | some d =>
            have hq' := h5 q hq d hqd
            by_cases hi : p.i = q.i
            · simp [hi]
            · rw [Bool.or_eq_true]
              right
              rw [Bool.and_eq_true]
              refine ⟨?_, ?_⟩
              · cases hpd : p.o.dst with
                | none => rfl
                | some d' =>
                  simp only [Bool.not_eq_true']
                  rw [Bool.eq_false_iff]
                  intro he
                  have he : d = d' := Nat.eq_of_beq_eq_true he
                  have hp2 := h5 p hp d' hpd
                  rw [← he, hq'] at hp2
                  cases hp2
                  exact hi rfl
              · cases hany : (p.o.looksAt ops).any (fun t => Nat.beq t d) with
                | false => rfl
                | true =>
                  obtain ⟨u, hu, hud⟩ := List.any_eq_true.1 hany
                  have hud : u = d := Nat.eq_of_beq_eq_true hud
                  subst hud
                  have := List.all_eq_true.1 hp'.2 u hu
                  rw [hq'] at this
                  simp only [lookF, Bool.or_eq_true, Nat.beq_eq] at this
                  simp only [cond_true, Bool.or_eq_true]
                  exact this.resolve_left hi
      · cases hr
  · cases h

theorem isEff_cls (r : Rec) : isEff r = isE r.cls := by unfold isEff isE; cases r.cls <;> rfl

theorem hidT_ok {β : Type} : ∀ {ids : List Nat} {H : TH} {K : List (Nat × Option AObj) → TH → Option β} {b : β}, hidT ids H K = some b →
    ∃ l H', K l H' = some b ∧ (∀ g, H'.get g = if g ∈ ids then none else H.get g) ∧
      ∀ {γ : Type} {H1 : TH} {K' : TH → Option γ} {c : γ}, mergeT l H1 K' = some c → ∃ H2, K' H2 = some c ∧ ∀ g, H2.get g = if g ∈ ids then H.get g else H1.get g
  | [], H, K, b, h => ⟨[], H, h, fun g => by simp, fun {γ H1 K' c} h => ⟨H1, h, fun g => by simp⟩⟩
  | x :: r, H, K, b, h => by
    unfold hidT at h
    obtain ⟨Hm, h1, hm⟩ := TH.put_some h
    obtain ⟨l, H', h2, h3, h4⟩ := hidT_ok h1
    refine ⟨_, H', h2, fun g => ?_, fun {γ H1 K' c} hk => ?_⟩
    · rw [h3, hm]
      by_cases hr : g ∈ r <;> by_cases hx : g = x <;> simp [hr, hx]
    · unfold mergeT at hk
      obtain ⟨H2, h5, h6⟩ := h4 hk
      obtain ⟨H3, h7, h8⟩ := TH.put_some h5
      refine ⟨H3, h7, fun g => ?_⟩
      rw [h8, h6, hm]
      by_cases hr : g ∈ r <;> by_cases hx : g = x <;> simp [hr, hx]

/-- What of a state is in sight. -/
def Seen (ids : List Nat) (H : TH) (H' : TH) : Prop := ∀ g, H'.get g = if g ∈ ids then none else H.get g
/-- What was out of sight is as it was, all else as it came out. -/
def Back (ids : List Nat) (st S st1 : St) : Prop := st1.c = S.c ∧ st1.lim = S.lim ∧ ∀ g, st1.H.get g = if g ∈ ids then st.H.get g else S.H.get g
/-- What is known of one operation that was done in its turn. -/
structure One (E : Env) (sub : Sub) (nt : Nat) (ops : Array Oper) (R0 : Nat) (p : PR) (tm : TV) (st : St) (news : List (Nat × Nat)) (cls : Cls) (v : Value) (tm1 : TV) (st1 : St) (nb : Option (Nat × AObj)) : Prop where
  dst : ∀ d, p.o.dst = some d → d < nt
  get : ∀ j, tm1.get j = putG p.o.dst v tm j
  how : (wantA ops tm p.o = some false ∧ cls = .skp ∧ v = undef ∧ st1 = st ∧ nb = none) ∨ (wantA ops tm p.o = some true ∧
    ((newK p.o.op = true ∧ cls = .new ∧ ∃ S, aop E (evT E.ng tm) p.o ⟨.leaf, R0 + p.k, R0 + p.k + 1⟩ = some (.val v S) ∧
        ((∃ ob, S.H.get (R0 + p.k) = some ob ∧ nb = some (R0 + p.k, ob) ∧ st1.c = st.c ∧ st1.lim = st.lim ∧ ∀ g, st1.H.get g = if g = R0 + p.k then some ob else st.H.get g) ∨ (nb = none ∧ st1 = st))) ∨
      (newK p.o.op = false ∧ cls = .ins ∧ insF E ops.size news tm p.o.op = true ∧ v = undef ∧ st1 = st ∧ nb = none) ∨
      (newK p.o.op = false ∧ nb = none ∧ ∃ H, Seen (notAhead p.m news) st.H H ∧
        ((∃ S, aop E (evT E.ng tm) p.o ⟨H, st.c, st.lim⟩ = some (.val v S) ∧ isE (clsOf p.o.op) = false ∧ cls = clsOf p.o.op ∧ st1 = st) ∨
          (cls = .eff ∧ ∃ S, Back (notAhead p.m news) st S st1 ∧ (aop E (evT E.ng tm) p.o ⟨H, st.c, st.lim⟩ = some (.val v S) ∨ (aop E (evT E.ng tm) p.o ⟨H, st.c, st.lim⟩ = some (.skip S) ∧ v = undef) ∨
            ∃ f args S', aop E (evT E.ng tm) p.o ⟨H, st.c, st.lim⟩ = some (.enter f args S') ∧ sub f args S' = some (v, S)))))))
theorem passOne_some {β : Type} {E : Env} {sub : Sub} {nt : Nat} {ops : Array Oper} {R0 : Nat} {p : PR} {tm : TV} {st : St} {news : List (Nat × Nat)} {K : Cls → Value → TV → St → Option (Nat × AObj) → Option β} {b : β} (h : passOne E sub nt ops R0 p tm st news K = some b) :
    ∃ cls v tm1 st1 nb, K cls v tm1 st1 nb = some b ∧ One E sub nt ops R0 p tm st news cls v tm1 st1 nb := by
  unfold passOne at h
  split at h
  · cases h
  · rename_i hw
    obtain ⟨tm', h1, h2, h3⟩ := putT_some h
    exact ⟨_, _, _, _, _, h1, h2, h3, .inl ⟨hw, rfl, rfl, rfl, rfl⟩⟩
  · rename_i hw
    cases hnk : newK p.o.op with
    | true =>
      simp only [hnk, cond_true] at h
      unfold passNew at h
      split at h
      · rename_i v S ha
        split at h
        · rename_i ob hob
          obtain ⟨H, h1, hH⟩ := TH.put_some h
          obtain ⟨tm', h2, h3, h4⟩ := putT_some h1
          exact ⟨_, _, _, _, _, h2, h3, h4, .inr ⟨hw, .inl ⟨hnk, rfl, S, ha, .inl ⟨ob, hob, rfl, rfl, rfl, hH⟩⟩⟩⟩
        · obtain ⟨tm', h2, h3, h4⟩ := putT_some h
          exact ⟨_, _, _, _, _, h2, h3, h4, .inr ⟨hw, .inl ⟨hnk, rfl, S, ha, .inr ⟨rfl, rfl⟩⟩⟩⟩
      · cases h
    | false =>
      simp only [hnk, cond_false] at h
      cases hins : insF E ops.size news tm p.o.op with
      | true =>
        simp only [hins, cond_true] at h
        obtain ⟨tm', h1, h2, h3⟩ := putT_some h
        exact ⟨_, _, _, _, _, h1, h2, h3, .inr ⟨hw, .inr (.inl ⟨hnk, rfl, hins, rfl, rfl, rfl⟩)⟩⟩
      | false =>
      simp only [hins, cond_false] at h
      obtain ⟨l, H, h1, hH, hback⟩ := hidT_ok h
      split at h1
      · rename_i r hr
        unfold passRes at h1
        split at h1
        · rename_i v S
          cases he : isE (clsOf p.o.op) with
          | true =>
            simp only [he, cond_true] at h1
            obtain ⟨H2, h2, h3⟩ := hback h1
            obtain ⟨tm', h4, h5, h6⟩ := putT_some h2
            exact ⟨_, _, _, _, _, h4, h5, h6, .inr ⟨hw, .inr (.inr ⟨hnk, rfl, H, hH, .inr ⟨rfl, S, ⟨rfl, rfl, h3⟩, .inl hr⟩⟩)⟩⟩
          | false =>
            simp only [he, cond_false] at h1
            obtain ⟨tm', h4, h5, h6⟩ := putT_some h1
            exact ⟨_, _, _, _, _, h4, h5, h6, .inr ⟨hw, .inr (.inr ⟨hnk, rfl, H, hH, .inl ⟨S, hr, he, rfl, rfl⟩⟩)⟩⟩
        · rename_i S
          obtain ⟨H2, h2, h3⟩ := hback h1
          obtain ⟨tm', h4, h5, h6⟩ := putT_some h2
          exact ⟨_, _, _, _, _, h4, h5, h6, .inr ⟨hw, .inr (.inr ⟨hnk, rfl, H, hH, .inr ⟨rfl, S, ⟨rfl, rfl, h3⟩, .inr (.inl ⟨hr, rfl⟩)⟩⟩)⟩⟩
        · split at h1
          · rename_i v S hs
            obtain ⟨H2, h2, h3⟩ := hback h1
            obtain ⟨tm', h4, h5, h6⟩ := putT_some h2
            exact ⟨_, _, _, _, _, h4, h5, h6, .inr ⟨hw, .inr (.inr ⟨hnk, rfl, H, hH, .inr ⟨rfl, S, ⟨rfl, rfl, h3⟩, .inr (.inr ⟨_, _, _, hr, hs⟩)⟩⟩)⟩⟩
          · cases h1
        · cases h1
      · cases h1
inductive Passed (E : Env) (sub : Sub) (nt : Nat) (ops : Array Oper) (R0 : Nat) : List PR → TV → St → List (Nat × Nat) → List Rec → TV → St → Prop where
  | nil (tm : TV) (st : St) (news : List (Nat × Nat)) : Passed E sub nt ops R0 [] tm st news [] tm st
  | cons {p : PR} {ps : List PR} {tm tm1 tmF : TV} {st st1 stF : St} {news : List (Nat × Nat)} {cls : Cls} {v : Value} {nb : Option (Nat × AObj)} {rs : List Rec} : One E sub nt ops R0 p tm st news cls v tm1 st1 nb → Passed E sub nt ops R0 ps tm1 st1 (moreNews (keyOf ops p.i p.o) nb news) rs tmF stF →
      Passed E sub nt ops R0 (p :: ps) tm st news (⟨p.i, p.m, p.k, p.o, tm, cls, v, st, st1, nb, news⟩ :: rs) tmF stF
theorem pass_some {β : Type} {E : Env} {sub : Sub} {nt : Nat} {ops : Array Oper} {R0 : Nat} : ∀ {l : List PR} {tm : TV} {st : St} {news : List (Nat × Nat)} {K : List Rec → TV → St → Option β} {b : β}, pass E sub nt ops R0 l tm st news K = some b →
    ∃ rs tmF stF, K rs tmF stF = some b ∧ Passed E sub nt ops R0 l tm st news rs tmF stF
  | [], tm, st, news, K, b, h => ⟨[], tm, st, h, .nil _ _ _⟩
  | p :: l, tm, st, news, K, b, h => by
    have h : passOne E sub nt ops R0 p tm st news (fun cls v tm' st' nb => pass E sub nt ops R0 l tm' st' (moreNews (keyOf ops p.i p.o) nb news) fun rs tmF stF => K (⟨p.i, p.m, p.k, p.o, tm, cls, v, st, st', nb, news⟩ :: rs) tmF stF) = some b := h
    obtain ⟨cls, v, tm1, st1, nb, h1, h2⟩ := passOne_some h
    obtain ⟨rs, tmF, stF, h3, h4⟩ := pass_some h1
    exact ⟨_, _, _, h3, .cons h2 h4⟩

def stAt (rs : List Rec) (stF : St) (q : Nat) : St :=
  match rs[q]? with
  | some r => r.s1
  | none => stF
def tmAt (rs : List Rec) (tmF : TV) (q : Nat) : TV :=
  match rs[q]? with
  | some r => r.tm
  | none => tmF
section
variable {E : Env} {sub : Sub} {nt : Nat} {ops : Array Oper} {R0 : Nat} {news : List (Nat × Nat)}
theorem Passed.len {ps : List PR} {tm tmF : TV} {st stF : St} {rs : List Rec} (h : Passed E sub nt ops R0 ps tm st news rs tmF stF) : rs.length = ps.length := by
  induction h with
  | nil => rfl
  | cons _ _ ih => simp [ih]
theorem Passed.at_ {ps : List PR} {tm tmF : TV} {st stF : St} {rs : List Rec} (h : Passed E sub nt ops R0 ps tm st news rs tmF stF) : ∀ {p : Nat} {r : Rec}, rs[p]? = some r →
    ps[p]? = some ⟨r.i, r.m, r.k, r.o⟩ ∧ ∃ tm1, One E sub nt ops R0 ⟨r.i, r.m, r.k, r.o⟩ r.tm r.s1 r.news r.cls r.v tm1 r.s2 r.nb := by
  induction h with
  | nil => intro p r hr; simp at hr
  | cons h1 _ ih =>
    intro p r hr
    cases p with
    | zero => simp at hr; subst hr; exact ⟨rfl, _, h1⟩
    | succ p => simpa using ih (by simpa using hr)
theorem Passed.first {ps : List PR} {tm tmF : TV} {st stF : St} {rs : List Rec} (h : Passed E sub nt ops R0 ps tm st news rs tmF stF) : stAt rs stF 0 = st := by
  cases h <;> rfl
theorem Passed.succ {ps : List PR} {tm tmF : TV} {st stF : St} {rs : List Rec} (h : Passed E sub nt ops R0 ps tm st news rs tmF stF) : ∀ {p : Nat} {r : Rec}, rs[p]? = some r → stAt rs stF (p + 1) = r.s2 := by
  induction h with
  | nil => intro p r hr; simp at hr
  | cons h1 h2 ih =>
    intro p r hr
    cases p with
    | zero =>
      simp at hr
      subst hr
      exact h2.first
    | succ p =>
      have := ih (p := p) (r := r) (by simpa using hr)
      simpa [stAt] using this
theorem Passed.tmFirst {ps : List PR} {tm tmF : TV} {st stF : St} {rs : List Rec} (h : Passed E sub nt ops R0 ps tm st news rs tmF stF) : tmAt rs tmF 0 = tm := by
  cases h <;> rfl
theorem Passed.keep {ps : List PR} {tm tmF : TV} {st stF : St} {rs : List Rec} (h : Passed E sub nt ops R0 ps tm st news rs tmF stF) : ∀ {p : Nat} {t : Nat}, p ≤ rs.length → (∀ (q : Nat) (r : Rec), q < p → rs[q]? = some r → r.o.dst ≠ some t) → (tmAt rs tmF p).get t = tm.get t := by
  induction h with
  | nil => intro p t hp _; simp at hp; subst hp; rfl
  | @cons pp ps' tm' tm1 tmF' st' st1 stF' news' cls v nb rs' h1 h2 ih =>
    intro p t hp hn
    cases p with
    | zero => rfl
    | succ p =>
      have e1 := ih (p := p) (t := t) (by simpa using hp) (fun q r hq hr => hn (q + 1) r (by omega) (by simpa using hr))
      have e2 := h1.get t
      have hne := hn 0 _ (by omega) rfl
      simp only at hne
      have e3 : (tmAt _ _ p).get t = _ := e1
      simp only [tmAt, List.getElem?_cons_succ] at e1 ⊢
      rw [e1, e2]
      unfold putG
      cases hd : pp.o.dst with
      | none => rfl
      | some d =>
        have : ¬ t = d := fun e => hne (by rw [hd, e])
        simp [this]
theorem Passed.wrote {ps : List PR} {tm tmF : TV} {st stF : St} {rs : List Rec} (h : Passed E sub nt ops R0 ps tm st news rs tmF stF) : ∀ {p q : Nat} {r : Rec} {t : Nat}, p ≤ rs.length → q < p → rs[q]? = some r → r.o.dst = some t →
    (∀ (q' : Nat) (r' : Rec), q < q' → q' < p → rs[q']? = some r' → r'.o.dst ≠ some t) → (tmAt rs tmF p).get t = some r.v := by
  induction h with
  | nil => intro p q r t hp hq hr; simp at hr
  | cons h1 h2 ih =>
    intro p q r t hp hq hr hd hn
    cases p with
    | zero => omega
    | succ p =>
      cases q with
      | zero =>
        simp at hr
        subst hr
        have e1 := h2.keep (p := p) (t := t) (by simpa using hp) (fun q r hq hr => hn (q + 1) r (by omega) (by omega) (by simpa using hr))
        have e2 := h1.get t
        simp only at hd
        rw [hd] at e2
        simp only [putG, if_true] at e2
        simp only [tmAt, List.getElem?_cons_succ] at e1 ⊢
        rw [e1, e2]
      | succ q =>
        have e1 := ih (p := p) (q := q) (r := r) (t := t) (by simpa using hp) (by omega) (by simpa using hr) hd (fun q' r' h1 h2 h3 => hn (q' + 1) r' (by omega) (by omega) (by simpa using h3))
        simpa [tmAt] using e1
/-- The new blocks that are known at an operation. -/
theorem Passed.news_at {ps : List PR} {tm tmF : TV} {st stF : St} {rs : List Rec} (h : Passed E sub nt ops R0 ps tm st news rs tmF stF) : ∀ {p : Nat} {r : Rec}, rs[p]? = some r →
    ∀ n, n ∈ r.news ↔ n ∈ news ∨ ∃ j rj ob, j < p ∧ rs[j]? = some rj ∧ rj.nb = some (n.2, ob) ∧ keyOf ops rj.i rj.o = n.1 := by
  induction h with
  | nil => intro p r hr; simp at hr
  | @cons pp ps tm tm1 tmF st st1 stF news cls v nb rs h1 _ ih =>
    intro p r hr n
    cases p with
    | zero =>
      simp at hr; subst hr
      constructor
      · exact .inl
      · rintro (h | ⟨j, _, _, hj, _⟩)
        · exact h
        · omega
    | succ p =>
      rw [ih (p := p) (r := r) (by simpa using hr) n]
      have hmore : n ∈ moreNews (keyOf ops pp.i pp.o) nb news ↔ n ∈ news ∨ ∃ ob, nb = some (n.2, ob) ∧ keyOf ops pp.i pp.o = n.1 := by
        unfold moreNews
        cases nb with
        | none => simp
        | some x =>
          obtain ⟨g, ob⟩ := x
          obtain ⟨a, c⟩ := n
          simp only [List.mem_cons, Prod.mk.injEq, Option.some.injEq]
          constructor
          · rintro (⟨rfl, rfl⟩ | h)
            · exact .inr ⟨ob, ⟨rfl, rfl⟩, rfl⟩
            · exact .inl h
          · rintro (h | ⟨ob', ⟨rfl, rfl⟩, rfl⟩)
            · exact .inr h
            · exact .inl ⟨rfl, rfl⟩
      rw [hmore]
      constructor
      · rintro ((h | ⟨ob, h2, h3⟩) | ⟨j, rj, ob, h2, h3, h4, h5⟩)
        · exact .inl h
        · exact .inr ⟨0, _, ob, by omega, rfl, h2, h3⟩
        · exact .inr ⟨j + 1, rj, ob, by omega, by simpa using h3, h4, h5⟩
      · rintro (h | ⟨j, rj, ob, h2, h3, h4, h5⟩)
        · exact .inl (.inl h)
        · cases j with
          | zero => simp at h3; subst h3; exact .inl (.inr ⟨ob, h4, h5⟩)
          | succ j => exact .inr ⟨j, rj, ob, by omega, by simpa using h3, h4, h5⟩
/-- An operation that is no effect leaves memory as it is, but for what it makes. -/
theorem Passed.calm {ps : List PR} {tm tmF : TV} {st stF : St} {rs : List Rec} (h : Passed E sub nt ops R0 ps tm st news rs tmF stF) {p : Nat} {r : Rec} (hr : rs[p]? = some r) (he : isEff r = false) :
    (stAt rs stF (p + 1)).c = (stAt rs stF p).c ∧ (stAt rs stF (p + 1)).lim = (stAt rs stF p).lim ∧
      ((r.nb = none ∧ ∀ g, (stAt rs stF (p + 1)).H.get g = (stAt rs stF p).H.get g) ∨ ∃ i ob, r.nb = some (i, ob) ∧ ∀ g, (stAt rs stF (p + 1)).H.get g = if g = i then some ob else (stAt rs stF p).H.get g) := by
  obtain ⟨_, tm1, h1⟩ := h.at_ hr
  have e1 : stAt rs stF p = r.s1 := by simp [stAt, hr]
  rw [h.succ hr, e1]
  rcases h1.how with ⟨_, _, _, e, hn⟩ | ⟨_, ⟨_, _, S, _, ⟨ob, _, hn, a, b, c⟩ | ⟨hn, e⟩⟩ | ⟨_, _, _, _, e, hn⟩ | ⟨_, hn, H, _, ⟨S, _, _, _, e⟩ | ⟨hc, _⟩⟩⟩
  · rw [e]; exact ⟨rfl, rfl, .inl ⟨hn, fun _ => rfl⟩⟩
  · exact ⟨a, b, .inr ⟨_, ob, hn, c⟩⟩
  · rw [e]; exact ⟨rfl, rfl, .inl ⟨hn, fun _ => rfl⟩⟩
  · rw [e]; exact ⟨rfl, rfl, .inl ⟨hn, fun _ => rfl⟩⟩
  · rw [e]; exact ⟨rfl, rfl, .inl ⟨hn, fun _ => rfl⟩⟩
  · rw [isEff_cls, hc] at he; cases he
/-- An operation makes this block. -/
def NewAt (rs : List Rec) (j g : Nat) (ob : AObj) : Prop := ∃ r, rs[j]? = some r ∧ r.nb = some (g, ob)
/-- From one place to another one without an effect between. -/
theorem Passed.near {ps : List PR} {tm tmF : TV} {st stF : St} {rs : List Rec} (h : Passed E sub nt ops R0 ps tm st news rs tmF stF) : ∀ (d p : Nat), p + d ≤ rs.length → (∀ e r, p ≤ e → e < p + d → rs[e]? = some r → isEff r = false) →
    (stAt rs stF (p + d)).c = (stAt rs stF p).c ∧ (stAt rs stF (p + d)).lim = (stAt rs stF p).lim ∧
      ∀ g, (∃ j ob, p ≤ j ∧ j < p + d ∧ NewAt rs j g ob ∧ (stAt rs stF (p + d)).H.get g = some ob) ∨ ((∀ j ob, p ≤ j → j < p + d → ¬ NewAt rs j g ob) ∧ (stAt rs stF (p + d)).H.get g = (stAt rs stF p).H.get g)
  | 0, p, _, _ => ⟨rfl, rfl, fun g => .inr ⟨fun j ob h1 h2 => by omega, rfl⟩⟩
  | d + 1, p, hl, hn => by
    obtain ⟨h1, h2, h3⟩ := Passed.near h d p (by omega) (fun e r a b => hn e r a (by omega))
    have hr : rs[p + d]? = some (rs[p + d]'(by omega)) := List.getElem?_eq_getElem (by omega)
    obtain ⟨c1, c2, c3⟩ := h.calm hr (hn (p + d) _ (by omega) (by omega) hr)
    refine ⟨c1.trans h1, c2.trans h2, fun g => ?_⟩
    rw [show p + (d + 1) = p + d + 1 by omega]
    rcases c3 with ⟨hnb, hg⟩ | ⟨i, ob, hnb, hg⟩
    · rw [hg]
      rcases h3 g with ⟨j, ob, a, b, c, e⟩ | ⟨a, b⟩
      · exact .inl ⟨j, ob, a, by omega, c, e⟩
      · refine .inr ⟨fun j ob q1 q2 q3 => ?_, b⟩
        by_cases hj : j = p + d
        · subst hj
          obtain ⟨r', q4, q5⟩ := q3
          rw [hr] at q4
          cases q4
          rw [hnb] at q5
          cases q5
        · exact a j ob q1 (by omega) q3
    · by_cases hgi : g = i
      · subst hgi
        refine .inl ⟨p + d, ob, by omega, by omega, ⟨_, hr, hnb⟩, ?_⟩
        rw [hg, if_pos rfl]
      · rw [hg, if_neg hgi]
        rcases h3 g with ⟨j, ob, a, b, c, e⟩ | ⟨a, b⟩
        · exact .inl ⟨j, ob, a, by omega, c, e⟩
        · refine .inr ⟨fun j ob' q1 q2 q3 => ?_, b⟩
          by_cases hj : j = p + d
          · subst hj
            obtain ⟨r', q4, q5⟩ := q3
            rw [hr] at q4
            cases q4
            rw [hnb] at q5
            cases q5
            exact hgi rfl
          · exact a j ob' q1 (by omega) q3
end
/-- The first effect of a stretch, and the last one. -/
theorem firstEff {rs : List Rec} : ∀ (d q : Nat), (∀ e r, q ≤ e → e < q + d → rs[e]? = some r → isEff r = false) ∨ ∃ e r, q ≤ e ∧ e < q + d ∧ rs[e]? = some r ∧ isEff r = true ∧ ∀ e' r', q ≤ e' → e' < e → rs[e']? = some r' → isEff r' = false
  | 0, q => .inl fun e r h1 h2 => by omega
  | d + 1, q => by
    by_cases hx : ∃ r, rs[q]? = some r ∧ isEff r = true
    · obtain ⟨r, h1, h2⟩ := hx
      exact .inr ⟨q, r, Nat.le_refl _, by omega, h1, h2, fun e' r' a b => by omega⟩
    · have hq : ∀ r, rs[q]? = some r → isEff r = false := fun r hr => by
        cases he : isEff r with
        | false => rfl
        | true => exact absurd ⟨r, hr, he⟩ hx
      rcases firstEff (rs := rs) d (q + 1) with h | ⟨e, r, h1, h2, h3, h4, h5⟩
      · refine .inl fun e r a b c => ?_
        by_cases heq : e = q
        · subst heq; exact hq r c
        · exact h e r (by omega) (by omega) c
      · refine .inr ⟨e, r, by omega, by omega, h3, h4, fun e' r' a b c => ?_⟩
        by_cases heq : e' = q
        · subst heq; exact hq r' c
        · exact h5 e' r' (by omega) b c
theorem lastEff {rs : List Rec} : ∀ (d i : Nat), (∀ e r, i ≤ e → e < i + d → rs[e]? = some r → isEff r = false) ∨ ∃ e r, i ≤ e ∧ e < i + d ∧ rs[e]? = some r ∧ isEff r = true ∧ ∀ e' r', e < e' → e' < i + d → rs[e']? = some r' → isEff r' = false
  | 0, i => .inl fun e r h1 h2 => by omega
  | d + 1, i => by
    by_cases hx : ∃ r, rs[i + d]? = some r ∧ isEff r = true
    · obtain ⟨r, h1, h2⟩ := hx
      exact .inr ⟨i + d, r, by omega, by omega, h1, h2, fun e' r' a b => by omega⟩
    · have hq : ∀ r, rs[i + d]? = some r → isEff r = false := fun r hr => by
        cases he : isEff r with
        | false => rfl
        | true => exact absurd ⟨r, hr, he⟩ hx
      rcases lastEff (rs := rs) d i with h | ⟨e, r, h1, h2, h3, h4, h5⟩
      · refine .inl fun e r a b c => ?_
        by_cases heq : e = i + d
        · subst heq; exact hq r c
        · exact h e r (by omega) (by omega) c
      · refine .inr ⟨e, r, by omega, by omega, h3, h4, fun e' r' a b c => ?_⟩
        by_cases heq : e' = i + d
        · subst heq; exact hq r' c
        · exact h5 e' r' (by omega) (by omega) c

end Go.Proofs.Ytfilbknnpjbmcaa.Cx
