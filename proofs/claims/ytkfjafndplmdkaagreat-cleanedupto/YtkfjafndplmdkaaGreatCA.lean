import Derived.Test.YtkfjafndplmdkaaGreatFA
import Derived.Test.YtkfjafndplmdkaaGreatTP
namespace Go.Proofs.YtkfjafndplmdkaaGreat
/-! ### Cleaned: fewer versions, and none misses them -/
/-- L' is L without some versions that are seen at none of the times S. -/
def Thin (S : Int → Prop) (L' L : List Ver) : Prop := ∀ P : List Ver → List Ver → Prop, P [] [] → (∀ (v : Ver) (r' r : List Ver), P r' r → P (v :: r') (v :: r)) →
  (∀ (v x : Ver) (r' r : List Ver), P r' r → r.find? (fun y => decide (y.key = v.key)) = some x → (∀ s, S s → ¬ (v.time ≤ s ∧ s < x.time)) → P r' (v :: r)) → P L' L
theorem Thin.nil {S : Int → Prop} : Thin S [] [] := fun _ h0 _ _ => h0
theorem Thin.keep {S : Int → Prop} {r' r : List Ver} (v : Ver) (h : Thin S r' r) : Thin S (v :: r') (v :: r) := fun P h0 h1 h2 => h1 v r' r (h P h0 h1 h2)
theorem Thin.drop {S : Int → Prop} {r' r : List Ver} (v x : Ver) (h : Thin S r' r) (hf : r.find? (fun y => decide (y.key = v.key)) = some x) (hn : ∀ s, S s → ¬ (v.time ≤ s ∧ s < x.time)) : Thin S r' (v :: r) := fun P h0 h1 h2 => h2 v x r' r (h P h0 h1 h2) hf hn
theorem Thin.ind {S : Int → Prop} {motive : ∀ L' L : List Ver, Thin S L' L → Prop} (nil : motive [] [] Thin.nil) (keep : ∀ {r' r : List Ver} (v : Ver) (h : Thin S r' r), motive r' r h → motive (v :: r') (v :: r) (Thin.keep v h))
    (drop : ∀ {r' r : List Ver} (v x : Ver) (h : Thin S r' r) (hf : r.find? (fun y => decide (y.key = v.key)) = some x) (hn : ∀ s, S s → ¬ (v.time ≤ s ∧ s < x.time)), motive r' r h → motive r' (v :: r) (Thin.drop v x h hf hn)) {L' L : List Ver} (h : Thin S L' L) : motive L' L h := by
  obtain ⟨h', m⟩ := h (fun L' L => ∃ h : Thin S L' L, motive L' L h) ⟨Thin.nil, nil⟩ (fun v _ _ ⟨h, m⟩ => ⟨Thin.keep v h, keep v h m⟩) (fun v x _ _ ⟨h, m⟩ hf hn => ⟨Thin.drop v x h hf hn, drop v x h hf hn m⟩)
  exact m
theorem Thin.refl (S : Int → Prop) : ∀ L : List Ver, Thin S L L
  | [] => .nil
  | v :: r => .keep v (Thin.refl S r)
theorem Thin.less {S S' : Int → Prop} {L' L : List Ver} (h : Thin S L' L) (hs : ∀ s, S' s → S s ∨ ∀ v ∈ L, v.time ≤ s) : Thin S' L' L := by
  induction h using Thin.ind with
  | nil => exact .nil
  | keep v _ ih => exact .keep v (ih (fun s hs' => (hs s hs').imp id (fun h v hv => h v (by simp [hv]))))
  | drop v x _ hf hn ih =>
    refine .drop v x (ih (fun s hs' => (hs s hs').imp id (fun h v hv => h v (by simp [hv])))) hf (fun s hs' hx => ?_)
    rcases hs s hs' with h1 | h1
    · exact hn s h1 hx
    · have := h1 x (by simp [List.mem_of_find?_eq_some hf])
      omega
theorem Thin.append {S : Int → Prop} {L' L : List Ver} (h : Thin S L' L) (X : List Ver) : Thin S (L' ++ X) (L ++ X) := by
  induction h using Thin.ind with
  | nil => exact Thin.refl S X
  | keep v _ ih => exact .keep v ih
  | drop v x _ hf hn ih =>
    refine .drop v x ih ?_ hn
    show List.find? _ (_ ++ X) = some x
    rw [List.find?_append, hf]
    rfl
theorem Thin.len {S : Int → Prop} {L' L : List Ver} (h : Thin S L' L) : L'.length ≤ L.length := by
  induction h using Thin.ind with
  | nil => exact Nat.le_refl _
  | keep v _ ih => simp only [List.length_cons]; omega
  | drop v x _ _ _ ih => simp only [List.length_cons]; omega
theorem Thin.mem {S : Int → Prop} {L' L : List Ver} (h : Thin S L' L) : ∀ v ∈ L', v ∈ L := by
  induction h using Thin.ind with
  | nil => intro v hv; exact hv
  | keep v _ ih => intro u hu; rcases List.mem_cons.1 hu with e | e; · simp [e]
                   · simp [ih u e]
  | drop v x _ _ _ ih => intro u hu; simp [ih u hu]
/-- the next version of a key. -/
theorem Thin.next {S : Int → Prop} {L' L : List Ver} (h : Thin S L' L) (hs : L.Pairwise (fun a b => a.time ≤ b.time)) (k : ByteArray) :
    (L.find? (fun y => decide (y.key = k)) = none → L'.find? (fun y => decide (y.key = k)) = none) ∧ ∀ x, L.find? (fun y => decide (y.key = k)) = some x → ∃ x', L'.find? (fun y => decide (y.key = k)) = some x' ∧ x.time ≤ x'.time ∧ ∀ s, S s → ¬ (x.time ≤ s ∧ s < x'.time) := by
  induction h using Thin.ind with
  | nil => exact ⟨fun h => h, fun x h => by simp at h⟩
  | keep v _ ih =>
    obtain ⟨s1, s2⟩ := List.pairwise_cons.1 hs
    obtain ⟨i1, i2⟩ := ih s2
    by_cases hk : v.key = k
    · refine ⟨fun h => by simp [hk] at h, fun x hx => ?_⟩
      have e : v = x := by simpa [hk] using hx
      subst e
      exact ⟨v, by simp [hk], Int.le_refl _, fun s _ hx => by omega⟩
    · simp only [List.find?_cons, hk, decide_false]
      exact ⟨i1, i2⟩
  | drop v y _ hf hn ih =>
    obtain ⟨s1, s2⟩ := List.pairwise_cons.1 hs
    obtain ⟨i1, i2⟩ := ih s2
    by_cases hk : v.key = k
    · refine ⟨fun h => by simp [hk] at h, fun x hx => ?_⟩
      have e : v = x := by simpa [hk] using hx
      subst e
      rw [hk] at hf
      obtain ⟨x', h1, h2, h3⟩ := i2 y hf
      have := s1 y (List.mem_of_find?_eq_some hf)
      refine ⟨x', h1, by omega, fun s hs' hx => ?_⟩
      by_cases h4 : s < y.time
      · exact hn s hs' ⟨hx.1, h4⟩
      · exact h3 s hs' ⟨by omega, hx.2⟩
    · simp only [List.find?_cons, hk, decide_false]
      exact ⟨i1, i2⟩
/-- CLEAN behind a CLEAN: the same is left. -/
theorem Thin.kept {ts : List PT} {L' L : List Ver} (h : Thin (fun s => ∃ T ∈ ts, T.start = s) L' L) (hs : L.Pairwise (fun a b => a.time ≤ b.time)) : keptL ts L' = keptL ts L := by
  induction h using Thin.ind with
  | nil => rfl
  | @keep r' r v hr ih =>
    obtain ⟨s1, s2⟩ := List.pairwise_cons.1 hs
    obtain ⟨i1, i2⟩ := hr.next s2 v.key
    have e : keptB ts v r' = keptB ts v r := by
      unfold keptB
      cases hf : r.find? (fun x => decide (x.key = v.key)) with
      | none => rw [i1 hf]
      | some x =>
        obtain ⟨x', h1, h2, h3⟩ := i2 x hf
        rw [h1]
        simp only
        rw [Bool.eq_iff_iff, List.any_eq_true, List.any_eq_true]
        refine ⟨fun ⟨T, hT, hb⟩ => ⟨T, hT, ?_⟩, fun ⟨T, hT, hb⟩ => ⟨T, hT, ?_⟩⟩
        · simp at hb ⊢
          refine ⟨hb.1, ?_⟩
          have := h3 T.start ⟨T, hT, rfl⟩
          omega
        · simp at hb ⊢
          exact ⟨hb.1, by omega⟩
    simp only [keptL, e, ih s2]
  | @drop r' r v x hr hf hn ih =>
    obtain ⟨s1, s2⟩ := List.pairwise_cons.1 hs
    have e : keptB ts v r = false := by
      unfold keptB
      rw [hf]
      simp only
      rw [List.any_eq_false]
      intro T hT hb
      simp at hb
      exact hn T.start ⟨T, hT, rfl⟩ hb
    simp only [keptL, e, ih s2]
    simp
theorem thin_kept (ts : List PT) : ∀ L : List Ver, Thin (fun s => ∃ T ∈ ts, T.start = s) (keptL ts L) L
  | [] => .nil
  | v :: r => by
    unfold keptL
    split
    · exact .keep v (thin_kept ts r)
    · rename_i hb
      unfold keptB at hb
      split at hb
      · simp at hb
      · rename_i x hx
        refine .drop v x (thin_kept ts r) hx (fun s ⟨T, hT, he⟩ hh => hb ?_)
        exact List.any_eq_true.2 ⟨T, hT, by simp [he, hh.1, hh.2]⟩
/-- what is seen. -/
theorem Thin.at {S : Int → Prop} {L' L : List Ver} (h : Thin S L' L) {s : Int} (hs : S s ∨ ∀ v ∈ L, v.time ≤ s) (k : ByteArray) : atM L' k s = atM L k s := by
  have key : L'.reverse.find? (fun v => decide (v.key = k) && decide (v.time ≤ s)) = L.reverse.find? (fun v => decide (v.key = k) && decide (v.time ≤ s)) := by
    induction h using Thin.ind with
    | nil => rfl
    | keep v _ ih =>
      rw [List.reverse_cons, List.reverse_cons, List.find?_append, List.find?_append, ih (hs.imp id (fun h v hv => h v (by simp [hv])))]
    | @drop r' r v x hr hf hn ih =>
      rw [List.reverse_cons, List.find?_append, ih (hs.imp id (fun h v hv => h v (by simp [hv])))]
      cases hq : r.reverse.find? (fun v => decide (v.key = k) && decide (v.time ≤ s)) with
      | some u => rfl
      | none =>
        have hv : (decide (v.key = k) && decide (v.time ≤ s)) = false := by
          refine Classical.byContradiction fun hp => ?_
          have hp' : v.key = k ∧ v.time ≤ s := by simpa using hp
          have hxm := List.mem_of_find?_eq_some hf
          have hxk : x.key = v.key := by simpa using List.find?_some hf
          have h1 := List.find?_eq_none.1 hq x (by simpa using hxm)
          have h2 : s < x.time := by
            simp [hxk, hp'.1] at h1
            exact h1
          rcases hs with h3 | h3
          · exact hn s h3 ⟨hp'.2, h2⟩
          · have := h3 x (by simp [hxm])
            omega
        simp [hv]
  unfold atM
  rw [key]
/-- What is scanned hangs on what each key holds at that time alone, and on the own writes. -/
theorem items_viewW {ws L L' : List Ver} {t : Int} (h : ∀ k, atM L k t = atM L' k t) (pre : ByteArray) : itemsR ws L t (keysC (L ++ ws) pre) = itemsR ws L' t (keysC (L' ++ ws) pre) := by
  obtain ⟨a1, m1⟩ := keysC_of (L ++ ws) pre
  obtain ⟨a2, m2⟩ := keysC_of (L' ++ ws) pre
  have es : ∀ k, seesM ws L t k = seesM ws L' t k := fun k => by
    unfold seesM
    cases ws.find? (fun v => decide (v.key = k)) with
    | none => exact h k
    | some v => rfl
  have ef : itemR ws L t = itemR ws L' t := by
    funext k
    unfold itemR
    rw [es k]
  unfold itemsR
  rw [ef]
  generalize keysC (L ++ ws) pre = K at *
  generalize keysC (L' ++ ws) pre = K' at *
  have fm : ∀ l : List ByteArray, l.filterMap (itemR ws L' t) = (l.filter (fun k => (seesM ws L' t k).2)).filterMap (itemR ws L' t) := fun l => by
    rw [List.filterMap_filter]
    congr 1
    funext k
    by_cases hx : (seesM ws L' t k).2 = true
    · rw [if_pos hx]
    · rw [if_neg hx]
      unfold itemR
      rw [if_neg hx]
  rw [fm K, fm K']
  congr 1
  have sm : ∀ (M : List Ver) (x : ByteArray), (seesM ws M t x).2 = true → ∃ v ∈ M ++ ws, v.key = x := fun M x hx => by
    unfold seesM at hx
    split at hx
    · rename_i v hv
      exact ⟨v, by simp [List.mem_of_find?_eq_some hv], by simpa using List.find?_some hv⟩
    · obtain ⟨v, hv, hk⟩ := atM_mem hx
      exact ⟨v, by simp [hv], hk⟩
  refine asc_unique (a1.filter _) (a2.filter _) fun x => ?_
  rw [List.mem_filter, List.mem_filter, m1, m2]
  refine ⟨fun ⟨⟨u, _, _, h2⟩, h3⟩ => ⟨?_, h3⟩, fun ⟨⟨u, _, _, h2⟩, h3⟩ => ⟨?_, h3⟩⟩
  · obtain ⟨v, hv, hk⟩ := sm L' x h3
    exact ⟨v, hv, hk, h2⟩
  · have h4 := h3
    rw [← es x] at h4
    obtain ⟨v, hv, hk⟩ := sm L x h4
    exact ⟨v, hv, hk, h2⟩
/-- the two states. -/
structure CR (W : PW) (L' : List Ver) : Prop where
  th : Thin (fun s => ∃ T ∈ W.ts, T.start = s) L' W.L
  so : W.L.Pairwise (fun a b => a.time ≤ b.time)
  lt : ∀ v ∈ W.L, v.time ≤ W.clock
  st : ∀ T ∈ W.ts, T.start ≤ W.clock
theorem CR.less {W : PW} {L' : List Ver} (h : CR W L') (ts : List PT) (q : List Int) (hs : ∀ T ∈ ts, ∃ X ∈ W.ts, X.start = T.start) : CR { W with ts := ts, q := q } L' :=
  ⟨h.th.less (fun s ⟨T, hT, he⟩ => by obtain ⟨X, hX, e⟩ := hs T hT; exact Or.inl ⟨X, hX, by rw [e, he]⟩), h.so, h.lt, fun T hT => by obtain ⟨X, hX, e⟩ := hs T hT; rw [← e]; exact h.st X hX⟩
theorem set_starts {ts : List PT} {k : Nat} {T X : PT} (hk : ts[k]? = some T) (hX : X.start = T.start) : ∀ Y ∈ ts.set k X, ∃ Z ∈ ts, Z.start = Y.start := fun Y hY => by
  rcases List.mem_or_eq_of_mem_set hY with h | h
  · exact ⟨Y, h, rfl⟩
  · exact ⟨T, List.mem_of_getElem? hk, by rw [h, hX]⟩
theorem CR.of {W : PW} {L' : List Ver} (h : CR W L') {k : Nat} {T : PT} (hk : W.ts[k]? = some T) (o : OpM) : (ofM { W with L := L' } k T o).1 = (ofM W k T o).1 ∧ ∃ L2, (ofM { W with L := L' } k T o).2 = { (ofM W k T o).2 with L := L2 } ∧ CR (ofM W k T o).2 L2 := by
  have hT := List.mem_of_getElem? hk
  have hv : ∀ k, atM L' k T.start = atM W.L k T.start := h.th.at (Or.inl ⟨T, hT, rfl⟩)
  have es : ∀ key, seesM T.ws L' T.start key = seesM T.ws W.L T.start key := fun key => by
    unfold seesM
    cases T.ws.find? (fun v => decide (v.key = key)) with
    | none => exact hv key
    | some v => rfl
  unfold ofM
  split
  · exact ⟨rfl, L', rfl, h⟩
  split
  · refine ⟨?_, L', rfl, h.less _ _ (set_starts hk rfl)⟩
    simp only [es]
  split
  · refine ⟨?_, L', rfl, h.less _ _ (set_starts hk rfl)⟩
    simp only
    rw [items_viewW (fun k => hv k) o.key]
  split
  · split
    · exact ⟨rfl, L', rfl, h⟩
    · exact ⟨rfl, L', rfl, h.less _ _ (set_starts hk rfl)⟩
  split
  · exact ⟨rfl, L', rfl, h.less _ _ (set_starts hk rfl)⟩
  split
  · exact ⟨rfl, L', rfl, h.less _ _ (fun Y hY => ⟨Y, (List.mem_filter.1 hY).1, rfl⟩)⟩
  split
  · exact ⟨rfl, L', rfl, h⟩
  · exact ⟨rfl, L', rfl, h.less _ _ (fun Y hY => ⟨Y, hY, rfl⟩)⟩
theorem CR.decide {W : PW} {L' : List Ver} (h : CR W L') (T : PT) (hn : (decideM W T).1.code ≠ 10) : (decideM { W with L := L' } T).1 = (decideM W T).1 ∧ ∃ L2, (decideM { W with L := L' } T).2 = { (decideM W T).2 with L := L2 } ∧ CR (decideM W T).2 L2 := by
  have hl := h.th.len
  have er : refusedM W T ≠ 10 → T.ws ≠ [] → refusedM { W with L := L' } T = refusedM W T := fun hr _ => by
    unfold refusedM at hr ⊢
    simp only
    by_cases c1 : 0 < T.ks.length + T.ps.length ∧ T.start < W.low
    · rw [if_pos c1, if_pos c1]
    · rw [if_neg c1, if_neg c1]
      rw [if_neg c1] at hr
      by_cases c2 : conflM W.rows T = true
      · rw [if_pos c2, if_pos c2]
      · rw [if_neg c2, if_neg c2]
        rw [if_neg c2] at hr
        by_cases c3 : 100 < W.L.length + T.ws.length
        · rw [if_pos c3] at hr
          exact absurd rfl hr
        · rw [if_neg c3, if_neg (by omega)]
  unfold decideM at hn ⊢
  by_cases hw : T.ws = []
  · rw [if_pos hw, if_pos hw]
    exact ⟨rfl, L', rfl, h⟩
  · rw [if_neg hw] at hn
    rw [if_neg hw, if_neg hw]
    have hr : refusedM W T ≠ 10 := fun e => by
      rw [if_pos (by rw [e]; decide)] at hn
      exact hn e
    rw [er hr hw]
    by_cases h0 : refusedM W T ≠ 0
    · rw [if_pos h0, if_pos h0]
      exact ⟨rfl, L', rfl, h⟩
    · rw [if_neg h0, if_neg h0]
      refine ⟨rfl, L' ++ stampM T.ws (W.clock + 1), rfl, ⟨h.th.append _, ?_, ?_, ?_⟩⟩
      · refine List.pairwise_append.2 ⟨h.so, ?_, fun a ha b hb => ?_⟩
        · unfold stampM
          rw [List.pairwise_map]
          exact List.Pairwise.imp (fun _ => Int.le_refl _) (List.pairwise_of_forall (R := fun _ _ => True) (fun _ _ => trivial))
        · obtain ⟨u, _, rfl⟩ := List.mem_map.1 hb
          have := h.lt a ha
          show a.time ≤ W.clock + 1
          omega
      · intro v hv
        rcases List.mem_append.1 hv with hv | hv
        · have := h.lt v hv
          show v.time ≤ W.clock + 1
          omega
        · obtain ⟨u, _, rfl⟩ := List.mem_map.1 hv
          exact Int.le_refl _
      · intro X hX
        have := h.st X hX
        show X.start ≤ W.clock + 1
        omega
theorem CR.flush : ∀ (n : Nat) {W : PW} {L' : List Ver}, CR W L' → (∀ d ∈ (flushM n W).1, d.code ≠ 10) → (flushM n { W with L := L' }).1 = (flushM n W).1 ∧ ∃ L2, (flushM n { W with L := L' }).2 = { (flushM n W).2 with L := L2 } ∧ CR (flushM n W).2 L2
  | 0, W, L', h, _ => ⟨rfl, L', rfl, h⟩
  | n + 1, W, L', h, hn => by
    rcases (show W.q = [] ∨ ∃ t q, W.q = t :: q from by cases W.q <;> simp) with hq | ⟨t, q, hq⟩
    · rw [flushM_nil _ W hq, flushM_nil _ { W with L := L' } hq]
      exact ⟨rfl, L', rfl, h⟩
    · cases hf : W.ts.find? (fun T => T.start == t) with
      | none =>
        have e1 : flushM (n + 1) W = ([], W) := by simp [flushM, hq, hf]
        have e2 : flushM (n + 1) { W with L := L' } = ([], { W with L := L' }) := by simp [flushM, hq, hf]
        rw [e1, e2]
        exact ⟨rfl, L', rfl, h⟩
      | some T =>
        rw [flushM_cons n W hq hf] at hn
        rw [flushM_cons n W hq hf, flushM_cons n { W with L := L' } hq hf]
        have h1 : CR (outM W t q) L' := h.less _ _ (fun Y hY => ⟨Y, (List.mem_filter.1 hY).1, rfl⟩)
        obtain ⟨d1, L2, d2, d3⟩ := h1.decide T (hn _ (by simp))
        have eo : outM { W with L := L' } t q = { outM W t q with L := L' } := rfl
        rw [eo, d1, d2]
        obtain ⟨f1, L3, f2, f3⟩ := CR.flush n d3 (fun d hd => hn d (by simp [hd]))
        simp only
        rw [f1, f2]
        exact ⟨rfl, L3, rfl, f3⟩
/-- A STEP. -/
theorem CR.step {W : PW} {L' : List Ver} (h : CR W L') (o : OpM) (hn : ∀ d ∈ (stepR W o).1.done, d.code ≠ 10) : (o.kind ≠ 10 → o.kind ≠ 11 → (stepR { W with L := L' } o).1 = (stepR W o).1) ∧ ∃ L2, (stepR { W with L := L' } o).2 = { (stepR W o).2 with L := L2 } ∧ CR (stepR W o).2 L2 := by
  by_cases h1 : o.kind = 1
  · unfold stepR
    rw [if_pos h1, if_pos h1]
    by_cases h6 : 6 ≤ W.ts.length
    · rw [if_pos h6, if_pos h6]
      exact ⟨fun _ _ => rfl, L', rfl, h⟩
    · rw [if_neg h6, if_neg h6]
      refine ⟨fun _ _ => rfl, L', rfl, h.th.less (fun s ⟨T, hT, he⟩ => ?_), h.so, fun v hv => ?_, fun T hT => ?_⟩
      · rcases List.mem_append.1 hT with e | e
        · exact Or.inl ⟨T, e, he⟩
        · refine Or.inr (fun v hv => ?_)
          have := h.lt v hv
          rw [← he, List.mem_singleton.1 e]
          simp only
          omega
      · have := h.lt v hv
        show v.time ≤ W.clock + 1
        omega
      · rcases List.mem_append.1 hT with e | e
        · have := h.st T e
          show T.start ≤ W.clock + 1
          omega
        · rw [List.mem_singleton.1 e]
          exact Int.le_refl _
  by_cases h2 : 2 ≤ o.kind ∧ o.kind ≤ 7
  · rw [stepR_of (W := W) h2.1 h2.2, stepR_of (W := { W with L := L' }) h2.1 h2.2]
    simp only
    cases hf : W.ts.findIdx? (fun T => T.start == o.t) with
    | none => exact ⟨fun _ _ => rfl, L', rfl, h⟩
    | some k =>
      simp only
      by_cases hq : o.t ∈ W.q
      · rw [if_pos hq, if_pos hq]
        exact ⟨fun _ _ => rfl, L', rfl, h⟩
      · rw [if_neg hq, if_neg hq]
        cases hk : W.ts[k]? with
        | none => exact ⟨fun _ _ => rfl, L', rfl, h⟩
        | some T =>
          obtain ⟨a, b⟩ := h.of hk o
          exact ⟨fun _ _ => a, b⟩
  by_cases h8 : o.kind = 8
  · have e1 : ∀ X : PW, stepR X o = (if o.n < 0 ∨ 100 < o.n then (errA 11, X) else (⟨0, 0, false, ⟨#[]⟩, [], (flushM o.n.toNat X).1, []⟩, (flushM o.n.toNat X).2)) := fun X => by
      unfold stepR
      rw [if_neg h1, if_neg h2, if_pos h8]
    rw [e1 W] at hn ⊢
    rw [e1]
    by_cases hb : o.n < 0 ∨ 100 < o.n
    · rw [if_pos hb, if_pos hb]
      exact ⟨fun _ _ => rfl, L', rfl, h⟩
    · rw [if_neg hb] at hn
      rw [if_neg hb, if_neg hb]
      obtain ⟨f1, L2, f2, f3⟩ := CR.flush o.n.toNat h hn
      refine ⟨fun _ _ => ?_, L2, f2, f3⟩
      simp only
      rw [f1]
  by_cases h9 : o.kind = 9
  · have e1 : ∀ X : PW, stepR X o = (⟨0, X.ts.length, false, ⟨#[]⟩, [], [], []⟩, { X with ts := [], q := [], rows := [], low := X.clock }) := fun X => by
      unfold stepR
      rw [if_neg h1, if_neg h2, if_neg h8, if_pos h9]
    rw [e1, e1]
    exact ⟨fun _ _ => rfl, L', rfl, h.th.less (fun s ⟨T, hT, _⟩ => by simp at hT), h.so, h.lt, fun T hT => by simp at hT⟩
  by_cases h10 : o.kind = 10
  · have e1 : ∀ X : PW, stepR X o = (⟨0, X.L.length - (cleanL X).length, false, ⟨#[]⟩, [], [], []⟩, { X with L := cleanL X }) := fun X => by
      unfold stepR
      rw [if_neg h1, if_neg h2, if_neg h8, if_neg h9, if_pos h10]
    rw [e1, e1]
    have ek : cleanL { W with L := L' } = cleanL W := by
      rw [cleanL_eq, cleanL_eq]
      exact h.th.kept h.so
    have hsub : (cleanL W).Sublist W.L := by rw [cleanL_eq]; exact keptL_sub _ _
    refine ⟨fun hx => absurd h10 hx, cleanL W, ?_, Thin.refl _ _, h.so.sublist hsub, fun v hv => h.lt v (hsub.subset hv), h.st⟩
    simp only
    rw [ek]
  by_cases h11 : o.kind = 11
  · have e1 : ∀ X : PW, (stepR X o).2 = X := fun X => by
      unfold stepR
      rw [if_neg h1, if_neg h2, if_neg h8, if_neg h9, if_neg h10, if_pos h11]
    refine ⟨fun _ hx => absurd h11 hx, L', ?_, ?_⟩
    · rw [e1, e1]
    · rw [e1]; exact h
  · have e1 : ∀ X : PW, stepR X o = (errA 1, X) := fun X => by
      unfold stepR
      rw [if_neg h1, if_neg h2, if_neg h8, if_neg h9, if_neg h10, if_neg h11]
    rw [e1, e1]
    exact ⟨fun _ _ => rfl, L', rfl, h⟩
def noRoom (As : List AnsM) : Prop := ∀ A ∈ As, ∀ d ∈ A.done, d.code ≠ 10
theorem CR.runs : ∀ (ops : List OpM) {W : PW} {L' : List Ver}, CR W L' → noRoom (ansP W ops) → ∀ i (h : i < ops.length), ops[i].kind ≠ 10 → ops[i].kind ≠ 11 → (ansP { W with L := L' } ops)[i]? = (ansP W ops)[i]?
  | [], _, _, _, _, _, h, _, _ => by simp at h
  | o :: r, W, L', h, hn, i, hi, h10, h11 => by
    obtain ⟨a, L2, e, h2⟩ := h.step o (hn _ (by simp [ansP]))
    cases i with
    | zero =>
      simp only [ansP, List.getElem?_cons_zero]
      rw [← a h10 h11]
    | succ i =>
      simp only [ansP, List.getElem?_cons_succ]
      have e' : (stepP { W with L := L' } o).2 = { (stepP W o).2 with L := L2 } := e
      rw [e']
      exact CR.runs r h2 (fun A hA => hn A (by simp [ansP, hA])) i (by simpa using hi) h10 h11
theorem cr_clean (xs : List OpM) : CR (stP p0 xs) (cleanL (stP p0 xs)) := by
  obtain ⟨H, h⟩ := serial_inv xs
  rw [cleanL_eq]
  exact ⟨thin_kept _ _, h.Hs.sublist h.sub, fun v hv => h.Ht v (h.sub.subset hv), fun T hT => (h.st T hT).2⟩
abbrev cOp : OpM := ⟨10, 0, ⟨#[]⟩, ⟨#[]⟩, 0⟩
/-- THE ANSWERS OF CLEANED's SCRIPTS. -/
theorem cleaned_ans (A B : List OpM) (hn : noRoom (ansP p0 (A ++ B))) : (∀ i, i < A.length → (ansP p0 (A ++ cOp :: B))[i]? = (ansP p0 (A ++ B))[i]?) ∧ ∀ i (h : i < B.length), B[i].kind ≠ 10 → B[i].kind ≠ 11 → (ansP p0 (A ++ cOp :: B))[A.length + 1 + i]? = (ansP p0 (A ++ B))[A.length + i]? := by
  have el : (ansP p0 A).length = A.length := ansP_len _ _
  have ec : stepR (stP p0 A) cOp = (⟨0, (stP p0 A).L.length - (cleanL (stP p0 A)).length, false, ⟨#[]⟩, [], [], []⟩, { stP p0 A with L := cleanL (stP p0 A) }) := by simp [stepR]
  rw [ansP_append] at hn
  rw [ansP_append, ansP_append]
  refine ⟨fun i hi => ?_, fun i hi h10 h11 => ?_⟩
  · rw [List.getElem?_append_left (by omega), List.getElem?_append_left (by omega)]
  · rw [List.getElem?_append_right (by omega), List.getElem?_append_right (by omega), el]
    have e1 : A.length + 1 + i - A.length = i + 1 := by omega
    have e2 : A.length + i - A.length = i := by omega
    rw [e1, e2]
    simp only [ansP, List.getElem?_cons_succ, stepP, ec]
    exact CR.runs B (cr_clean A) (fun X hX => hn X (List.mem_append.2 (Or.inr hX))) i hi h10 h11
end Go.Proofs.YtkfjafndplmdkaaGreat
