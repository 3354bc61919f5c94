import Derived.Test.YtkfjafndplmdkaaGreatTO
namespace Go.Proofs.YtkfjafndplmdkaaGreat
/-! ### plain: what a transaction sees does not change -/
theorem keys_exist (pre : ByteArray) : ∀ all : List Ver, ∃ K, KeysOf all pre K
  | [] => ⟨[], List.Pairwise.nil, fun x => by simp⟩
  | v :: r => by
    obtain ⟨K, ha, hm⟩ := keys_exist pre r
    by_cases hp : pk pre v.key = true
    · refine ⟨K.filter (fun x => decide (ltB x v.key)) ++ v.key :: K.filter (fun x => decide (ltB v.key x)), ?_, fun x => ?_⟩
      · refine List.pairwise_append.2 ⟨ha.filter _, List.pairwise_cons.2 ⟨fun y hy => of_decide_eq_true (List.mem_filter.1 hy).2, ha.filter _⟩, fun a h1 b h2 => ?_⟩
        have h3 : ltB a v.key := of_decide_eq_true (List.mem_filter.1 h1).2
        rcases List.mem_cons.1 h2 with e | e
        · rw [e]; exact h3
        · exact ltB_trans h3 (of_decide_eq_true (List.mem_filter.1 e).2)
      · rw [List.mem_append, List.mem_cons, List.mem_filter, List.mem_filter, hm]
        simp only [decide_eq_true_eq]
        refine ⟨fun h => ?_, fun ⟨u, hu, h1, h2⟩ => ?_⟩
        · rcases h with ⟨⟨u, hu, h1, h2⟩, _⟩ | h | ⟨⟨u, hu, h1, h2⟩, _⟩
          · exact ⟨u, List.mem_cons_of_mem _ hu, h1, h2⟩
          · exact ⟨v, List.mem_cons_self .., h.symm, h ▸ hp⟩
          · exact ⟨u, List.mem_cons_of_mem _ hu, h1, h2⟩
        · rcases List.mem_cons.1 hu with e | e
          · exact Or.inr (Or.inl (by rw [← h1, e]))
          · by_cases e1 : x = v.key
            · exact Or.inr (Or.inl e1)
            · by_cases e2 : ltB x v.key
              · exact Or.inl ⟨⟨u, e, h1, h2⟩, e2⟩
              · exact Or.inr (Or.inr ⟨⟨u, e, h1, h2⟩, ltB_tri e2 e1⟩)
    · refine ⟨K, ha, fun x => (hm x).trans ⟨fun ⟨u, hu, h⟩ => ⟨u, List.mem_cons_of_mem _ hu, h⟩, fun ⟨u, hu, h1, h2⟩ => ?_⟩⟩
      rcases List.mem_cons.1 hu with e | e
      · rw [e] at h1
        rw [← h1] at h2
        exact absurd h2 hp
      · exact ⟨u, e, h1, h2⟩
theorem atM_mem {L : List Ver} {key : ByteArray} {t : Int} (h : (atM L key t).2 = true) : ∃ v ∈ L, v.key = key := by
  unfold atM at h
  split at h
  · rename_i v hv
    have h1 := List.find?_some hv
    have h2 := List.mem_of_find?_eq_some hv
    simp at h1
    exact ⟨v, by simpa using h2, h1.1⟩
  · simp at h
/-- What is scanned with no writes of one's own hangs on what each key holds at that time alone. -/
theorem items_view {L L' : List Ver} {t : Int} (h : ∀ k, atM L k t = atM L' k t) (pre : ByteArray) : itemsR [] L t (keysC (L ++ []) pre) = itemsR [] L' t (keysC (L' ++ []) pre) := by
  obtain ⟨a1, m1⟩ := keysC_of (L ++ []) pre
  obtain ⟨a2, m2⟩ := keysC_of (L' ++ []) pre
  have ef : itemR [] L t = itemR [] L' t := by
    funext k
    have e : seesM [] L t k = seesM [] L' t k := h k
    unfold itemR
    rw [e]
  unfold itemsR
  rw [ef]
  generalize keysC (L ++ []) pre = K at *
  generalize keysC (L' ++ []) pre = K' at *
  have fm : ∀ l : List ByteArray, l.filterMap (itemR [] L' t) = (l.filter (fun k => (atM L' k t).2)).filterMap (itemR [] L' t) := fun l => by
    rw [List.filterMap_filter]
    congr 1
    funext k
    by_cases hx : (atM L' k t).2 = true
    · rw [if_pos hx]
    · have e : seesM [] L' t k = atM L' k t := rfl
      rw [if_neg hx]
      unfold itemR
      rw [e, if_neg hx]
  rw [fm K, fm K']
  congr 1
  refine asc_unique (a1.filter _) (a2.filter _) fun x => ?_
  rw [List.mem_filter, List.mem_filter, m1, m2]
  refine ⟨fun ⟨⟨u, _, _, h2⟩, h3⟩ => ⟨?_, h3⟩, fun ⟨⟨u, _, _, h2⟩, h3⟩ => ⟨?_, h3⟩⟩
  · obtain ⟨v, hv, hk⟩ := atM_mem h3
    exact ⟨v, by simpa using hv, hk, h2⟩
  · rw [← h x] at h3
    obtain ⟨v, hv, hk⟩ := atM_mem h3
    exact ⟨v, by simpa using hv, hk, h2⟩
/-- Later versions are not seen. -/
theorem atM_later {L X : List Ver} {t : Int} (h : ∀ v ∈ X, t < v.time) (key : ByteArray) : atM (L ++ X) key t = atM L key t := by
  unfold atM
  rw [List.reverse_append, List.find?_append]
  have e : X.reverse.find? (fun v => decide (v.key = key) && decide (v.time ≤ t)) = none := by
    rw [List.find?_eq_none]
    intro v hv
    have := h v (by simpa using hv)
    simp
    intro _
    omega
  rw [e]
  rfl
theorem find_idx {t : Int} : ∀ {l : List PT} {T : PT}, l.find? (fun T => T.start == t) = some T → ∃ k, l.findIdx? (fun T => T.start == t) = some k ∧ l[k]? = some T ∧ T.start = t
  | [], _, h => by simp at h
  | X :: r, T, h => by
    rw [List.find?_cons] at h
    rw [List.findIdx?_cons]
    cases hx : X.start == t
    · rw [hx] at h
      obtain ⟨k, h1, h2, h3⟩ := find_idx h
      exact ⟨k + 1, by simp [h1], by simpa using h2, h3⟩
    · rw [hx] at h
      have e : X = T := by simpa using h
      subst e
      exact ⟨0, by simp, by simp, by simpa using hx⟩
theorem find_set_other {t : Int} {X : PT} (hX : X.start ≠ t) : ∀ {l : List PT} {k : Nat} {T : PT}, l[k]? = some T → T.start ≠ t → (l.set k X).find? (fun T => T.start == t) = l.find? (fun T => T.start == t)
  | [], _, _, h, _ => by simp at h
  | Y :: r, 0, T, h, hT => by
    have e : Y = T := by simpa using h
    subst e
    simp only [List.set_cons_zero, List.find?_cons]
    rw [beq_eq_false_iff_ne.2 hX, beq_eq_false_iff_ne.2 hT]
  | Y :: r, k + 1, T, h, hT => by
    simp only [List.set_cons_succ, List.find?_cons]
    rw [find_set_other hX (by simpa using h) hT]
theorem find_set_same {t : Int} {X : PT} (hX : X.start = t) : ∀ {l : List PT} {k : Nat}, l.findIdx? (fun T => T.start == t) = some k → (l.set k X).find? (fun T => T.start == t) = some X
  | [], _, h => by simp at h
  | Y :: r, k, h => by
    rw [List.findIdx?_cons] at h
    cases hy : Y.start == t
    · rw [hy] at h
      cases hk : r.findIdx? (fun T => T.start == t) with
      | none => rw [hk] at h; simp at h
      | some j =>
        rw [hk] at h
        have e : j + 1 = k := by simpa using h
        subst e
        simp only [List.set_cons_succ, List.find?_cons]
        rw [hy]
        exact find_set_same hX hk
    · rw [hy] at h
      have e : 0 = k := by simpa using h
      subst e
      simp [hX]
theorem find_out_other {t m : Int} (h : m ≠ t) : ∀ l : List PT, (l.filter (fun x => decide (x.start ≠ m))).find? (fun T => T.start == t) = l.find? (fun T => T.start == t)
  | [] => rfl
  | Y :: r => by
    rw [List.filter_cons]
    by_cases hy : Y.start = m
    · rw [if_neg (by simp [hy]), List.find?_cons, beq_eq_false_iff_ne.2 (by rw [hy]; exact h)]
      exact find_out_other h r
    · rw [if_pos (by simp [hy]), List.find?_cons, List.find?_cons, find_out_other h r]
/-- Transaction t is open, it has written ws, it sees V. -/
structure HasP (t : Int) (ws : List Ver) (V : ByteArray → ByteArray × Bool) (W : PW) : Prop where
  f : ∃ T, W.ts.find? (fun T => T.start == t) = some T ∧ T.ws = ws
  q : t ∉ W.q
  c : t ≤ W.clock
  v : ∀ key, atM W.L key t = V key
theorem HasP.decide {t : Int} {ws : List Ver} {V : ByteArray → ByteArray × Bool} {W : PW} (h : HasP t ws V W) (T : PT) : HasP t ws V (decideM W T).2 := by
  unfold decideM
  split
  · exact h
  · split
    · exact h
    · refine ⟨h.f, h.q, ?_, fun key => ?_⟩
      · have := h.c
        show t ≤ W.clock + 1
        omega
      · rw [← h.v key]
        refine atM_later (fun v hv => ?_) key
        obtain ⟨u, _, rfl⟩ := List.mem_map.1 hv
        have := h.c
        show t < W.clock + 1
        omega
theorem HasP.out {t m : Int} {ws : List Ver} {V : ByteArray → ByteArray × Bool} {W : PW} {q : List Int} (h : HasP t ws V W) (hq : W.q = m :: q) : HasP t ws V (outM W m q) := by
  have h1 := h.q
  rw [hq, List.mem_cons, not_or] at h1
  obtain ⟨T, hf, hw⟩ := h.f
  exact ⟨⟨T, (find_out_other (Ne.symm h1.1) W.ts).trans hf, hw⟩, h1.2, h.c, h.v⟩
theorem HasP.flush {t : Int} {ws : List Ver} {V : ByteArray → ByteArray × Bool} : ∀ (n : Nat) {W : PW}, HasP t ws V W → HasP t ws V (flushM n W).2
  | 0, _, h => h
  | n + 1, W, h => by
    unfold flushM
    split
    · exact h
    · rename_i m q hq
      split
      · exact h
      · exact HasP.flush n ((h.out hq).decide _)
theorem HasP.upd {t : Int} {ws : List Ver} {V : ByteArray → ByteArray × Bool} {W : PW} {k : Nat} {T X : PT} (h : HasP t ws V W) (hk : W.ts[k]? = some T) (hT : T.start ≠ t) (hX : X.start ≠ t) : HasP t ws V { W with ts := W.ts.set k X } := by
  obtain ⟨T', hf, hw⟩ := h.f
  exact ⟨⟨T', (find_set_other hX hk hT).trans hf, hw⟩, h.q, h.c, h.v⟩
theorem HasP.ofO {t : Int} {ws : List Ver} {V : ByteArray → ByteArray × Bool} {W : PW} {k : Nat} {T : PT} {o : OpM} (h : HasP t ws V W) (hk : W.ts[k]? = some T) (hT : T.start ≠ t) : HasP t ws V (ofM W k T o).2 := by
  unfold ofM
  split
  · exact h
  split
  · exact h.upd hk hT hT
  split
  · exact h.upd hk hT hT
  split
  · split
    · exact h
    · exact h.upd hk hT hT
  split
  · exact h.upd hk hT hT
  split
  · obtain ⟨T', hf, hw⟩ := h.f
    exact ⟨⟨T', (find_out_other hT W.ts).trans hf, hw⟩, h.q, h.c, h.v⟩
  split
  · exact h
  · refine ⟨h.f, fun hm => ?_, h.c, h.v⟩
    rcases List.mem_append.1 hm with e | e
    · exact h.q e
    · exact hT (List.mem_singleton.1 e).symm
theorem HasP.clean {t : Int} {ws : List Ver} {V : ByteArray → ByteArray × Bool} {W : PW} (h : HasP t ws V W) : HasP t ws V { W with L := cleanL W } := by
  obtain ⟨T, hf, hw⟩ := h.f
  refine ⟨⟨T, hf, hw⟩, h.q, h.c, fun key => ?_⟩
  rw [← h.v key]
  show atM (cleanL W) key t = _
  rw [cleanL_eq]
  have hT : T.start = t := by simpa using List.find?_some hf
  exact kept_at (fun v x _ h1 h2 => ⟨T, List.mem_of_find?_eq_some hf, by omega, by omega⟩)
theorem HasP.other {t : Int} {ws : List Ver} {V : ByteArray → ByteArray × Bool} {W : PW} (h : HasP t ws V W) {o : OpM} (hne : o.t ≠ t ∧ o.kind ≠ 9) : HasP t ws V (stepP W o).2 := by
  show HasP t ws V (stepR W o).2
  unfold stepR
  split
  · split
    · exact h
    · obtain ⟨T', hf, hw⟩ := h.f
      refine ⟨⟨T', ?_, hw⟩, h.q, ?_, h.v⟩
      · show (W.ts ++ _).find? _ = _
        rw [List.find?_append, hf]
        rfl
      · have := h.c
        show t ≤ W.clock + 1
        omega
  split
  · split
    · exact h
    · rename_i k hk
      split
      · exact h
      · split
        · rename_i T hT
          refine h.ofO hT ?_
          have h3 : T.start = o.t := by
            have h4 := (List.findIdx?_eq_some_iff_getElem.1 hk)
            obtain ⟨h5, h6, _⟩ := h4
            rw [List.getElem?_eq_getElem h5] at hT
            have e : W.ts[k] = T := by simpa using hT
            rw [e] at h6
            simpa using h6
          rw [h3]
          exact hne.1
        · exact h
  split
  · split
    · exact h
    · exact HasP.flush _ h
  split
  · rename_i h9
    exact absurd h9 hne.2
  split
  · exact h.clean
  split
  · exact h
  · exact h
theorem HasP.others {t : Int} {ws : List Ver} {V : ByteArray → ByteArray × Bool} : ∀ (l : List OpM) {W : PW}, HasP t ws V W → (∀ o ∈ l, o.t ≠ t ∧ o.kind ≠ 9) → HasP t ws V (stP W l)
  | [], _, h, _ => h
  | o :: r, W, h, ho => HasP.others r (h.other (ho o (by simp))) (fun x hx => ho x (by simp [hx]))
theorem step_t {t : Int} {ws : List Ver} {V : ByteArray → ByteArray × Bool} {W : PW} (h : HasP t ws V W) {o : OpM} (ho : o.t = t) (h2 : 2 ≤ o.kind) (h7 : o.kind ≤ 7) : ∃ k T, W.ts.findIdx? (fun T => T.start == t) = some k ∧ T.start = t ∧ T.ws = ws ∧ stepP W o = ofM W k T o := by
  obtain ⟨T, hf, hw⟩ := h.f
  obtain ⟨k, h3, h4, h5⟩ := find_idx hf
  refine ⟨k, T, h3, h5, hw, ?_⟩
  show stepR W o = _
  rw [stepR_of h2 h7, ho, h3]
  simp only
  rw [if_neg h.q, h4]
theorem HasP.set {t : Int} {ws ws' : List Ver} {V : ByteArray → ByteArray × Bool} {W : PW} {k : Nat} {X : PT} (h : HasP t ws V W) (hk : W.ts.findIdx? (fun T => T.start == t) = some k) (hX : X.start = t) (hw : X.ws = ws') : HasP t ws' V { W with ts := W.ts.set k X } :=
  ⟨⟨X, find_set_same hX hk, hw⟩, h.q, h.c, h.v⟩
theorem okKey {key : ByteArray} (h1 : 1 ≤ key.size) (h8 : key.size ≤ 8) : ¬ (key.size < 1 ∨ 8 < key.size) := by omega
theorem get_t {t : Int} {ws : List Ver} {V : ByteArray → ByteArray × Bool} {W : PW} (h : HasP t ws V W) (key val : ByteArray) (h1 : 1 ≤ key.size) (h8 : key.size ≤ 8) :
    (stepP W ⟨2, t, key, val, 0⟩).1 = ⟨0, 0, (seesM ws W.L t key).2, getV (seesM ws W.L t key), [], [], []⟩ ∧ HasP t ws V (stepP W ⟨2, t, key, val, 0⟩).2 ∧ (stepP W ⟨2, t, key, val, 0⟩).2.L = W.L := by
  obtain ⟨k, T, hk, hs, hw, e⟩ := step_t h (o := ⟨2, t, key, val, 0⟩) rfl (by simp) (by simp)
  rw [e]
  unfold ofM
  rw [if_neg (fun hh => okKey h1 h8 hh.2), if_pos rfl, hw, hs]
  exact ⟨rfl, h.set hk rfl rfl, rfl⟩
theorem scan_t {t : Int} {ws : List Ver} {V : ByteArray → ByteArray × Bool} {W : PW} (h : HasP t ws V W) (pre val : ByteArray) :
    (stepP W ⟨3, t, pre, val, 0⟩).1 = ⟨0, 0, false, ⟨#[]⟩, itemsR ws W.L t (keysC (W.L ++ ws) pre), [], []⟩ ∧ HasP t ws V (stepP W ⟨3, t, pre, val, 0⟩).2 ∧ (stepP W ⟨3, t, pre, val, 0⟩).2.L = W.L := by
  obtain ⟨k, T, hk, hs, hw, e⟩ := step_t h (o := ⟨3, t, pre, val, 0⟩) rfl (by simp) (by simp)
  rw [e]
  unfold ofM
  rw [if_neg (fun hh => by simp at hh), if_neg (by simp), if_pos rfl, hw, hs]
  exact ⟨rfl, h.set hk rfl rfl, rfl⟩
theorem put_t {t : Int} {ws : List Ver} {V : ByteArray → ByteArray × Bool} {W : PW} (h : HasP t ws V W) (key val : ByteArray) (h1 : 1 ≤ key.size) (h8 : key.size ≤ 8) (hv : val.size ≤ 20) :
    (stepP W ⟨4, t, key, val, 0⟩).1 = errA 0 ∧ HasP t (writeM ws ⟨key, 0, val, false⟩) V (stepP W ⟨4, t, key, val, 0⟩).2 := by
  obtain ⟨k, T, hk, hs, hw, e⟩ := step_t h (o := ⟨4, t, key, val, 0⟩) rfl (by simp) (by simp)
  rw [e]
  unfold ofM
  rw [if_neg (fun hh => okKey h1 h8 hh.2), if_neg (by simp), if_neg (by simp), if_pos rfl, if_neg (by simp; omega), hw]
  exact ⟨rfl, h.set hk hs rfl⟩
theorem del_t {t : Int} {ws : List Ver} {V : ByteArray → ByteArray × Bool} {W : PW} (h : HasP t ws V W) (key val : ByteArray) (h1 : 1 ≤ key.size) (h8 : key.size ≤ 8) :
    (stepP W ⟨5, t, key, val, 0⟩).1 = errA 0 ∧ HasP t (writeM ws ⟨key, 0, ⟨#[]⟩, true⟩) V (stepP W ⟨5, t, key, val, 0⟩).2 := by
  obtain ⟨k, T, hk, hs, hw, e⟩ := step_t h (o := ⟨5, t, key, val, 0⟩) rfl (by simp) (by simp)
  rw [e]
  unfold ofM
  rw [if_neg (fun hh => okKey h1 h8 hh.2), if_neg (by simp), if_neg (by simp), if_neg (by simp), if_pos rfl, hw]
  exact ⟨rfl, h.set hk hs rfl⟩
theorem sees_write (ws L : List Ver) (t : Int) (v : Ver) : seesM (writeM ws v) L t v.key = (v.val, !v.gone) := by
  have e : (writeM ws v).find? (fun u => decide (u.key = v.key)) = some v := by
    unfold writeM
    rw [List.find?_append]
    have e1 : (lessK ws v.key).find? (fun u => decide (u.key = v.key)) = none := by
      rw [List.find?_eq_none]
      intro u hu
      have := (List.mem_filter.1 hu).2
      simpa using this
    rw [e1]
    simp
  unfold seesM
  rw [e]
abbrev bOp : OpM := ⟨1, 0, ⟨#[]⟩, ⟨#[]⟩, 0⟩
abbrev gOp (t : Int) (key : ByteArray) : OpM := ⟨2, t, key, ⟨#[]⟩, 0⟩
abbrev sOp (t : Int) (pre : ByteArray) : OpM := ⟨3, t, pre, ⟨#[]⟩, 0⟩
abbrev ownV : ByteArray := ⟨#[111, 119, 110]⟩
abbrev pOp (t : Int) (key : ByteArray) : OpM := ⟨4, t, key, ownV, 0⟩
abbrev dOp (t : Int) (key : ByteArray) : OpM := ⟨5, t, key, ⟨#[]⟩, 0⟩
/-! ### numbers are low -/
structure LowP (n : Nat) (W : PW) : Prop where
  t : ∀ T ∈ W.ts, T.start ≤ W.clock
  q : ∀ x ∈ W.q, x ≤ W.clock
  lo : 0 ≤ W.clock
  hi : W.clock + W.q.length ≤ n
theorem LowP.decide {n : Nat} {W : PW} (h : LowP n W) (hn : W.clock + W.q.length + 1 ≤ n) (T : PT) : LowP n (decideM W T).2 := by
  unfold decideM
  split
  · exact h
  · split
    · exact h
    · refine ⟨fun X hX => ?_, fun x hx => ?_, ?_, ?_⟩
      · have := h.t X hX
        show X.start ≤ W.clock + 1
        omega
      · have := h.q x hx
        show x ≤ W.clock + 1
        omega
      · have := h.lo
        show 0 ≤ W.clock + 1
        omega
      · show W.clock + 1 + (W.q.length : Int) ≤ n
        omega
theorem LowP.flush {m : Nat} : ∀ (n : Nat) {W : PW}, LowP m W → LowP m (flushM n W).2
  | 0, _, h => h
  | n + 1, W, h => by
    unfold flushM
    split
    · exact h
    · rename_i x q hq
      split
      · exact h
      · refine LowP.flush n (LowP.decide (W := outM W x q) ⟨fun T hT => h.t T (List.mem_filter.1 hT).1, fun y hy => h.q y (by rw [hq]; exact List.mem_cons_of_mem _ hy), h.lo, ?_⟩ ?_ _)
        · have := h.hi
          rw [hq] at this
          simp only [List.length_cons] at this
          show W.clock + (q.length : Int) ≤ m
          omega
        · have := h.hi
          rw [hq] at this
          simp only [List.length_cons] at this
          show W.clock + (q.length : Int) + 1 ≤ m
          omega
theorem LowP.mono {n m : Nat} {W : PW} (h : LowP n W) (hm : n ≤ m) : LowP m W := ⟨h.t, h.q, h.lo, by have := h.hi; omega⟩
theorem LowP.upd {n : Nat} {W : PW} {k : Nat} {T X : PT} (h : LowP n W) (hk : W.ts[k]? = some T) (hX : X.start = T.start) : LowP n { W with ts := W.ts.set k X } :=
  ⟨fun Y hY => by
    rcases List.mem_or_eq_of_mem_set hY with e | e
    · exact h.t Y e
    · rw [e, hX]; exact h.t T (List.mem_of_getElem? hk), h.q, h.lo, h.hi⟩
theorem LowP.ofO {n : Nat} {W : PW} {k : Nat} {T : PT} {o : OpM} (h : LowP n W) (hk : W.ts[k]? = some T) : LowP (n + 1) (ofM W k T o).2 := by
  have h' := h.mono (Nat.le_succ n)
  unfold ofM
  split
  · exact h'
  split
  · exact h'.upd hk rfl
  split
  · exact h'.upd hk rfl
  split
  · split
    · exact h'
    · exact h'.upd hk rfl
  split
  · exact h'.upd hk rfl
  split
  · exact ⟨fun Y hY => h.t Y (List.mem_filter.1 hY).1, h.q, h.lo, h'.hi⟩
  split
  · exact h'
  · refine ⟨h.t, fun x hx => ?_, h.lo, ?_⟩
    · rcases List.mem_append.1 hx with e | e
      · exact h.q x e
      · rw [List.mem_singleton.1 e]
        exact h.t T (List.mem_of_getElem? hk)
    · have := h.hi
      show W.clock + ((W.q ++ [T.start]).length : Int) ≤ (n + 1 : Nat)
      simp only [List.length_append, List.length_singleton]
      omega
theorem LowP.step {n : Nat} {W : PW} (h : LowP n W) (o : OpM) : LowP (n + 1) (stepP W o).2 := by
  have h' := h.mono (Nat.le_succ n)
  show LowP (n + 1) (stepR W o).2
  unfold stepR
  split
  · split
    · exact h'
    · refine ⟨fun T hT => ?_, fun x hx => ?_, ?_, ?_⟩
      · rcases List.mem_append.1 hT with e | e
        · have := h.t T e
          show T.start ≤ W.clock + 1
          omega
        · rw [List.mem_singleton.1 e]
          exact Int.le_refl _
      · have := h.q x hx
        show x ≤ W.clock + 1
        omega
      · have := h.lo
        show 0 ≤ W.clock + 1
        omega
      · have := h.hi
        show W.clock + 1 + (W.q.length : Int) ≤ (n + 1 : Nat)
        omega
  split
  · split
    · exact h'
    · split
      · exact h'
      · split
        · rename_i T hT
          exact h.ofO hT
        · exact h'
  split
  · split
    · exact h'
    · exact LowP.flush _ h'
  split
  · refine ⟨fun T hT => by simp at hT, fun x hx => by simp at hx, h.lo, ?_⟩
    have := h.hi
    show W.clock + (([] : List Int).length : Int) ≤ (n + 1 : Nat)
    simp only [List.length_nil]
    omega
  split
  · exact ⟨h'.t, h'.q, h'.lo, h'.hi⟩
  split
  · exact h'
  · exact h'
theorem LowP.run : ∀ (l : List OpM) {n : Nat} {W : PW}, LowP n W → LowP (n + l.length) (stP W l)
  | [], _, _, h => h
  | o :: r, n, W, h => by
    have := LowP.run r (h.step o)
    rw [show n + (o :: r).length = n + 1 + r.length by simp only [List.length_cons]; omega]
    exact this
theorem low0 : LowP 0 p0 := ⟨fun _ h => by simp [p0] at h, fun _ h => by simp [p0] at h, Int.le_refl _, by simp [p0]⟩
/-- BEGIN's answer. -/
theorem begin_ans (l : List OpM) (hl : l.length ≤ 10000000) : (stepP (stP p0 l) bOp).1 = errA 6 ∨ ∃ t, isInt t ∧ (stepP (stP p0 l) bOp).1 = ⟨0, t, false, ⟨#[]⟩, [], [], []⟩ ∧ ∃ V, HasP t [] V (stepP (stP p0 l) bOp).2 := by
  have hlow := LowP.run l low0
  generalize stP p0 l = W at *
  show (stepR W bOp).1 = errA 6 ∨ ∃ t, isInt t ∧ (stepR W bOp).1 = ⟨0, t, false, ⟨#[]⟩, [], [], []⟩ ∧ ∃ V, HasP t [] V (stepR W bOp).2
  unfold stepR
  rw [if_pos rfl]
  split
  · exact Or.inl rfl
  · refine Or.inr ⟨W.clock + 1, ?_, rfl, fun key => atM W.L key (W.clock + 1), ⟨⟨⟨W.clock + 1, [], [], []⟩, ?_, rfl⟩, fun hm => ?_, Int.le_refl _, fun _ => rfl⟩⟩
    · have h1 := hlow.lo
      have h2 := hlow.hi
      unfold isInt
      omega
    · show (W.ts ++ _).find? _ = _
      rw [List.find?_append, List.find?_eq_none.2 (fun T hT => by have := hlow.t T hT; simp; omega)]
      simp
    · have := hlow.q _ hm
      omega
/-- THE ANSWERS OF THE LONG SCRIPT. -/
theorem still_ans (l m : List OpM) (t : Int) (V : ByteArray → ByteArray × Bool) (key pre : ByteArray) (h1 : 1 ≤ key.size) (h8 : key.size ≤ 8) (hm : ∀ o ∈ m, o.t ≠ t ∧ o.kind ≠ 9) (hb : HasP t [] V (stepP (stP p0 l) bOp).2) :
    ∃ A2 b v I, A2.length = m.length ∧ ansP p0 (((l ++ [bOp, gOp t key, sOp t pre]) ++ m) ++ [gOp t key, sOp t pre, pOp t key, gOp t key, dOp t key, gOp t key]) =
      ansP p0 l ++ ((stepP (stP p0 l) bOp).1 :: ⟨0, 0, b, v, [], [], []⟩ :: ⟨0, 0, false, ⟨#[]⟩, I, [], []⟩ :: (A2 ++ [⟨0, 0, b, v, [], [], []⟩, ⟨0, 0, false, ⟨#[]⟩, I, [], []⟩, errA 0, ⟨0, 0, true, ownV, [], [], []⟩, errA 0, errA 0])) := by
  have hown : ownV.size ≤ 20 := by decide
  rw [ansP_append, ansP_append, ansP_append]
  simp only [stP_append, ansP, stP]
  generalize stepP (stP p0 l) bOp = r0 at *
  obtain ⟨g1, g2, g3⟩ := get_t hb key ⟨#[]⟩ h1 h8
  generalize stepP r0.2 (gOp t key) = r1 at *
  obtain ⟨s1, s2, s3⟩ := scan_t g2 pre ⟨#[]⟩
  generalize stepP r1.2 (sOp t pre) = r2 at *
  have hm3 := HasP.others m s2 hm
  generalize hA : ansP r2.2 m = A2
  have hAl : A2.length = m.length := by rw [← hA]; exact ansP_len _ _
  clear hA
  generalize stP r2.2 m = W3 at *
  obtain ⟨u1, u2, u3⟩ := get_t hm3 key ⟨#[]⟩ h1 h8
  generalize stepP W3 (gOp t key) = r4 at *
  obtain ⟨v1, v2, v3⟩ := scan_t u2 pre ⟨#[]⟩
  generalize stepP r4.2 (sOp t pre) = r5 at *
  obtain ⟨x1, x2⟩ := put_t v2 key ownV h1 h8 hown
  generalize stepP r5.2 (pOp t key) = r6 at *
  obtain ⟨y1, y2, _⟩ := get_t x2 key ⟨#[]⟩ h1 h8
  generalize stepP r6.2 (gOp t key) = r7 at *
  obtain ⟨z1, z2⟩ := del_t y2 key ⟨#[]⟩ h1 h8
  generalize stepP r7.2 (dOp t key) = r8 at *
  obtain ⟨q1, _, _⟩ := get_t z2 key ⟨#[]⟩ h1 h8
  generalize stepP r8.2 (gOp t key) = r9 at *
  have eS : ∀ L : List Ver, seesM [] L t key = atM L key t := fun L => rfl
  rw [eS, hb.v] at g1
  rw [eS, hm3.v] at u1
  have eI : itemsR [] r4.2.L t (keysC (r4.2.L ++ []) pre) = itemsR [] r1.2.L t (keysC (r1.2.L ++ []) pre) := items_view (fun k => by rw [u2.v, g2.v]) pre
  rw [eI] at v1
  have e1 := sees_write [] r6.2.L t ⟨key, 0, ownV, false⟩
  have e2 := sees_write (writeM [] ⟨key, 0, ownV, false⟩) r8.2.L t ⟨key, 0, ⟨#[]⟩, true⟩
  simp only at e1 e2
  rw [e1] at y1
  rw [e2] at q1
  refine ⟨A2, (V key).2, getV (V key), itemsR [] r1.2.L t (keysC (r1.2.L ++ []) pre), hAl, ?_⟩
  rw [g1, s1, u1, v1, x1, y1, z1, q1]
  simp [getV]
end Go.Proofs.YtkfjafndplmdkaaGreat
