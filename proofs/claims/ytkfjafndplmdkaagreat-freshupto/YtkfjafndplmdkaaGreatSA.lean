import Derived.Test.YtkfjafndplmdkaaGreatB
namespace Go.Proofs.YtkfjafndplmdkaaGreat
/-! ### what a transaction did, replayed on what was there -/
abbrev View : Type := ByteArray → ByteArray × Bool
def seesV (ws : List Ver) (V : View) (k : ByteArray) : ByteArray × Bool := match ws.find? (fun v => decide (v.key = k)) with | some v => (v.val, !v.gone) | none => V k
abbrev Ent : Type := OpM × AnsM
def wsE (ws : List Ver) (e : Ent) : List Ver := if e.1.kind = 4 then writeM ws ⟨e.1.key, 0, e.1.val, false⟩ else if e.1.kind = 5 then writeM ws ⟨e.1.key, 0, ⟨#[]⟩, true⟩ else ws
def wsOf (l : List Ent) : List Ver := l.foldl wsE []
def okE (V : View) (ws : List Ver) (e : Ent) : Prop :=
  (e.1.kind = 2 → e.2.found = (seesV ws V e.1.key).2 ∧ e.2.value = getV (seesV ws V e.1.key)) ∧
  (e.1.kind = 3 → Asc (e.2.items.map Prod.fst) ∧ ∀ k v, (k, v) ∈ e.2.items ↔ pk e.1.key k = true ∧ seesV ws V k = (v, true))
def fitsFrom (V : View) : List Ver → List Ent → Prop
  | _, [] => True
  | ws, e :: r => okE V ws e ∧ fitsFrom V (wsE ws e) r
def fits (V : View) (l : List Ent) : Prop := fitsFrom V [] l
theorem wsOf_snoc (l : List Ent) (e : Ent) : wsOf (l ++ [e]) = wsE (wsOf l) e := by simp [wsOf]
theorem fitsFrom_snoc (V : View) : ∀ (l : List Ent) (ws : List Ver) (e : Ent), fitsFrom V ws (l ++ [e]) ↔ fitsFrom V ws l ∧ okE V (l.foldl wsE ws) e
  | [], ws, e => by simp [fitsFrom]
  | x :: r, ws, e => by
    simp only [List.cons_append, fitsFrom, List.foldl_cons]
    rw [fitsFrom_snoc V r]
    exact ⟨fun h => ⟨⟨h.1, h.2.1⟩, h.2.2⟩, fun h => ⟨h.1.1, h.1.2, h.2⟩⟩
theorem fits_snoc (V : View) (l : List Ent) (e : Ent) : fits V (l ++ [e]) ↔ fits V l ∧ okE V (wsOf l) e := fitsFrom_snoc V l [] e
/-- what a replay hangs on: the keys that were read, those under the prefixes that were scanned. -/
def reads (l : List Ent) (k : ByteArray) : Prop := ∃ e ∈ l, (e.1.kind = 2 ∧ e.1.key = k) ∨ (e.1.kind = 3 ∧ pk e.1.key k = true)
theorem seesV_congr {V V' : View} {k : ByteArray} (h : V k = V' k) (ws : List Ver) : seesV ws V k = seesV ws V' k := by
  unfold seesV
  split
  · rfl
  · exact h
theorem okE_congr {V V' : View} {ws : List Ver} {e : Ent} (h : ∀ k, ((e.1.kind = 2 ∧ e.1.key = k) ∨ (e.1.kind = 3 ∧ pk e.1.key k = true)) → V k = V' k) (ho : okE V ws e) : okE V' ws e := by
  refine ⟨fun h2 => ?_, fun h3 => ?_⟩
  · rw [← seesV_congr (h _ (Or.inl ⟨h2, rfl⟩)) ws]
    exact ho.1 h2
  · obtain ⟨h4, h5⟩ := ho.2 h3
    refine ⟨h4, fun k v => (h5 k v).trans ⟨fun hh => ⟨hh.1, ?_⟩, fun hh => ⟨hh.1, ?_⟩⟩⟩
    · rw [← seesV_congr (h k (Or.inr ⟨h3, hh.1⟩)) ws]; exact hh.2
    · rw [seesV_congr (h k (Or.inr ⟨h3, hh.1⟩)) ws]; exact hh.2
theorem fitsFrom_congr {V V' : View} : ∀ {l : List Ent} {ws : List Ver}, (∀ k, reads l k → V k = V' k) → fitsFrom V ws l → fitsFrom V' ws l
  | [], _, _, _ => trivial
  | e :: _, _, h, hf => ⟨okE_congr (fun k hk => h k ⟨e, List.mem_cons_self .., hk⟩) hf.1, fitsFrom_congr (fun k ⟨x, hx, hk⟩ => h k ⟨x, List.mem_cons_of_mem _ hx, hk⟩) hf.2⟩
theorem fits_congr {V V' : View} {l : List Ent} (h : ∀ k, reads l k → V k = V' k) (hf : fits V l) : fits V' l := fitsFrom_congr h hf
/-! ### versions -/
/-- what key k holds at time t. -/
abbrev viewM (H : List Ver) (t : Int) : View := fun k => atM H k t
theorem atM_same {H X : List Ver} {k : ByteArray} {t : Int} (h : ∀ v ∈ X, v.key = k → t < v.time) : atM (H ++ X) k t = atM H k t := by
  unfold atM
  rw [List.reverse_append, List.find?_append]
  have e : X.reverse.find? (fun v => decide (v.key = k) && decide (v.time ≤ t)) = none := by
    rw [List.find?_eq_none]
    intro v hv
    have := h v (by simpa using hv)
    simp
    intro hk
    have := this hk
    omega
  rw [e]
  rfl
/-- between two times at which k was not written it holds the same. -/
theorem atM_between {H : List Ver} {k : ByteArray} {s t : Int} (hst : s ≤ t) (h : ∀ v ∈ H, v.key = k → v.time ≤ t → v.time ≤ s) : atM H k t = atM H k s := by
  unfold atM
  have e : ∀ l : List Ver, (∀ v ∈ l, v ∈ H) → l.find? (fun v => decide (v.key = k) && decide (v.time ≤ t)) = l.find? (fun v => decide (v.key = k) && decide (v.time ≤ s)) := fun l hl => by
    induction l with
    | nil => rfl
    | cons v r ih =>
      rw [List.find?_cons, List.find?_cons, ih (fun x hx => hl x (List.mem_cons_of_mem _ hx))]
      have : (decide (v.key = k) && decide (v.time ≤ t)) = (decide (v.key = k) && decide (v.time ≤ s)) := by
        by_cases hk : v.key = k
        · have := h v (hl v (List.mem_cons_self ..)) hk
          have e2 : (v.time ≤ t) ↔ (v.time ≤ s) := ⟨this, fun h2 => by omega⟩
          simp [hk, e2]
        · simp [hk]
      rw [this]
  rw [e H.reverse (fun v hv => by simpa using hv)]
/-! ### the invariant behind P6 -/
def logB (n : Int) (e : Ent) : Bool := decide (e.1.t = n) && decide (e.2.code = 0) && decide (2 ≤ e.1.kind ∧ e.1.kind ≤ 5)
def logOf (P : List Ent) (n : Int) : List Ent := P.filter (logB n)
theorem logOf_snoc (P : List Ent) (e : Ent) (n : Int) : logOf (P ++ [e]) n = logOf P n ++ (if logB n e then [e] else []) := by
  unfold logOf
  rw [List.filter_append]
  cases h : logB n e <;> simp [h]
theorem logOf_skip {P : List Ent} {e : Ent} {n : Int} (h : logB n e = false) : logOf (P ++ [e]) n = logOf P n := by rw [logOf_snoc, h]; simp
theorem logOf_take {P : List Ent} {e : Ent} {n : Int} (h : logB n e = true) : logOf (P ++ [e]) n = logOf P n ++ [e] := by rw [logOf_snoc, h]; simp
structure LogOk (P : List Ent) (H : List Ver) (T : PT) : Prop where
  f : fits (viewM H T.start) (logOf P T.start)
  w : wsOf (logOf P T.start) = T.ws
  r : ∀ k, reads (logOf P T.start) k → hitM T k = true
structure SInv (P : List Ent) (D : List Dec) (H : List Ver) (W : PW) : Prop where
  lo : 0 ≤ W.clock
  nd : W.ts.Pairwise (fun a b => a.start ≠ b.start)
  st : ∀ T ∈ W.ts, 1 ≤ T.start ∧ T.start ≤ W.clock
  Ht : ∀ v ∈ H, v.time ≤ W.clock
  Hs : H.Pairwise (fun a b => a.time ≤ b.time)
  sub : W.L.Sublist H
  vw : ∀ T ∈ W.ts, ∀ k, atM W.L k T.start = atM H k T.start
  vc : ∀ k, atM W.L k W.clock = atM H k W.clock
  rw : ∀ v ∈ H, W.low < v.time → ∃ r ∈ W.rows, r.1 = v.key ∧ v.time ≤ r.2
  rl : ∀ r ∈ W.rows, W.low ≤ r.2 ∧ r.2 ≤ W.clock
  rn : (W.rows.map Prod.fst).Nodup
  lc : W.low ≤ W.clock
  ls : ∀ T ∈ W.ts, LogOk P H T
  lg : ∀ e ∈ P, e.2.code = 0 → 2 ≤ e.1.kind → e.1.kind ≤ 5 → e.1.t ≤ W.clock
  dn : ∀ d ∈ D, 1 ≤ d.time ∧ d.num ≤ W.clock ∧ d.time ≤ W.clock ∧ ∀ T ∈ W.ts, T.start ≠ d.num ∧ T.start ≠ d.time
  du : D.Pairwise (fun a b => a.num ≠ b.num ∧ a.time ≠ b.time)
  df : ∀ d ∈ D, fits (viewM H (d.time - 1)) (logOf P d.num) ∧ H.filter (fun v => decide (v.time = d.time)) = stampM (wsOf (logOf P d.num)) d.time
  dh : ∀ v ∈ H, ∃ d ∈ D, d.time = v.time
theorem sinv0 : SInv [] [] [] p0 := by
  refine ⟨by simp [p0], by simp [p0], by simp [p0], by simp, by simp, by simp [p0], by simp [p0], by simp [p0], by simp, by simp [p0], by simp [p0], by simp [p0], by simp [p0], by simp, by simp, by simp, by simp, by simp⟩
/-- fewer open transactions. -/
theorem SInv.less {P : List Ent} {D : List Dec} {H : List Ver} {W : PW} (h : SInv P D H W) (ts' : List PT) (q' : List Int) (hs : ts'.Sublist W.ts) : SInv P D H { W with ts := ts', q := q' } :=
  ⟨h.lo, h.nd.sublist hs, fun T hT => h.st T (hs.subset hT), h.Ht, h.Hs, h.sub, fun T hT => h.vw T (hs.subset hT), h.vc, h.rw, h.rl, h.rn, h.lc, fun T hT => h.ls T (hs.subset hT), h.lg,
    fun d hd => ⟨(h.dn d hd).1, (h.dn d hd).2.1, (h.dn d hd).2.2.1, fun T hT => (h.dn d hd).2.2.2 T (hs.subset hT)⟩, h.du, h.df, h.dh⟩
/-- a step that is in no log. -/
theorem SInv.skip {P : List Ent} {D : List Dec} {H : List Ver} {W : PW} (h : SInv P D H W) {e : Ent} (he : ∀ n, logB n e = false) : SInv (P ++ [e]) D H W := by
  have hl : ∀ n, logOf (P ++ [e]) n = logOf P n := fun n => logOf_skip (he n)
  refine ⟨h.lo, h.nd, h.st, h.Ht, h.Hs, h.sub, h.vw, h.vc, h.rw, h.rl, h.rn, h.lc, fun T hT => ?_, fun x hx hc h2 h5 => ?_, h.dn, h.du, fun d hd => ?_, h.dh⟩
  · obtain ⟨a, b, c⟩ := h.ls T hT
    exact ⟨by rw [hl]; exact a, by rw [hl]; exact b, by rw [hl]; exact c⟩
  · rcases List.mem_append.1 hx with hx | hx
    · exact h.lg x hx hc h2 h5
    · have e1 := List.mem_singleton.1 hx
      have := he x.1.t
      rw [← e1] at this
      simp [logB, hc, h2, h5] at this
  · rw [hl]; exact h.df d hd
theorem skip_code {e : Ent} (h : e.2.code ≠ 0) (n : Int) : logB n e = false := by simp [logB, h]
theorem skip_kind {e : Ent} (h : e.1.kind < 2 ∨ 5 < e.1.kind) (n : Int) : logB n e = false := by
  have : ¬ (2 ≤ e.1.kind ∧ e.1.kind ≤ 5) := by omega
  simp [logB, this]
/-- what is there now is what is there later. -/
theorem SInv.now {P : List Ent} {D : List Dec} {H : List Ver} {W : PW} (h : SInv P D H W) {s : Int} (hs : W.clock ≤ s) (k : ByteArray) : atM W.L k s = atM H k s := by
  rw [atM_between (H := W.L) hs (fun v hv _ _ => h.Ht v (h.sub.subset hv)), atM_between (H := H) hs (fun v hv _ _ => h.Ht v hv)]
  exact h.vc k
theorem SInv.begin {P : List Ent} {D : List Dec} {H : List Ver} {W : PW} (h : SInv P D H W) : SInv P D H { W with clock := W.clock + 1, ts := W.ts ++ [⟨W.clock + 1, [], [], []⟩] } := by
  have hlog : logOf P (W.clock + 1) = [] := by
    unfold logOf
    rw [List.filter_eq_nil_iff]
    intro e he hb
    simp [logB] at hb
    have := h.lg e he hb.1.2 hb.2.1 hb.2.2
    omega
  refine ⟨by have := h.lo; show 0 ≤ W.clock + 1; omega, ?_, fun T hT => ?_, fun v hv => ?_, h.Hs, h.sub, fun T hT k => ?_, fun k => ?_, h.rw, fun r hr => ?_, h.rn, ?_, fun T hT => ?_, fun e he hc h2 h5 => ?_, fun d hd => ?_, h.du, h.df, h.dh⟩
  · refine List.pairwise_append.2 ⟨h.nd, by simp, fun a ha b hb => ?_⟩
    rw [List.mem_singleton.1 hb]
    have := (h.st a ha).2
    show a.start ≠ W.clock + 1
    omega
  · rcases List.mem_append.1 hT with hT | hT
    · have := h.st T hT
      show 1 ≤ T.start ∧ T.start ≤ W.clock + 1
      omega
    · rw [List.mem_singleton.1 hT]
      have := h.lo
      show 1 ≤ W.clock + 1 ∧ W.clock + 1 ≤ W.clock + 1
      omega
  · have := h.Ht v hv
    show v.time ≤ W.clock + 1
    omega
  · rcases List.mem_append.1 hT with hT | hT
    · exact h.vw T hT k
    · rw [List.mem_singleton.1 hT]
      exact h.now (by show W.clock ≤ W.clock + 1; omega) k
  · exact h.now (by show W.clock ≤ W.clock + 1; omega) k
  · have := h.rl r hr
    show W.low ≤ r.2 ∧ r.2 ≤ W.clock + 1
    omega
  · have := h.lc
    show W.low ≤ W.clock + 1
    omega
  · rcases List.mem_append.1 hT with hT | hT
    · exact h.ls T hT
    · rw [List.mem_singleton.1 hT]
      refine ⟨?_, ?_, ?_⟩
      · show fits _ (logOf P (W.clock + 1))
        rw [hlog]; trivial
      · show wsOf (logOf P (W.clock + 1)) = []
        rw [hlog]; rfl
      · intro k hk
        have hk' : reads (logOf P (W.clock + 1)) k := hk
        rw [hlog] at hk'
        obtain ⟨x, hx, _⟩ := hk'
        simp at hx
  · have := h.lg e he hc h2 h5
    show e.1.t ≤ W.clock + 1
    omega
  · obtain ⟨d1, d2, d3, d4⟩ := h.dn d hd
    refine ⟨d1, by show d.num ≤ W.clock + 1; omega, by show d.time ≤ W.clock + 1; omega, fun T hT => ?_⟩
    rcases List.mem_append.1 hT with hT | hT
    · exact d4 T hT
    · rw [List.mem_singleton.1 hT]
      show W.clock + 1 ≠ d.num ∧ W.clock + 1 ≠ d.time
      omega
/-- FENCE. -/
theorem SInv.fence {P : List Ent} {D : List Dec} {H : List Ver} {W : PW} (h : SInv P D H W) : SInv P D H { W with ts := [], q := [], rows := [], low := W.clock } :=
  ⟨h.lo, List.Pairwise.nil, fun T hT => by simp at hT, h.Ht, h.Hs, h.sub, fun T hT => by simp at hT, h.vc, fun v hv hl => by have := h.Ht v hv; simp only at hl; omega, fun r hr => by simp at hr, by simp, Int.le_refl _, fun T hT => by simp at hT, h.lg,
    fun d hd => ⟨(h.dn d hd).1, (h.dn d hd).2.1, (h.dn d hd).2.2.1, fun T hT => by simp at hT⟩, h.du, h.df, h.dh⟩
/-! ### a decision -/
/-- a transaction that left, not written. -/
theorem SInv.told {P : List Ent} {D : List Dec} {H : List Ver} {W : PW} {T : PT} (h : SInv P D H W) (hst : 1 ≤ T.start ∧ T.start ≤ W.clock) (hl : LogOk P H T) (hw : T.ws = []) (hn : ∀ X ∈ W.ts, X.start ≠ T.start) (hd : ∀ d ∈ D, T.start ≠ d.num ∧ T.start ≠ d.time) : SInv P (D ++ [⟨T.start, 0, T.start⟩]) H W := by
  have hH : ∀ v ∈ H, v.time ≠ T.start := fun v hv e => by
    obtain ⟨d, hd1, hd2⟩ := h.dh v hv
    exact (hd d hd1).2 (by rw [hd2, e])
  refine ⟨h.lo, h.nd, h.st, h.Ht, h.Hs, h.sub, h.vw, h.vc, h.rw, h.rl, h.rn, h.lc, h.ls, h.lg, fun d hd1 => ?_, ?_, fun d hd1 => ?_, fun v hv => ?_⟩
  · rcases List.mem_append.1 hd1 with hd1 | hd1
    · exact h.dn d hd1
    · rw [List.mem_singleton.1 hd1]
      exact ⟨hst.1, hst.2, hst.2, fun X hX => ⟨hn X hX, hn X hX⟩⟩
  · refine List.pairwise_append.2 ⟨h.du, by simp, fun a ha b hb => ?_⟩
    rw [List.mem_singleton.1 hb]
    exact ⟨(hd a ha).1.symm, (hd a ha).2.symm⟩
  · rcases List.mem_append.1 hd1 with hd1 | hd1
    · exact h.df d hd1
    · rw [List.mem_singleton.1 hd1]
      refine ⟨fits_congr (fun k _ => ?_) hl.f, ?_⟩
      · show atM H k T.start = atM H k (T.start - 1)
        exact atM_between (by omega) (fun v hv _ hv2 => by
          have := hH v hv
          omega)
      · show H.filter (fun v => decide (v.time = T.start)) = stampM (wsOf (logOf P T.start)) T.start
        rw [hl.w, hw]
        show _ = []
        rw [List.filter_eq_nil_iff]
        intro v hv
        simpa using hH v hv
  · obtain ⟨d, h1, h2⟩ := h.dh v hv
    exact ⟨d, List.mem_append_left _ h1, h2⟩
/-! ### the rows that are remembered -/
structure RowsOk (H : List Ver) (rows : List (ByteArray × Int)) (low c : Int) : Prop where
  rw : ∀ v ∈ H, low < v.time → ∃ r ∈ rows, r.1 = v.key ∧ v.time ≤ r.2
  rl : ∀ r ∈ rows, low ≤ r.2 ∧ r.2 ≤ c
  rn : (rows.map Prod.fst).Nodup
  lc : low ≤ c
theorem RowsOk.notes {H : List Ver} {rows : List (ByteArray × Int)} {low c t : Int} (h : RowsOk H rows low c) (ht : c < t) (hH : ∀ v ∈ H, v.time ≤ c) (ws : List Ver) : RowsOk (H ++ stampM ws t) (notesM rows ws t) low t := by
  have nd := notes_nodup t ws h.rn
  have hm : ∀ k x, (k, x) ∈ notesM rows ws t ↔ (if ∃ v ∈ ws, v.key = k then some t else getA k rows) = some x := fun k x => by rw [← notes_get, getA_iff nd]
  refine ⟨fun v hv hl => ?_, fun r hr => ?_, nd, by have := h.lc; omega⟩
  · by_cases hk : ∃ u ∈ ws, u.key = v.key
    · refine ⟨(v.key, t), (hm _ _).2 (by rw [if_pos hk]), rfl, ?_⟩
      rcases List.mem_append.1 hv with hv | hv
      · have := hH v hv
        show v.time ≤ t
        omega
      · obtain ⟨u, _, rfl⟩ := List.mem_map.1 hv
        exact Int.le_refl _
    · rcases List.mem_append.1 hv with hv | hv
      · obtain ⟨r, hr, h1, h2⟩ := h.rw v hv hl
        refine ⟨(v.key, r.2), (hm _ _).2 ?_, rfl, h2⟩
        rw [if_neg hk, getA_iff h.rn, ← h1]
        exact hr
      · obtain ⟨u, hu, rfl⟩ := List.mem_map.1 hv
        exact absurd ⟨u, hu, rfl⟩ hk
  · have h1 := (hm r.1 r.2).1 hr
    have h2 := h.lc
    split at h1
    · have e : t = r.2 := by simpa using h1
      omega
    · have := h.rl (r.1, r.2) ((getA_iff h.rn).1 h1)
      simp only at this
      omega
theorem RowsOk.trim {H : List Ver} {c : Int} : ∀ (n : Nat) {rows : List (ByteArray × Int)} {low : Int}, RowsOk H rows low c → RowsOk H (trimM n rows low).1 (trimM n rows low).2 c
  | 0, _, _, h => h
  | n + 1, rows, low, h => by
    unfold trimM
    split
    · rename_i h6
      obtain ⟨m, e, hm1, hm2⟩ := leastM_is (l := rows) (fun e => by rw [e] at h6; simp at h6)
      rw [e]
      refine RowsOk.trim n ⟨fun v hv hl => ?_, fun r hr => ?_, filter_nodup _ h.rn, (h.rl m hm1).2⟩
      · have h0 := (h.rl m hm1).1
        obtain ⟨r, hr, h1, h2⟩ := h.rw v hv (by omega)
        refine ⟨r, List.mem_filter.2 ⟨hr, decide_eq_true (fun e2 => ?_)⟩, h1, h2⟩
        have e3 : r = m := by
          have g1 := getA_of_mem h.rn (k := r.1) (v := r.2) hr
          have g2 := getA_of_mem h.rn (k := m.1) (v := m.2) hm1
          rw [e2, g2] at g1
          exact Prod.ext e2 (by simpa using g1.symm)
        rw [e3] at h2
        omega
      · obtain ⟨hr1, hr2⟩ := List.mem_filter.1 hr
        have hne : r ≠ m := fun e2 => of_decide_eq_true hr2 (by rw [e2])
        refine ⟨?_, (h.rl r hr1).2⟩
        rcases hm2 r hr1 hne with h3 | ⟨h3, _⟩ <;> omega
    · exact h
theorem atM_app {L H X : List Ver} {k : ByteArray} {s : Int} (h : atM L k s = atM H k s) : atM (L ++ X) k s = atM (H ++ X) k s := by
  unfold atM at *
  rw [List.reverse_append, List.find?_append, List.reverse_append, List.find?_append]
  cases hx : X.reverse.find? (fun v => decide (v.key = k) && decide (v.time ≤ s)) with
  | some v => rfl
  | none => exact h
theorem hit_reads {T : PT} {k : ByteArray} (h : hitM T k = true) : 0 < T.ks.length + T.ps.length := by
  unfold hitM at h
  cases hk : T.ks with
  | cons _ _ => simp; omega
  | nil =>
    cases hp : T.ps with
    | cons _ _ => simp
    | nil => rw [hk, hp] at h; simp at h
theorem SInv.commit {P : List Ent} {D : List Dec} {H : List Ver} {W : PW} {T : PT} (h : SInv P D H W) (hst : 1 ≤ T.start ∧ T.start ≤ W.clock) (hl : LogOk P H T) (hn : ∀ X ∈ W.ts, X.start ≠ T.start) (hd : ∀ d ∈ D, T.start ≠ d.num ∧ T.start ≠ d.time) (hr : refusedM W T = 0) :
    SInv P (D ++ [⟨T.start, 0, W.clock + 1⟩]) (H ++ stampM T.ws (W.clock + 1)) (commitM W T) := by
  have hX : ∀ v ∈ stampM T.ws (W.clock + 1), v.time = W.clock + 1 := fun v hv => by obtain ⟨u, _, rfl⟩ := List.mem_map.1 hv; rfl
  have hro : RowsOk (H ++ stampM T.ws (W.clock + 1)) (commitM W T).rows (commitM W T).low (W.clock + 1) :=
    RowsOk.trim _ (RowsOk.notes ⟨h.rw, h.rl, h.rn, h.lc⟩ (by omega) h.Ht T.ws)
  have hsame : ∀ s k, s ≤ W.clock → atM (H ++ stampM T.ws (W.clock + 1)) k s = atM H k s := fun s k hs => atM_same (fun v hv _ => by rw [hX v hv]; omega)
  have hlo := h.lo
  refine ⟨?_, h.nd, fun X hX1 => ?_, fun v hv => ?_, ?_, h.sub.append (List.Sublist.refl _), fun X hX1 k => ?_, fun k => ?_, hro.rw, hro.rl, hro.rn, hro.lc, fun X hX1 => ?_, fun e he hc h2 h5 => ?_, fun d hd1 => ?_, ?_, fun d hd1 => ?_, fun v hv => ?_⟩
  · show 0 ≤ W.clock + 1
    omega
  · have := h.st X hX1
    show 1 ≤ X.start ∧ X.start ≤ W.clock + 1
    omega
  · show v.time ≤ W.clock + 1
    rcases List.mem_append.1 hv with hv | hv
    · have := h.Ht v hv
      omega
    · rw [hX v hv]
      exact Int.le_refl _
  · refine List.pairwise_append.2 ⟨h.Hs, List.pairwise_iff_forall_sublist.2 fun {a b} hs => ?_, fun a ha b hb => ?_⟩
    · have h1 := hX a (hs.subset (by simp))
      have h2 := hX b (hs.subset (by simp))
      omega
    · have h1 := h.Ht a ha
      have h2 := hX b hb
      omega
  · have h1 := (h.st X hX1).2
    show atM (W.L ++ stampM T.ws (W.clock + 1)) k X.start = _
    rw [hsame _ k h1, atM_same (fun v hv _ => by rw [hX v hv]; omega)]
    exact h.vw X hX1 k
  · show atM (W.L ++ stampM T.ws (W.clock + 1)) k (W.clock + 1) = atM (H ++ stampM T.ws (W.clock + 1)) k (W.clock + 1)
    exact atM_app (h.now (by omega) k)
  · obtain ⟨a, b, c⟩ := h.ls X hX1
    exact ⟨fits_congr (fun k _ => (hsame _ k (h.st X hX1).2).symm) a, b, c⟩
  · have := h.lg e he hc h2 h5
    show e.1.t ≤ W.clock + 1
    omega
  · rcases List.mem_append.1 hd1 with hd1 | hd1
    · obtain ⟨d1, d2, d3, d4⟩ := h.dn d hd1
      exact ⟨d1, by show d.num ≤ W.clock + 1; omega, by show d.time ≤ W.clock + 1; omega, d4⟩
    · rw [List.mem_singleton.1 hd1]
      refine ⟨by show 1 ≤ W.clock + 1; omega, by show T.start ≤ W.clock + 1; omega, Int.le_refl _, fun X hX1 => ⟨hn X hX1, ?_⟩⟩
      have := (h.st X hX1).2
      show X.start ≠ W.clock + 1
      omega
  · refine List.pairwise_append.2 ⟨h.du, by simp, fun a ha b hb => ?_⟩
    rw [List.mem_singleton.1 hb]
    have := (h.dn a ha).2.2.1
    refine ⟨(hd a ha).1.symm, ?_⟩
    show a.time ≠ W.clock + 1
    omega
  · rcases List.mem_append.1 hd1 with hd1 | hd1
    · obtain ⟨f1, f2⟩ := h.df d hd1
      have h3 := (h.dn d hd1).2.2.1
      refine ⟨fits_congr (fun k _ => (hsame _ k (by omega)).symm) f1, ?_⟩
      rw [List.filter_append, f2]
      have : (stampM T.ws (W.clock + 1)).filter (fun v => decide (v.time = d.time)) = [] := by
        rw [List.filter_eq_nil_iff]
        intro v hv
        have := hX v hv
        simp
        omega
      rw [this, List.append_nil]
    · rw [List.mem_singleton.1 hd1]
      refine ⟨fits_congr (fun k hk => ?_) hl.f, ?_⟩
      · show atM H k T.start = atM (H ++ stampM T.ws (W.clock + 1)) k (W.clock + 1 - 1)
        rw [show W.clock + 1 - 1 = W.clock by omega, hsame _ k (Int.le_refl _)]
        refine (atM_between hst.2 (fun v hv hvk _ => ?_)).symm
        refine Classical.byContradiction fun hlt => ?_
        have hhit := hl.r k hk
        have hpos := hit_reads hhit
        unfold refusedM at hr
        split at hr
        · simp at hr
        · rename_i hlow
          split at hr
          · simp at hr
          · rename_i hcf
            obtain ⟨r, hr1, hr2, hr3⟩ := h.rw v hv (by
              have : ¬ T.start < W.low := fun hh => hlow ⟨hpos, hh⟩
              omega)
            refine hcf (List.any_eq_true.2 ⟨r, hr1, ?_⟩)
            rw [hr2, hvk, hhit, Bool.and_true]
            exact decide_eq_true (by omega)
      · show (H ++ stampM T.ws (W.clock + 1)).filter (fun v => decide (v.time = W.clock + 1)) = stampM (wsOf (logOf P T.start)) (W.clock + 1)
        rw [List.filter_append, hl.w]
        have e1 : H.filter (fun v => decide (v.time = W.clock + 1)) = [] := by
          rw [List.filter_eq_nil_iff]
          intro v hv
          have := h.Ht v hv
          simp
          omega
        have e2 : (stampM T.ws (W.clock + 1)).filter (fun v => decide (v.time = W.clock + 1)) = stampM T.ws (W.clock + 1) := List.filter_eq_self.2 (fun v hv => decide_eq_true (hX v hv))
        rw [e1, e2, List.nil_append]
  · rcases List.mem_append.1 hv with hv | hv
    · obtain ⟨d, h1, h2⟩ := h.dh v hv
      exact ⟨d, List.mem_append_left _ h1, h2⟩
    · exact ⟨_, List.mem_append_right _ (List.mem_singleton.2 rfl), (hX v hv).symm⟩
/-! ### FLUSH -/
def okD (l : List Dec) : List Dec := l.filter (fun d => decide (d.code = 0))
theorem SInv.flush {P : List Ent} : ∀ (n : Nat) {D : List Dec} {H : List Ver} {W : PW}, SInv P D H W → ∃ H', SInv P (D ++ okD (flushM n W).1) H' (flushM n W).2
  | 0, D, H, W, h => ⟨H, by simpa [flushM, okD] using h⟩
  | n + 1, D, H, W, h => by
    unfold flushM
    split
    · exact ⟨H, by simpa [okD] using h⟩
    · rename_i t q hq
      split
      · exact ⟨H, by simpa [okD] using h⟩
      · rename_i T hf
        have hT := List.mem_of_find?_eq_some hf
        have hs : T.start = t := by simpa using List.find?_some hf
        have ho : SInv P D H (outM W t q) := h.less _ q List.filter_sublist
        have hst := h.st T hT
        have hlo := h.ls T hT
        have hn : ∀ X ∈ (outM W t q).ts, X.start ≠ T.start := fun X hX => by rw [hs]; exact of_decide_eq_true (List.mem_filter.1 hX).2
        have hd : ∀ d ∈ D, T.start ≠ d.num ∧ T.start ≠ d.time := fun d hd => (h.dn d hd).2.2.2 T hT
        have key : ∃ H', SInv P (D ++ okD [(decideM (outM W t q) T).1]) H' (decideM (outM W t q) T).2 := by
          unfold decideM
          split
          · rename_i hw
            exact ⟨H, ho.told hst hlo hw hn hd⟩
          · split
            · rename_i hr
              exact ⟨H, by simpa [okD, hr] using ho⟩
            · rename_i hr
              exact ⟨_, ho.commit hst hlo hn hd (Classical.byContradiction hr)⟩
        obtain ⟨H1, h1⟩ := key
        obtain ⟨H2, h2⟩ := SInv.flush n h1
        refine ⟨H2, ?_⟩
        have e : okD ((decideM (outM W t q) T).1 :: (flushM n (decideM (outM W t q) T).2).1) = okD [(decideM (outM W t q) T).1] ++ okD (flushM n (decideM (outM W t q) T).2).1 := by
          unfold okD
          rw [← List.filter_append]
          rfl
        rw [e, ← List.append_assoc]
        exact h2
/-! ### the steps of a transaction -/
theorem keys_exist' (pre : ByteArray) : ∀ all : List Ver, ∃ K, KeysOf all pre K
  | [] => ⟨[], List.Pairwise.nil, fun x => by simp⟩
  | v :: r => by
    obtain ⟨K, ha, hm⟩ := keys_exist' pre r
    by_cases hp : pk pre v.key = true
    · refine ⟨K.filter (fun x => decide (ltB x v.key)) ++ v.key :: K.filter (fun x => decide (ltB v.key x)), ?_, fun x => ?_⟩
      · refine List.pairwise_append.2 ⟨ha.filter _, List.pairwise_cons.2 ⟨fun y hy => of_decide_eq_true (List.mem_filter.1 hy).2, ha.filter _⟩, fun a h1 b h2 => ?_⟩
        have h3 : ltB a v.key := of_decide_eq_true (List.mem_filter.1 h1).2
        rcases List.mem_cons.1 h2 with e | e
        · rw [e]; exact h3
        · exact ltB_trans h3 (of_decide_eq_true (List.mem_filter.1 e).2)
      · rw [List.mem_append, List.mem_cons, List.mem_filter, List.mem_filter, hm]
        simp only [decide_eq_true_eq]
        refine ⟨fun h => ?_, fun ⟨u, hu, h1, h2⟩ => ?_⟩
        · rcases h with ⟨⟨u, hu, h1, h2⟩, _⟩ | h | ⟨⟨u, hu, h1, h2⟩, _⟩
          · exact ⟨u, List.mem_cons_of_mem _ hu, h1, h2⟩
          · exact ⟨v, List.mem_cons_self .., h.symm, h ▸ hp⟩
          · exact ⟨u, List.mem_cons_of_mem _ hu, h1, h2⟩
        · rcases List.mem_cons.1 hu with e | e
          · exact Or.inr (Or.inl (by rw [← h1, e]))
          · by_cases e1 : x = v.key
            · exact Or.inr (Or.inl e1)
            · by_cases e2 : ltB x v.key
              · exact Or.inl ⟨⟨u, e, h1, h2⟩, e2⟩
              · exact Or.inr (Or.inr ⟨⟨u, e, h1, h2⟩, ltB_tri e2 e1⟩)
    · refine ⟨K, ha, fun x => (hm x).trans ⟨fun ⟨u, hu, h⟩ => ⟨u, List.mem_cons_of_mem _ hu, h⟩, fun ⟨u, hu, h1, h2⟩ => ?_⟩⟩
      rcases List.mem_cons.1 hu with e | e
      · rw [e] at h1
        rw [← h1] at h2
        exact absurd h2 hp
      · exact ⟨u, e, h1, h2⟩
theorem keysC_is (all : List Ver) (pre : ByteArray) : KeysOf all pre (keysC all pre) := by
  obtain ⟨K, h⟩ := keys_exist' pre all
  rw [keysC_eq h]
  exact h
theorem atM_key {L : List Ver} {key : ByteArray} {t : Int} (h : (atM L key t).2 = true) : ∃ v ∈ L, v.key = key := by
  unfold atM at h
  split at h
  · rename_i v hv
    have h1 := List.find?_some hv
    have h2 := List.mem_of_find?_eq_some hv
    simp at h1
    exact ⟨v, by simpa using h2, h1.1⟩
  · simp at h
theorem seesM_V {ws L H : List Ver} {t : Int} {k : ByteArray} (h : atM L k t = atM H k t) : seesM ws L t k = seesV ws (viewM H t) k := by
  unfold seesM seesV
  cases ws.find? (fun v => decide (v.key = k)) with
  | some v => rfl
  | none => exact h
theorem sees_key {ws L : List Ver} {t : Int} {k : ByteArray} (h : (seesM ws L t k).2 = true) : ∃ v ∈ L ++ ws, v.key = k := by
  unfold seesM at h
  split at h
  · rename_i v hv
    have h1 := List.find?_some hv
    exact ⟨v, List.mem_append_right _ (List.mem_of_find?_eq_some hv), by simpa using h1⟩
  · obtain ⟨v, hv, hk⟩ := atM_key h
    exact ⟨v, List.mem_append_left _ hv, hk⟩
/-- what a SCAN answers. -/
theorem items_spec {ws L H : List Ver} {t : Int} (h : ∀ k, atM L k t = atM H k t) (pre : ByteArray) :
    Asc ((itemsR ws L t (keysC (L ++ ws) pre)).map Prod.fst) ∧ ∀ k v, (k, v) ∈ itemsR ws L t (keysC (L ++ ws) pre) ↔ pk pre k = true ∧ seesV ws (viewM H t) k = (v, true) := by
  obtain ⟨ha, hm⟩ := keysC_is (L ++ ws) pre
  generalize keysC (L ++ ws) pre = K at *
  have hi : ∀ a k v, itemR ws L t a = some (k, v) ↔ a = k ∧ seesV ws (viewM H t) k = (v, true) := fun a k v => by
    have e := seesM_V (ws := ws) (h a)
    unfold itemR
    rw [e]
    constructor
    · intro h1
      split at h1
      · rename_i h2
        simp only [Option.some.injEq, Prod.mk.injEq] at h1
        obtain ⟨rfl, h3⟩ := h1
        exact ⟨rfl, Prod.ext h3 h2⟩
      · simp at h1
    · rintro ⟨rfl, h1⟩
      rw [h1]
      rfl
  refine ⟨?_, fun k v => ?_⟩
  · have e : (itemsR ws L t K).map Prod.fst = K.filter (fun k => (itemR ws L t k).isSome) := by
      unfold itemsR
      clear ha hm
      induction K with
      | nil => rfl
      | cons a r ih =>
        rw [List.filterMap_cons, List.filter_cons]
        cases hx : itemR ws L t a with
        | none => simpa using ih
        | some p =>
          have := (hi a p.1 p.2).1 (by rw [hx])
          simp only [List.map_cons, ih, Option.isSome_some, if_true, this.1]
    rw [e]
    exact ha.filter _
  · unfold itemsR
    rw [List.mem_filterMap]
    constructor
    · rintro ⟨a, h1, h2⟩
      obtain ⟨rfl, h3⟩ := (hi a k v).1 h2
      obtain ⟨_, _, _, h4⟩ := (hm a).1 h1
      exact ⟨h4, h3⟩
    · rintro ⟨h1, h2⟩
      refine ⟨k, (hm k).2 ?_, (hi k k v).2 ⟨rfl, h2⟩⟩
      have h3 : (seesM ws L t k).2 = true := by rw [seesM_V (h k), h2]
      obtain ⟨u, hu, hk⟩ := sees_key h3
      exact ⟨u, hu, hk, h1⟩
theorem mem_set {X T : PT} : ∀ {l : List PT} {k : Nat}, l[k]? = some T → l.Pairwise (fun a b => a.start ≠ b.start) → ∀ Y ∈ l.set k X, Y = X ∨ (Y ∈ l ∧ Y.start ≠ T.start)
  | [], _, h, _, _, _ => by simp at h
  | Z :: r, 0, h, hp, Y, hY => by
    have e : Z = T := by simpa using h
    subst e
    rw [List.set_cons_zero] at hY
    rcases List.mem_cons.1 hY with e | e
    · exact Or.inl e
    · exact Or.inr ⟨List.mem_cons_of_mem _ e, fun e2 => (List.pairwise_cons.1 hp).1 Y e e2.symm⟩
  | Z :: r, k + 1, h, hp, Y, hY => by
    rw [List.set_cons_succ] at hY
    have h' : r[k]? = some T := by simpa using h
    rcases List.mem_cons.1 hY with e | e
    · subst e
      exact Or.inr ⟨List.mem_cons_self .., (List.pairwise_cons.1 hp).1 T (List.mem_of_getElem? h')⟩
    · rcases mem_set h' (List.pairwise_cons.1 hp).2 Y e with e | ⟨e, e2⟩
      · exact Or.inl e
      · exact Or.inr ⟨List.mem_cons_of_mem _ e, e2⟩
theorem pw_set {X T : PT} (hX : X.start = T.start) : ∀ {l : List PT} {k : Nat}, l[k]? = some T → l.Pairwise (fun a b => a.start ≠ b.start) → (l.set k X).Pairwise (fun a b => a.start ≠ b.start)
  | [], _, h, _ => by simp at h
  | Z :: r, 0, h, hp => by
    have e : Z = T := by simpa using h
    subst e
    rw [List.set_cons_zero]
    exact List.pairwise_cons.2 ⟨fun a ha => by rw [hX]; exact (List.pairwise_cons.1 hp).1 a ha, (List.pairwise_cons.1 hp).2⟩
  | Z :: r, k + 1, h, hp => by
    rw [List.set_cons_succ]
    have h' : r[k]? = some T := by simpa using h
    refine List.pairwise_cons.2 ⟨fun a ha => ?_, pw_set hX h' (List.pairwise_cons.1 hp).2⟩
    rcases List.mem_or_eq_of_mem_set ha with e | e
    · exact (List.pairwise_cons.1 hp).1 a e
    · rw [e, hX]
      exact (List.pairwise_cons.1 hp).1 T (List.mem_of_getElem? h')
/-- a step of a transaction that was answered OK. -/
theorem SInv.did {P : List Ent} {D : List Dec} {H : List Ver} {W : PW} {k : Nat} {T X : PT} {e : Ent} (h : SInv P D H W) (hk : W.ts[k]? = some T) (hX : X.start = T.start) (het : e.1.t = T.start) (hec : e.2.code = 0) (h2 : 2 ≤ e.1.kind) (h5 : e.1.kind ≤ 5)
    (hok : okE (viewM H T.start) T.ws e) (hws : wsE T.ws e = X.ws) (hrd : ∀ x, hitM T x = true → hitM X x = true) (hrn : ∀ x, ((e.1.kind = 2 ∧ e.1.key = x) ∨ (e.1.kind = 3 ∧ pk e.1.key x = true)) → hitM X x = true) :
    SInv (P ++ [e]) D H { W with ts := W.ts.set k X } := by
  have hT := List.mem_of_getElem? hk
  have hm := mem_set (X := X) hk h.nd
  have hyes : logB T.start e = true := by simp [logB, het, hec, h2, h5]
  have hno : ∀ n, n ≠ T.start → logB n e = false := fun n hn => by
    have : ¬ e.1.t = n := fun e2 => hn (by rw [← e2, het])
    simp [logB, this]
  obtain ⟨l1, l2, l3⟩ := h.ls T hT
  refine ⟨h.lo, pw_set hX hk h.nd, fun Y hY => ?_, h.Ht, h.Hs, h.sub, fun Y hY x => ?_, h.vc, h.rw, h.rl, h.rn, h.lc, fun Y hY => ?_, fun y hy hc a2 a5 => ?_, fun d hd => ?_, h.du, fun d hd => ?_, h.dh⟩
  · rcases hm Y hY with rfl | ⟨h1, _⟩
    · rw [hX]; exact h.st T hT
    · exact h.st Y h1
  · rcases hm Y hY with rfl | ⟨h1, _⟩
    · rw [hX]; exact h.vw T hT x
    · exact h.vw Y h1 x
  · rcases hm Y hY with rfl | ⟨h1, h3⟩
    · refine ⟨?_, ?_, fun x hx => ?_⟩
      · rw [hX, logOf_take hyes, fits_snoc, l2]
        exact ⟨l1, hok⟩
      · rw [hX, logOf_take hyes, wsOf_snoc, l2]
        exact hws
      · rw [hX, logOf_take hyes] at hx
        obtain ⟨y, hy, hy2⟩ := hx
        rcases List.mem_append.1 hy with hy | hy
        · exact hrd x (l3 x ⟨y, hy, hy2⟩)
        · rw [List.mem_singleton.1 hy] at hy2
          exact hrn x hy2
    · obtain ⟨a, b, c⟩ := h.ls Y h1
      have el := logOf_skip (P := P) (hno Y.start h3)
      exact ⟨by rw [el]; exact a, by rw [el]; exact b, by rw [el]; exact c⟩
  · rcases List.mem_append.1 hy with hy | hy
    · exact h.lg y hy hc a2 a5
    · rw [List.mem_singleton.1 hy, het]
      exact (h.st T hT).2
  · obtain ⟨d1, d2, d3, d4⟩ := h.dn d hd
    refine ⟨d1, d2, d3, fun Y hY => ?_⟩
    rcases hm Y hY with rfl | ⟨h1, _⟩
    · rw [hX]; exact d4 T hT
    · exact d4 Y h1
  · rw [logOf_skip (hno d.num (fun e2 => ((h.dn d hd).2.2.2 T hT).1 e2.symm))]
    exact h.df d hd
theorem hit_ks {T : PT} {x k : ByteArray} : hitM { T with ks := T.ks ++ [k] } x = (hitM T x || decide (k = x)) := by
  simp only [hitM, List.any_append, List.any_cons, List.any_nil, Bool.or_false]
  cases T.ks.any (fun k => decide (k = x)) <;> cases T.ps.any (fun p => pk p x) <;> simp
theorem hit_ps {T : PT} {x p : ByteArray} : hitM { T with ps := T.ps ++ [p] } x = (hitM T x || pk p x) := by
  simp only [hitM, List.any_append, List.any_cons, List.any_nil, Bool.or_false, Bool.or_assoc]
theorem SInv.ofO {P : List Ent} {D : List Dec} {H : List Ver} {W : PW} {k : Nat} {T : PT} {o : OpM} (h : SInv P D H W) (hk : W.ts[k]? = some T) (ht : o.t = T.start) (h2 : 2 ≤ o.kind) (h7 : o.kind ≤ 7) :
    SInv (P ++ [(o, (ofM W k T o).1)]) D H (ofM W k T o).2 ∧ (ofM W k T o).1.done = [] := by
  have hT := List.mem_of_getElem? hk
  have hvw := h.vw T hT
  unfold ofM
  split
  · exact ⟨h.skip (skip_code (by simp)), rfl⟩
  split
  · rename_i hk2
    refine ⟨h.did hk rfl ht rfl (by simp only; omega) (by simp only; omega) ⟨fun _ => ?_, fun h3 => ?_⟩ ?_ (fun x hx => ?_) (fun x hx => ?_), rfl⟩
    · simp only
      rw [seesM_V (hvw _)]
      exact ⟨rfl, rfl⟩
    · simp only at h3
      omega
    · simp [wsE, hk2]
    · rw [hit_ks, hx, Bool.true_or]
    · rcases hx with ⟨_, hx⟩ | ⟨hx, _⟩
      · simp only at hx
        rw [hit_ks, hx]
        simp
      · simp only at hx
        omega
  split
  · rename_i hk2 hk3
    refine ⟨h.did hk rfl ht rfl (by simp only; omega) (by simp only; omega) ⟨fun h3 => ?_, fun _ => items_spec hvw _⟩ ?_ (fun x hx => ?_) (fun x hx => ?_), rfl⟩
    · simp only at h3
      omega
    · simp [wsE, hk3]
    · rw [hit_ps, hx, Bool.true_or]
    · rcases hx with ⟨hx, _⟩ | ⟨_, hx⟩
      · simp only at hx
        omega
      · simp only at hx
        rw [hit_ps, hx]
        simp
  split
  · rename_i hk2 hk3 hk4
    split
    · exact ⟨h.skip (skip_code (by simp)), rfl⟩
    · refine ⟨h.did hk rfl ht rfl (by simp only; omega) (by simp only; omega) ⟨fun h3 => ?_, fun h3 => ?_⟩ ?_ (fun x hx => hx) (fun x hx => ?_), rfl⟩
      · simp only at h3
        omega
      · simp only at h3
        omega
      · simp [wsE, hk4]
      · simp only at hx
        omega
  split
  · rename_i hk2 hk3 hk4 hk5
    refine ⟨h.did hk rfl ht rfl (by simp only; omega) (by simp only; omega) ⟨fun h3 => ?_, fun h3 => ?_⟩ ?_ (fun x hx => hx) (fun x hx => ?_), rfl⟩
    · simp only at h3
      omega
    · simp only at h3
      omega
    · simp [wsE, hk5]
    · simp only at hx
      omega
  split
  · exact ⟨(h.less _ W.q List.filter_sublist).skip (skip_kind (by simp only; omega)), rfl⟩
  split
  · exact ⟨h.skip (skip_code (by simp)), rfl⟩
  · exact ⟨(h.less W.ts _ (List.Sublist.refl _)).skip (skip_kind (by simp only; omega)), rfl⟩
/-! ### CLEAN -/
def keptB (ts : List PT) (v : Ver) (r : List Ver) : Bool := match r.find? (fun x => decide (x.key = v.key)) with
  | none => true
  | some x => ts.any (fun T => decide (v.time ≤ T.start) && decide (T.start < x.time))
def keptL (ts : List PT) : List Ver → List Ver
  | [] => []
  | v :: r => if keptB ts v r then v :: keptL ts r else keptL ts r
theorem cleanL_eq (W : PW) : cleanL W = keptL W.ts W.L := by
  have key : ∀ (r : List Ver) (n : Nat), W.L.drop n = r → ((r.zipIdx n).filter (fun p => neededM W p.2 p.1)).map Prod.fst = keptL W.ts r := by
    intro r
    induction r with
    | nil => intro n _; rfl
    | cons v r ih =>
      intro n hn
      have hd : W.L.drop (n + 1) = r := by
        have := congrArg (List.drop 1) hn
        rw [List.drop_drop] at this
        exact this
      have e : neededM W n v = keptB W.ts v r := by
        unfold neededM nextM keptB
        rw [hd]
        cases r.find? (fun x => decide (x.key = v.key)) <;> rfl
      rw [List.zipIdx_cons, List.filter_cons]
      simp only [keptL, e]
      split
      · rw [List.map_cons, ih (n + 1) hd]
      · exact ih (n + 1) hd
  exact key W.L 0 rfl
theorem keptL_sub (ts : List PT) : ∀ L : List Ver, (keptL ts L).Sublist L
  | [] => List.Sublist.refl _
  | v :: r => by
    unfold keptL
    split
    · exact (keptL_sub ts r).cons_cons v
    · exact (keptL_sub ts r).cons v
theorem kept_at {ts : List PT} {s : Int} {k : ByteArray} : ∀ {L : List Ver}, (∀ v x : Ver, x ∈ L → v.time ≤ s → s < x.time → ∃ T ∈ ts, v.time ≤ T.start ∧ T.start < x.time) → atM (keptL ts L) k s = atM L k s := by
  intro L hs
  unfold atM
  have key : (keptL ts L).reverse.find? (fun v => decide (v.key = k) && decide (v.time ≤ s)) = L.reverse.find? (fun v => decide (v.key = k) && decide (v.time ≤ s)) := by
    induction L with
    | nil => rfl
    | cons v r ih =>
      have ih' := ih (fun v x hx => hs v x (List.mem_cons_of_mem _ hx))
      have e1 : (v :: r).reverse.find? (fun v => decide (v.key = k) && decide (v.time ≤ s)) = (r.reverse.find? (fun v => decide (v.key = k) && decide (v.time ≤ s))).or ([v].find? (fun v => decide (v.key = k) && decide (v.time ≤ s))) := by
        rw [List.reverse_cons, List.find?_append]
      rw [e1]
      unfold keptL
      split
      · rw [List.reverse_cons, List.find?_append, ih']
      · rename_i hn
        rw [ih']
        cases hr : r.reverse.find? (fun v => decide (v.key = k) && decide (v.time ≤ s)) with
        | some u => rfl
        | none =>
          have hp : (decide (v.key = k) && decide (v.time ≤ s)) = false := by
            refine Classical.byContradiction fun hp => hn ?_
            have hp' : v.key = k ∧ v.time ≤ s := by simpa using hp
            unfold keptB
            split
            · rfl
            · rename_i x hx
              have hxm := List.mem_of_find?_eq_some hx
              have hxk : x.key = v.key := by simpa using List.find?_some hx
              have h1 := List.find?_eq_none.1 hr x (by simpa using hxm)
              have h2 : s < x.time := by
                simp [hxk, hp'.1] at h1
                exact h1
              obtain ⟨T, hT, h3, h4⟩ := hs v x (List.mem_cons_of_mem _ hxm) hp'.2 h2
              exact List.any_eq_true.2 ⟨T, hT, by simp [h3, h4]⟩
          simp [hp]
  rw [key]
theorem SInv.clean {P : List Ent} {D : List Dec} {H : List Ver} {W : PW} (h : SInv P D H W) : SInv P D H { W with L := cleanL W } := by
  rw [cleanL_eq]
  refine ⟨h.lo, h.nd, h.st, h.Ht, h.Hs, (keptL_sub _ _).trans h.sub, fun T hT k => ?_, fun k => ?_, h.rw, h.rl, h.rn, h.lc, h.ls, h.lg, h.dn, h.du, h.df, h.dh⟩
  · rw [← h.vw T hT k]
    exact kept_at (fun v x _ h1 h2 => ⟨T, hT, h1, h2⟩)
  · rw [← h.vc k]
    exact kept_at (fun v x hx _ h2 => by
      have := h.Ht x (h.sub.subset hx)
      simp only at h2
      omega)
/-- EVERY STEP KEEPS IT. -/
theorem SInv.step {P : List Ent} {D : List Dec} {H : List Ver} {W : PW} (h : SInv P D H W) (o : OpM) : ∃ H', SInv (P ++ [(o, (stepR W o).1)]) (D ++ okD (stepR W o).1.done) H' (stepR W o).2 := by
  have nothing : okD [] = [] := rfl
  unfold stepR
  split
  · split
    · exact ⟨H, by rw [nothing, List.append_nil]; exact h.skip (skip_code (by simp))⟩
    · exact ⟨H, by rw [nothing, List.append_nil]; exact h.begin.skip (skip_kind (by simp only; omega))⟩
  split
  · split
    · exact ⟨H, by rw [nothing, List.append_nil]; exact h.skip (skip_code (by simp))⟩
    · rename_i k hk
      split
      · exact ⟨H, by rw [nothing, List.append_nil]; exact h.skip (skip_code (by simp))⟩
      · split
        · rename_i T hT
          have h3 : T.start = o.t := by
            obtain ⟨h5, h6, _⟩ := List.findIdx?_eq_some_iff_getElem.1 hk
            rw [List.getElem?_eq_getElem h5] at hT
            have e : W.ts[k] = T := by simpa using hT
            rw [e] at h6
            simpa using h6
          obtain ⟨h4, h5⟩ := h.ofO (o := o) hT h3.symm (by omega) (by omega)
          exact ⟨H, by rw [h5, nothing, List.append_nil]; exact h4⟩
        · exact ⟨H, by rw [nothing, List.append_nil]; exact h.skip (skip_code (by simp))⟩
  split
  · split
    · exact ⟨H, by rw [nothing, List.append_nil]; exact h.skip (skip_code (by simp))⟩
    · obtain ⟨H', h'⟩ := SInv.flush o.n.toNat h
      exact ⟨H', h'.skip (skip_kind (by simp only; omega))⟩
  split
  · exact ⟨H, by rw [nothing, List.append_nil]; exact h.fence.skip (skip_kind (by simp only; omega))⟩
  split
  · exact ⟨H, by rw [nothing, List.append_nil]; exact h.clean.skip (skip_kind (by simp only; omega))⟩
  split
  · exact ⟨H, by rw [nothing, List.append_nil]; exact h.skip (skip_kind (by simp only; omega))⟩
  · exact ⟨H, by rw [nothing, List.append_nil]; exact h.skip (skip_code (by simp))⟩
theorem SInv.stepP {P : List Ent} {D : List Dec} {H : List Ver} {W : PW} (h : SInv P D H W) (o : OpM) : ∃ H', SInv (P ++ [(o, (stepP W o).1)]) (D ++ okD (stepP W o).1.done) H' (stepP W o).2 := h.step o
/-- all decisions that were told OK. -/
def toldD (As : List AnsM) : List Dec := As.flatMap (fun A => okD A.done)
theorem SInv.runs : ∀ (ops : List OpM) {P : List Ent} {D : List Dec} {H : List Ver} {W : PW}, SInv P D H W → ∃ H', SInv (P ++ ops.zip (ansP W ops)) (D ++ toldD (ansP W ops)) H' (stP W ops)
  | [], P, D, H, W, h => ⟨H, by simpa [ansP, stP, toldD] using h⟩
  | o :: r, P, D, H, W, h => by
    obtain ⟨H1, h1⟩ := h.stepP o
    obtain ⟨H2, h2⟩ := SInv.runs r h1
    refine ⟨H2, ?_⟩
    simp only [ansP, stP, List.zip_cons_cons, toldD, List.flatMap_cons]
    rw [List.append_assoc, List.append_assoc] at h2
    exact h2
theorem serial_inv (ops : List OpM) : ∃ H, SInv (ops.zip (ansP p0 ops)) (toldD (ansP p0 ops)) H (stP p0 ops) := by
  obtain ⟨H, h⟩ := SInv.runs ops sinv0
  exact ⟨H, by simpa using h⟩
end Go.Proofs.YtkfjafndplmdkaaGreat
