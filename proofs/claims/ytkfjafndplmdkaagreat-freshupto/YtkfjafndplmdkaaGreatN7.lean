import Derived.Test.YtkfjafndplmdkaaGreatPI
import Derived.Test.YtkfjafndplmdkaaGreatN6
import Derived.Test.YtkfjafndplmdkaaGreatSA
namespace Go.Proofs.YtkfjafndplmdkaaGreat
open Go.RowKit Go.Sort
/-! ### CLEAN -/
theorem versM_head (k : ByteArray) : ∀ r : List Ver, (versM k r).head? = (r.find? (fun x => decide (x.key = k))).map (fun v => (v.time, (!v.gone, v.val)))
  | [] => rfl
  | v :: r => by
    by_cases h : v.key = k
    · simp [versM, h]
    · have ih := versM_head k r
      unfold versM at ih ⊢
      rw [List.filter_cons_of_neg (by simpa using h), ih, List.find?_cons]
      simp [h]
theorem readV_starts (ts : List PT) (a b : Int) : readV (ts.map PT.start) a b = ts.any (fun T => decide (a ≤ T.start) && decide (T.start < b)) := by
  unfold readV
  rw [List.any_map]
  rfl
theorem versM_kept (ts : List PT) (k : ByteArray) : ∀ L : List Ver, versM k (keptL ts L) = keepV (ts.map PT.start) (versM k L)
  | [] => rfl
  | v :: r => by
    have ih := versM_kept ts k r
    by_cases h : v.key = k
    · have e1 : versM k (v :: r) = (v.time, (!v.gone, v.val)) :: versM k r := by simp [versM, h]
      have e2 : versM k (v :: keptL ts r) = (v.time, (!v.gone, v.val)) :: versM k (keptL ts r) := by simp [versM, h]
      have hh := versM_head k r
      rw [e1]
      unfold keptL keptB
      rw [h]
      cases hf : r.find? (fun x => decide (x.key = k)) with
      | none =>
        rw [hf] at hh
        have : versM k r = [] := by
          cases hv : versM k r with
          | nil => rfl
          | cons x l => rw [hv] at hh; simp at hh
        rw [this] at ih ⊢
        simp only [if_true]
        rw [e2, ih]
        rfl
      | some x =>
        rw [hf] at hh
        cases hv : versM k r with
        | nil => rw [hv] at hh; simp at hh
        | cons y l =>
          rw [hv] at hh
          have hy : y = (x.time, (!x.gone, x.val)) := by simpa using hh
          rw [hv] at ih
          simp only [keepV]
          rw [readV_starts]
          have hy1 : y.1 = x.time := by rw [hy]
          simp only [hy1]
          by_cases hb : (ts.any (fun T => decide (v.time ≤ T.start) && decide (T.start < x.time))) = true
          · rw [if_pos hb, if_pos hb, e2, ih]
          · rw [if_neg hb, if_neg hb, ih]
    · have e1 : versM k (v :: r) = versM k r := by simp [versM, h]
      have e3 : keptL ts (v :: r) = if keptB ts v r then v :: keptL ts r else keptL ts r := rfl
      rw [e1, ← ih, e3]
      split
      · simp [versM, h]
      · rfl
theorem readV_perm {t t' : List Int} (h : t.Perm t') (a b : Int) : readV t a b = readV t' a b := by
  unfold readV
  rw [Bool.eq_iff_iff, List.any_eq_true, List.any_eq_true]
  exact ⟨fun ⟨x, hx, hp⟩ => ⟨x, h.mem_iff.1 hx, hp⟩, fun ⟨x, hx, hp⟩ => ⟨x, h.mem_iff.2 hx, hp⟩⟩
theorem keepV_perm {t t' : List Int} (h : t.Perm t') : ∀ l : List VP, keepV t l = keepV t' l
  | [] => rfl
  | [_] => rfl
  | v :: u :: r => by
    simp only [keepV]
    rw [readV_perm h, keepV_perm h (u :: r)]
theorem SameL.starts {R : Tx → PT → Prop} (hR : ∀ T P, R T P → T.start = P.start) : ∀ {a : List Tx} {b : List PT}, SameL R a b → a.map (·.start) = b.map PT.start
  | [], [], _ => rfl
  | T :: r, P :: q, h => by simp only [List.map_cons]; rw [hR _ _ h.1, h.2.starts hR]
theorem Rel.clean {st : PSt} {W : PW} {V' : List (ByteArray × VEnt)} {times : List Int} (hr : Rel st W) (ht : times.Perm ((numsOf st.txs).map Prod.fst))
    (hv : ∀ k : ByteArray, versOf k V' = if k.data.toList ∈ coll ⟨#[]⟩ st.V then keepV times (versOf k st.V) else versOf k st.V) : Rel { st with V := V' } { W with L := cleanL W } := by
  have hall : ∀ k : ByteArray, versOf k V' = keepV times (versOf k st.V) := fun k => by
    rw [hv k]
    by_cases hc : k.data.toList ∈ coll ⟨#[]⟩ st.V
    · rw [if_pos hc]
    · rw [if_neg hc]
      have hn : getA k st.V = none := by
        rw [getA_eq_none]
        intro hk
        refine hc ?_
        unfold coll
        refine List.mem_map.2 ⟨k, List.mem_filter.2 ⟨hk, ?_⟩, rfl⟩
        rw [extract_pk]
        exact ⟨Nat.zero_le _, by apply toList_inj; simp [ByteArray.size]⟩
      have : versOf k st.V = [] := by unfold versOf; rw [hn]
      rw [this]
      rfl
  have hts : (numsOf st.txs).map Prod.fst = W.ts.map PT.start := by
    rw [← hr.txs.starts RelQ.start]
    simp [numsOf, List.map_map, Function.comp_def]
  refine ⟨hr.clock, hr.low, hr.txs, hr.q, hr.rows, hr.rn, fun k => ?_, fun v hv' => ?_, hr.nd, hr.le, hr.qn⟩
  · show versOf k V' = versM k (cleanL W)
    rw [hall k, cleanL_eq, versM_kept, hr.V k]
    exact keepV_perm (hts ▸ ht) _
  · have hv2 : v ∈ cleanL W := hv'
    rw [cleanL_eq] at hv2
    exact hr.Lg v ((keptL_sub _ _).subset hv2)
theorem nums_len (txs : List Tx) : (numsOf txs).length = txs.length := by simp [numsOf]
theorem clean_step {st : PSt} {n : Nat} {w : World} {o : OpM} {W : PW} (h : Inv w st n) (hr : Rel st W) (hk : o.kind = 10) : Calls Tryz.prog 66 #[.pointer (some ⟨st.p, 0, none⟩)] w (StepPost st n w (stepR W o)) := by
  have e0 : stepR W o = (⟨0, W.L.length - (cleanL W).length, false, ⟨#[]⟩, [], [], []⟩, { W with L := cleanL W }) := by
    unfold stepR
    rw [if_neg (by omega), if_neg (by omega), if_neg (by omega), if_neg (by omega), if_pos hk]
  rw [e0]
  obtain ⟨hfx, hvf, htf, hvn, htn, _⟩ := h.lie
  have hnd : (st.sb :: st.vm :: vBlocks st.V).Nodup := by
    refine List.nodup_cons.2 ⟨fun hm => ?_, List.nodup_cons.2 ⟨fun hm => hvf _ hm (by simp [PSt.fix]), hvn⟩⟩
    rcases List.mem_cons.1 hm with e | hm
    · exact fix_ne hfx 2 3 rfl rfl (by decide) e
    · exact hvf _ hm (by simp [PSt.fix])
  refine (pclean_any st.p st.sb st.vm st.om st.V (numsOf st.txs) w (cell_of h.pl rfl) (cell_of h.pl rfl) h.om (by rw [nums_len]; have := h.six; omega) h.store h.vsum h.vk h.vn hnd).mono ?_
  rintro e w' ⟨gone, times, rfl, hperm, V', q1, q2, q3, q4, q5, q6, q7, q8⟩
  have hR := hr.clean hperm q3
  have hsum' : sumV V' = (cleanL W).length := sum_eq q1.vs.nodup hR.V
  have hsum : sumV st.V = W.L.length := hr.sum h.store.vs.nodup
  have hg : (W.L.length : Int) - (cleanL W).length = gone := by omega
  rw [hg]
  have nf : ∀ (i : Nat) (b : Nat), st.fix[i]? = some b → i ≠ 3 → ¬ (b = st.vm) := fun i b hi h3 e => fix_ne hfx i 3 hi rfl h3 e
  have hbl : ∀ b ∈ ({ st with V := V' } : PSt).blocks, b ∈ st.blocks ∨ w.heap.size ≤ b := fun b hb => by
    rcases List.mem_append.1 hb with hb | hb
    · exact Or.inl (PSt.mem_fix hb)
    · rcases List.mem_append.1 hb with hb | hb
      · exact (q6 b hb).1.imp PSt.mem_v id
      · exact Or.inl (List.mem_append.2 (Or.inr (List.mem_append.2 (Or.inr hb))))
  refine ok_post (st' := { st with V := V' }) rfl ⟨(q8.block _ (lt_of_block h.pl) (nf 0 _ rfl (by decide))).trans h.pl, (q8.block _ (lt_of_block h.ck) (nf 1 _ rfl (by decide))).trans h.ck, q1, h.orc.chg q8 (nf 4 _ rfl (by decide)) (nf 5 _ rfl (by decide)), (q8.block _ (lt_of_block h.qu) (nf 6 _ rfl (by decide))).trans h.qu, (q8.block _ (lt_of_block h.chn) (nf 7 _ rfl (by decide))).trans h.chn,
    h.om.of_block (q8.block _ h.om.lt (nf 8 _ rfl (by decide))), fun T hT => (h.txs T hT).kept q8 (fun b hb e => (htf T hT b hb).1 (by simp [PSt.fix, e])), ?_, h.lo, by have := h.hi; simp only; omega, h.six, fun T hT => (h.ok T hT).up (by simp only; omega) (by omega), h.q3, h.qok, h.r6, h.rk, ?_, fun p hp => ?_, q7⟩ hR (q8.mono (fun i _ e => PSt.mem_fix (by simp [PSt.fix, e]))) hbl
  · refine nodup_swap (A := st.fix) (X := vBlocks st.V) (n := w.heap.size) h.apart q5 (fun b hb => (q6 b hb).1) (fun b hb => h.there b (PSt.mem_fix hb)) (fun b hb => ?_)
    obtain ⟨T, hT, hb⟩ := List.mem_flatMap.1 hb
    exact (h.txs T hT).there b hb
  · have := h.vsum
    show sumV V' ≤ 100
    omega
  · have : p.1 ∈ st.V.map Prod.fst := q2 ▸ List.mem_map.2 ⟨p, hp, rfl⟩
    obtain ⟨q, hq, e⟩ := List.mem_map.1 this
    rw [← e]
    exact h.vk q hq
/-! ### FENCE -/
theorem fence_step {st : PSt} {n : Nat} {w : World} {o : OpM} {W : PW} (h : Inv w st n) (hr : Rel st W) (hk : o.kind = 9) : Calls Tryz.prog 65 #[.pointer (some ⟨st.p, 0, none⟩)] w (StepPost st n w (stepR W o)) := by
  have e0 : stepR W o = (⟨0, W.ts.length, false, ⟨#[]⟩, [], [], []⟩, { W with ts := [], q := [], rows := [], low := W.clock }) := by
    unfold stepR
    rw [if_neg (by omega), if_neg (by omega), if_neg (by omega), if_pos hk]
  rw [e0]
  obtain ⟨hfx, hvf, htf, hvn, htn, _⟩ := h.lie
  have hpl := lt_of_block h.pl
  refine (pfence_any st.p st.cb st.sb st.ob st.qb st.om st.clock (numsOf st.txs) w h.pl h.ck h.om).mono ?_
  rintro e w' ⟨rfl, hc⟩
  obtain ⟨f1, f2, f3, f4, f5, f6, f7, f8⟩ := ren3_facts (w.alloc ans0).drew st.p st.cb st.sb st.clock _ _ _ ((Below.heap_alloc w ans0 _ hpl).trans h.pl)
  have hz : (w.alloc ans0).drew.heap.size = w.heap.size + 1 := by show (w.alloc ans0).heap.size = _; simp
  rw [hz] at f1 f2 f3 f4 f5 f6 f7
  generalize ren3 (w.alloc ans0).drew st.p st.cb st.sb st.clock = w2 at *
  have hcw : Chg (fun b => b = st.p) w w' := ((((Chg.refl _ w).alloc ans0).drew).trans f8).andThen hc (fun i hi e => by omega)
  have tr : ∀ b o, b ≠ w.heap.size → w2.heap[b]? = some o → w'.heap[b]? = some o := fun b o hb ho => (hc.block b (lt_of_block ho) hb).trans ho
  have g1 := tr _ _ (by omega) f1
  have g2 := tr _ _ (by omega) f2
  have g3 := tr _ _ (by omega) f3
  have g4 := tr _ _ (by omega) f4
  have g5 := tr _ _ (by omega) f5
  have g6 := tr _ _ (by omega) f6
  have nf : ∀ (i : Nat) (b : Nat), st.fix[i]? = some b → i ≠ 0 → ¬ (b = st.p) := fun i b hi h3 e => fix_ne hfx i 0 hi rfl h3 e
  have hth := h.there
  have hlen : ((numsOf st.txs).length : Int) = W.ts.length := by rw [nums_len, hr.txs.len]
  rw [hlen]
  have hold : ([st.p, st.cb, st.sb, st.vm] ++ ([] ++ vBlocks st.V)).Nodup := by
    have h1 := h.apart
    refine List.Pairwise.sublist ?_ h1
    unfold PSt.blocks PSt.fix
    exact List.Sublist.append (List.take_sublist 4 [st.p, st.cb, st.sb, st.vm, st.ob, st.rb, st.qb, st.ch, st.om]) (List.sublist_append_left _ _)
  have hbl : ({ st with ob := w.heap.size + 1 + 1, rb := w.heap.size + 1, qb := w.heap.size + 1 + 3, ch := w.heap.size + 1 + 2, om := w.heap.size + 1 + 4, low := st.clock, rows := [], q := [], qs := 0, qr := 0, txs := [] } : PSt).blocks = [st.p, st.cb, st.sb, st.vm] ++ ([w.heap.size + 1 + 1, w.heap.size + 1, w.heap.size + 1 + 3, w.heap.size + 1 + 2, w.heap.size + 1 + 4] ++ vBlocks st.V) := by
    simp [PSt.blocks, PSt.fix]
  refine ok_post (st' := { st with ob := w.heap.size + 1 + 1, rb := w.heap.size + 1, qb := w.heap.size + 1 + 3, ch := w.heap.size + 1 + 2, om := w.heap.size + 1 + 4, low := st.clock, rows := [], q := [], qs := 0, qr := 0, txs := [] }) rfl
    ⟨g1, (hcw.block _ (lt_of_block h.ck) (nf 1 _ rfl (by decide))).trans h.ck, h.store.chg hcw (nf 2 _ rfl (by decide)) (nf 3 _ rfl (by decide)) (fun b hb e => hvf b hb (by simp [PSt.fix, e])), ⟨g3, mapAt_made _ _ _ _ _ g2⟩, g5, g4, mapAt_made _ _ _ _ _ g6, by simp, ?_, h.lo, by have := h.hi; simp; omega, by simp, by simp, by simp, by simp, by simp, by simp, h.vsum, h.vk, h.vn⟩
    ⟨hr.clock, hr.clock, trivial, rfl, fun k => rfl, by simp, hr.V, hr.Lg, by simp, by simp, by simp⟩ (hcw.mono (fun i _ e => PSt.mem_fix (by simp [PSt.fix, e]))) (fun b hb => ?_)
  · rw [hbl]
    refine nodup_swap (n := w.heap.size + 1) hold (by simp) (fun b hb => Or.inr ?_) (fun b hb => ?_) (fun b hb => ?_)
    · simp only [List.mem_cons, List.not_mem_nil, or_false] at hb
      omega
    · have := hth b (PSt.mem_fix (by simp only [List.mem_cons, List.not_mem_nil, or_false] at hb; rcases hb with rfl | rfl | rfl | rfl <;> simp [PSt.fix]))
      omega
    · have := hth b (PSt.mem_v hb)
      omega
  · rw [hbl] at hb
    rcases List.mem_append.1 hb with hb | hb
    · refine Or.inl (PSt.mem_fix ?_)
      simp only [List.mem_cons, List.not_mem_nil, or_false] at hb
      rcases hb with rfl | rfl | rfl | rfl <;> simp [PSt.fix]
    · rcases List.mem_append.1 hb with hb | hb
      · refine Or.inr ?_
        simp only [List.mem_cons, List.not_mem_nil, or_false] at hb
        omega
      · exact Or.inl (PSt.mem_v hb)
/-! ### SUMS -/
def SumsPost (st : PSt) (n : Nat) (w : World) (r : AnsM × PW) (e : Ending) (w' : World) : Prop :=
  ∃ S : List Int, r.1 = ⟨0, 0, false, ⟨#[]⟩, [], [], S⟩ ∧ ∃ a k c, e = .returned (ansW 0 0 false ⟨#[]⟩ (.slice none 0 0) (.slice none 0 0) (.slice a k c)) ∧ w'.ownsRow w.heap.size 3 1 (.slice a k c) S.length (S.map (fun n => Value.int .i64 n)) ∧ Inv w' st (n + 1) ∧ Rel st r.2 ∧ Chg nobody w w'
theorem sums_step {st : PSt} {n : Nat} {w : World} {o : OpM} {W : PW} (h : Inv w st n) (hr : Rel st W) (hk : o.kind = 11) : Calls Tryz.prog 67 #[.pointer (some ⟨st.p, 0, none⟩)] w (SumsPost st n w (stepR W o)) := by
  have e0 : stepR W o = (⟨0, 0, false, ⟨#[]⟩, [], [], [(W.L.length : Int), W.ts.length, W.q.length, W.rows.length, W.low, W.clock]⟩, W) := by
    unfold stepR
    rw [if_neg (by omega), if_neg (by omega), if_neg (by omega), if_neg (by omega), if_neg (by omega), if_pos hk]
  rw [e0]
  have s1 : sumV st.V = W.L.length := hr.sum h.store.vs.nodup
  have s2 : (numsOf st.txs).length = W.ts.length := by rw [nums_len, hr.txs.len]
  have s3 : (st.q.map (fun e => mkP e.2)).length = W.q.length := by rw [hr.q]; simp
  have s4 : st.rows.length = W.rows.length := (perm_of_getA h.orc.r.nodup hr.rn hr.rows).length_eq
  refine (psums_any st.p st.cb st.sb st.vm st.ob st.rb st.qb st.ch st.om st.V st.rows st.low st.clock (st.q.map (fun e => mkP e.2)) st.qs st.qr (numsOf st.txs) w ⟨h.pl, h.ck, h.store, h.orc, h.qu, h.chn, h.om⟩ h.vsum).mono ?_
  rintro e w' ⟨g, rfl, hrow, hc⟩
  refine ⟨_, rfl, _, _, _, rfl, ?_, h.chg hc (fun _ _ hf => hf) (by omega), hr, hc⟩
  rw [s1, s2, s3, s4, hr.low, hr.clock] at hrow
  exact hrow
end Go.Proofs.YtkfjafndplmdkaaGreat
