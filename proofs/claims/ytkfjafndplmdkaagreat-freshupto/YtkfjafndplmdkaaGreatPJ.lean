import Derived.Test.YtkfjafndplmdkaaGreatN7
namespace Go.Proofs.YtkfjafndplmdkaaGreat
open Go.RowKit Go.Sort
theorem begin_step {st : PSt} {n : Nat} {w : World} {o : OpM} {W : PW} (h : Inv w st n) (hr : Rel st W) (hn : n ≤ 10000000) (hk : o.kind = 1) : Calls Tryz.prog 57 #[.pointer (some ⟨st.p, 0, none⟩)] w (StepPost st n w (stepR W o)) := by
  have e0 : stepR W o = if 6 ≤ W.ts.length then (errA 6, W) else (⟨0, W.clock + 1, false, ⟨#[]⟩, [], [], []⟩, { W with clock := W.clock + 1, ts := W.ts ++ [⟨W.clock + 1, [], [], []⟩] }) := by
    unfold stepR
    rw [if_pos hk]
  rw [e0, ← hr.txs.len]
  by_cases h6 : 6 ≤ st.txs.length
  · rw [if_pos h6]
    refine (begin_no st.p st.om (numsOf st.txs) w (cell_of h.pl rfl) h.om (by simpa [numsOf] using h6)).mono ?_
    rintro e w' ⟨rfl, hc⟩
    exact err_post h hr hc (by decide)
  · rw [if_neg h6]
    obtain ⟨hfx, hvf, htf, _, _, _⟩ := h.lie
    have hhi := h.hi
    refine (begin_yes st.p st.cb st.sb st.ob st.qb st.om st.clock (numsOf st.txs) w h.lo (by omega) h.pl h.ck h.om (by simpa [numsOf] using h6)).mono ?_
    rintro e w' ⟨tb, wb, kb, pb, rfl, hT, hck, hm, hc, hw, rfl, rfl, rfl⟩
    have hth := h.there
    have hnone : putA (st.clock + 1) (wb + 3) (numsOf st.txs) = numsOf st.txs ++ [(st.clock + 1, wb + 3)] := putA_none (fun q hq => by
      unfold numsOf at hq
      obtain ⟨X, hX, rfl⟩ := List.mem_map.1 hq
      have := (h.ok X hX).hi
      simp only
      omega)
    rw [hnone] at hm
    have hbl : ({ st with clock := st.clock + 1, txs := st.txs ++ [⟨wb + 3, wb, wb + 1, wb + 2, false, st.clock + 1, [], [], []⟩] } : PSt).blocks = st.blocks ++ [wb + 3, wb, wb + 1, wb + 2] := by
      simp [PSt.blocks, PSt.fix, Tx.blocks, List.flatMap_append]
    have nS : ∀ (i : Nat) (b : Nat), st.fix[i]? = some b → i ≠ 1 → i ≠ 8 → ¬ (b = st.cb ∨ b = st.om) := fun i b hi h1 h8 hx => hx.elim (fix_ne hfx i 1 hi rfl h1) (fix_ne hfx i 8 hi rfl h8)
    have nV : ∀ b ∈ vBlocks st.V, ¬ (b = st.cb ∨ b = st.om) := fun b hb hx => hvf b hb (by rcases hx with e | e <;> simp [PSt.fix, e])
    have nT : ∀ X ∈ st.txs, ∀ b ∈ X.blocks, ¬ (b = st.cb ∨ b = st.om) := fun X hX b hb hx => (htf X hX b hb).1 (by rcases hx with e | e <;> simp [PSt.fix, e])
    have hnq : W.clock + 1 ∉ W.q := fun hm => by
      rw [hr.q] at hm
      obtain ⟨e, he, e1⟩ := List.mem_map.1 hm
      obtain ⟨X, hX, x1, _⟩ := h.qok e he
      have := (h.ok X hX).hi
      have := hr.clock
      omega
    have hR' : Rel { st with clock := st.clock + 1, txs := st.txs ++ [⟨wb + 3, wb, wb + 1, wb + 2, false, st.clock + 1, [], [], []⟩] } { W with clock := W.clock + 1, ts := W.ts ++ [⟨W.clock + 1, [], [], []⟩] } := by
      have hrq : RelQ W.q ⟨wb + 3, wb, wb + 1, wb + 2, false, st.clock + 1, [], [], []⟩ ⟨W.clock + 1, [], [], []⟩ := ⟨⟨by simp [hr.clock], fun _ => rfl, rfl, List.Pairwise.nil, List.Pairwise.nil, by simp, by simp [getA], by simp [getA]⟩, (decide_eq_false hnq).symm⟩
      refine ⟨by simp [hr.clock], hr.low, hr.txs.snoc hrq, hr.q, hr.rows, hr.rn, hr.V, hr.Lg, ?_, ?_, hr.qn⟩
      · simp only [List.map_append, List.map_cons, List.map_nil]
        rw [List.nodup_append]
        refine ⟨hr.nd, by simp, fun a ha b hb => ?_⟩
        obtain ⟨P, hP, rfl⟩ := List.mem_map.1 ha
        have := hr.le P hP
        have e : b = W.clock + 1 := by simpa using hb
        omega
      · intro P hP
        rcases List.mem_append.1 hP with h1 | h1
        · have := hr.le P h1; simp only; omega
        · have e : P = ⟨W.clock + 1, [], [], []⟩ := by simpa using h1
          subst e
          simp
    rw [← hr.clock]
    rw [← hr.clock] at hR'
    refine ok_post (st' := { st with clock := st.clock + 1, txs := st.txs ++ [⟨wb + 3, wb, wb + 1, wb + 2, false, st.clock + 1, [], [], []⟩] }) rfl ⟨(hc.block _ (lt_of_block h.pl) (nS 0 _ rfl (by decide) (by decide))).trans h.pl, hck, h.store.chg hc (nS 2 _ rfl (by decide) (by decide)) (nS 3 _ rfl (by decide) (by decide)) nV, h.orc.chg hc (nS 4 _ rfl (by decide) (by decide)) (nS 5 _ rfl (by decide) (by decide)), (hc.block _ (lt_of_block h.qu) (nS 6 _ rfl (by decide) (by decide))).trans h.qu, (hc.block _ (lt_of_block h.chn) (nS 7 _ rfl (by decide) (by decide))).trans h.chn, ?_, fun X hX => ?_, ?_, by have := h.lo; simp only; omega, by simp only; omega, by simp; omega, fun X hX => ?_, h.q3, fun e he => ?_, h.r6, h.rk, h.vsum, h.vk, h.vn⟩ hR' (hc.mono (fun i _ e => by rcases e with e | e <;> subst e <;> exact PSt.mem_fix (by simp [PSt.fix]))) (fun b hb => ?_)
    · simp only [numsOf, List.map_append, List.map_cons, List.map_nil]
      exact hm
    · rcases List.mem_append.1 hX with hX | hX
      · exact (h.txs X hX).kept hc (nT X hX)
      · rw [List.mem_singleton.1 hX]
        exact hT
    · rw [hbl]
      refine List.nodup_append.2 ⟨h.apart, by simp, fun a ha b hb => ?_⟩
      have := hth a ha
      simp only [List.mem_cons, List.not_mem_nil, or_false] at hb
      omega
    · rcases List.mem_append.1 hX with hX | hX
      · exact (h.ok X hX).up (by simp only; omega) (by omega)
      · rw [List.mem_singleton.1 hX]
        exact ⟨by have := h.lo; simp only; omega, by simp, by simp, by simp, by simp, by simp⟩
    · obtain ⟨X, hX, x1, x2⟩ := h.qok e he
      exact ⟨X, List.mem_append.2 (Or.inl hX), x1, x2⟩
    · rw [hbl] at hb
      rcases List.mem_append.1 hb with hb | hb
      · exact Or.inl hb
      · simp only [List.mem_cons, List.not_mem_nil, or_false] at hb
        exact Or.inr (by omega)
theorem flush_step {st : PSt} {n : Nat} {w : World} {o : OpM} {W : PW} (h : Inv w st n) (hr : Rel st W) (hn : n ≤ 10000000) (hk : o.kind = 8) : Calls Tryz.prog 64 #[.pointer (some ⟨st.p, 0, none⟩), o.v] w (StepPost st n w (stepR W o)) := by
  have e0 : stepR W o = (if o.n < 0 ∨ 100 < o.n then (errA 11, W) else (⟨0, 0, false, ⟨#[]⟩, [], (flushM o.n.toNat W).1, []⟩, (flushM o.n.toNat W).2)) := by
    unfold stepR
    rw [if_neg (by omega), if_neg (by omega), if_pos hk]
  rw [e0]
  by_cases hb : o.n < 0 ∨ 100 < o.n
  · rw [if_pos hb]; exact flush_bad h hr hb
  · rw [if_neg hb]; exact flush_ok h hr (by omega) (by omega) (by omega)
set_option maxRecDepth 100000 in
set_option maxHeartbeats 1000000 in
theorem step_bad {p : Nat} {w : World} {o : OpM} (hk : o.kind < 1 ∨ 11 < o.kind) : Calls Tryz.prog 48 #[.pointer (some ⟨p, 0, none⟩), o.v] w fun e w' => e = errE 1 ∧ w' = two w o := by
  have b1 : (o.kind == 1) = false := beq_eq_false_iff_ne.2 (by omega)
  have b2 : (o.kind == 2) = false := beq_eq_false_iff_ne.2 (by omega)
  have b3 : (o.kind == 3) = false := beq_eq_false_iff_ne.2 (by omega)
  have b4 : (o.kind == 4) = false := beq_eq_false_iff_ne.2 (by omega)
  have b5 : (o.kind == 5) = false := beq_eq_false_iff_ne.2 (by omega)
  have b6 : (o.kind == 6) = false := beq_eq_false_iff_ne.2 (by omega)
  have b7 : (o.kind == 7) = false := beq_eq_false_iff_ne.2 (by omega)
  have b8 : (o.kind == 8) = false := beq_eq_false_iff_ne.2 (by omega)
  have b9 : (o.kind == 9) = false := beq_eq_false_iff_ne.2 (by omega)
  have b10 : (o.kind == 10) = false := beq_eq_false_iff_ne.2 (by omega)
  have b11 : (o.kind == 11) = false := beq_eq_false_iff_ne.2 (by omega)
  clear hk
  go_enter Tryz.func48, Tryz.ntmps48
  go_wp2
  exact ⟨rfl, rfl, rfl⟩
theorem post_lift {st : PSt} {n : Nat} {w W w3 w4 : World} {r : AnsM × PW} {e : Ending} (h : Inv w st n) (hW : Chg nobody w W) (hp : StepPost st n W r e w3) (hc4 : Chg (fun b => w.heap.size ≤ b ∧ b < W.heap.size) w3 w4) : StepPost st n w r e w4 := by
  obtain ⟨st', q1, q2, q3, q4, q5, q6⟩ := hp
  have hz := hW.size
  have hout : ∀ b ∈ st'.blocks, ¬ (w.heap.size ≤ b ∧ b < W.heap.size) := fun b hb hx => by
    rcases q5 b hb with h1 | h1
    · have := h.there b h1
      omega
    · omega
  refine ⟨st', q1, q2.chg hc4 hout (Nat.le_refl _), q3, ((hW.any _).andThen q4 (fun _ _ h => h)).andThen hc4 (fun i hi hx => by omega), fun b hb => (q5 b hb).imp id (fun h => by omega), ?_⟩
  rcases q6 with ⟨h0, h0', a, k, c, a2, k2, c2, he, hrow, hrow2, hg, hg2⟩ | h2
  · exact Or.inl ⟨h0, h0', a, k, c, a2, k2, c2, he, ownsRow_base (ownsRow_chg hrow hc4 (fun g hg' hx => by have := (hrow.lt g hg').1; omega)) hz, ownsRow_base (ownsRow_chg hrow2 hc4 (fun g hg' hx => by have := (hrow2.lt g hg').1; omega)) hz, hg, hg2⟩
  · exact Or.inr h2
theorem two_size (w : World) (o : OpM) : (two w o).heap.size = w.heap.size + 2 := by simp
set_option maxRecDepth 100000 in
set_option maxHeartbeats 1000000 in
theorem step_1 {st : PSt} {n : Nat} {w : World} {o : OpM} {W : PW} (h : Inv w st n) (hr : Rel st W) (hn : n ≤ 10000000) (ho : o.ok) (hk : o.kind = 1) : Calls Tryz.prog 48 #[.pointer (some ⟨st.p, 0, none⟩), o.v] w (StepPost st n w (stepR W o)) := by
  have HC := begin_step (h.chg (two_chg w o) (fun _ _ hf => hf) (Nat.le_refl _)) hr hn hk
  have b1 : (o.kind == 1) = true := beq_iff_eq.2 hk
  have HI : Hid (Inv w st n) := h
  have _h1 := hn
  have _h2 := ho
  clear _h1 _h2
  generalize stepR W o = r at HC ⊢
  clear hk h ho hn hr
  go_enter Tryz.func48, Tryz.ntmps48
  go_wp2_with fail
  refine HC.mono ?_
  rintro e w3 hp
  have HP : Hid (StepPost st n (two w o) r e w3) := hp
  obtain ⟨st', q1, q2, q3, q4, q5, q6⟩ := hp
  rcases q6 with ⟨h0, h0', a, k, c, a2, k2, c2, rfl, hrow, hrow2, hg, hg2⟩ | ⟨c, h0, hr, rfl⟩
  · obtain ⟨hres, hz3⟩ := res_two q4 (fun hm => by have := HI.out.there _ hm; omega)
    have HR : Hid (w3.heap[w.heap.size + 1]? = some ans0) := hres
    obtain ⟨k0, k1, kk2, k3, k4, k5, k6, kf⟩ := cells7 hres
    clear q1 q2 q3 q4 q5 hrow hrow2 hg hg2 h0 h0' hres HC
    go_wp2
    obtain ⟨r0, r1, r2, r3, r4, r5, r6⟩ := set7 HR.out rfl (.int .i64 0) (.int .i64 r.1.number) (.bool r.1.found) (.string r.1.value) (.slice a k c) (.slice a2 k2 c2) (.slice none 0 0)
    have hc7 := (chg_set7 w3 (w.heap.size + 1) (.int .i64 0) (.int .i64 r.1.number) (.bool r.1.found) (.string r.1.value) (.slice a k c) (.slice a2 k2 c2) (.slice none 0 0))
    exact bodyPost_ret (v := ansW 0 r.1.number r.1.found r.1.value (.slice a k c) (.slice a2 k2 c2) (.slice none 0 0)) (by simp [results, Tryz.results48, go_sem, r0, r1, r2, r3, r4, r5, r6]) rfl (post_lift HI.out (two_chg w o) HP.out (hc7.mono (fun i _ e => by have := two_size w o; omega)))
  · clear q1 q2 q3 q4 q5 hr h0 HC
    go_wp2
    exact ⟨rfl, post_lift HI.out (two_chg w o) HP.out (Chg.refl _ _)⟩
set_option maxRecDepth 100000 in
set_option maxHeartbeats 1000000 in
theorem step_2 {st : PSt} {n : Nat} {w : World} {o : OpM} {W : PW} (h : Inv w st n) (hr : Rel st W) (hn : n ≤ 10000000) (ho : o.ok) (hk : o.kind = 2) : Calls Tryz.prog 48 #[.pointer (some ⟨st.p, 0, none⟩), o.v] w (StepPost st n w (stepR W o)) := by
  have HC := get_step (h.chg (two_chg w o) (fun _ _ hf => hf) (Nat.le_refl _)) hr ho hk
  have b1 : (o.kind == 1) = false := beq_eq_false_iff_ne.2 (by omega)
  have b2 : (o.kind == 2) = true := beq_iff_eq.2 hk
  have HI : Hid (Inv w st n) := h
  have _h1 := hn
  have _h2 := ho
  clear _h1 _h2
  generalize stepR W o = r at HC ⊢
  clear hk h ho hn hr
  go_enter Tryz.func48, Tryz.ntmps48
  go_wp2_with fail
  refine HC.mono ?_
  rintro e w3 hp
  have HP : Hid (StepPost st n (two w o) r e w3) := hp
  obtain ⟨st', q1, q2, q3, q4, q5, q6⟩ := hp
  rcases q6 with ⟨h0, h0', a, k, c, a2, k2, c2, rfl, hrow, hrow2, hg, hg2⟩ | ⟨c, h0, hr, rfl⟩
  · obtain ⟨hres, hz3⟩ := res_two q4 (fun hm => by have := HI.out.there _ hm; omega)
    have HR : Hid (w3.heap[w.heap.size + 1]? = some ans0) := hres
    obtain ⟨k0, k1, kk2, k3, k4, k5, k6, kf⟩ := cells7 hres
    clear q1 q2 q3 q4 q5 hrow hrow2 hg hg2 h0 h0' hres HC
    go_wp2
    obtain ⟨r0, r1, r2, r3, r4, r5, r6⟩ := set7 HR.out rfl (.int .i64 0) (.int .i64 r.1.number) (.bool r.1.found) (.string r.1.value) (.slice a k c) (.slice a2 k2 c2) (.slice none 0 0)
    have hc7 := (chg_set7 w3 (w.heap.size + 1) (.int .i64 0) (.int .i64 r.1.number) (.bool r.1.found) (.string r.1.value) (.slice a k c) (.slice a2 k2 c2) (.slice none 0 0))
    exact bodyPost_ret (v := ansW 0 r.1.number r.1.found r.1.value (.slice a k c) (.slice a2 k2 c2) (.slice none 0 0)) (by simp [results, Tryz.results48, go_sem, r0, r1, r2, r3, r4, r5, r6]) rfl (post_lift HI.out (two_chg w o) HP.out (hc7.mono (fun i _ e => by have := two_size w o; omega)))
  · clear q1 q2 q3 q4 q5 hr h0 HC
    go_wp2
    exact ⟨rfl, post_lift HI.out (two_chg w o) HP.out (Chg.refl _ _)⟩
set_option maxRecDepth 100000 in
set_option maxHeartbeats 1000000 in
theorem step_3 {st : PSt} {n : Nat} {w : World} {o : OpM} {W : PW} (h : Inv w st n) (hr : Rel st W) (hn : n ≤ 10000000) (ho : o.ok) (hk : o.kind = 3) : Calls Tryz.prog 48 #[.pointer (some ⟨st.p, 0, none⟩), o.v] w (StepPost st n w (stepR W o)) := by
  have HC := scan_step (h.chg (two_chg w o) (fun _ _ hf => hf) (Nat.le_refl _)) hr hn ho hk
  have b1 : (o.kind == 1) = false := beq_eq_false_iff_ne.2 (by omega)
  have b2 : (o.kind == 2) = false := beq_eq_false_iff_ne.2 (by omega)
  have b3 : (o.kind == 3) = true := beq_iff_eq.2 hk
  have HI : Hid (Inv w st n) := h
  have _h1 := hn
  have _h2 := ho
  clear _h1 _h2
  generalize stepR W o = r at HC ⊢
  clear hk h ho hn hr
  go_enter Tryz.func48, Tryz.ntmps48
  go_wp2_with fail
  refine HC.mono ?_
  rintro e w3 hp
  have HP : Hid (StepPost st n (two w o) r e w3) := hp
  obtain ⟨st', q1, q2, q3, q4, q5, q6⟩ := hp
  rcases q6 with ⟨h0, h0', a, k, c, a2, k2, c2, rfl, hrow, hrow2, hg, hg2⟩ | ⟨c, h0, hr, rfl⟩
  · obtain ⟨hres, hz3⟩ := res_two q4 (fun hm => by have := HI.out.there _ hm; omega)
    have HR : Hid (w3.heap[w.heap.size + 1]? = some ans0) := hres
    obtain ⟨k0, k1, kk2, k3, k4, k5, k6, kf⟩ := cells7 hres
    clear q1 q2 q3 q4 q5 hrow hrow2 hg hg2 h0 h0' hres HC
    go_wp2
    obtain ⟨r0, r1, r2, r3, r4, r5, r6⟩ := set7 HR.out rfl (.int .i64 0) (.int .i64 r.1.number) (.bool r.1.found) (.string r.1.value) (.slice a k c) (.slice a2 k2 c2) (.slice none 0 0)
    have hc7 := (chg_set7 w3 (w.heap.size + 1) (.int .i64 0) (.int .i64 r.1.number) (.bool r.1.found) (.string r.1.value) (.slice a k c) (.slice a2 k2 c2) (.slice none 0 0))
    exact bodyPost_ret (v := ansW 0 r.1.number r.1.found r.1.value (.slice a k c) (.slice a2 k2 c2) (.slice none 0 0)) (by simp [results, Tryz.results48, go_sem, r0, r1, r2, r3, r4, r5, r6]) rfl (post_lift HI.out (two_chg w o) HP.out (hc7.mono (fun i _ e => by have := two_size w o; omega)))
  · clear q1 q2 q3 q4 q5 hr h0 HC
    go_wp2
    exact ⟨rfl, post_lift HI.out (two_chg w o) HP.out (Chg.refl _ _)⟩
set_option maxRecDepth 100000 in
set_option maxHeartbeats 1000000 in
theorem step_4 {st : PSt} {n : Nat} {w : World} {o : OpM} {W : PW} (h : Inv w st n) (hr : Rel st W) (hn : n ≤ 10000000) (ho : o.ok) (hk : o.kind = 4) : Calls Tryz.prog 48 #[.pointer (some ⟨st.p, 0, none⟩), o.v] w (StepPost st n w (stepR W o)) := by
  have HC := put_step (h.chg (two_chg w o) (fun _ _ hf => hf) (Nat.le_refl _)) hr ho hk
  have b1 : (o.kind == 1) = false := beq_eq_false_iff_ne.2 (by omega)
  have b2 : (o.kind == 2) = false := beq_eq_false_iff_ne.2 (by omega)
  have b3 : (o.kind == 3) = false := beq_eq_false_iff_ne.2 (by omega)
  have b4 : (o.kind == 4) = true := beq_iff_eq.2 hk
  have HI : Hid (Inv w st n) := h
  have _h1 := hn
  have _h2 := ho
  clear _h1 _h2
  generalize stepR W o = r at HC ⊢
  clear hk h ho hn hr
  go_enter Tryz.func48, Tryz.ntmps48
  go_wp2_with fail
  refine HC.mono ?_
  rintro e w3 hp
  have HP : Hid (StepPost st n (two w o) r e w3) := hp
  obtain ⟨st', q1, q2, q3, q4, q5, q6⟩ := hp
  rcases q6 with ⟨h0, h0', a, k, c, a2, k2, c2, rfl, hrow, hrow2, hg, hg2⟩ | ⟨c, h0, hr, rfl⟩
  · obtain ⟨hres, hz3⟩ := res_two q4 (fun hm => by have := HI.out.there _ hm; omega)
    have HR : Hid (w3.heap[w.heap.size + 1]? = some ans0) := hres
    obtain ⟨k0, k1, kk2, k3, k4, k5, k6, kf⟩ := cells7 hres
    clear q1 q2 q3 q4 q5 hrow hrow2 hg hg2 h0 h0' hres HC
    go_wp2
    obtain ⟨r0, r1, r2, r3, r4, r5, r6⟩ := set7 HR.out rfl (.int .i64 0) (.int .i64 r.1.number) (.bool r.1.found) (.string r.1.value) (.slice a k c) (.slice a2 k2 c2) (.slice none 0 0)
    have hc7 := (chg_set7 w3 (w.heap.size + 1) (.int .i64 0) (.int .i64 r.1.number) (.bool r.1.found) (.string r.1.value) (.slice a k c) (.slice a2 k2 c2) (.slice none 0 0))
    exact bodyPost_ret (v := ansW 0 r.1.number r.1.found r.1.value (.slice a k c) (.slice a2 k2 c2) (.slice none 0 0)) (by simp [results, Tryz.results48, go_sem, r0, r1, r2, r3, r4, r5, r6]) rfl (post_lift HI.out (two_chg w o) HP.out (hc7.mono (fun i _ e => by have := two_size w o; omega)))
  · clear q1 q2 q3 q4 q5 hr h0 HC
    go_wp2
    exact ⟨rfl, post_lift HI.out (two_chg w o) HP.out (Chg.refl _ _)⟩
set_option maxRecDepth 100000 in
set_option maxHeartbeats 1000000 in
theorem step_5 {st : PSt} {n : Nat} {w : World} {o : OpM} {W : PW} (h : Inv w st n) (hr : Rel st W) (hn : n ≤ 10000000) (ho : o.ok) (hk : o.kind = 5) : Calls Tryz.prog 48 #[.pointer (some ⟨st.p, 0, none⟩), o.v] w (StepPost st n w (stepR W o)) := by
  have HC := del_step (h.chg (two_chg w o) (fun _ _ hf => hf) (Nat.le_refl _)) hr ho hk
  have b1 : (o.kind == 1) = false := beq_eq_false_iff_ne.2 (by omega)
  have b2 : (o.kind == 2) = false := beq_eq_false_iff_ne.2 (by omega)
  have b3 : (o.kind == 3) = false := beq_eq_false_iff_ne.2 (by omega)
  have b4 : (o.kind == 4) = false := beq_eq_false_iff_ne.2 (by omega)
  have b5 : (o.kind == 5) = true := beq_iff_eq.2 hk
  have HI : Hid (Inv w st n) := h
  have _h1 := hn
  have _h2 := ho
  clear _h1 _h2
  generalize stepR W o = r at HC ⊢
  clear hk h ho hn hr
  go_enter Tryz.func48, Tryz.ntmps48
  go_wp2_with fail
  refine HC.mono ?_
  rintro e w3 hp
  have HP : Hid (StepPost st n (two w o) r e w3) := hp
  obtain ⟨st', q1, q2, q3, q4, q5, q6⟩ := hp
  rcases q6 with ⟨h0, h0', a, k, c, a2, k2, c2, rfl, hrow, hrow2, hg, hg2⟩ | ⟨c, h0, hr, rfl⟩
  · obtain ⟨hres, hz3⟩ := res_two q4 (fun hm => by have := HI.out.there _ hm; omega)
    have HR : Hid (w3.heap[w.heap.size + 1]? = some ans0) := hres
    obtain ⟨k0, k1, kk2, k3, k4, k5, k6, kf⟩ := cells7 hres
    clear q1 q2 q3 q4 q5 hrow hrow2 hg hg2 h0 h0' hres HC
    go_wp2
    obtain ⟨r0, r1, r2, r3, r4, r5, r6⟩ := set7 HR.out rfl (.int .i64 0) (.int .i64 r.1.number) (.bool r.1.found) (.string r.1.value) (.slice a k c) (.slice a2 k2 c2) (.slice none 0 0)
    have hc7 := (chg_set7 w3 (w.heap.size + 1) (.int .i64 0) (.int .i64 r.1.number) (.bool r.1.found) (.string r.1.value) (.slice a k c) (.slice a2 k2 c2) (.slice none 0 0))
    exact bodyPost_ret (v := ansW 0 r.1.number r.1.found r.1.value (.slice a k c) (.slice a2 k2 c2) (.slice none 0 0)) (by simp [results, Tryz.results48, go_sem, r0, r1, r2, r3, r4, r5, r6]) rfl (post_lift HI.out (two_chg w o) HP.out (hc7.mono (fun i _ e => by have := two_size w o; omega)))
  · clear q1 q2 q3 q4 q5 hr h0 HC
    go_wp2
    exact ⟨rfl, post_lift HI.out (two_chg w o) HP.out (Chg.refl _ _)⟩
set_option maxRecDepth 100000 in
set_option maxHeartbeats 1000000 in
theorem step_6 {st : PSt} {n : Nat} {w : World} {o : OpM} {W : PW} (h : Inv w st n) (hr : Rel st W) (hn : n ≤ 10000000) (ho : o.ok) (hk : o.kind = 6) : Calls Tryz.prog 48 #[.pointer (some ⟨st.p, 0, none⟩), o.v] w (StepPost st n w (stepR W o)) := by
  have HC := drop_step (h.chg (two_chg w o) (fun _ _ hf => hf) (Nat.le_refl _)) hr ho hk
  have b1 : (o.kind == 1) = false := beq_eq_false_iff_ne.2 (by omega)
  have b2 : (o.kind == 2) = false := beq_eq_false_iff_ne.2 (by omega)
  have b3 : (o.kind == 3) = false := beq_eq_false_iff_ne.2 (by omega)
  have b4 : (o.kind == 4) = false := beq_eq_false_iff_ne.2 (by omega)
  have b5 : (o.kind == 5) = false := beq_eq_false_iff_ne.2 (by omega)
  have b6 : (o.kind == 6) = true := beq_iff_eq.2 hk
  have HI : Hid (Inv w st n) := h
  have _h1 := hn
  have _h2 := ho
  clear _h1 _h2
  generalize stepR W o = r at HC ⊢
  clear hk h ho hn hr
  go_enter Tryz.func48, Tryz.ntmps48
  go_wp2_with fail
  refine HC.mono ?_
  rintro e w3 hp
  have HP : Hid (StepPost st n (two w o) r e w3) := hp
  obtain ⟨st', q1, q2, q3, q4, q5, q6⟩ := hp
  rcases q6 with ⟨h0, h0', a, k, c, a2, k2, c2, rfl, hrow, hrow2, hg, hg2⟩ | ⟨c, h0, hr, rfl⟩
  · obtain ⟨hres, hz3⟩ := res_two q4 (fun hm => by have := HI.out.there _ hm; omega)
    have HR : Hid (w3.heap[w.heap.size + 1]? = some ans0) := hres
    obtain ⟨k0, k1, kk2, k3, k4, k5, k6, kf⟩ := cells7 hres
    clear q1 q2 q3 q4 q5 hrow hrow2 hg hg2 h0 h0' hres HC
    go_wp2
    obtain ⟨r0, r1, r2, r3, r4, r5, r6⟩ := set7 HR.out rfl (.int .i64 0) (.int .i64 r.1.number) (.bool r.1.found) (.string r.1.value) (.slice a k c) (.slice a2 k2 c2) (.slice none 0 0)
    have hc7 := (chg_set7 w3 (w.heap.size + 1) (.int .i64 0) (.int .i64 r.1.number) (.bool r.1.found) (.string r.1.value) (.slice a k c) (.slice a2 k2 c2) (.slice none 0 0))
    exact bodyPost_ret (v := ansW 0 r.1.number r.1.found r.1.value (.slice a k c) (.slice a2 k2 c2) (.slice none 0 0)) (by simp [results, Tryz.results48, go_sem, r0, r1, r2, r3, r4, r5, r6]) rfl (post_lift HI.out (two_chg w o) HP.out (hc7.mono (fun i _ e => by have := two_size w o; omega)))
  · clear q1 q2 q3 q4 q5 hr h0 HC
    go_wp2
    exact ⟨rfl, post_lift HI.out (two_chg w o) HP.out (Chg.refl _ _)⟩
set_option maxRecDepth 100000 in
set_option maxHeartbeats 1000000 in
theorem step_7 {st : PSt} {n : Nat} {w : World} {o : OpM} {W : PW} (h : Inv w st n) (hr : Rel st W) (hn : n ≤ 10000000) (ho : o.ok) (hk : o.kind = 7) : Calls Tryz.prog 48 #[.pointer (some ⟨st.p, 0, none⟩), o.v] w (StepPost st n w (stepR W o)) := by
  have HC := commit_step (h.chg (two_chg w o) (fun _ _ hf => hf) (Nat.le_refl _)) hr ho hk
  have b1 : (o.kind == 1) = false := beq_eq_false_iff_ne.2 (by omega)
  have b2 : (o.kind == 2) = false := beq_eq_false_iff_ne.2 (by omega)
  have b3 : (o.kind == 3) = false := beq_eq_false_iff_ne.2 (by omega)
  have b4 : (o.kind == 4) = false := beq_eq_false_iff_ne.2 (by omega)
  have b5 : (o.kind == 5) = false := beq_eq_false_iff_ne.2 (by omega)
  have b6 : (o.kind == 6) = false := beq_eq_false_iff_ne.2 (by omega)
  have b7 : (o.kind == 7) = true := beq_iff_eq.2 hk
  have HI : Hid (Inv w st n) := h
  have _h1 := hn
  have _h2 := ho
  clear _h1 _h2
  generalize stepR W o = r at HC ⊢
  clear hk h ho hn hr
  go_enter Tryz.func48, Tryz.ntmps48
  go_wp2_with fail
  refine HC.mono ?_
  rintro e w3 hp
  have HP : Hid (StepPost st n (two w o) r e w3) := hp
  obtain ⟨st', q1, q2, q3, q4, q5, q6⟩ := hp
  rcases q6 with ⟨h0, h0', a, k, c, a2, k2, c2, rfl, hrow, hrow2, hg, hg2⟩ | ⟨c, h0, hr, rfl⟩
  · obtain ⟨hres, hz3⟩ := res_two q4 (fun hm => by have := HI.out.there _ hm; omega)
    have HR : Hid (w3.heap[w.heap.size + 1]? = some ans0) := hres
    obtain ⟨k0, k1, kk2, k3, k4, k5, k6, kf⟩ := cells7 hres
    clear q1 q2 q3 q4 q5 hrow hrow2 hg hg2 h0 h0' hres HC
    go_wp2
    obtain ⟨r0, r1, r2, r3, r4, r5, r6⟩ := set7 HR.out rfl (.int .i64 0) (.int .i64 r.1.number) (.bool r.1.found) (.string r.1.value) (.slice a k c) (.slice a2 k2 c2) (.slice none 0 0)
    have hc7 := (chg_set7 w3 (w.heap.size + 1) (.int .i64 0) (.int .i64 r.1.number) (.bool r.1.found) (.string r.1.value) (.slice a k c) (.slice a2 k2 c2) (.slice none 0 0))
    exact bodyPost_ret (v := ansW 0 r.1.number r.1.found r.1.value (.slice a k c) (.slice a2 k2 c2) (.slice none 0 0)) (by simp [results, Tryz.results48, go_sem, r0, r1, r2, r3, r4, r5, r6]) rfl (post_lift HI.out (two_chg w o) HP.out (hc7.mono (fun i _ e => by have := two_size w o; omega)))
  · clear q1 q2 q3 q4 q5 hr h0 HC
    go_wp2
    exact ⟨rfl, post_lift HI.out (two_chg w o) HP.out (Chg.refl _ _)⟩
set_option maxRecDepth 100000 in
set_option maxHeartbeats 1000000 in
theorem step_8 {st : PSt} {n : Nat} {w : World} {o : OpM} {W : PW} (h : Inv w st n) (hr : Rel st W) (hn : n ≤ 10000000) (ho : o.ok) (hk : o.kind = 8) : Calls Tryz.prog 48 #[.pointer (some ⟨st.p, 0, none⟩), o.v] w (StepPost st n w (stepR W o)) := by
  have HC := flush_step (h.chg (two_chg w o) (fun _ _ hf => hf) (Nat.le_refl _)) hr hn hk
  have b1 : (o.kind == 1) = false := beq_eq_false_iff_ne.2 (by omega)
  have b2 : (o.kind == 2) = false := beq_eq_false_iff_ne.2 (by omega)
  have b3 : (o.kind == 3) = false := beq_eq_false_iff_ne.2 (by omega)
  have b4 : (o.kind == 4) = false := beq_eq_false_iff_ne.2 (by omega)
  have b5 : (o.kind == 5) = false := beq_eq_false_iff_ne.2 (by omega)
  have b6 : (o.kind == 6) = false := beq_eq_false_iff_ne.2 (by omega)
  have b7 : (o.kind == 7) = false := beq_eq_false_iff_ne.2 (by omega)
  have b8 : (o.kind == 8) = true := beq_iff_eq.2 hk
  have HI : Hid (Inv w st n) := h
  have _h1 := hn
  have _h2 := ho
  clear _h1 _h2
  generalize stepR W o = r at HC ⊢
  clear hk h ho hn hr
  go_enter Tryz.func48, Tryz.ntmps48
  go_wp2_with fail
  refine HC.mono ?_
  rintro e w3 hp
  have HP : Hid (StepPost st n (two w o) r e w3) := hp
  obtain ⟨st', q1, q2, q3, q4, q5, q6⟩ := hp
  rcases q6 with ⟨h0, h0', a, k, c, a2, k2, c2, rfl, hrow, hrow2, hg, hg2⟩ | ⟨c, h0, hr, rfl⟩
  · obtain ⟨hres, hz3⟩ := res_two q4 (fun hm => by have := HI.out.there _ hm; omega)
    have HR : Hid (w3.heap[w.heap.size + 1]? = some ans0) := hres
    obtain ⟨k0, k1, kk2, k3, k4, k5, k6, kf⟩ := cells7 hres
    clear q1 q2 q3 q4 q5 hrow hrow2 hg hg2 h0 h0' hres HC
    go_wp2
    obtain ⟨r0, r1, r2, r3, r4, r5, r6⟩ := set7 HR.out rfl (.int .i64 0) (.int .i64 r.1.number) (.bool r.1.found) (.string r.1.value) (.slice a k c) (.slice a2 k2 c2) (.slice none 0 0)
    have hc7 := (chg_set7 w3 (w.heap.size + 1) (.int .i64 0) (.int .i64 r.1.number) (.bool r.1.found) (.string r.1.value) (.slice a k c) (.slice a2 k2 c2) (.slice none 0 0))
    exact bodyPost_ret (v := ansW 0 r.1.number r.1.found r.1.value (.slice a k c) (.slice a2 k2 c2) (.slice none 0 0)) (by simp [results, Tryz.results48, go_sem, r0, r1, r2, r3, r4, r5, r6]) rfl (post_lift HI.out (two_chg w o) HP.out (hc7.mono (fun i _ e => by have := two_size w o; omega)))
  · clear q1 q2 q3 q4 q5 hr h0 HC
    go_wp2
    exact ⟨rfl, post_lift HI.out (two_chg w o) HP.out (Chg.refl _ _)⟩
set_option maxRecDepth 100000 in
set_option maxHeartbeats 1000000 in
theorem step_9 {st : PSt} {n : Nat} {w : World} {o : OpM} {W : PW} (h : Inv w st n) (hr : Rel st W) (hn : n ≤ 10000000) (ho : o.ok) (hk : o.kind = 9) : Calls Tryz.prog 48 #[.pointer (some ⟨st.p, 0, none⟩), o.v] w (StepPost st n w (stepR W o)) := by
  have HC := fence_step (h.chg (two_chg w o) (fun _ _ hf => hf) (Nat.le_refl _)) hr hk
  have b1 : (o.kind == 1) = false := beq_eq_false_iff_ne.2 (by omega)
  have b2 : (o.kind == 2) = false := beq_eq_false_iff_ne.2 (by omega)
  have b3 : (o.kind == 3) = false := beq_eq_false_iff_ne.2 (by omega)
  have b4 : (o.kind == 4) = false := beq_eq_false_iff_ne.2 (by omega)
  have b5 : (o.kind == 5) = false := beq_eq_false_iff_ne.2 (by omega)
  have b6 : (o.kind == 6) = false := beq_eq_false_iff_ne.2 (by omega)
  have b7 : (o.kind == 7) = false := beq_eq_false_iff_ne.2 (by omega)
  have b8 : (o.kind == 8) = false := beq_eq_false_iff_ne.2 (by omega)
  have b9 : (o.kind == 9) = true := beq_iff_eq.2 hk
  have HI : Hid (Inv w st n) := h
  have _h1 := hn
  have _h2 := ho
  clear _h1 _h2
  generalize stepR W o = r at HC ⊢
  clear hk h ho hn hr
  go_enter Tryz.func48, Tryz.ntmps48
  go_wp2_with fail
  refine HC.mono ?_
  rintro e w3 hp
  have HP : Hid (StepPost st n (two w o) r e w3) := hp
  obtain ⟨st', q1, q2, q3, q4, q5, q6⟩ := hp
  rcases q6 with ⟨h0, h0', a, k, c, a2, k2, c2, rfl, hrow, hrow2, hg, hg2⟩ | ⟨c, h0, hr, rfl⟩
  · obtain ⟨hres, hz3⟩ := res_two q4 (fun hm => by have := HI.out.there _ hm; omega)
    have HR : Hid (w3.heap[w.heap.size + 1]? = some ans0) := hres
    obtain ⟨k0, k1, kk2, k3, k4, k5, k6, kf⟩ := cells7 hres
    clear q1 q2 q3 q4 q5 hrow hrow2 hg hg2 h0 h0' hres HC
    go_wp2
    obtain ⟨r0, r1, r2, r3, r4, r5, r6⟩ := set7 HR.out rfl (.int .i64 0) (.int .i64 r.1.number) (.bool r.1.found) (.string r.1.value) (.slice a k c) (.slice a2 k2 c2) (.slice none 0 0)
    have hc7 := (chg_set7 w3 (w.heap.size + 1) (.int .i64 0) (.int .i64 r.1.number) (.bool r.1.found) (.string r.1.value) (.slice a k c) (.slice a2 k2 c2) (.slice none 0 0))
    exact bodyPost_ret (v := ansW 0 r.1.number r.1.found r.1.value (.slice a k c) (.slice a2 k2 c2) (.slice none 0 0)) (by simp [results, Tryz.results48, go_sem, r0, r1, r2, r3, r4, r5, r6]) rfl (post_lift HI.out (two_chg w o) HP.out (hc7.mono (fun i _ e => by have := two_size w o; omega)))
  · clear q1 q2 q3 q4 q5 hr h0 HC
    go_wp2
    exact ⟨rfl, post_lift HI.out (two_chg w o) HP.out (Chg.refl _ _)⟩
set_option maxRecDepth 100000 in
set_option maxHeartbeats 1000000 in
theorem step_10 {st : PSt} {n : Nat} {w : World} {o : OpM} {W : PW} (h : Inv w st n) (hr : Rel st W) (hn : n ≤ 10000000) (ho : o.ok) (hk : o.kind = 10) : Calls Tryz.prog 48 #[.pointer (some ⟨st.p, 0, none⟩), o.v] w (StepPost st n w (stepR W o)) := by
  have HC := clean_step (h.chg (two_chg w o) (fun _ _ hf => hf) (Nat.le_refl _)) hr hk
  have b1 : (o.kind == 1) = false := beq_eq_false_iff_ne.2 (by omega)
  have b2 : (o.kind == 2) = false := beq_eq_false_iff_ne.2 (by omega)
  have b3 : (o.kind == 3) = false := beq_eq_false_iff_ne.2 (by omega)
  have b4 : (o.kind == 4) = false := beq_eq_false_iff_ne.2 (by omega)
  have b5 : (o.kind == 5) = false := beq_eq_false_iff_ne.2 (by omega)
  have b6 : (o.kind == 6) = false := beq_eq_false_iff_ne.2 (by omega)
  have b7 : (o.kind == 7) = false := beq_eq_false_iff_ne.2 (by omega)
  have b8 : (o.kind == 8) = false := beq_eq_false_iff_ne.2 (by omega)
  have b9 : (o.kind == 9) = false := beq_eq_false_iff_ne.2 (by omega)
  have b10 : (o.kind == 10) = true := beq_iff_eq.2 hk
  have HI : Hid (Inv w st n) := h
  have _h1 := hn
  have _h2 := ho
  clear _h1 _h2
  generalize stepR W o = r at HC ⊢
  clear hk h ho hn hr
  go_enter Tryz.func48, Tryz.ntmps48
  go_wp2_with fail
  refine HC.mono ?_
  rintro e w3 hp
  have HP : Hid (StepPost st n (two w o) r e w3) := hp
  obtain ⟨st', q1, q2, q3, q4, q5, q6⟩ := hp
  rcases q6 with ⟨h0, h0', a, k, c, a2, k2, c2, rfl, hrow, hrow2, hg, hg2⟩ | ⟨c, h0, hr, rfl⟩
  · obtain ⟨hres, hz3⟩ := res_two q4 (fun hm => by have := HI.out.there _ hm; omega)
    have HR : Hid (w3.heap[w.heap.size + 1]? = some ans0) := hres
    obtain ⟨k0, k1, kk2, k3, k4, k5, k6, kf⟩ := cells7 hres
    clear q1 q2 q3 q4 q5 hrow hrow2 hg hg2 h0 h0' hres HC
    go_wp2
    obtain ⟨r0, r1, r2, r3, r4, r5, r6⟩ := set7 HR.out rfl (.int .i64 0) (.int .i64 r.1.number) (.bool r.1.found) (.string r.1.value) (.slice a k c) (.slice a2 k2 c2) (.slice none 0 0)
    have hc7 := (chg_set7 w3 (w.heap.size + 1) (.int .i64 0) (.int .i64 r.1.number) (.bool r.1.found) (.string r.1.value) (.slice a k c) (.slice a2 k2 c2) (.slice none 0 0))
    exact bodyPost_ret (v := ansW 0 r.1.number r.1.found r.1.value (.slice a k c) (.slice a2 k2 c2) (.slice none 0 0)) (by simp [results, Tryz.results48, go_sem, r0, r1, r2, r3, r4, r5, r6]) rfl (post_lift HI.out (two_chg w o) HP.out (hc7.mono (fun i _ e => by have := two_size w o; omega)))
  · clear q1 q2 q3 q4 q5 hr h0 HC
    go_wp2
    exact ⟨rfl, post_lift HI.out (two_chg w o) HP.out (Chg.refl _ _)⟩
theorem sums_lift {st : PSt} {n : Nat} {w W w3 w4 : World} {r : AnsM × PW} {e : Ending} (h : Inv w st n) (hW : Chg nobody w W) (hp : SumsPost st n W r e w3) (hc4 : Chg (fun b => w.heap.size ≤ b ∧ b < W.heap.size) w3 w4) : SumsPost st n w r e w4 := by
  obtain ⟨S, q1, a, k, c, q2, q3, q4, q5, q6⟩ := hp
  have hz := hW.size
  exact ⟨S, q1, a, k, c, q2, ownsRow_base (ownsRow_chg q3 hc4 (fun g hg hx => by have := (q3.lt g hg).1; omega)) hz, q4.chg hc4 (fun b hb hx => by have := h.there b hb; omega) (Nat.le_refl _), q5, (hW.trans q6).andThen hc4 (fun i hi hx => by omega)⟩
set_option maxRecDepth 100000 in
set_option maxHeartbeats 1000000 in
theorem step_11 {st : PSt} {n : Nat} {w : World} {o : OpM} {W : PW} (h : Inv w st n) (hr : Rel st W) (hn : n ≤ 10000000) (ho : o.ok) (hk : o.kind = 11) : Calls Tryz.prog 48 #[.pointer (some ⟨st.p, 0, none⟩), o.v] w (SumsPost st n w (stepR W o)) := by
  have HC := sums_step (h.chg (two_chg w o) (fun _ _ hf => hf) (Nat.le_refl _)) hr hk
  have b1 : (o.kind == 1) = false := beq_eq_false_iff_ne.2 (by omega)
  have b2 : (o.kind == 2) = false := beq_eq_false_iff_ne.2 (by omega)
  have b3 : (o.kind == 3) = false := beq_eq_false_iff_ne.2 (by omega)
  have b4 : (o.kind == 4) = false := beq_eq_false_iff_ne.2 (by omega)
  have b5 : (o.kind == 5) = false := beq_eq_false_iff_ne.2 (by omega)
  have b6 : (o.kind == 6) = false := beq_eq_false_iff_ne.2 (by omega)
  have b7 : (o.kind == 7) = false := beq_eq_false_iff_ne.2 (by omega)
  have b8 : (o.kind == 8) = false := beq_eq_false_iff_ne.2 (by omega)
  have b9 : (o.kind == 9) = false := beq_eq_false_iff_ne.2 (by omega)
  have b10 : (o.kind == 10) = false := beq_eq_false_iff_ne.2 (by omega)
  have b11 : (o.kind == 11) = true := beq_iff_eq.2 hk
  have HI : Hid (Inv w st n) := h
  have _h1 := hn
  have _h2 := ho
  clear _h1 _h2
  generalize stepR W o = r at HC ⊢
  clear hk h ho hn hr
  go_enter Tryz.func48, Tryz.ntmps48
  go_wp2_with fail
  refine HC.mono ?_
  rintro e w3 hp
  have HP : Hid (SumsPost st n (two w o) r e w3) := hp
  obtain ⟨S, hr1, a, k, c, rfl, hrow, hI, hR, hc⟩ := hp
  obtain ⟨hres, hz3⟩ := res_two (hc.any (fun b => b ∈ st.blocks)) (fun hm => by have := HI.out.there _ hm; omega)
  have HR : Hid (w3.heap[w.heap.size + 1]? = some ans0) := hres
  obtain ⟨k0, k1, kk2, k3, k4, k5, k6, kf⟩ := cells7 hres
  clear hrow hI hR hc hr1 hres HC
  go_wp2
  obtain ⟨r0, r1, r2, r3, r4, r5, r6⟩ := set7 HR.out rfl (.int .i64 0) (.int .i64 0) (.bool false) (.string ⟨#[]⟩) (.slice none 0 0) (.slice none 0 0) (.slice a k c)
  have hc7 := (chg_set7 w3 (w.heap.size + 1) (.int .i64 0) (.int .i64 0) (.bool false) (.string ⟨#[]⟩) (.slice none 0 0) (.slice none 0 0) (.slice a k c))
  exact bodyPost_ret (v := ansW 0 0 false ⟨#[]⟩ (.slice none 0 0) (.slice none 0 0) (.slice a k c)) (by simp [results, Tryz.results48, go_sem, r0, r1, r2, r3, r4, r5, r6]) rfl (sums_lift HI.out (two_chg w o) HP.out (hc7.mono (fun i _ e => by have := two_size w o; omega)))
/-- a step has been played. -/
def StepAny (st : PSt) (n : Nat) (w : World) (r : AnsM × PW) (e : Ending) (w' : World) : Prop := StepPost st n w r e w' ∨ SumsPost st n w r e w'
theorem step_any {st : PSt} {n : Nat} {w : World} {o : OpM} {W : PW} (h : Inv w st n) (hr : Rel st W) (hn : n ≤ 10000000) (ho : o.ok) : Calls Tryz.prog 48 #[.pointer (some ⟨st.p, 0, none⟩), o.v] w (StepAny st n w (stepP W o)) := by
  by_cases hb : o.kind < 1 ∨ 11 < o.kind
  · refine (step_bad hb).mono ?_
    rintro e w' ⟨rfl, rfl⟩
    have : stepP W o = (errA 1, W) := by
      show stepR W o = _
      unfold stepR
      rw [if_neg (by omega), if_neg (by omega), if_neg (by omega), if_neg (by omega), if_neg (by omega), if_neg (by omega)]
    rw [this]
    exact Or.inl (err_post h hr (two_chg w o) (by decide))
  · show Calls Tryz.prog 48 #[.pointer (some ⟨st.p, 0, none⟩), o.v] w (StepAny st n w (stepR W o))
    by_cases h1 : o.kind = 1
    · exact (step_1 h hr hn ho h1).mono (fun e w' hp => Or.inl hp)
    by_cases h2 : o.kind = 2
    · exact (step_2 h hr hn ho h2).mono (fun e w' hp => Or.inl hp)
    by_cases h3 : o.kind = 3
    · exact (step_3 h hr hn ho h3).mono (fun e w' hp => Or.inl hp)
    by_cases h4 : o.kind = 4
    · exact (step_4 h hr hn ho h4).mono (fun e w' hp => Or.inl hp)
    by_cases h5 : o.kind = 5
    · exact (step_5 h hr hn ho h5).mono (fun e w' hp => Or.inl hp)
    by_cases h6 : o.kind = 6
    · exact (step_6 h hr hn ho h6).mono (fun e w' hp => Or.inl hp)
    by_cases h7 : o.kind = 7
    · exact (step_7 h hr hn ho h7).mono (fun e w' hp => Or.inl hp)
    by_cases h8 : o.kind = 8
    · exact (step_8 h hr hn ho h8).mono (fun e w' hp => Or.inl hp)
    by_cases h9 : o.kind = 9
    · exact (step_9 h hr hn ho h9).mono (fun e w' hp => Or.inl hp)
    by_cases h10 : o.kind = 10
    · exact (step_10 h hr hn ho h10).mono (fun e w' hp => Or.inl hp)
    exact (step_11 h hr hn ho (by omega)).mono (fun e w' hp => Or.inr hp)
end Go.Proofs.YtkfjafndplmdkaaGreat
