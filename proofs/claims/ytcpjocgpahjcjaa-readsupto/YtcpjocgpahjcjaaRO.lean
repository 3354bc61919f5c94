import Derived.Test.YtcpjocgpahjcjaaRN
namespace Go.Proofs.Ytcpjocgpahjcjaa
open Go.RowKit Go.Sort
set_option maxHeartbeats 400000 in
theorem of_scan (S : RSt) (k : Nat) (o : OpM) (w : World) (h : RInv w S) (hf : RFit S) (hk : k < S.ts.length) (hkd : o.kind = 3) :
    Calls Try.prog 29 #[.pointer (some ⟨S.wb, 0, none⟩), .int .i64 k, o.v] w (RPost w S (ofM' S.abs k S.ts[k].abs o).1 (ofM' S.abs k S.ts[k].abs o).2) := by
  obtain ⟨g, hg, hvg⟩ := h.open hk
  have hT := h.ts _ (List.getElem_mem hk)
  have hft := hf.tx _ (List.getElem_mem hk)
  obtain ⟨hnd, hap⟩ := h.parts hk
  have hwb := h.wb
  have hor := h.or
  have hlr := h.lr
  unfold RSt.ov at hwb hor
  unfold RSt.lv at hwb hlr
  rw [hg] at hwb hor
  have hkd4 : ¬ ((o.kind = 2 ∨ o.kind = 4 ∨ o.kind = 5) ∧ (o.key.size < 1 ∨ 8 < o.key.size)) := fun h => by omega
  have e : ofM' S.abs k S.ts[k].abs o = (⟨0, 0, false, ⟨#[]⟩, itemsR S.ts[k].ws S.L S.ts[k].start (keysC (S.L ++ S.ts[k].ws) o.key)⟩, { S.abs with ts := S.abs.ts.set k { S.ts[k].abs with ps := S.ts[k].ps ++ [o.key] } }) := by
    unfold ofM'
    rw [if_neg hkd4, if_neg (by omega), if_pos hkd]
    rfl
  rw [e]
  refine (of_scan_low S.wb g k S.oc S.lc S.la S.ts[k].start S.ts[k].ws S.ts[k].wa S.ts[k].wc S.ts[k].ks S.ts[k].ka S.ts[k].kc S.ts[k].pa S.ts[k].ps S.ts[k].pc S.L S.ts o w hkd hk (List.getElem?_eq_getElem hk) hwb hor hT.pr hft.2.2 hlr hT.wr hf.L hft.1).mono ?_
  rintro en w' ⟨it, rfl, ⟨K, hK, hit⟩, pa', pc', q1, q2, q3, q4⟩
  rw [keysC_eq hK]
  have hc' : Chg (fun b => b ∈ vb S.ov ∨ b ∈ S.ts[k].blocks) w w' := q3.mono (fun i _ hi => by
    rcases hi with rfl | hi
    · exact Or.inl (by rw [hvg]; simp)
    · exact Or.inr (by simp [RT.blocks, vb_mem, RT.pv, hi]))
  have hgk : ∀ b ∈ S.ts[k].blocks, b ≠ g := fun b hb e => (hap b hb).2.2 (by rw [hvg, e]; simp)
  have hnd' : ((vb S.ts[k].wv ++ vb S.ts[k].kv) ++ (vb S.ts[k].pv ++ [])).Nodup := by
    have := hnd
    unfold RT.blocks at this
    rwa [List.append_nil]
  obtain ⟨_, _, m3⟩ := List.nodup_append.1 hnd'
  have hlt := hT.lt
  have hx : ∀ b ∈ vb (.slice pa' (S.ts[k].ps.length + 1) pc'), b ∈ vb S.ts[k].pv ∨ w.heap.size ≤ b := fun b hb => by
    rcases q4 with q4 | q4
    · exact Or.inl (by rw [vb_eq q4] at hb; exact hb)
    · exact Or.inr (q4 b (vb_mem.1 hb))
  have hor' : w'.ownsRow 0 66 4 S.ov S.ts.length (rtCells (S.ts.set k { S.ts[k] with ps := S.ts[k].ps ++ [o.key], pa := pa', pc := pc' })) := by
    unfold RSt.ov
    rw [hg]
    exact q1
  have hTw : RTAt w' { S.ts[k] with ps := S.ts[k].ps ++ [o.key], pa := pa', pc := pc' } := by
    refine ⟨ownsRow_chg hT.wr q3 (fun b e hi => ?_), ownsRow_chg hT.kr q3 (fun b e hi => ?_), by simpa [RT.pv] using q2⟩
    · have hb : b ∈ vb S.ts[k].wv := vb_mem.2 e
      rcases hi with hi | hi
      · exact hgk b (by simp [RT.blocks, hb]) hi
      · exact m3 b (by simp [hb]) b (by simp [vb_mem, RT.pv, hi]) rfl
    · have hb : b ∈ vb S.ts[k].kv := vb_mem.2 e
      rcases hi with hi | hi
      · exact hgk b (by simp [RT.blocks, hb]) hi
      · exact m3 b (by simp [hb]) b (by simp [vb_mem, RT.pv, hi]) rfl
  have hbl' : ({ S.ts[k] with ps := S.ts[k].ps ++ [o.key], pa := pa', pc := pc' } : RT).blocks = (vb S.ts[k].wv ++ vb S.ts[k].kv) ++ (vb (.slice pa' (S.ts[k].ps.length + 1) pc') ++ []) := by
    unfold RT.blocks
    simp [RT.kv, RT.wv, RT.pv]
  have hset := h.setTx hk hc' hor' hTw (by
    rw [hbl']
    intro b hb
    simp only [List.mem_append, List.append_nil] at hb
    rcases hb with hb | hb
    · exact Or.inl (by simp only [RT.blocks, List.mem_append]; exact Or.inl hb)
    · rcases hx b hb with hb | hb
      · exact Or.inl (by simp [RT.blocks, hb])
      · exact Or.inr hb) (by
    rw [hbl']
    exact nodup_swap (n := w.heap.size) hnd' (vb_nodup _) hx (fun b hb => hlt b (by simp only [RT.blocks, List.mem_append]; exact Or.inl (List.mem_append.1 hb))) (fun b hb => by simp at hb))
  refine ⟨{ S with ts := S.ts.set k { S.ts[k] with ps := S.ts[k].ps ++ [o.key], pa := pa', pc := pc' } }, it, rfl, ownsRow_base hit (by omega), ?_, rfl, hset⟩
  simp only [RSt.abs, map_set_abs]
  rfl
set_option maxHeartbeats 400000 in
theorem of_put (S : RSt) (k : Nat) (o : OpM) (w : World) (h : RInv w S) (hf : RFit S) (hk : k < S.ts.length) (hkd : o.kind = 4) (hk1 : 1 ≤ o.key.size) (hk8 : o.key.size ≤ 8) (hv : o.val.size ≤ 20) :
    Calls Try.prog 29 #[.pointer (some ⟨S.wb, 0, none⟩), .int .i64 k, o.v] w (RPost w S (ofM' S.abs k S.ts[k].abs o).1 (ofM' S.abs k S.ts[k].abs o).2) := by
  obtain ⟨g, hg, hvg⟩ := h.open hk
  have hT := h.ts _ (List.getElem_mem hk)
  have hft := hf.tx _ (List.getElem_mem hk)
  obtain ⟨hnd, hap⟩ := h.parts hk
  have hwb := h.wb
  have hor := h.or
  unfold RSt.ov at hwb hor
  rw [hg] at hwb hor
  have hkd4 : ¬ ((o.kind = 2 ∨ o.kind = 4 ∨ o.kind = 5) ∧ (o.key.size < 1 ∨ 8 < o.key.size)) := fun h => by omega
  have e : ofM' S.abs k S.ts[k].abs o = (errA 0, { S.abs with ts := S.abs.ts.set k { S.ts[k].abs with ws := writeM S.ts[k].ws ⟨o.key, 0, o.val, false⟩ } }) := by
    unfold ofM'
    rw [if_neg hkd4, if_neg (by omega), if_neg (by omega), if_pos hkd, if_neg (by omega)]
    rfl
  rw [e]
  refine (of_put_low S.wb g k S.oc S.ts[k].start S.ts[k].ws S.ts[k].wa S.ts[k].wc S.ts[k].ks S.ts[k].ka S.ts[k].kc S.ts[k].pa S.ts[k].ps S.ts[k].pc S.ts o w hkd hk1 hk8 hv hk (List.getElem?_eq_getElem hk) hwb hor hT.wr hft.1).mono ?_
  rintro en w' ⟨rfl, wa', wc', q1, q2, q3⟩
  have hc' : Chg (fun b => b ∈ vb S.ov ∨ b ∈ S.ts[k].blocks) w w' := q3.mono (fun i _ hi => by
    exact Or.inl (by rw [hvg, hi]; simp))
  have hgk : ∀ b ∈ S.ts[k].blocks, b ≠ g := fun b hb e => (hap b hb).2.2 (by rw [hvg, e]; simp)
  have hnd' : ([] ++ (vb S.ts[k].wv ++ (vb S.ts[k].kv ++ vb S.ts[k].pv))).Nodup := by
    have := hnd
    unfold RT.blocks at this
    rwa [List.append_assoc] at this
  have hlt := hT.lt
  have hx : ∀ b ∈ vb (.slice wa' (writeM S.ts[k].ws ⟨o.key, 0, o.val, false⟩).length wc'), b ∈ vb S.ts[k].wv ∨ w.heap.size ≤ b := fun b hb => Or.inr (q2.lt b (vb_mem.1 hb)).1
  have hor' : w'.ownsRow 0 66 4 S.ov S.ts.length (rtCells (S.ts.set k { S.ts[k] with ws := writeM S.ts[k].ws ⟨o.key, 0, o.val, false⟩, wa := wa', wc := wc' })) := by
    unfold RSt.ov
    rw [hg]
    exact q1
  have hTw : RTAt w' { S.ts[k] with ws := writeM S.ts[k].ws ⟨o.key, 0, o.val, false⟩, wa := wa', wc := wc' } := by
    refine ⟨ownsRow_base q2 (Nat.zero_le _), ownsRow_chg hT.kr q3 (fun b e hi => ?_), ownsRow_chg hT.pr q3 (fun b e hi => ?_)⟩
    · have hb : b ∈ vb S.ts[k].kv := vb_mem.2 e
      exact hgk b (by simp [RT.blocks, hb]) hi
    · have hb : b ∈ vb S.ts[k].pv := vb_mem.2 e
      exact hgk b (by simp [RT.blocks, hb]) hi
  have hbl' : ({ S.ts[k] with ws := writeM S.ts[k].ws ⟨o.key, 0, o.val, false⟩, wa := wa', wc := wc' } : RT).blocks = [] ++ (vb (.slice wa' (writeM S.ts[k].ws ⟨o.key, 0, o.val, false⟩).length wc') ++ (vb S.ts[k].kv ++ vb S.ts[k].pv)) := by
    unfold RT.blocks
    rw [List.append_assoc]
    rfl
  have hset := h.setTx hk hc' hor' hTw (by
    rw [hbl']
    intro b hb
    simp only [List.mem_append, List.nil_append] at hb
    rcases hb with hb | hb | hb
    · rcases hx b hb with hb | hb
      · exact Or.inl (by simp [RT.blocks, hb])
      · exact Or.inr hb
    · exact Or.inl (by simp [RT.blocks, hb])
    · exact Or.inl (by simp [RT.blocks, hb])) (by
    rw [hbl']
    exact nodup_swap (n := w.heap.size) hnd' (vb_nodup _) hx (fun b hb => by simp at hb) (fun b hb => hlt b (by rcases List.mem_append.1 hb with hb | hb <;> simp [RT.blocks, hb])))
  refine ⟨{ S with ts := S.ts.set k { S.ts[k] with ws := writeM S.ts[k].ws ⟨o.key, 0, o.val, false⟩, wa := wa', wc := wc' } }, .slice none 0 0, rfl, World.ownsRow_nil _ _ _ _, ?_, rfl, hset⟩
  simp only [RSt.abs, map_set_abs]
  rfl
set_option maxHeartbeats 400000 in
theorem of_del (S : RSt) (k : Nat) (o : OpM) (w : World) (h : RInv w S) (hf : RFit S) (hk : k < S.ts.length) (hkd : o.kind = 5) (hk1 : 1 ≤ o.key.size) (hk8 : o.key.size ≤ 8) :
    Calls Try.prog 29 #[.pointer (some ⟨S.wb, 0, none⟩), .int .i64 k, o.v] w (RPost w S (ofM' S.abs k S.ts[k].abs o).1 (ofM' S.abs k S.ts[k].abs o).2) := by
  obtain ⟨g, hg, hvg⟩ := h.open hk
  have hT := h.ts _ (List.getElem_mem hk)
  have hft := hf.tx _ (List.getElem_mem hk)
  obtain ⟨hnd, hap⟩ := h.parts hk
  have hwb := h.wb
  have hor := h.or
  unfold RSt.ov at hwb hor
  rw [hg] at hwb hor
  have hkd4 : ¬ ((o.kind = 2 ∨ o.kind = 4 ∨ o.kind = 5) ∧ (o.key.size < 1 ∨ 8 < o.key.size)) := fun h => by omega
  have e : ofM' S.abs k S.ts[k].abs o = (errA 0, { S.abs with ts := S.abs.ts.set k { S.ts[k].abs with ws := writeM S.ts[k].ws ⟨o.key, 0, ⟨#[]⟩, true⟩ } }) := by
    unfold ofM'
    rw [if_neg hkd4, if_neg (by omega), if_neg (by omega), if_neg (by omega), if_pos hkd]
    rfl
  rw [e]
  refine (of_del_low S.wb g k S.oc S.ts[k].start S.ts[k].ws S.ts[k].wa S.ts[k].wc S.ts[k].ks S.ts[k].ka S.ts[k].kc S.ts[k].pa S.ts[k].ps S.ts[k].pc S.ts o w hkd hk1 hk8 hk (List.getElem?_eq_getElem hk) hwb hor hT.wr hft.1).mono ?_
  rintro en w' ⟨rfl, wa', wc', q1, q2, q3⟩
  have hc' : Chg (fun b => b ∈ vb S.ov ∨ b ∈ S.ts[k].blocks) w w' := q3.mono (fun i _ hi => by
    exact Or.inl (by rw [hvg, hi]; simp))
  have hgk : ∀ b ∈ S.ts[k].blocks, b ≠ g := fun b hb e => (hap b hb).2.2 (by rw [hvg, e]; simp)
  have hnd' : ([] ++ (vb S.ts[k].wv ++ (vb S.ts[k].kv ++ vb S.ts[k].pv))).Nodup := by
    have := hnd
    unfold RT.blocks at this
    rwa [List.append_assoc] at this
  have hlt := hT.lt
  have hx : ∀ b ∈ vb (.slice wa' (writeM S.ts[k].ws ⟨o.key, 0, ⟨#[]⟩, true⟩).length wc'), b ∈ vb S.ts[k].wv ∨ w.heap.size ≤ b := fun b hb => Or.inr (q2.lt b (vb_mem.1 hb)).1
  have hor' : w'.ownsRow 0 66 4 S.ov S.ts.length (rtCells (S.ts.set k { S.ts[k] with ws := writeM S.ts[k].ws ⟨o.key, 0, ⟨#[]⟩, true⟩, wa := wa', wc := wc' })) := by
    unfold RSt.ov
    rw [hg]
    exact q1
  have hTw : RTAt w' { S.ts[k] with ws := writeM S.ts[k].ws ⟨o.key, 0, ⟨#[]⟩, true⟩, wa := wa', wc := wc' } := by
    refine ⟨ownsRow_base q2 (Nat.zero_le _), ownsRow_chg hT.kr q3 (fun b e hi => ?_), ownsRow_chg hT.pr q3 (fun b e hi => ?_)⟩
    · have hb : b ∈ vb S.ts[k].kv := vb_mem.2 e
      exact hgk b (by simp [RT.blocks, hb]) hi
    · have hb : b ∈ vb S.ts[k].pv := vb_mem.2 e
      exact hgk b (by simp [RT.blocks, hb]) hi
  have hbl' : ({ S.ts[k] with ws := writeM S.ts[k].ws ⟨o.key, 0, ⟨#[]⟩, true⟩, wa := wa', wc := wc' } : RT).blocks = [] ++ (vb (.slice wa' (writeM S.ts[k].ws ⟨o.key, 0, ⟨#[]⟩, true⟩).length wc') ++ (vb S.ts[k].kv ++ vb S.ts[k].pv)) := by
    unfold RT.blocks
    rw [List.append_assoc]
    rfl
  have hset := h.setTx hk hc' hor' hTw (by
    rw [hbl']
    intro b hb
    simp only [List.mem_append, List.nil_append] at hb
    rcases hb with hb | hb | hb
    · rcases hx b hb with hb | hb
      · exact Or.inl (by simp [RT.blocks, hb])
      · exact Or.inr hb
    · exact Or.inl (by simp [RT.blocks, hb])
    · exact Or.inl (by simp [RT.blocks, hb])) (by
    rw [hbl']
    exact nodup_swap (n := w.heap.size) hnd' (vb_nodup _) hx (fun b hb => by simp at hb) (fun b hb => hlt b (by rcases List.mem_append.1 hb with hb | hb <;> simp [RT.blocks, hb])))
  refine ⟨{ S with ts := S.ts.set k { S.ts[k] with ws := writeM S.ts[k].ws ⟨o.key, 0, ⟨#[]⟩, true⟩, wa := wa', wc := wc' } }, .slice none 0 0, rfl, World.ownsRow_nil _ _ _ _, ?_, rfl, hset⟩
  simp only [RSt.abs, map_set_abs]
  rfl
end Go.Proofs.Ytcpjocgpahjcjaa
