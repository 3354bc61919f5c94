import Derived.Test.YtcpjocgpahjcjaaRM
namespace Go.Proofs.Ytcpjocgpahjcjaa
open Go.RowKit Go.Sort
/-- how much there is. -/
structure RFit (S : RSt) : Prop where
  L : S.L.length ≤ 2000000
  ts : S.ts.length ≤ 2000000
  tx : ∀ T ∈ S.ts, T.ws.length ≤ 2000000 ∧ T.ks.length ≤ 2000000 ∧ T.ps.length ≤ 2000000
theorem RInv.open {w : World} {S : RSt} {k : Nat} (h : RInv w S) (hk : k < S.ts.length) : ∃ g, S.oa = some ⟨g, 0, none⟩ ∧ vb S.ov = [g] := by
  obtain ⟨g, hg, _⟩ := row_open (show w.ownsRow 0 66 4 (.slice S.oa S.ts.length S.oc) S.ts.length (rtCells S.ts) from h.or) (by omega)
  exact ⟨g, hg, by unfold vb RSt.ov; rw [hg]; rfl⟩
set_option maxHeartbeats 400000 in
theorem of_get (S : RSt) (k : Nat) (o : OpM) (w : World) (h : RInv w S) (hf : RFit S) (hk : k < S.ts.length) (hkd : o.kind = 2) (hk1 : 1 ≤ o.key.size) (hk8 : o.key.size ≤ 8) :
    Calls Try.prog 29 #[.pointer (some ⟨S.wb, 0, none⟩), .int .i64 k, o.v] w (RPost w S (ofM' S.abs k S.ts[k].abs o).1 (ofM' S.abs k S.ts[k].abs o).2) := by
  obtain ⟨g, hg, hvg⟩ := h.open hk
  have hT := h.ts _ (List.getElem_mem hk)
  have hft := hf.tx _ (List.getElem_mem hk)
  obtain ⟨hnd, hap⟩ := h.parts hk
  have hwb := h.wb
  have hor := h.or
  have hlr := h.lr
  unfold RSt.ov at hwb hor
  unfold RSt.lv at hwb hlr
  rw [hg] at hwb hor
  have hkd4 : ¬ ((o.kind = 2 ∨ o.kind = 4 ∨ o.kind = 5) ∧ (o.key.size < 1 ∨ 8 < o.key.size)) := fun h => by omega
  have e : ofM' S.abs k S.ts[k].abs o = (⟨0, 0, (seesM S.ts[k].ws S.L S.ts[k].start o.key).2, getV (seesM S.ts[k].ws S.L S.ts[k].start o.key), []⟩, { S.abs with ts := S.abs.ts.set k { S.ts[k].abs with ks := S.ts[k].ks ++ [o.key] } }) := by
    unfold ofM'
    rw [if_neg hkd4, if_pos hkd]
    rfl
  rw [e]
  refine (of_get_low S.wb g k S.oc S.lc S.la S.ts[k].start S.ts[k].ws S.ts[k].wa S.ts[k].wc S.ts[k].ks S.ts[k].ka S.ts[k].kc S.ts[k].pa S.ts[k].ps S.ts[k].pc S.L S.ts o w hkd hk1 hk8 hk (List.getElem?_eq_getElem hk) hwb hor hT.kr hft.2.1 hlr hT.wr hf.L hft.1).mono ?_
  rintro en w' ⟨rfl, ka', kc', q1, q2, q3, q4⟩
  have hc' : Chg (fun b => b ∈ vb S.ov ∨ b ∈ S.ts[k].blocks) w w' := q3.mono (fun i _ hi => by
    rcases hi with rfl | hi
    · exact Or.inl (by rw [hvg]; simp)
    · exact Or.inr (by simp [RT.blocks, vb_mem, RT.kv, hi]))
  have hgk : ∀ b ∈ S.ts[k].blocks, b ≠ g := fun b hb e => (hap b hb).2.2 (by rw [hvg, e]; simp)
  have hnd' : (vb S.ts[k].wv ++ (vb S.ts[k].kv ++ vb S.ts[k].pv)).Nodup := by
    have := hnd
    unfold RT.blocks at this
    rwa [List.append_assoc] at this
  obtain ⟨_, m2, m3⟩ := List.nodup_append.1 hnd'
  obtain ⟨_, _, m4⟩ := List.nodup_append.1 m2
  have hlt := hT.lt
  have hx : ∀ b ∈ vb (.slice ka' (S.ts[k].ks.length + 1) kc'), b ∈ vb S.ts[k].kv ∨ w.heap.size ≤ b := fun b hb => by
    rcases q4 with q4 | q4
    · exact Or.inl (by rw [vb_eq q4] at hb; exact hb)
    · exact Or.inr (q4 b (vb_mem.1 hb))
  have hor' : w'.ownsRow 0 66 4 S.ov S.ts.length (rtCells (S.ts.set k { S.ts[k] with ks := S.ts[k].ks ++ [o.key], ka := ka', kc := kc' })) := by
    unfold RSt.ov
    rw [hg]
    exact q1
  have hTw : RTAt w' { S.ts[k] with ks := S.ts[k].ks ++ [o.key], ka := ka', kc := kc' } := by
    refine ⟨ownsRow_chg hT.wr q3 (fun b e hi => ?_), by simpa [RT.kv] using q2, ownsRow_chg hT.pr q3 (fun b e hi => ?_)⟩
    · have hb : b ∈ vb S.ts[k].wv := vb_mem.2 e
      rcases hi with hi | hi
      · exact hgk b (by simp [RT.blocks, hb]) hi
      · exact m3 b hb b (by simp [vb_mem, RT.kv, hi]) rfl
    · have hb : b ∈ vb S.ts[k].pv := vb_mem.2 e
      rcases hi with hi | hi
      · exact hgk b (by simp [RT.blocks, hb]) hi
      · exact m4 b (vb_mem.2 hi) b hb rfl
  have hbl' : ({ S.ts[k] with ks := S.ts[k].ks ++ [o.key], ka := ka', kc := kc' } : RT).blocks = vb S.ts[k].wv ++ (vb (.slice ka' (S.ts[k].ks.length + 1) kc') ++ vb S.ts[k].pv) := by
    unfold RT.blocks
    rw [List.append_assoc]
    simp [RT.kv, RT.wv, RT.pv]
  have hset := h.setTx hk hc' hor' hTw (by
    rw [hbl']
    intro b hb
    simp only [List.mem_append] at hb
    rcases hb with hb | hb | hb
    · exact Or.inl (by simp [RT.blocks, hb])
    · rcases hx b hb with hb | hb
      · exact Or.inl (by simp [RT.blocks, hb])
      · exact Or.inr hb
    · exact Or.inl (by simp [RT.blocks, hb])) (by
    rw [hbl']
    exact nodup_swap (n := w.heap.size) hnd' (vb_nodup _) hx (fun b hb => hlt b (by simp [RT.blocks, hb])) (fun b hb => hlt b (by simp [RT.blocks, hb])))
  refine ⟨{ S with ts := S.ts.set k { S.ts[k] with ks := S.ts[k].ks ++ [o.key], ka := ka', kc := kc' } }, .slice none 0 0, rfl, World.ownsRow_nil _ _ _ _, ?_, rfl, hset⟩
  simp only [RSt.abs, map_set_abs]
  rfl
end Go.Proofs.Ytcpjocgpahjcjaa
