import Derived.Test.YtcpjocgpahjcjaaRG
namespace Go.Proofs.Ytcpjocgpahjcjaa
open Go.RowKit Go.Sort
theorem RInv.setTx {w w' : World} {S : RSt} {k : Nat} {T' : RT} (h : RInv w S) (hk : k < S.ts.length) (hc : Chg (fun b => b ∈ vb S.ov ∨ b ∈ S.ts[k].blocks) w w') (ho : w'.ownsRow 0 66 4 S.ov S.ts.length (rtCells (S.ts.set k T'))) (hT : RTAt w' T') (hb : ∀ b ∈ T'.blocks, b ∈ S.ts[k].blocks ∨ w.heap.size ≤ b) (hn : T'.blocks.Nodup) :
    RInv w' { S with ts := S.ts.set k T' } ∧ (∀ b ∈ ({ S with ts := S.ts.set k T' } : RSt).blocks, b ∈ S.blocks ∨ w.heap.size ≤ b) ∧ Chg (fun b => b ∈ S.blocks) w w' := by
  have hlt := h.lt
  have e1 : S.ts = S.ts.take k ++ S.ts[k] :: S.ts.drop (k + 1) := by rw [← List.drop_eq_getElem_cons hk, List.take_append_drop]
  have e2 : S.ts.set k T' = S.ts.take k ++ T' :: S.ts.drop (k + 1) := by rw [List.set_eq_take_append_cons_drop, if_pos hk]
  have hov : ({ S with ts := S.ts.set k T' } : RSt).ov = S.ov := by simp [RSt.ov]
  have hbl : S.blocks = (S.wb :: (S.others ++ vb S.ov) ++ (S.ts.take k).flatMap RT.blocks) ++ (S.ts[k].blocks ++ (S.ts.drop (k + 1)).flatMap RT.blocks) := by
    have e3 : S.ts.flatMap RT.blocks = (S.ts.take k).flatMap RT.blocks ++ (S.ts[k].blocks ++ (S.ts.drop (k + 1)).flatMap RT.blocks) := by
      conv => lhs; rw [e1]
      rw [List.flatMap_append, List.flatMap_cons]
    unfold RSt.blocks
    rw [e3]
    simp only [List.append_assoc, List.cons_append]
  have hbl' : ({ S with ts := S.ts.set k T' } : RSt).blocks = (S.wb :: (S.others ++ vb S.ov) ++ (S.ts.take k).flatMap RT.blocks) ++ (T'.blocks ++ (S.ts.drop (k + 1)).flatMap RT.blocks) := by
    show S.wb :: (S.others ++ vb ({ S with ts := S.ts.set k T' } : RSt).ov) ++ (S.ts.set k T').flatMap RT.blocks = _
    rw [hov, e2]
    simp
  have hnd := h.nd
  rw [hbl] at hnd hlt
  have hA : ∀ b ∈ S.wb :: (S.others ++ vb S.ov) ++ (S.ts.take k).flatMap RT.blocks, b < w.heap.size := fun b hb => hlt b (List.mem_append.2 (Or.inl hb))
  have hB : ∀ b ∈ (S.ts.drop (k + 1)).flatMap RT.blocks, b < w.heap.size := fun b hb => hlt b (List.mem_append.2 (Or.inr (List.mem_append.2 (Or.inr hb))))
  have hnd' := nodup_swap (n := w.heap.size) hnd hn hb hA hB
  -- what is apart
  obtain ⟨n1, n2, n3⟩ := List.nodup_append.1 hnd
  obtain ⟨m1, m2, m3⟩ := List.nodup_append.1 n2
  obtain ⟨p1, p2, p3⟩ := List.nodup_append.1 n1
  have p1' : (S.wb :: (S.others ++ vb S.ov)).Nodup := p1
  obtain ⟨q1, q2⟩ := List.nodup_cons.1 p1'
  obtain ⟨r1, r2, r3⟩ := List.nodup_append.1 q2
  have apT : ∀ b ∈ S.wb :: (S.others ++ vb S.ov) ++ (S.ts.take k).flatMap RT.blocks, b ∉ S.ts[k].blocks := fun b hb hm => n3 b hb b (List.mem_append.2 (Or.inl hm)) rfl
  have apO : ∀ b ∈ S.others, b ∉ vb S.ov := fun b hb hm => r3 b hb b hm rfl
  have no1 : S.wb ∉ vb S.ov := fun hm => q1 (List.mem_append.2 (Or.inr hm))
  have keepRow : ∀ {e : TypeId} {size : Nat} {v : Value} {n : Nat} {xs : List Value}, w.ownsRow 0 e size v n xs → vb v ⊆ S.others → w'.ownsRow 0 e size v n xs := fun hr hv =>
    ownsRow_chg hr hc (fun g e => by
      have hg := hv (vb_mem.2 e)
      rintro (h1 | h1)
      · exact apO g hg h1
      · exact apT g (by simp [hg]) h1)
  refine ⟨⟨?_, keepRow h.lr ?_, ?_, keepRow h.qr ?_, keepRow h.rr ?_, ?_, ?_⟩, ?_, ?_⟩
  · rw [hov]
    refine (hc.block _ (lt_of_block h.wb) ?_).trans h.wb
    rintro (h1 | h1)
    · exact no1 h1
    · exact apT _ (by simp) h1
  · intro x hx; replace hx : x ∈ vb S.lv := hx; simp [RSt.others, hx]
  · rw [hov]; simpa using ho
  · intro x hx; replace hx : x ∈ vb S.qv := hx; simp [RSt.others, hx]
  · intro x hx; replace hx : x ∈ vb S.rv := hx; simp [RSt.others, hx]
  · intro T hTm
    have hTm' : T ∈ S.ts.take k ++ T' :: S.ts.drop (k + 1) := by rw [← e2]; exact hTm
    rw [List.mem_append, List.mem_cons] at hTm'
    rcases hTm' with h1 | rfl | h1
    · refine (h.ts T (List.mem_of_mem_take h1)).chg hc (fun b hb' => ?_)
      have hbm : b ∈ (S.ts.take k).flatMap RT.blocks := List.mem_flatMap.2 ⟨T, h1, hb'⟩
      rintro (h2 | h2)
      · exact p3 b (List.mem_cons_of_mem _ (List.mem_append.2 (Or.inr h2))) b hbm rfl
      · exact apT b (List.mem_append.2 (Or.inr hbm)) h2
    · exact hT
    · refine (h.ts T (List.mem_of_mem_drop h1)).chg hc (fun b hb' => ?_)
      have hbm : b ∈ (S.ts.drop (k + 1)).flatMap RT.blocks := List.mem_flatMap.2 ⟨T, h1, hb'⟩
      rintro (h2 | h2)
      · exact n3 b (by simp [h2]) b (List.mem_append.2 (Or.inr hbm)) rfl
      · exact m3 b h2 b hbm rfl
  · rw [hbl']; exact hnd'
  · rw [hbl', hbl]
    intro b hb'
    rcases List.mem_append.1 hb' with h1 | h1
    · exact Or.inl (List.mem_append.2 (Or.inl h1))
    · rcases List.mem_append.1 h1 with h2 | h2
      · rcases hb b h2 with h3 | h3
        · exact Or.inl (List.mem_append.2 (Or.inr (List.mem_append.2 (Or.inl h3))))
        · exact Or.inr h3
      · exact Or.inl (List.mem_append.2 (Or.inr (List.mem_append.2 (Or.inr h2))))
  · refine hc.mono (fun i _ hi => ?_)
    rw [hbl]
    rcases hi with h1 | h1
    · simp [h1]
    · simp [h1]
end Go.Proofs.Ytcpjocgpahjcjaa
