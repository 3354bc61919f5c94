import Derived.Test.YtcpjocgpahjcjaaRO
namespace Go.Proofs.Ytcpjocgpahjcjaa
open Go.RowKit Go.Sort
theorem rflat_sub (p : RT → Bool) : ∀ ts : List RT, ((ts.filter p).flatMap RT.blocks).Sublist (ts.flatMap RT.blocks)
  | [] => List.Sublist.refl _
  | x :: r => by
    by_cases h : p x
    · rw [List.filter_cons_of_pos h, List.flatMap_cons, List.flatMap_cons]
      exact (List.Sublist.refl _).append (rflat_sub p r)
    · rw [List.filter_cons_of_neg h, List.flatMap_cons]
      exact (rflat_sub p r).trans (List.sublist_append_right _ _)
/-- another list of open ones, in new memory, of those that were there. -/
theorem RInv.setOpen {w w' : World} {S : RSt} {ts' : List RT} {oa' : Option Addr} {oc' : Nat} (h : RInv w S) (hsub : (ts'.flatMap RT.blocks).Sublist (S.ts.flatMap RT.blocks)) (hmem : ∀ T ∈ ts', T ∈ S.ts)
    (hb : w'.heap[S.wb]? = some (.cells #[.int .i64 S.clock, S.lv, .slice oa' ts'.length oc', S.qv, S.rv, .int .i64 S.low] 54)) (ho : w'.ownsRow w.heap.size 66 4 (.slice oa' ts'.length oc') ts'.length (rtCells ts')) (hc : Chg (fun b => b = S.wb) w w') :
    ROk w S w' { S with ts := ts', oa := oa', oc := oc' } := by
  have hnd := h.nd
  have e0 : S.blocks = (S.wb :: S.others) ++ (vb S.ov ++ S.ts.flatMap RT.blocks) := by simp [RSt.blocks]
  have hlt := h.lt
  rw [e0] at hnd hlt
  obtain ⟨n1, n2, n3⟩ := List.nodup_append.1 hnd
  have hwo : S.wb ∉ S.others := (List.nodup_cons.1 n1).1
  have hwt : ∀ T ∈ S.ts, ∀ b ∈ T.blocks, b ≠ S.wb := fun T hT b hb e => n3 S.wb (by simp) b (List.mem_append.2 (Or.inr (List.mem_flatMap.2 ⟨T, hT, hb⟩))) e.symm
  have keepRow : ∀ {e : TypeId} {size : Nat} {v : Value} {n : Nat} {xs : List Value}, w.ownsRow 0 e size v n xs → vb v ⊆ S.others → w'.ownsRow 0 e size v n xs := fun hr hv =>
    ownsRow_chg hr hc (fun g e (h1 : g = S.wb) => hwo (h1 ▸ hv (vb_mem.2 e)))
  have hfresh : ∀ b ∈ vb (.slice oa' ts'.length oc'), b ∈ vb S.ov ∨ w.heap.size ≤ b := fun b hb => Or.inr (ho.lt b (vb_mem.1 hb)).1
  have hnd2 : ((S.wb :: S.others) ++ (vb (.slice oa' ts'.length oc') ++ S.ts.flatMap RT.blocks)).Nodup := nodup_swap (n := w.heap.size) hnd (vb_nodup _) hfresh (fun b hb => hlt b (List.mem_append.2 (Or.inl hb))) (fun b hb => hlt b (List.mem_append.2 (Or.inr (List.mem_append.2 (Or.inr hb)))))
  have e1 : ({ S with ts := ts', oa := oa', oc := oc' } : RSt).blocks = (S.wb :: S.others) ++ (vb (.slice oa' ts'.length oc') ++ ts'.flatMap RT.blocks) := by
    show S.wb :: (S.others ++ vb (.slice oa' ts'.length oc')) ++ ts'.flatMap RT.blocks = _
    simp
  refine ⟨⟨hb, keepRow h.lr ?_, ownsRow_base ho (Nat.zero_le _), keepRow h.qr ?_, keepRow h.rr ?_, fun T hT => (h.ts T (hmem T hT)).chg hc (fun b hb => hwt T (hmem T hT) b hb), ?_⟩, ?_, ?_⟩
  · intro x hx; replace hx : x ∈ vb S.lv := hx; simp [RSt.others, hx]
  · intro x hx; replace hx : x ∈ vb S.qv := hx; simp [RSt.others, hx]
  · intro x hx; replace hx : x ∈ vb S.rv := hx; simp [RSt.others, hx]
  · rw [e1]
    exact hnd2.sublist ((List.Sublist.refl _).append ((List.Sublist.refl _).append hsub))
  · rw [e1, e0]
    intro b hb
    rcases List.mem_append.1 hb with h1 | h1
    · exact Or.inl (List.mem_append.2 (Or.inl h1))
    · rcases List.mem_append.1 h1 with h2 | h2
      · exact Or.inr (ho.lt b (vb_mem.1 h2)).1
      · exact Or.inl (List.mem_append.2 (Or.inr (List.mem_append.2 (Or.inr (hsub.subset h2)))))
  · exact hc.mono (fun i _ (hi : i = S.wb) => by rw [e0, hi]; simp)
set_option maxHeartbeats 400000 in
theorem of_drop (S : RSt) (k : Nat) (o : OpM) (w : World) (h : RInv w S) (hf : RFit S) (hk : k < S.ts.length) (hkd : o.kind = 6) :
    Calls Try.prog 29 #[.pointer (some ⟨S.wb, 0, none⟩), .int .i64 k, o.v] w (RPost w S (ofM' S.abs k S.ts[k].abs o).1 (ofM' S.abs k S.ts[k].abs o).2) := by
  obtain ⟨g, hg, hvg⟩ := h.open hk
  have hwb := h.wb
  have hor := h.or
  unfold RSt.ov at hwb hor
  rw [hg] at hwb hor
  have e : ofM' S.abs k S.ts[k].abs o = (errA 0, { S.abs with ts := S.abs.ts.filter (fun x => decide (x.start ≠ S.ts[k].start)) }) := by
    unfold ofM'
    rw [if_neg (by omega), if_neg (by omega), if_neg (by omega), if_neg (by omega), if_neg (by omega)]
    rfl
  rw [e]
  refine (of_drop_low S.wb g k S.oc S.ts[k].start S.ts[k].ws S.ts[k].wa S.ts[k].wc S.ts[k].ks S.ts[k].ka S.ts[k].kc S.ts[k].pa S.ts[k].ps S.ts[k].pc S.ts o w hkd hf.ts hk (List.getElem?_eq_getElem hk) hwb hor).mono ?_
  rintro en w' ⟨rfl, oa', oc', q1, q2, q3⟩
  refine ⟨{ S with ts := lessT S.ts S.ts[k].start, oa := oa', oc := oc' }, .slice none 0 0, rfl, World.ownsRow_nil _ _ _ _, ?_, rfl, h.setOpen (rflat_sub _ _) (fun T hT => (List.mem_filter.1 hT).1) q1 q2 q3⟩
  simp only [RSt.abs, filter_abs]
theorem of_err (S : RSt) (k : Nat) (o : OpM) (w : World) (h : RInv w S) (hk : k < S.ts.length) (hkd : o.kind = 2 ∨ o.kind = 4 ∨ o.kind = 5) (hbad : o.key.size < 1 ∨ 8 < o.key.size) :
    Calls Try.prog 29 #[.pointer (some ⟨S.wb, 0, none⟩), .int .i64 k, o.v] w (RPost w S (ofM' S.abs k S.ts[k].abs o).1 (ofM' S.abs k S.ts[k].abs o).2) := by
  obtain ⟨g, hg, hvg⟩ := h.open hk
  have hwb := h.wb
  have hor := h.or
  unfold RSt.ov at hwb hor
  rw [hg] at hwb hor
  have e : ofM' S.abs k S.ts[k].abs o = (errA 4, S.abs) := by
    unfold ofM'
    rw [if_pos ⟨hkd, hbad⟩]
  rw [e]
  refine (of_badkey_low S.wb g k S.oc S.ts[k].start S.ts[k].ws S.ts[k].wa S.ts[k].wc S.ts[k].ks S.ts[k].ka S.ts[k].kc S.ts[k].pa S.ts[k].ps S.ts[k].pc S.ts o w hkd hbad hk (List.getElem?_eq_getElem hk) hwb hor).mono ?_
  rintro en w' ⟨rfl, hc⟩
  exact rpost_err h hc 4
theorem of_val (S : RSt) (k : Nat) (o : OpM) (w : World) (h : RInv w S) (hk : k < S.ts.length) (hkd : o.kind = 4) (hk1 : 1 ≤ o.key.size) (hk8 : o.key.size ≤ 8) (hv : 20 < o.val.size) :
    Calls Try.prog 29 #[.pointer (some ⟨S.wb, 0, none⟩), .int .i64 k, o.v] w (RPost w S (ofM' S.abs k S.ts[k].abs o).1 (ofM' S.abs k S.ts[k].abs o).2) := by
  obtain ⟨g, hg, hvg⟩ := h.open hk
  have hwb := h.wb
  have hor := h.or
  unfold RSt.ov at hwb hor
  rw [hg] at hwb hor
  have e : ofM' S.abs k S.ts[k].abs o = (errA 5, S.abs) := by
    unfold ofM'
    rw [if_neg (by omega), if_neg (by omega), if_neg (by omega), if_pos hkd, if_pos hv]
  rw [e]
  refine (of_badval_low S.wb g k S.oc S.ts[k].start S.ts[k].ws S.ts[k].wa S.ts[k].wc S.ts[k].ks S.ts[k].ka S.ts[k].kc S.ts[k].pa S.ts[k].ps S.ts[k].pc S.ts o w hkd hk1 hk8 hv hk (List.getElem?_eq_getElem hk) hwb hor).mono ?_
  rintro en w' ⟨rfl, hc⟩
  exact rpost_err h hc 5
/-- EVERY STEP OF A TRANSACTION, but COMMIT. -/
theorem of_any (S : RSt) (k : Nat) (o : OpM) (w : World) (h : RInv w S) (hf : RFit S) (hk : k < S.ts.length) (hkd : 2 ≤ o.kind ∧ o.kind ≤ 6) :
    Calls Try.prog 29 #[.pointer (some ⟨S.wb, 0, none⟩), .int .i64 k, o.v] w (RPost w S (ofM' S.abs k S.ts[k].abs o).1 (ofM' S.abs k S.ts[k].abs o).2) := by
  by_cases hb : (o.kind = 2 ∨ o.kind = 4 ∨ o.kind = 5) ∧ (o.key.size < 1 ∨ 8 < o.key.size)
  · exact of_err S k o w h hk hb.1 hb.2
  · have h5 : o.kind = 2 ∨ o.kind = 3 ∨ o.kind = 4 ∨ o.kind = 5 ∨ o.kind = 6 := by omega
    rcases h5 with e | e | e | e | e
    · exact of_get S k o w h hf hk e (by omega) (by omega)
    · exact of_scan S k o w h hf hk e
    · by_cases hv : 20 < o.val.size
      · exact of_val S k o w h hk e (by omega) (by omega) hv
      · exact of_put S k o w h hf hk e (by omega) (by omega) (by omega)
    · exact of_del S k o w h hf hk e (by omega) (by omega)
    · exact of_drop S k o w h hf hk e
end Go.Proofs.Ytcpjocgpahjcjaa
