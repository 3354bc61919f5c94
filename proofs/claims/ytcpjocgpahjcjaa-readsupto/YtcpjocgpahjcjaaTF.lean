import Derived.Test.YtcpjocgpahjcjaaTE
namespace Go.Proofs.Ytcpjocgpahjcjaa
open Go.RowKit Go.Sort
def drp (n : Int) : List Tx → List Tx
  | [] => []
  | X :: r => if X.start = n then r else X :: drp n r
theorem drp_abs (n : Int) : ∀ txs : List Tx, (drp n txs).map absT = dropM n (txs.map absT)
  | [] => rfl
  | X :: r => by
    by_cases h : X.start = n
    · have h' : (absT X).start = n := h
      simp only [drp, List.map_cons, dropM]
      rw [if_pos h, if_pos h']
    · have h' : (absT X).start ≠ n := h
      simp only [drp, List.map_cons, dropM]
      rw [if_neg h, if_neg h', ← drp_abs n r]
      rfl
theorem drp_nums (n : Int) : ∀ txs : List Tx, numsOf (drp n txs) = delA n (numsOf txs)
  | [] => rfl
  | X :: r => by
    by_cases h : X.start = n
    · simp only [drp, numsOf, List.map_cons, delA]
      rw [if_pos h, if_pos h]
    · have ih := drp_nums n r
      simp only [drp, numsOf, List.map_cons, delA] at ih ⊢
      rw [if_neg h, if_neg h, ← ih]
      rfl
theorem drp_sub (n : Int) : ∀ txs : List Tx, (drp n txs).Sublist txs
  | [] => by simp [drp]
  | X :: r => by
    simp only [drp]
    split
    · exact List.sublist_cons_self _ _
    · exact (drp_sub n r).cons_cons _
theorem flat_sub {α β : Type} (f : α → List β) : ∀ {l l' : List α}, l.Sublist l' → (l.flatMap f).Sublist (l'.flatMap f) := by
  intro l l' h
  induction h with
  | slnil => exact List.Sublist.refl _
  | cons a _ ih => rw [List.flatMap_cons]; exact ih.trans (List.sublist_append_right _ _)
  | cons_cons a _ ih => rw [List.flatMap_cons, List.flatMap_cons]; exact (List.Sublist.refl _).append ih
theorem drop_step {st : PSt} {n : Nat} {w : World} {o : OpM} (h : Inv w st n) (ho : o.ok) (hk : o.kind = 6) : Calls Try.prog 37 #[.pointer (some ⟨st.p, 0, none⟩), o.v] w (StepPost st n w (stepM st.abs o)) := by
  rw [stepM_of (by omega) (by omega)]
  rcases find_spec o.t st.txs with ⟨h1, h2⟩ | ⟨T, hT, hTs, h1, h2⟩
  · refine (drop_none _ _ _ _ _ o w h.plays ho.t h2).mono ?_
    rintro e w' ⟨rfl, hc⟩
    simp only [PSt.abs, h1]
    exact err_post h hc (by decide)
  · simp only [PSt.abs, h1]
    unfold ofM
    rw [if_neg (by omega), if_neg (by omega), if_neg (by omega), if_neg (by omega)]
    refine (drop_ok _ _ _ _ _ _ o w h.plays ho.t h2).mono ?_
    rintro e w' ⟨rfl, hm, hc⟩
    obtain ⟨⟨l1, l2, l3, l4, l5, l6⟩, hL, _, _⟩ := h.lie
    have hsub := flat_sub Tx.blocks (drp_sub o.t st.txs)
    have hbs : ({ st with txs := drp o.t st.txs } : PSt).blocks.Sublist st.blocks := by
      unfold PSt.blocks
      exact (((hsub.cons_cons _).cons_cons _).cons_cons _).cons_cons _
    refine ⟨{ st with txs := drp o.t st.txs }, rfl, ⟨(hc.block _ (lt_of_block h.pl) l3).trans h.pl, h.store.chg hc l5 l6, ?_, fun X hX => ?_, hbs.nodup h.apart, h.lo, by have := h.hi; simp only; omega, Nat.le_trans (drp_sub o.t st.txs).length_le h.six, fun X hX => (h.ok X ((drp_sub o.t st.txs).subset hX)).up (by simp only; omega) (by omega)⟩, ?_, hc.mono (fun i _ e => by subst e; simp [PSt.blocks]), fun b hb => Or.inl (hbs.subset hb), Or.inl ⟨rfl, none, 0, 0, rfl, noItems _ _ _ _, fun g hg => by cases hg⟩⟩
    · have := drp_nums o.t st.txs
      unfold numsOf at this
      simp only [this]
      exact hm
    · have hX' := (drp_sub o.t st.txs).subset hX
      exact (h.txs X hX').kept hc (fun b hb e => (hL X hX' b hb).2.2.2 e)
    · simp only [PSt.abs]
      rw [drp_abs]
theorem begin_step {st : PSt} {n : Nat} {w : World} {o : OpM} (h : Inv w st n) (hn : n ≤ 100000000) (hk : o.kind = 1) : Calls Try.prog 32 #[.pointer (some ⟨st.p, 0, none⟩)] w (StepPost st n w (stepM st.abs o)) := by
  have e0 : stepM st.abs o = if 6 ≤ st.txs.length then (errA 6, st.abs) else (⟨0, st.clock + 1, false, ⟨#[]⟩, []⟩, ⟨st.clock + 1, st.txs.map absT ++ [⟨st.clock + 1, []⟩]⟩) := by
    unfold stepM
    rw [if_pos hk]
    simp [PSt.abs]
  rw [e0]
  by_cases h6 : 6 ≤ st.txs.length
  · rw [if_pos h6]
    refine (begin_no st.p st.om (numsOf st.txs) w (cell_of h.pl rfl) h.om (by simpa [numsOf] using h6)).mono ?_
    rintro e w' ⟨rfl, hc⟩
    exact err_post h hc (by decide)
  · rw [if_neg h6]
    obtain ⟨⟨l1, l2, l3, l4, l5, l6⟩, hL, _, _⟩ := h.lie
    have hhi := h.hi
    refine (begin_yes st.p st.sb st.om st.clock (numsOf st.txs) w h.lo (by omega) h.pl h.om l3 (by simpa [numsOf] using h6)).mono ?_
    rintro e w' ⟨tb, wb, kb, pb, rfl, hT, hpl, hm, hc, hw, rfl, rfl, rfl⟩
    have hth := h.there
    have hnone : putA (st.clock + 1) (wb + 3) (numsOf st.txs) = numsOf st.txs ++ [(st.clock + 1, wb + 3)] := putA_none (fun q hq => by
      unfold numsOf at hq
      obtain ⟨X, hX, rfl⟩ := List.mem_map.1 hq
      have := (h.ok X hX).hi
      simp only
      omega)
    rw [hnone] at hm
    have hbl : ({ st with clock := st.clock + 1, txs := st.txs ++ [⟨wb + 3, wb, wb + 1, wb + 2, st.clock + 1, [], [], []⟩] } : PSt).blocks = st.blocks ++ [wb + 3, wb, wb + 1, wb + 2] := by
      simp [PSt.blocks, Tx.blocks, List.flatMap_append]
    refine ⟨{ st with clock := st.clock + 1, txs := st.txs ++ [⟨wb + 3, wb, wb + 1, wb + 2, st.clock + 1, [], [], []⟩] }, rfl, ⟨hpl, h.store.chg hc (by omega) (by omega), ?_, fun X hX => ?_, ?_, by have := h.lo; simp only; omega, by simp only; omega, by simp; omega, fun X hX => ?_⟩, ?_, hc.mono (fun i _ e => by rcases e with e | e <;> subst e <;> simp [PSt.blocks]), fun b hb => ?_, Or.inl ⟨rfl, none, 0, 0, rfl, noItems _ _ _ _, fun g hg => by cases hg⟩⟩
    · simp only [List.map_append, List.map_cons, List.map_nil]
      exact hm
    · rcases List.mem_append.1 hX with hX | hX
      · exact (h.txs X hX).kept hc (fun b hb e => by have := hL X hX b hb; omega)
      · rw [List.mem_singleton.1 hX]
        exact hT
    · rw [hbl]
      refine List.nodup_append.2 ⟨h.apart, by simp, fun a ha b hb => ?_⟩
      have := hth a ha
      simp only [List.mem_cons, List.not_mem_nil, or_false] at hb
      omega
    · rcases List.mem_append.1 hX with hX | hX
      · exact (h.ok X hX).up (by simp only; omega) (by omega)
      · rw [List.mem_singleton.1 hX]
        exact ⟨by have := h.lo; simp only; omega, by simp, by simp, by simp⟩
    · simp [PSt.abs, absT]
    · rw [hbl] at hb
      rcases List.mem_append.1 hb with hb | hb
      · exact Or.inl hb
      · simp only [List.mem_cons, List.not_mem_nil, or_false] at hb
        exact Or.inr (by omega)
end Go.Proofs.Ytcpjocgpahjcjaa
