import Derived.Test.YtkfjafndplmdkaaGreatMaps
import Derived.Test.YtkfjafndplmdkaaGreatA
namespace Go.Proofs.YtkfjafndplmdkaaGreat
section plain
variable {α β : Type} [DecidableEq α]
theorem getA_put (a : α) (c : β) (k : α) : ∀ l : List (α × β), getA k (putA a c l) = if k = a then some c else getA k l
  | [] => by
    by_cases h : k = a
    · subst h; simp [putA, getA]
    · simp [putA, getA, h, Ne.symm h]
  | (x, y) :: r => by
    by_cases hx : x = a
    · subst hx
      by_cases h : k = x
      · subst h; simp [putA, getA]
      · simp [putA, getA, h, Ne.symm h]
    · have ih := getA_put a c k r
      by_cases h : x = k
      · subst h; simp [putA, getA, hx]
      · simp [putA, getA, hx, h, ih]
theorem getA_isSome (k : α) : ∀ l : List (α × β), (getA k l).isSome = true ↔ k ∈ l.map Prod.fst
  | [] => by simp [getA]
  | (x, y) :: r => by
    by_cases h : x = k
    · subst h; simp [getA]
    · have ih := getA_isSome k r
      simp only [getA, h, if_false, List.map_cons, List.mem_cons, ih]
      exact ⟨Or.inr, fun h' => h'.resolve_left (fun e => h e.symm)⟩
theorem getA_eq_none {k : α} {l : List (α × β)} : getA k l = none ↔ k ∉ l.map Prod.fst := by
  rw [← getA_isSome, Option.not_isSome_iff_eq_none]
theorem getA_mem {k : α} {v : β} : ∀ {l : List (α × β)}, getA k l = some v → (k, v) ∈ l
  | [], h => by simp [getA] at h
  | (x, y) :: r, h => by
    unfold getA at h
    split at h
    · rename_i e
      simp only at e
      subst e
      simp at h
      subst h
      exact List.mem_cons_self ..
    · exact List.mem_cons_of_mem _ (getA_mem h)
theorem getA_of_mem {k : α} {v : β} : ∀ {l : List (α × β)}, (l.map Prod.fst).Nodup → (k, v) ∈ l → getA k l = some v
  | [], _, h => by simp at h
  | (x, y) :: r, nd, h => by
    obtain ⟨n1, n2⟩ := List.nodup_cons.1 (by simpa using nd : (x :: r.map Prod.fst).Nodup)
    rcases List.mem_cons.1 h with e | e
    · cases e; simp [getA]
    · have hne : x ≠ k := fun e2 => n1 (e2 ▸ List.mem_map.2 ⟨_, e, rfl⟩)
      simp only [getA, hne, if_false]
      exact getA_of_mem n2 e
theorem getA_iff {k : α} {v : β} {l : List (α × β)} (nd : (l.map Prod.fst).Nodup) : getA k l = some v ↔ (k, v) ∈ l := ⟨getA_mem, getA_of_mem nd⟩
theorem getA_del (a k : α) : ∀ {l : List (α × β)}, (l.map Prod.fst).Nodup → getA k (delA a l) = if k = a then none else getA k l
  | [], _ => by simp [delA, getA]
  | (x, y) :: r, nd => by
    obtain ⟨n1, n2⟩ := List.nodup_cons.1 (by simpa using nd : (x :: r.map Prod.fst).Nodup)
    by_cases hx : x = a
    · subst hx
      simp only [delA, if_true]
      by_cases h : k = x
      · subst h; rw [if_pos rfl]; exact getA_eq_none.2 n1
      · rw [if_neg h]; simp [getA, Ne.symm h]
    · simp only [delA, hx, if_false]
      by_cases h : x = k
      · subst h; simp [getA, hx]
      · simp only [getA, h, if_false]; exact getA_del a k n2
theorem getA_perm {l l' : List (α × β)} (nd : (l.map Prod.fst).Nodup) (h : l.Perm l') (k : α) : getA k l = getA k l' := by
  have nd' : (l'.map Prod.fst).Nodup := (h.map _).nodup_iff.1 nd
  cases hx : getA k l with
  | none =>
    symm
    rw [getA_eq_none] at hx ⊢
    exact fun hm => hx ((h.map _).mem_iff.2 hm)
  | some v => exact ((getA_iff nd').2 (h.mem_iff.1 ((getA_iff nd).1 hx))).symm
theorem nodup_of_fst {α' β' : Type} {l : List (α' × β')} (nd : (l.map Prod.fst).Nodup) : l.Nodup := (List.pairwise_map.1 nd).imp (fun h e => h (congrArg Prod.fst e))
theorem perm_of_getA {l l' : List (α × β)} (nd : (l.map Prod.fst).Nodup) (nd' : (l'.map Prod.fst).Nodup) (h : ∀ k, getA k l = getA k l') : l.Perm l' := by
  refine (List.perm_ext_iff_of_nodup (nodup_of_fst nd) (nodup_of_fst nd')).2 fun p => ?_
  obtain ⟨k, v⟩ := p
  rw [← getA_iff nd, ← getA_iff nd', h k]
theorem getA_filter (a k : α) : ∀ {l : List (α × β)}, getA k (l.filter (fun r => decide (r.1 ≠ a))) = if k = a then none else getA k l
  | [] => by simp [getA]
  | (x, y) :: r => by
    by_cases hx : x = a
    · subst hx
      rw [List.filter_cons_of_neg (by simp), getA_filter x k]
      by_cases h : k = x
      · simp [h]
      · simp [h, getA, Ne.symm h]
    · rw [List.filter_cons_of_pos (by simpa using hx)]
      by_cases h : x = k
      · subst h; simp [getA, hx]
      · simp only [getA, h, if_false]; exact getA_filter a k
theorem filter_nodup {α' β' : Type} {l : List (α' × β')} (p : α' × β' → Bool) (nd : (l.map Prod.fst).Nodup) : ((l.filter p).map Prod.fst).Nodup := (List.filter_sublist.map _).nodup nd
theorem getA_snoc (a k : α) (v : β) : ∀ {l : List (α × β)}, getA a l = none → getA k (l ++ [(a, v)]) = if k = a then some v else getA k l
  | [], _ => by
    by_cases h : k = a
    · subst h; simp [getA]
    · simp [getA, h, Ne.symm h]
  | (x, y) :: r, h0 => by
    unfold getA at h0
    split at h0
    · cases h0
    · rename_i hx
      simp only at hx
      by_cases h : x = k
      · subst h; simp [getA, hx]
      · simp only [List.cons_append, getA, h, if_false]
        exact getA_snoc a k v h0
end plain
theorem note_get (rows : List (ByteArray × Int)) (a k : ByteArray) (t : Int) : getA k (noteM rows a t) = if k = a then some t else getA k rows := by
  unfold noteM
  rw [getA_snoc a k t (by rw [getA_filter]; simp), getA_filter]
  by_cases h : k = a <;> simp [h]
theorem note_nodup {rows : List (ByteArray × Int)} (a : ByteArray) (t : Int) (nd : (rows.map Prod.fst).Nodup) : ((noteM rows a t).map Prod.fst).Nodup := by
  unfold noteM
  rw [List.map_append, List.nodup_append]
  refine ⟨filter_nodup _ nd, by simp, fun x hx y hy => ?_⟩
  obtain ⟨p, hp, rfl⟩ := List.mem_map.1 hx
  have : y = a := by simpa using hy
  have h2 := (List.mem_filter.1 hp).2
  rw [this]
  simpa using h2
theorem notes_get (t : Int) (k : ByteArray) : ∀ (ws : List Ver) (rows : List (ByteArray × Int)), getA k (notesM rows ws t) = if ∃ v ∈ ws, v.key = k then some t else getA k rows
  | [], rows => by simp [notesM]
  | v :: r, rows => by
    have ih := notes_get t k r (noteM rows v.key t)
    have e : notesM rows (v :: r) t = notesM (noteM rows v.key t) r t := rfl
    rw [e, ih, note_get]
    by_cases h1 : ∃ x ∈ r, x.key = k
    · rw [if_pos h1, if_pos]
      obtain ⟨x, hx, hk⟩ := h1
      exact ⟨x, List.mem_cons_of_mem _ hx, hk⟩
    · rw [if_neg h1]
      by_cases h2 : k = v.key
      · rw [if_pos h2, if_pos ⟨v, List.mem_cons_self .., h2.symm⟩]
      · rw [if_neg h2, if_neg]
        rintro ⟨x, hx, hk⟩
        rcases List.mem_cons.1 hx with e | e
        · subst e; exact h2 hk.symm
        · exact h1 ⟨x, e, hk⟩
theorem notes_nodup (t : Int) : ∀ (ws : List Ver) {rows : List (ByteArray × Int)}, (rows.map Prod.fst).Nodup → ((notesM rows ws t).map Prod.fst).Nodup
  | [], _, nd => nd
  | v :: r, _, nd => notes_nodup t r (note_nodup v.key t nd)
/-! ### the row that goes -/
theorem ltB_irrefl (a : ByteArray) : ¬ ltB a a := List.lt_irrefl _
theorem ltB_trans {a b c : ByteArray} (h : ltB a b) (k : ltB b c) : ltB a c := List.lt_trans h k
theorem ltB_tri {a b : ByteArray} (h : ¬ ltB a b) (hne : a ≠ b) : ltB b a := by
  unfold ltB at *
  refine Classical.byContradiction fun h1 => hne (toList_inj ?_)
  exact List.le_antisymm (List.not_lt.1 h1) (List.not_lt.1 h)
theorem rowLt_irrefl (a : ByteArray × Int) : ¬ rowLt a a := by
  rintro (h | ⟨_, h⟩)
  · omega
  · exact ltB_irrefl _ h
theorem rowLt_trans {a b c : ByteArray × Int} (h : rowLt a b) (k : rowLt b c) : rowLt a c := by
  rcases h with h | ⟨h1, h2⟩ <;> rcases k with k | ⟨k1, k2⟩
  · exact Or.inl (by omega)
  · exact Or.inl (by omega)
  · exact Or.inl (by omega)
  · exact Or.inr ⟨by omega, ltB_trans h2 k2⟩
theorem rowLt_tri {a b : ByteArray × Int} (h : ¬ rowLt a b) (hne : a ≠ b) : rowLt b a := by
  by_cases e : a.2 = b.2
  · refine Or.inr ⟨e.symm, ltB_tri (fun hl => h (Or.inr ⟨e, hl⟩)) (fun e1 => hne (Prod.ext e1 e))⟩
  · rcases Int.lt_or_gt_of_ne e with h1 | h1
    · exact absurd (Or.inl h1) h
    · exact Or.inl h1
/-- m is the least of l. -/
def IsLeast (l : List (ByteArray × Int)) (m : ByteArray × Int) : Prop := m ∈ l ∧ ∀ x ∈ l, x ≠ m → rowLt m x
theorem IsLeast.unique {l : List (ByteArray × Int)} {m m' : ByteArray × Int} (h : IsLeast l m) (h' : IsLeast l m') : m = m' := by
  refine Classical.byContradiction fun hne => ?_
  exact rowLt_irrefl _ (rowLt_trans (h.2 m' h'.1 (Ne.symm hne)) (h'.2 m h.1 hne))
theorem IsLeast.perm {l l' : List (ByteArray × Int)} {m : ByteArray × Int} (h : IsLeast l m) (p : l.Perm l') : IsLeast l' m := ⟨p.mem_iff.1 h.1, fun x hx => h.2 x (p.mem_iff.2 hx)⟩
theorem least_fold : ∀ (l : List (ByteArray × Int)) (r : ByteArray × Int), IsLeast (r :: l) (l.foldl (fun b a => if rowLt a b then a else b) r)
  | [], r => ⟨by simp, fun x hx hne => absurd (by simpa using hx) hne⟩
  | a :: l, r => by
    rw [List.foldl_cons]
    by_cases h : rowLt a r
    · rw [if_pos h]
      obtain ⟨h1, h2⟩ := least_fold l a
      refine ⟨List.mem_cons_of_mem _ h1, fun x hx hne => ?_⟩
      rcases List.mem_cons.1 hx with e | e
      · rw [e]
        by_cases e2 : l.foldl (fun b a => if rowLt a b then a else b) a = a
        · rw [e2]; exact h
        · exact rowLt_trans (h2 a (List.mem_cons_self ..) (Ne.symm e2)) h
      · exact h2 x e hne
    · rw [if_neg h]
      obtain ⟨h1, h2⟩ := least_fold l r
      refine ⟨?_, fun x hx hne => ?_⟩
      · rcases List.mem_cons.1 h1 with e | e
        · rw [e]; exact List.mem_cons_self ..
        · exact List.mem_cons_of_mem _ (List.mem_cons_of_mem _ e)
      · rcases List.mem_cons.1 hx with e | e
        · exact h2 x (by rw [e]; exact List.mem_cons_self ..) hne
        · rcases List.mem_cons.1 e with e | e
          · subst e
            by_cases e3 : x = r
            · exact h2 x (by rw [e3]; exact List.mem_cons_self ..) hne
            · have hr := rowLt_tri h e3
              by_cases e2 : l.foldl (fun b a => if rowLt a b then a else b) r = r
              · rw [e2]; exact hr
              · exact rowLt_trans (h2 r (List.mem_cons_self ..) (Ne.symm e2)) hr
          · exact h2 x (List.mem_cons_of_mem _ e) hne
theorem leastM_is {l : List (ByteArray × Int)} (h : l ≠ []) : ∃ m, leastM l = some m ∧ IsLeast l m := by
  cases l with
  | nil => exact absurd rfl h
  | cons r l => exact ⟨_, rfl, least_fold l r⟩
theorem leastM_eq {l l' : List (ByteArray × Int)} {m : ByteArray × Int} (h : IsLeast l m) (p : l.Perm l') : leastM l' = some m := by
  have hne : l' ≠ [] := fun e => by have := (h.perm p).1; rw [e] at this; simp at this
  obtain ⟨m', h1, h2⟩ := leastM_is hne
  rw [h1, h2.unique (h.perm p)]
end Go.Proofs.YtkfjafndplmdkaaGreat
