import Derived.Test.YtkfjafndplmdkaaGreatSH
namespace Go.Proofs.YtkfjafndplmdkaaGreat
/-! ### Serial: the pure part of its loops -/
theorem nodup_sub_len {α : Type} [DecidableEq α] : ∀ {l m : List α}, l.Nodup → (∀ x ∈ l, x ∈ m) → l.length ≤ m.length
  | [], _, _, _ => Nat.zero_le _
  | x :: r, m, nd, h => by
    obtain ⟨n1, n2⟩ := List.nodup_cons.1 nd
    have ih := nodup_sub_len (m := m.erase x) n2 (fun y hy => (List.mem_erase_of_ne (show y ≠ x from fun e => n1 (by rw [← e]; exact hy))).2 (h y (by simp [hy])))
    have hx := List.length_erase_of_mem (h x (by simp))
    have hp := List.length_pos_of_mem (h x (by simp))
    simp only [List.length_cons]
    omega
theorem ws_keys : ∀ (l : List Ent) {ws : List Ver}, ∀ v ∈ l.foldl wsE ws, (∃ u ∈ ws, u.key = v.key) ∨ ∃ e ∈ l, e.1.key = v.key
  | [], ws, v, h => Or.inl ⟨v, h, rfl⟩
  | e :: r, ws, v, h => by
    rcases ws_keys r (ws := wsE ws e) v h with ⟨u, hu, hk⟩ | ⟨e', he, hk⟩
    · have hw : ∀ x : Ver, x.key = e.1.key → u ∈ writeM ws x → (∃ u ∈ ws, u.key = v.key) ∨ ∃ e' ∈ e :: r, e'.1.key = v.key := fun x hx hm => by
        rcases List.mem_append.1 hm with hm | hm
        · exact Or.inl ⟨u, (List.mem_filter.1 hm).1, hk⟩
        · rw [List.mem_singleton.1 hm] at hk
          exact Or.inr ⟨e, by simp, by rw [← hk, hx]⟩
      unfold wsE at hu
      split at hu
      · exact hw _ rfl hu
      · split at hu
        · exact hw _ rfl hu
        · exact Or.inl ⟨u, hu, hk⟩
    · exact Or.inr ⟨e', by simp [he], hk⟩
theorem H_keys {P : List Ent} {D : List Dec} {H : List Ver} {W : PW} (h : SInv P D H W) : ∀ v ∈ H, ∃ e ∈ P, e.1.key = v.key := fun v hv => by
  obtain ⟨d, hd, ht⟩ := h.dh v hv
  have h1 : v ∈ H.filter (fun v => decide (v.time = d.time)) := List.mem_filter.2 ⟨hv, by simp [ht]⟩
  rw [(h.df d hd).2] at h1
  obtain ⟨u, hu, rfl⟩ := List.mem_map.1 h1
  rcases ws_keys (logOf P d.num) u hu with ⟨x, hx, _⟩ | ⟨e, he, hk⟩
  · simp at hx
  · exact ⟨e, (List.mem_filter.1 he).1, hk⟩
theorem view_mem {H : List Ver} {k : ByteArray} {t : Int} (h : (viewM H t k).2 = true) : ∃ v ∈ H, v.key = k := by
  have h' : (atM H k t).2 = true := h
  unfold atM at h'
  split at h'
  · rename_i v hv
    have h1 := List.find?_some hv
    have h2 := List.mem_of_find?_eq_some hv
    simp at h1
    exact ⟨v, by simpa using h2, h1.1⟩
  · simp at h'
theorem tbl_len {ops : List OpM} {As : List AnsM} {D : List Dec} {H : List Ver} {W : PW} {l : Tbl} {τ : Int} (h : SInv (ops.zip As) D H W) (hT : TblIs l (viewM H τ)) : l.length ≤ ops.length := by
  have h1 : (l.map Prod.fst).length ≤ (ops.map OpM.key).length := nodup_sub_len hT.nd (fun x hx => by
    have h2 := (getA_isSome x l).2 hx
    rw [hT.gt x] at h2
    have h3 : (viewM H τ x).2 = true := by
      unfold optV at h2
      split at h2
      · assumption
      · simp at h2
    obtain ⟨v, hv, hk⟩ := view_mem h3
    obtain ⟨e, he, hk2⟩ := H_keys h v hv
    exact List.mem_map.2 ⟨e.1, (List.of_mem_zip he).1, by rw [hk2, hk]⟩)
  simpa using h1
/-! ### in the order of times -/
def upTo (D : List Dec) (t : Int) : Nat := (D.filter (fun d => decide (d.time ≤ t))).length
theorem upTo_all {D : List Dec} {t : Int} (h : ∀ d ∈ D, d.time ≤ t) : upTo D t = D.length := by
  unfold upTo
  rw [List.filter_eq_self.2 (fun d hd => by simpa using h d hd)]
theorem upTo_none {D : List Dec} {t : Int} (h : ∀ d ∈ D, t < d.time) : upTo D t = 0 := by
  unfold upTo
  rw [List.filter_eq_nil_iff.2 (fun d hd => by have := h d hd; simp; omega)]
  rfl
theorem upTo_next : ∀ {D : List Dec} {s t : Int}, D.Pairwise (fun a b => a.num ≠ b.num ∧ a.time ≠ b.time) → s < t → (∃ d ∈ D, d.time = t) → (∀ d ∈ D, s < d.time → t ≤ d.time) → upTo D t = upTo D s + 1
  | [], _, _, _, _, ⟨_, h, _⟩, _ => by simp at h
  | x :: r, s, t, hp, hst, ⟨d, hd, hdt⟩, hm => by
    obtain ⟨p1, p2⟩ := List.pairwise_cons.1 hp
    have hm' : ∀ d ∈ r, s < d.time → t ≤ d.time := fun d hd => hm d (by simp [hd])
    unfold upTo
    by_cases hx : x.time = t
    · have hr : ∀ d ∈ r, (decide (d.time ≤ t)) = decide (d.time ≤ s) := fun d hd => by
        have h1 := (p1 d hd).2
        by_cases h2 : s < d.time
        · have := hm' d hd h2
          rw [decide_eq_false (by omega), decide_eq_false (by omega)]
        · rw [decide_eq_true (by omega), decide_eq_true (by omega)]
      rw [List.filter_cons_of_pos (by simp; omega), List.filter_cons_of_neg (by simp; omega), List.length_cons, List.filter_congr hr]
    · have hd' : d ∈ r := by
        rcases List.mem_cons.1 hd with e | e
        · exact absurd (by rw [← e]; exact hdt) hx
        · exact e
      have ih := upTo_next p2 hst ⟨d, hd', hdt⟩ hm'
      unfold upTo at ih
      by_cases h2 : s < x.time
      · have := hm x (by simp) h2
        rw [List.filter_cons_of_neg (by simp; omega), List.filter_cons_of_neg (by simp; omega)]
        exact ih
      · rw [List.filter_cons_of_pos (by simp; omega), List.filter_cons_of_pos (by simp; omega), List.length_cons, List.length_cons, ih]
/-- the best so far, behind j decisions. -/
def Best (D : List Dec) (last : Int) (j : Nat) (best : Int) : Prop := (best = -1 ∧ ∀ d ∈ D.take j, d.time ≤ last) ∨ ∃ b : Nat, best = b ∧ b < j ∧ ∃ h : b < D.length, last < D[b].time ∧ ∀ d ∈ D.take j, last < d.time → D[b].time ≤ d.time
theorem Best.start (D : List Dec) (last : Int) : Best D last 0 (-1) := Or.inl ⟨rfl, by simp⟩
theorem Best.lo {D : List Dec} {last : Int} {j : Nat} {best : Int} (h : Best D last j best) : (best = -1) ∨ ∃ b : Nat, best = b ∧ b < j ∧ b < D.length := by
  rcases h with ⟨rfl, _⟩ | ⟨b, rfl, h1, h2, _⟩
  · exact Or.inl rfl
  · exact Or.inr ⟨b, rfl, h1, h2⟩
/-- the next one is not taken. -/
theorem Best.skip {D : List Dec} {last : Int} {j : Nat} {best : Int} (h : Best D last j best) (hj : j < D.length) (hn : D[j].time ≤ last ∨ ∃ b : Nat, ∃ hb : b < D.length, best = b ∧ D[b].time ≤ D[j].time) : Best D last (j + 1) best := by
  have ht : D.take (j + 1) = D.take j ++ [D[j]] := List.take_succ_eq_append_getElem hj
  rcases h with ⟨rfl, h1⟩ | ⟨b, rfl, h1, h2, h3, h4⟩
  · refine Or.inl ⟨rfl, fun d hd => ?_⟩
    rw [ht] at hd
    rcases List.mem_append.1 hd with hd | hd
    · exact h1 d hd
    · rw [List.mem_singleton.1 hd]
      rcases hn with hn | ⟨b, _, hb, _⟩
      · exact hn
      · omega
  · refine Or.inr ⟨b, rfl, by omega, h2, h3, fun d hd hl => ?_⟩
    rw [ht] at hd
    rcases List.mem_append.1 hd with hd | hd
    · exact h4 d hd hl
    · rw [List.mem_singleton.1 hd] at hl ⊢
      rcases hn with hn | ⟨b', hb, e, hle⟩
      · omega
      · have : b = b' := by omega
        subst this
        exact hle
/-- the next one is taken. -/
theorem Best.take {D : List Dec} {last : Int} {j : Nat} {best : Int} (h : Best D last j best) (hj : j < D.length) (hl : last < D[j].time) (hn : best = -1 ∨ ∃ b : Nat, ∃ hb : b < D.length, best = b ∧ D[j].time < D[b].time) : Best D last (j + 1) j := by
  have ht : D.take (j + 1) = D.take j ++ [D[j]] := List.take_succ_eq_append_getElem hj
  refine Or.inr ⟨j, rfl, by omega, hj, hl, fun d hd hd2 => ?_⟩
  rw [ht] at hd
  rcases List.mem_append.1 hd with hd | hd
  · rcases h with ⟨rfl, h1⟩ | ⟨b, rfl, h1, h2, h3, h4⟩
    · have := h1 d hd; omega
    · have := h4 d hd hd2
      rcases hn with hn | ⟨b', hb, e, hlt⟩
      · omega
      · have : b = b' := by omega
        subst this
        omega
  · rw [List.mem_singleton.1 hd]
    exact Int.le_refl _
theorem Best.found {D : List Dec} {last : Int} {best : Int} (h : Best D last D.length best) (hn : upTo D last < D.length) : ∃ b : Nat, best = b ∧ ∃ hb : b < D.length, last < D[b].time ∧ ∀ d ∈ D, last < d.time → D[b].time ≤ d.time := by
  rw [Best, List.take_length] at h
  rcases h with ⟨_, h1⟩ | ⟨b, hb, _, h2, h3, h4⟩
  · have := upTo_all h1
    omega
  · exact ⟨b, hb, h2, h3, h4⟩
/-- THE NEXT ONE, DONE AGAIN. -/
theorem serial_next {ops : List OpM} {As : List AnsM} {D : List Dec} {H : List Ver} {W : PW} {l : Tbl} {last : Int} (h : SInv (ops.zip As) D H W) {d : Dec} (hd : d ∈ D) (hl : last < d.time) (hm : ∀ x ∈ D, last < x.time → d.time ≤ x.time) (hT : TblIs l (viewM H last)) :
    Tracks (viewM H (d.time - 1)) (wsOf (logOf (ops.zip As) d.num)) l [] (logOf (ops.zip As) d.num) ∧ upTo D d.time = upTo D last + 1 ∧ ∀ l', TblIs l' (seesV (wsOf (logOf (ops.zip As) d.num)) (viewM H (d.time - 1))) → TblIs l' (viewM H d.time) := by
  obtain ⟨f1, f2⟩ := h.df d hd
  have hv : ∀ k, viewM H (d.time - 1) k = viewM H last k := fun k => by
    refine atM_between (by omega) (fun v hv _ hle => ?_)
    obtain ⟨x, hx, hxt⟩ := h.dh v hv
    refine Classical.byContradiction fun hn => ?_
    have := hm x hx (by omega)
    omega
  refine ⟨⟨⟨hT.nd, fun k => ?_⟩, f1, rfl⟩, upTo_next h.du hl ⟨d, hd, rfl⟩ hm, fun l' hl' => ⟨hl'.nd, fun k => ?_⟩⟩
  · rw [hT.gt k, ← hv k]
    rfl
  · have e := view_next h.Hs (wsOk_of _ List.Pairwise.nil) f2 k
    rw [hl'.gt k, e]
    rfl
theorem tbl_zero {H : List Ver} {D : List Dec} {P : List Ent} {W : PW} (h : SInv P D H W) : TblIs [] (viewM H 0) := by
  refine ⟨List.Pairwise.nil, fun k => ?_⟩
  have hn : (viewM H 0 k).2 = false := by
    show (atM H k 0).2 = false
    have e : H.reverse.find? (fun v => decide (v.key = k) && decide (v.time ≤ 0)) = none := by
      rw [List.find?_eq_none]
      intro v hv
      obtain ⟨d, hd, ht⟩ := h.dh v (List.mem_reverse.1 hv)
      have := (h.dn d hd).1
      simp
      intro _
      omega
    unfold atM
    rw [e]
  unfold optV
  rw [hn]
  rfl
theorem flush_len : ∀ (n : Nat) (W : PW), (flushM n W).1.length ≤ n
  | 0, _ => Nat.le_refl _
  | n + 1, W => by
    unfold flushM
    split
    · simp
    · split
      · simp
      · simp only [List.length_cons]
        have := flush_len n
        exact Nat.succ_le_succ (this _)
theorem done_len (W : PW) (o : OpM) : (stepP W o).1.done.length ≤ 100 := by
  show (stepR W o).1.done.length ≤ 100
  unfold stepR
  split
  · split <;> simp
  split
  · split
    · simp
    · split
      · simp
      · split
        · unfold ofM
          split; · simp
          split; · simp
          split; · simp
          split
          · split <;> simp
          split; · simp
          split; · simp
          split <;> simp
        · simp
  split
  · split
    · simp
    · rename_i hn
      have := flush_len o.n.toNat W
      simp only
      omega
  split; · simp
  split; · simp
  split <;> simp
theorem dones_len : ∀ (ops : List OpM) (W : PW), ∀ A ∈ ansP W ops, A.done.length ≤ 100
  | [], _, A, h => by simp [ansP] at h
  | o :: r, W, A, h => by
    rcases List.mem_cons.1 h with e | e
    · rw [e]; exact done_len W o
    · exact dones_len r _ A e
theorem told_len (As : List AnsM) (h : ∀ A ∈ As, A.done.length ≤ 100) : (toldD As).length ≤ 100 * As.length := by
  induction As with
  | nil => simp [toldD]
  | cons A r ih =>
    have h1 := ih (fun x hx => h x (by simp [hx]))
    have h2 := h A (by simp)
    have h3 : (okD A.done).length ≤ A.done.length := List.length_filter_le _ _
    have e : toldD (A :: r) = okD A.done ++ toldD r := by simp [toldD]
    rw [e, List.length_append, List.length_cons]
    omega
theorem told_take (As : List AnsM) (i : Nat) (h : i < As.length) : toldD (As.take (i + 1)) = toldD (As.take i) ++ okD As[i].done := by
  unfold toldD
  rw [List.take_succ_eq_append_getElem h, List.flatMap_append]
  simp
theorem okD_take (l : List Dec) (k : Nat) (h : k < l.length) : okD (l.take (k + 1)) = okD (l.take k) ++ (if l[k].code = 0 then [l[k]] else []) := by
  unfold okD
  rw [List.take_succ_eq_append_getElem h, List.filter_append]
  congr 1
  by_cases hc : l[k].code = 0 <;> simp [hc]
end Go.Proofs.YtkfjafndplmdkaaGreat
