import Derived.Test.YtkfjafndplmdkaaGreatSA
namespace Go.Proofs.YtkfjafndplmdkaaGreat
/-! ### a table, and a transaction done again on it -/
abbrev Tbl : Type := List (ByteArray × ByteArray)
def setT (l : Tbl) (key val : ByteArray) (gone : Bool) : Tbl := l.filter (fun p => decide (p.1 ≠ key)) ++ (if gone then [] else [(key, val)])
def optV (p : ByteArray × Bool) : Option ByteArray := if p.2 then some p.1 else none
structure TblIs (l : Tbl) (V : View) : Prop where
  nd : (l.map Prod.fst).Nodup
  gt : ∀ k, getA k l = optV (V k)
theorem seesV_write (ws : List Ver) (V : View) (v : Ver) (k : ByteArray) : seesV (writeM ws v) V k = if k = v.key then (v.val, !v.gone) else seesV ws V k := by
  unfold seesV writeM
  rw [List.find?_append]
  by_cases h : k = v.key
  · subst h
    have e1 : (lessK ws v.key).find? (fun u => decide (u.key = v.key)) = none := by
      rw [List.find?_eq_none]
      intro u hu
      have := (List.mem_filter.1 hu).2
      simpa using this
    rw [e1]
    simp
  · rw [if_neg h]
    have e1 : (lessK ws v.key).find? (fun u => decide (u.key = k)) = ws.find? (fun u => decide (u.key = k)) := by
      unfold lessK
      rw [List.find?_filter]
      congr 1
      funext u
      by_cases hu : u.key = k
      · have : u.key ≠ v.key := fun e => h (by rw [← hu, e])
        simp [hu, h]
      · simp [hu]
    have e2 : [v].find? (fun u => decide (u.key = k)) = none := by simp [Ne.symm h]
    rw [e1, e2, Option.or_none]
theorem TblIs.set {l : Tbl} {ws : List Ver} {V : View} (h : TblIs l (seesV ws V)) (v : Ver) : TblIs (setT l v.key v.val v.gone) (seesV (writeM ws v) V) := by
  have hn : getA v.key (l.filter (fun p => decide (p.1 ≠ v.key))) = none := by rw [getA_filter, if_pos rfl]
  refine ⟨?_, fun k => ?_⟩
  · unfold setT
    rw [List.map_append]
    refine List.nodup_append.2 ⟨filter_nodup _ h.nd, by cases v.gone <;> simp, fun a ha b hb => ?_⟩
    cases hg : v.gone
    · rw [hg] at hb
      have e : b = v.key := by simpa using hb
      rintro rfl
      rw [e] at ha
      rw [getA_eq_none] at hn
      exact hn ha
    · rw [hg] at hb
      simp at hb
  · rw [seesV_write]
    unfold setT
    cases hg : v.gone
    · rw [if_neg (by simp), getA_snoc _ _ _ hn, getA_filter, h.gt]
      by_cases e : k = v.key
      · simp [e, optV]
      · simp [e]
    · rw [if_pos rfl, List.append_nil, getA_filter, h.gt]
      by_cases e : k = v.key
      · simp [e, optV]
      · simp [e]
/-- the keys of a table with a prefix. -/
def countT (l : Tbl) (pre : ByteArray) : Nat := (l.filter (fun p => pk pre p.1)).length
theorem getA_pk (pre k : ByteArray) : ∀ l : Tbl, getA k (l.filter (fun p => pk pre p.1)) = if pk pre k then getA k l else none
  | [] => by simp [getA]
  | (x, y) :: r => by
    rw [List.filter_cons]
    by_cases hx : pk pre x = true
    · rw [if_pos hx]
      simp only [getA]
      by_cases hk : x = k
      · subst hk; simp [hx]
      · rw [if_neg hk, if_neg hk]
        exact getA_pk pre k r
    · rw [if_neg hx, getA_pk pre k r]
      simp only [getA]
      by_cases hk : x = k
      · subst hk; simp [hx]
      · rw [if_neg hk]
theorem asc_nodup {K : List ByteArray} (h : Asc K) : K.Nodup := h.imp (fun {a b} hab e => by
  subst e
  exact List.lt_irrefl _ hab)
/-- a SCAN's items against a table. -/
theorem scan_table {l : Tbl} {ws : List Ver} {V : View} {e : Ent} (h : TblIs l (seesV ws V)) (h3 : e.1.kind = 3) (ho : okE V ws e) :
    Asc (e.2.items.map Prod.fst) ∧ (∀ p ∈ e.2.items, getA p.1 l = some p.2 ∧ pk e.1.key p.1 = true) ∧ countT l e.1.key = e.2.items.length := by
  obtain ⟨ha, hi⟩ := ho.2 h3
  refine ⟨ha, fun p hp => ?_, ?_⟩
  · obtain ⟨h1, h2⟩ := (hi p.1 p.2).1 hp
    refine ⟨?_, h1⟩
    rw [h.gt, h2]
    rfl
  · have nd2 := asc_nodup ha
    have pm : (l.filter (fun p => pk e.1.key p.1)).Perm e.2.items := by
      refine perm_of_getA (filter_nodup _ h.nd) nd2 (fun k => ?_)
      rw [getA_pk, h.gt]
      cases hk : getA k e.2.items with
      | some v =>
        obtain ⟨h1, h2⟩ := (hi k v).1 (getA_mem hk)
        rw [if_pos h1, h2]
        rfl
      | none =>
        by_cases hp : pk e.1.key k = true
        · rw [if_pos hp]
          cases hv : (seesV ws V k).2
          · simp [optV, hv]
          · have := getA_of_mem nd2 ((hi k (seesV ws V k).1).2 ⟨hp, Prod.ext rfl hv⟩)
            rw [hk] at this
            cases this
        · rw [if_neg hp]
    exact pm.length_eq
/-- what the table becomes. -/
def tblE (l : Tbl) (e : Ent) : Tbl := if e.1.kind = 4 then setT l e.1.key e.1.val false else if e.1.kind = 5 then setT l e.1.key ⟨#[]⟩ true else l
theorem TblIs.ent {l : Tbl} {ws : List Ver} {V : View} {e : Ent} (h : TblIs l (seesV ws V)) : TblIs (tblE l e) (seesV (wsE ws e) V) := by
  unfold tblE wsE
  split
  · exact h.set ⟨e.1.key, 0, e.1.val, false⟩
  · split
    · exact h.set ⟨e.1.key, 0, ⟨#[]⟩, true⟩
    · exact h
/-- THE TABLE AND THE REPLAY, ENTRY BY ENTryz. -/
theorem replay {V : View} : ∀ {r : List Ent} {ws : List Ver} {l : Tbl}, fitsFrom V ws r → TblIs l (seesV ws V) →
    TblIs (r.foldl tblE l) (seesV (r.foldl wsE ws) V)
  | [], _, _, _, h => h
  | e :: r, ws, l, hf, h => by
    have := replay (r := r) (ws := wsE ws e) (l := tblE l e) hf.2 (h.ent (e := e))
    exact this
theorem get_table {l : Tbl} {ws : List Ver} {V : View} {e : Ent} (h : TblIs l (seesV ws V)) (h2 : e.1.kind = 2) (ho : okE V ws e) : getA e.1.key l = (if e.2.found then some e.2.value else none) ∧ (e.2.found = false → e.2.value = ⟨#[]⟩) := by
  obtain ⟨h3, h4⟩ := ho.1 h2
  rw [h.gt, h3, h4]
  unfold optV getV
  cases (seesV ws V e.1.key).2 <;> simp
/-! ### from one time to the next -/
theorem times_split {H : List Ver} {τ : Int} (hs : H.Pairwise (fun a b => a.time ≤ b.time)) : H = H.filter (fun v => decide (v.time < τ)) ++ (H.filter (fun v => decide (v.time = τ)) ++ H.filter (fun v => decide (τ < v.time))) := by
  induction H with
  | nil => rfl
  | cons v r ih =>
    obtain ⟨h1, h2⟩ := List.pairwise_cons.1 hs
    have ih' := ih h2
    simp only [List.filter_cons]
    by_cases c1 : v.time < τ
    · rw [if_pos (by simpa using c1), if_neg (by simp; omega), if_neg (by simp; omega)]
      rw [List.cons_append, ← ih']
    · have e0 : r.filter (fun v => decide (v.time < τ)) = [] := by
        rw [List.filter_eq_nil_iff]
        intro x hx
        have := h1 x hx
        simp
        omega
      rw [e0] at ih'
      rw [if_neg (by simpa using c1), e0]
      by_cases c2 : v.time = τ
      · rw [if_pos (by simpa using c2), if_neg (by simp; omega)]
        simp only [List.nil_append, List.cons_append] at ih' ⊢
        rw [← ih']
      · have e1 : r.filter (fun v => decide (v.time = τ)) = [] := by
          rw [List.filter_eq_nil_iff]
          intro x hx
          have := h1 x hx
          simp
          omega
        rw [e1] at ih'
        rw [if_neg (by simpa using c2), if_pos (by simp; omega), e1]
        simp only [List.nil_append] at ih' ⊢
        rw [← ih']
def WsOk (ws : List Ver) : Prop := ws.Pairwise (fun a b => a.key ≠ b.key)
theorem WsOk.write {ws : List Ver} (h : WsOk ws) (v : Ver) : WsOk (writeM ws v) := by
  refine List.pairwise_append.2 ⟨h.filter _, by simp, fun a ha b hb => ?_⟩
  rw [List.mem_singleton.1 hb]
  simpa using (List.mem_filter.1 ha).2
theorem wsOk_of : ∀ (l : List Ent) {ws : List Ver}, WsOk ws → WsOk (l.foldl wsE ws)
  | [], _, h => h
  | e :: r, ws, h => by
    refine wsOk_of r ?_
    unfold wsE
    split
    · exact h.write _
    · split
      · exact h.write _
      · exact h
theorem find_rev {ws : List Ver} {k : ByteArray} (h : WsOk ws) : ws.reverse.find? (fun v => decide (v.key = k)) = ws.find? (fun v => decide (v.key = k)) := by
  induction ws with
  | nil => rfl
  | cons v r ih =>
    obtain ⟨h1, h2⟩ := List.pairwise_cons.1 h
    rw [List.reverse_cons, List.find?_append, ih h2, List.find?_cons]
    by_cases hk : v.key = k
    · have e : r.find? (fun v => decide (v.key = k)) = none := by
        rw [List.find?_eq_none]
        intro x hx
        have := h1 x hx
        simp
        intro e2
        exact this (by rw [hk, e2])
      rw [e]
      simp [hk]
    · simp [hk]
theorem view_next {H : List Ver} {τ : Int} {ws : List Ver} (hs : H.Pairwise (fun a b => a.time ≤ b.time)) (hw : WsOk ws) (hf : H.filter (fun v => decide (v.time = τ)) = stampM ws τ) (k : ByteArray) : viewM H τ k = seesV ws (viewM H (τ - 1)) k := by
  have e := times_split (τ := τ) hs
  rw [hf] at e
  generalize hX : H.filter (fun v => decide (v.time < τ)) = X at e
  generalize hZ : H.filter (fun v => decide (τ < v.time)) = Z at e
  have hz : ∀ v ∈ Z, τ < v.time := fun v hv => by rw [← hZ] at hv; simpa using (List.mem_filter.1 hv).2
  have hx : ∀ v ∈ X, v.time < τ := fun v hv => by rw [← hX] at hv; simpa using (List.mem_filter.1 hv).2
  have e1 : viewM H τ k = atM (X ++ stampM ws τ) k τ := by
    show atM H k τ = _
    rw [e, ← List.append_assoc]
    exact atM_same (fun v hv _ => hz v hv)
  have e2 : viewM H (τ - 1) k = atM X k (τ - 1) := by
    show atM H k (τ - 1) = _
    rw [e]
    refine atM_same (fun v hv _ => ?_)
    rcases List.mem_append.1 hv with hv | hv
    · obtain ⟨u, _, rfl⟩ := List.mem_map.1 hv
      show τ - 1 < τ
      omega
    · have := hz v hv
      omega
  rw [e1]
  unfold seesV
  rw [e2]
  have e3 : atM X k τ = atM X k (τ - 1) := atM_between (by omega) (fun v hv _ _ => by have := hx v hv; omega)
  have e4 : (stampM ws τ).reverse.find? (fun v => decide (v.key = k) && decide (v.time ≤ τ)) = (ws.find? (fun v => decide (v.key = k))).map (fun v => { v with time := τ }) := by
    rw [← find_rev hw]
    unfold stampM
    rw [← List.map_reverse, List.find?_map]
    congr 1
    congr 1
    funext v
    simp
  unfold atM
  rw [List.reverse_append, List.find?_append, e4]
  cases hh : ws.find? (fun v => decide (v.key = k)) with
  | some v => rfl
  | none => exact e3
end Go.Proofs.YtkfjafndplmdkaaGreat
