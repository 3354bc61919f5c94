import Derived.Test.YtechhojiifcpjaaPC
namespace Go.Proofs.Ytechhojiifcpjaa
open Go.RowKit Go.Sort
/-- what a transaction holds, and what the document's does. -/
structure RelT (T : Tx) (P : PT) : Prop where
  st : T.start = P.start
  ws : ∀ key, getA key T.ws = (P.ws.find? (fun v => decide (v.key = key))).map (fun v => (!v.gone, v.val))
  wl : T.ws.length = P.ws.length
  wn : (P.ws.map Ver.key).Nodup
  nd : (T.ws.map Prod.fst).Nodup
  ng : ∀ v ∈ P.ws, v.gone = true → v.val = ⟨#[]⟩
  ks : ∀ k, (getA k T.ks).isSome = true ↔ k ∈ P.ks
  ps : ∀ k, (getA k T.ps).isSome = true ↔ k ∈ P.ps
def SameL (R : Tx → PT → Prop) : List Tx → List PT → Prop
  | [], [] => True
  | T :: r, P :: q => R T P ∧ SameL R r q
  | _, _ => False
/-- a key's versions, of all. -/
def versM (k : ByteArray) (L : List Ver) : List (Int × (Bool × ByteArray)) := (L.filter (fun v => decide (v.key = k))).map (fun v => (v.time, (!v.gone, v.val)))
/-- a transaction, and whether it waits. -/
def RelQ (q : List Int) (T : Tx) (P : PT) : Prop := RelT T P ∧ T.queued = decide (P.start ∈ q)
structure Rel (st : PSt) (W : PW) : Prop where
  clock : st.clock = W.clock
  low : st.low = W.low
  txs : SameL (RelQ W.q) st.txs W.ts
  q : W.q = st.q.map Prod.fst
  rows : ∀ k, getA k st.rows = getA k W.rows
  rn : (W.rows.map Prod.fst).Nodup
  V : ∀ k, versOf k st.V = versM k W.L
  Lg : ∀ v ∈ W.L, v.gone = true → v.val = ⟨#[]⟩
  nd : (W.ts.map PT.start).Nodup
  le : ∀ P ∈ W.ts, P.start ≤ W.clock
  qn : W.q.Nodup
/-! ### lists -/
theorem SameL.len {R : Tx → PT → Prop} : ∀ {a : List Tx} {b : List PT}, SameL R a b → a.length = b.length
  | [], [], _ => rfl
  | _ :: _, _ :: _, h => by simp [h.2.len]
theorem SameL.imp {R R' : Tx → PT → Prop} : ∀ {a : List Tx} {b : List PT}, SameL R a b → (∀ T ∈ a, ∀ P ∈ b, R T P → R' T P) → SameL R' a b
  | [], [], _, _ => trivial
  | T :: r, P :: q, h, hi => ⟨hi T (by simp) P (by simp) h.1, h.2.imp (fun T hT P hP => hi T (by simp [hT]) P (by simp [hP]))⟩
theorem SameL.find {R : Tx → PT → Prop} (hR : ∀ T P, R T P → T.start = P.start) (n : Int) : ∀ {a : List Tx} {b : List PT}, SameL R a b →
    (getA n (numsOf a) = none ∧ b.findIdx? (fun P => P.start == n) = none ∧ b.find? (fun P => P.start == n) = none) ∨
    ∃ k T P, getA n (numsOf a) = some T.tb ∧ T ∈ a ∧ b.findIdx? (fun P => P.start == n) = some k ∧ b[k]? = some P ∧ b.find? (fun P => P.start == n) = some P ∧ R T P ∧ T.start = n ∧ P ∈ b
  | [], [], _ => Or.inl ⟨rfl, rfl, rfl⟩
  | T :: r, P :: q, h => by
    by_cases e : T.start = n
    · refine Or.inr ⟨0, T, P, by simp [numsOf, getA, e], by simp, ?_, rfl, ?_, h.1, e, by simp⟩
      · rw [List.findIdx?_cons]
        simp [← hR _ _ h.1, e]
      · rw [List.find?_cons]
        simp [← hR _ _ h.1, e]
    · have e' : (P.start == n) = false := by rw [← hR _ _ h.1]; simpa using e
      rcases h.2.find hR n with ⟨h1, h2, h2'⟩ | ⟨k, T', P', h1, h1', h2, h3, h3', h4, h5, h6⟩
      · refine Or.inl ⟨?_, ?_, ?_⟩
        · simp only [numsOf, List.map_cons, getA]; rw [if_neg e]; exact h1
        · rw [List.findIdx?_cons, e', h2]; rfl
        · rw [List.find?_cons, e', h2']
      · refine Or.inr ⟨k + 1, T', P', ?_, by simp [h1'], ?_, by simpa using h3, ?_, h4, h5, by simp [h6]⟩
        · simp only [numsOf, List.map_cons, getA]; rw [if_neg e]; exact h1
        · rw [List.findIdx?_cons, e', h2]; rfl
        · rw [List.find?_cons, e', h3']
theorem SameL.repl {R : Tx → PT → Prop} (hR : ∀ T P, R T P → T.start = P.start) {T' : Tx} {P' : PT} (hs : R T' P') : ∀ {a : List Tx} {b : List PT} {k : Nat}, SameL R a b → b.findIdx? (fun P => P.start == T'.start) = some k → SameL R (repl T' a) (b.set k P')
  | [], [], _, _, hk => by simp at hk
  | T :: r, Q :: q, k, h, hk => by
    rw [List.findIdx?_cons] at hk
    by_cases e : T.start = T'.start
    · have e' : (Q.start == T'.start) = true := by rw [← hR _ _ h.1]; simpa using e
      rw [e'] at hk
      have : k = 0 := by simpa using hk.symm
      subst this
      simp only [Go.Proofs.Ytechhojiifcpjaa.repl, e, if_true]
      exact ⟨hs, h.2⟩
    · have e' : (Q.start == T'.start) = false := by rw [← hR _ _ h.1]; simpa using e
      rw [e'] at hk
      cases hx : q.findIdx? (fun P => P.start == T'.start) with
      | none => rw [hx] at hk; simp at hk
      | some m =>
        rw [hx] at hk
        have : k = m + 1 := by simpa using hk.symm
        subst this
        simp only [Go.Proofs.Ytechhojiifcpjaa.repl, e, if_false]
        exact ⟨h.1, h.2.repl hR hs hx⟩
theorem SameL.all {R : Tx → PT → Prop} {n : Int} : ∀ {a : List Tx} {b : List PT}, SameL R a b → (∀ P ∈ b, P.start ≠ n) → SameL R a (b.filter (fun x => decide (x.start ≠ n)))
  | [], [], _, _ => trivial
  | T :: r, Q :: q, h, hn => by
    rw [List.filter_cons_of_pos (by simpa using hn Q (by simp))]
    exact ⟨h.1, h.2.all (fun P hP => hn P (by simp [hP]))⟩
theorem SameL.drop {R : Tx → PT → Prop} (hR : ∀ T P, R T P → T.start = P.start) {n : Int} : ∀ {a : List Tx} {b : List PT}, SameL R a b → (b.map PT.start).Nodup → SameL R (drp n a) (b.filter (fun x => decide (x.start ≠ n)))
  | [], [], _, _ => trivial
  | T :: r, Q :: q, h, hn => by
    obtain ⟨n1, n2⟩ := List.nodup_cons.1 (by simpa using hn : (Q.start :: q.map PT.start).Nodup)
    by_cases e : T.start = n
    · have e' : Q.start = n := by rw [← hR _ _ h.1]; exact e
      rw [List.filter_cons_of_neg (by simpa using e')]
      simp only [drp, e, if_true]
      exact h.2.all (fun P hP he => n1 (by rw [e', ← he]; exact List.mem_map.2 ⟨P, hP, rfl⟩))
    · have e' : Q.start ≠ n := by rw [← hR _ _ h.1]; exact e
      rw [List.filter_cons_of_pos (by simpa using e')]
      simp only [drp, e, if_false]
      exact ⟨h.1, h.2.drop hR n2⟩
theorem SameL.snoc {R : Tx → PT → Prop} {T : Tx} {P : PT} (hs : R T P) : ∀ {a : List Tx} {b : List PT}, SameL R a b → SameL R (a ++ [T]) (b ++ [P])
  | [], [], _ => ⟨hs, trivial⟩
  | _ :: _, _ :: _, h => ⟨h.1, h.2.snoc hs⟩
theorem RelQ.start {q : List Int} (T : Tx) (P : PT) (h : RelQ q T P) : T.start = P.start := h.1.st
/-! ### how many versions -/
theorem versM_nil {L : List Ver} (h : ∀ k, versM k L = []) : L = [] := by
  cases L with
  | nil => rfl
  | cons v r =>
    have := h v.key
    simp [versM] at this
theorem versM_filter (k x : ByteArray) (L : List Ver) : versM k (L.filter (fun v => decide (v.key ≠ x))) = if k = x then [] else versM k L := by
  unfold versM
  rw [List.filter_filter]
  by_cases e : k = x
  · subst e
    rw [if_pos rfl]
    have : L.filter (fun v => decide (v.key = k) && decide (v.key ≠ k)) = [] := by
      rw [List.filter_eq_nil_iff]
      intro v _
      by_cases h : v.key = k <;> simp [h]
    rw [this]
    rfl
  · rw [if_neg e]
    congr 1
    refine List.filter_congr fun v _ => ?_
    by_cases h : v.key = k
    · simp [h, e]
    · simp [h]
theorem filter_parts (k : ByteArray) : ∀ L : List Ver, (L.filter (fun v => decide (v.key = k))).length + (L.filter (fun v => decide (v.key ≠ k))).length = L.length
  | [] => rfl
  | v :: r => by
    have ih := filter_parts k r
    by_cases h : v.key = k
    · rw [List.filter_cons_of_pos (by simpa using h), List.filter_cons_of_neg (by simpa using h), List.length_cons, List.length_cons]; omega
    · rw [List.filter_cons_of_neg (by simpa using h), List.filter_cons_of_pos (by simpa using h), List.length_cons, List.length_cons]; omega
theorem sum_eq : ∀ {V : List (ByteArray × VEnt)} {L : List Ver}, (V.map Prod.fst).Nodup → (∀ k, versOf k V = versM k L) → sumV V = L.length
  | [], L, _, h => by
    have : L = [] := versM_nil (fun k => by rw [← h k]; rfl)
    rw [this]; rfl
  | p :: r, L, nd, h => by
    obtain ⟨n1, n2⟩ := List.nodup_cons.1 (by simpa using nd : (p.1 :: r.map Prod.fst).Nodup)
    have h1 : p.2.vs = versM p.1 L := by rw [← h p.1]; simp [versOf, getA]
    have h2 : ∀ k, versOf k r = versM k (L.filter (fun v => decide (v.key ≠ p.1))) := fun k => by
      rw [versM_filter]
      by_cases e : k = p.1
      · subst e
        rw [if_pos rfl]
        unfold versOf
        rw [getA_eq_none.2 n1]
      · rw [if_neg e, ← h k]
        unfold versOf
        simp [getA, Ne.symm e]
    rw [sumV_cons, sum_eq n2 h2, h1]
    unfold versM
    rw [List.length_map]
    exact filter_parts p.1 L
theorem Rel.sum {st : PSt} {W : PW} (h : Rel st W) (nd : (st.V.map Prod.fst).Nodup) : sumV st.V = W.L.length := sum_eq nd h.V
/-! ### what it sees -/
theorem find_filter (t : Int) (k : ByteArray) : ∀ l : List Ver, ((l.filter (fun v => decide (v.key = k))).map (fun v => (v.time, (!v.gone, v.val)))).find? (fun p => decide (p.1 ≤ t)) = (l.find? (fun v => decide (v.key = k) && decide (v.time ≤ t))).map (fun v => (v.time, (!v.gone, v.val)))
  | [] => rfl
  | v :: r => by
    have ih := find_filter t k r
    by_cases h : v.key = k
    · rw [List.filter_cons_of_pos (by simpa using h), List.map_cons, List.find?_cons, List.find?_cons]
      by_cases h2 : v.time ≤ t
      · simp [h, h2]
      · simp [h, h2, ih]
    · rw [List.filter_cons_of_neg (by simpa using h), List.find?_cons]
      simp [h, ih]
theorem atV_versM {L : List Ver} (hg : ∀ v ∈ L, v.gone = true → v.val = ⟨#[]⟩) (k : ByteArray) (t : Int) : (atV (versM k L) t).1 = (atM L k t).2 ∧ (atV (versM k L) t).2 = getV (atM L k t) ∧ ((atM L k t).2 = true → (atV (versM k L) t).2 = (atM L k t).1) := by
  unfold atV atM versM
  rw [← List.map_reverse, ← List.filter_reverse, find_filter]
  cases hf : L.reverse.find? (fun v => decide (v.key = k) && decide (v.time ≤ t)) with
  | none => simp [getV, noCell]
  | some v =>
    have hv := hg v (List.mem_reverse.1 (List.mem_of_find?_eq_some hf))
    cases hgo : v.gone with
    | false => simp [getV, hgo]
    | true => simp [getV, hgo, hv hgo]
theorem seen_sees {st : PSt} {W : PW} (h : Rel st W) {T : Tx} {P : PT} (hT : RelT T P) (k : ByteArray) : (seen T st.V k).1 = (seesM P.ws W.L P.start k).2 ∧ (seen T st.V k).2 = getV (seesM P.ws W.L P.start k) ∧ ((seesM P.ws W.L P.start k).2 = true → (seen T st.V k).2 = (seesM P.ws W.L P.start k).1) := by
  unfold seen seesM
  rw [hT.ws k]
  cases hf : P.ws.find? (fun v => decide (v.key = k)) with
  | none =>
    simp only [Option.map_none]
    rw [h.V k, hT.st]
    exact atV_versM h.Lg k P.start
  | some v =>
    have hg := hT.ng v (List.mem_of_find?_eq_some hf)
    cases hv : v.gone with
    | false => simp [getV, hv]
    | true => simp [getV, hv, hg hv]
theorem RelT.key_iff {T : Tx} {P : PT} (h : RelT T P) (k : ByteArray) : k ∈ T.ws.map Prod.fst ↔ ∃ v ∈ P.ws, v.key = k := by
  rw [← getA_isSome, h.ws k, Option.isSome_map, List.find?_isSome]
  simp
theorem Rel.key_iff {st : PSt} {W : PW} (h : Rel st W) (vn : ∀ p ∈ st.V, p.2.vs ≠ []) (nd : (st.V.map Prod.fst).Nodup) (k : ByteArray) : k ∈ st.V.map Prod.fst ↔ ∃ v ∈ W.L, v.key = k := by
  constructor
  · intro hk
    obtain ⟨p, hp, rfl⟩ := List.mem_map.1 hk
    have h1 : versOf p.1 st.V = p.2.vs := by unfold versOf; rw [getA_of_mem nd (show (p.1, p.2) ∈ st.V from hp)]
    have h2 : versM p.1 W.L ≠ [] := by rw [← h.V p.1, h1]; exact vn p hp
    refine Classical.byContradiction fun hn => h2 ?_
    unfold versM
    rw [List.map_eq_nil_iff, List.filter_eq_nil_iff]
    intro v hv
    have : v.key ≠ p.1 := fun e => hn ⟨v, hv, e⟩
    simpa using this
  · rintro ⟨v, hv, rfl⟩
    have h2 : versM v.key W.L ≠ [] := by
      unfold versM
      intro e
      rw [List.map_eq_nil_iff, List.filter_eq_nil_iff] at e
      exact e v hv (by simp)
    rw [← h.V v.key] at h2
    rw [← getA_isSome]
    unfold versOf at h2
    cases hg : getA v.key st.V with
    | none => rw [hg] at h2; exact absurd rfl h2
    | some e => rfl
theorem items_eq {st : PSt} {W : PW} (h : Rel st W) {T : Tx} {P : PT} (hT : RelT T P) (vn : ∀ p ∈ st.V, p.2.vs ≠ []) (nd : (st.V.map Prod.fst).Nodup) (pre : ByteArray) :
    itemsOf T st.V (knownK pre st.V T.ws) = itemsR P.ws W.L P.start (keysC (W.L ++ P.ws) pre) := by
  have hk : KeysOf (W.L ++ P.ws) pre ((knownK pre st.V T.ws).map (fun k => (⟨k.toArray⟩ : ByteArray))) := by
    obtain ⟨h1, h2⟩ := known_asc pre st.V T.ws
    constructor
    · unfold Asc
      rw [List.pairwise_map]
      exact h1
    · intro x
      have hm : x ∈ (knownK pre st.V T.ws).map (fun k => (⟨k.toArray⟩ : ByteArray)) ↔ x.data.toList ∈ knownK pre st.V T.ws := by
        constructor
        · intro hx
          obtain ⟨k, hk, rfl⟩ := List.mem_map.1 hx
          simpa using hk
        · intro hx
          exact List.mem_map.2 ⟨_, hx, by simp⟩
      have hc : ∀ {β : Type} (l : List (ByteArray × β)), x.data.toList ∈ coll pre l ↔ x ∈ l.map Prod.fst ∧ pk pre x = true := fun l => by
        unfold coll
        rw [List.mem_map]
        constructor
        · rintro ⟨b, hb, e⟩
          have : b = x := toList_inj e
          subst this
          exact List.mem_filter.1 hb
        · rintro ⟨h1, h2⟩
          exact ⟨x, List.mem_filter.2 ⟨h1, h2⟩, rfl⟩
      rw [hm, h2, hc, hc, h.key_iff vn nd x, hT.key_iff x]
      constructor
      · rintro (⟨⟨v, hv, e⟩, hp⟩ | ⟨⟨v, hv, e⟩, hp⟩)
        · exact ⟨v, List.mem_append.2 (Or.inl hv), e, hp⟩
        · exact ⟨v, List.mem_append.2 (Or.inr hv), e, hp⟩
      · rintro ⟨v, hv, e, hp⟩
        rcases List.mem_append.1 hv with hv | hv
        · exact Or.inl ⟨⟨v, hv, e⟩, hp⟩
        · exact Or.inr ⟨⟨v, hv, e⟩, hp⟩
  rw [keysC_eq hk]
  unfold itemsOf itemsR
  rw [List.filterMap_map]
  congr 1
  funext k
  obtain ⟨h1, _, h3⟩ := seen_sees h hT ⟨k.toArray⟩
  simp only [Function.comp, itemOf, itemR]
  rw [h1]
  by_cases hb : (seesM P.ws W.L P.start ⟨k.toArray⟩).2 = true
  · rw [if_pos hb, if_pos hb, h3 hb]
  · rw [if_neg hb, if_neg hb]
/-! ### what refuses -/
theorem extract_pk (p k : ByteArray) : pk p k = true ↔ p.size ≤ k.size ∧ k.extract 0 p.size = p := by
  have e := (Lib.hasPrefix_raw k p).symm
  have e1 : pk p k = (decide (p.size ≤ k.size) && ((k.extract 0 p.size).toList == p.toList)) := e
  rw [e1, Bool.and_eq_true, decide_eq_true_eq, beq_iff_eq, ByteArray.toList_eq, ByteArray.toList_eq]
  exact ⟨fun h => ⟨h.1, toList_inj h.2⟩, fun h => ⟨h.1, by rw [h.2]⟩⟩
theorem hit_eq {T : Tx} {P : PT} (h : RelT T P) (k : ByteArray) : hitT T k = hitM P k := by
  rw [Bool.eq_iff_iff]
  unfold hitT hitM
  rw [Bool.or_eq_true, Bool.or_eq_true, List.any_eq_true, List.any_eq_true, List.any_eq_true, h.ks k]
  constructor
  · rintro (h1 | ⟨e, he, h1⟩)
    · exact Or.inl ⟨k, h1, by simp⟩
    · refine Or.inr ⟨_, (h.ps _).1 h1, ?_⟩
      rw [extract_pk, ByteArray.size_extract]
      have := List.mem_range.1 he
      refine ⟨by omega, ?_⟩
      congr 1
      omega
  · rintro (⟨x, hx, e⟩ | ⟨p, hp, h1⟩)
    · have : x = k := by simpa using e
      subst this
      exact Or.inl hx
    · obtain ⟨h2, h3⟩ := (extract_pk p k).1 h1
      exact Or.inr ⟨p.size, List.mem_range.2 (by omega), by rw [h3]; exact (h.ps p).2 hp⟩
theorem RelT.none_iff {T : Tx} {P : PT} (h : RelT T P) : (0 < T.ks.length + T.ps.length) ↔ (0 < P.ks.length + P.ps.length) := by
  have aux : ∀ (l : List (ByteArray × Unit)) (m : List ByteArray), (∀ k, (getA k l).isSome = true ↔ k ∈ m) → (l.length = 0 ↔ m.length = 0) := fun l m hh => by
    constructor
    · intro e
      cases m with
      | nil => rfl
      | cons x r =>
        have := (hh x).2 (by simp)
        rw [List.eq_nil_of_length_eq_zero e] at this
        simp [getA] at this
    · intro e
      cases l with
      | nil => rfl
      | cons x r =>
        have := (hh x.1).1 (by simp [getA])
        rw [List.eq_nil_of_length_eq_zero e] at this
        simp at this
  have a1 := aux T.ks P.ks h.ks
  have a2 := aux T.ps P.ps h.ps
  omega
theorem ref_eq {st : PSt} {W : PW} (h : Rel st W) {T : Tx} {P : PT} (hT : RelT T P) (nd : (st.V.map Prod.fst).Nodup) (rd : (st.rows.map Prod.fst).Nodup) : refT T st.rows st.low st.V = refusedM W P := by
  have e1 : conflT st.rows T = conflM W.rows P := by
    rw [conflT_perm (perm_of_getA rd h.rn h.rows) T]
    unfold conflT conflM
    congr 1
    funext r
    rw [hT.st, hit_eq hT]
  unfold refT refusedM
  rw [e1, hT.st, h.low, h.sum nd, hT.wl]
  have cc : (0 < T.ks.length + T.ps.length ∧ P.start < W.low) ↔ (0 < P.ks.length + P.ps.length ∧ P.start < W.low) := ⟨fun c => ⟨hT.none_iff.1 c.1, c.2⟩, fun c => ⟨hT.none_iff.2 c.1, c.2⟩⟩
  simp only [cc]
end Go.Proofs.Ytechhojiifcpjaa
