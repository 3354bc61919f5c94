import Derived.Test.YtechhojiifcpjaaPG
namespace Go.Proofs.Ytechhojiifcpjaa
open Go.RowKit Go.Sort
theorem Inv.plays {w : World} {st : PSt} {n : Nat} (h : Inv w st n) : Plays w st.p st.om (numsOf st.txs) := ⟨cell_of h.pl rfl, h.om⟩
theorem named_cases {w : World} {st : PSt} {n : Nat} {W : PW} {t : Int} (h : Inv w st n) (hr : Rel st W) (ht : isInt t) :
    (W.ts.findIdx? (fun T => T.start == t) = none ∧ Named w st.p st.om (numsOf st.txs) t 2) ∨
    ∃ k T P, W.ts.findIdx? (fun T => T.start == t) = some k ∧ W.ts[k]? = some P ∧ T ∈ st.txs ∧ T.start = t ∧ RelQ W.q T P ∧ getA t (numsOf st.txs) = some T.tb ∧ ((t ∈ W.q ∧ Named w st.p st.om (numsOf st.txs) t 3) ∨ (t ∉ W.q ∧ T.queued = false)) := by
  rcases hr.txs.find RelQ.start t with ⟨e1, e2, _⟩ | ⟨k, T, P, e1, e2, e3, e4, _, e6, e7, _⟩
  · exact Or.inl ⟨e2, h.plays, ht, Or.inl ⟨rfl, e1⟩⟩
  · refine Or.inr ⟨k, T, P, e3, e4, e2, e7, e6, e1, ?_⟩
    have hPt : P.start = t := e6.1.st ▸ e7
    by_cases hq : t ∈ W.q
    · refine Or.inl ⟨hq, h.plays, ht, Or.inr ⟨rfl, T.tb, e1, ?_⟩⟩
      have := (h.txs T e2).cells.1
      rw [e6.2, hPt, decide_eq_true hq] at this
      exact this
    · exact Or.inr ⟨hq, by rw [e6.2, hPt, decide_eq_false hq]⟩
theorem stepR_of {W : PW} {o : OpM} (h2 : 2 ≤ o.kind) (h7 : o.kind ≤ 7) : stepR W o = (match W.ts.findIdx? (fun T => T.start == o.t) with | none => (errA 2, W) | some k => if o.t ∈ W.q then (errA 3, W) else match W.ts[k]? with | some T => ofM W k T o | none => (errA 2, W)) := by
  unfold stepR
  rw [if_neg (by omega), if_pos ⟨h2, h7⟩]
  rfl
/-- the steps that name a transaction. -/
theorem of_step {st : PSt} {n : Nat} {w : World} {o : OpM} {W : PW} {f : Nat} (h : Inv w st n) (hr : Rel st W) (ho : o.ok) (h2 : 2 ≤ o.kind) (h7 : o.kind ≤ 7)
    (hno : ∀ c, Named w st.p st.om (numsOf st.txs) o.t c → Calls Try.prog f #[.pointer (some ⟨st.p, 0, none⟩), o.v] w fun e w' => e = errE c ∧ Chg nobody w w')
    (hyes : ∀ k T P, W.ts.findIdx? (fun T => T.start == o.t) = some k → W.ts[k]? = some P → T ∈ st.txs → T.start = o.t → RelQ W.q T P → getA o.t (numsOf st.txs) = some T.tb → o.t ∉ W.q → T.queued = false → Calls Try.prog f #[.pointer (some ⟨st.p, 0, none⟩), o.v] w (StepPost st n w (ofM W k P o))) :
    Calls Try.prog f #[.pointer (some ⟨st.p, 0, none⟩), o.v] w (StepPost st n w (stepR W o)) := by
  rw [stepR_of h2 h7]
  rcases named_cases h hr ho.t with ⟨e1, hN⟩ | ⟨k, T, P, e1, e2, e3, e4, e5, e6, ⟨hq, hN⟩ | ⟨hq, hqd⟩⟩
  · rw [e1]
    refine (hno 2 hN).mono ?_
    rintro e w' ⟨rfl, hc⟩
    exact err_post h hr hc (by decide)
  · simp only [e1, if_pos hq]
    refine (hno 3 hN).mono ?_
    rintro e w' ⟨rfl, hc⟩
    exact err_post h hr hc (by decide)
  · simp only [e1, if_neg hq, e2]
    exact hyes k T P e1 e2 e3 e4 e5 e6 hq hqd
theorem Rel.upd {st : PSt} {W : PW} {T T' : Tx} {P P' : PT} {k : Nat} (h : Rel st W) (hk : W.ts.findIdx? (fun X => X.start == T.start) = some k) (hP : W.ts[k]? = some P) (hrq : RelQ W.q T P) (hs : T'.start = T.start) (hq : T'.queued = T.queued) (hr' : RelT T' P') : Rel { st with txs := repl T' st.txs } { W with ts := W.ts.set k P' } := by
  have hPs : P'.start = P.start := by rw [← hr'.st, hs, hrq.1.st]
  have hst : (W.ts.set k P').map PT.start = W.ts.map PT.start := by
    rw [List.map_set]
    refine List.ext_getElem? fun i => ?_
    rw [List.getElem?_set]
    by_cases hi : k = i
    · subst hi
      have hl : k < W.ts.length := (List.getElem?_eq_some_iff.1 hP).1
      simp only [if_true, List.length_map, hl, List.getElem?_map, hP, Option.map_some, hPs]
    · simp [hi]
  refine ⟨h.clock, h.low, h.txs.repl RelQ.start (T' := T') (P' := P') ⟨hr', by rw [hq, hrq.2, hPs]⟩ (by rw [hs]; exact hk), h.q, h.rows, h.rn, h.V, h.Lg, by show ((W.ts.set k P').map PT.start).Nodup; rw [hst]; exact h.nd, fun Q hQ => ?_, h.qn⟩
  have hm : Q.start ∈ W.ts.map PT.start := by rw [← hst]; exact List.mem_map.2 ⟨Q, hQ, rfl⟩
  obtain ⟨X, hX, e⟩ := List.mem_map.1 hm
  rw [← e]
  exact h.le X hX
theorem Inv.own {w : World} {st : PSt} {n : Nat} (h : Inv w st n) {T : Tx} (hT : T ∈ st.txs) : (T.tb ≠ T.wb ∧ T.tb ≠ T.kb ∧ T.tb ≠ T.pb ∧ T.wb ≠ T.kb ∧ T.wb ≠ T.pb ∧ T.kb ≠ T.pb) ∧ (T.kb ≠ st.sb ∧ T.kb ≠ st.vm ∧ T.kb ∉ vBlocks st.V ∧ T.pb ≠ st.sb ∧ T.pb ≠ st.vm ∧ T.pb ∉ vBlocks st.V ∧ st.ch ≠ T.wb ∧ st.ch ≠ T.kb ∧ st.ch ≠ T.pb) := by
  obtain ⟨_, _, hL, _, hN, _⟩ := h.lie
  have h1 := hN T hT
  simp only [Tx.blocks, List.nodup_cons, List.mem_cons, List.not_mem_nil, or_false, not_or, List.nodup_nil, and_true, not_false_eq_true] at h1
  obtain ⟨k1, k2⟩ := hL T hT T.kb (by simp [Tx.blocks])
  obtain ⟨p1, p2⟩ := hL T hT T.pb (by simp [Tx.blocks])
  obtain ⟨w1, w2⟩ := hL T hT T.wb (by simp [Tx.blocks])
  refine ⟨⟨h1.1.1, h1.1.2.1, h1.1.2.2, h1.2.1.1, h1.2.1.2, h1.2.2⟩, fun e => k1 (by simp [PSt.fix, e]), fun e => k1 (by simp [PSt.fix, e]), k2, fun e => p1 (by simp [PSt.fix, e]), fun e => p1 (by simp [PSt.fix, e]), p2, fun e => w1 (by simp [PSt.fix, e]), fun e => k1 (by simp [PSt.fix, e]), fun e => p1 (by simp [PSt.fix, e])⟩
theorem set_iff {l : List (ByteArray × Unit)} {m : List ByteArray} (h : ∀ k, (getA k l).isSome = true ↔ k ∈ m) (x : ByteArray) : ∀ k, (getA k (putA x () l)).isSome = true ↔ k ∈ m ++ [x] := fun k => by
  rw [getA_put]
  by_cases e : k = x
  · simp [e]
  · rw [if_neg e, h k]
    simp [e]
theorem lessK_nodup {l : List Ver} (k : ByteArray) (h : (l.map Ver.key).Nodup) : ((lessK l k).map Ver.key).Nodup := (List.filter_sublist.map _).nodup h
theorem putA_length {α β : Type} [DecidableEq α] (a : α) (b : β) : ∀ l : List (α × β), (putA a b l).length = if (getA a l).isSome then l.length else l.length + 1
  | [] => by simp [putA, getA]
  | p :: r => by
    by_cases h : p.1 = a
    · simp [putA, getA, h]
    · have ih := putA_length a b r
      simp only [putA, getA, h, if_false, List.length_cons, ih]
      split <;> simp
theorem lessK_length {l : List Ver} (k : ByteArray) : (l.map Ver.key).Nodup → (lessK l k).length + (if (l.find? (fun v => decide (v.key = k))).isSome then 1 else 0) = l.length := by
  induction l with
  | nil => intro _; simp [lessK]
  | cons v r ih =>
    intro nd
    obtain ⟨n1, n2⟩ := List.nodup_cons.1 (by simpa using nd : (v.key :: r.map Ver.key).Nodup)
    have ih' := ih n2
    unfold lessK at *
    by_cases h : v.key = k
    · rw [List.filter_cons_of_neg (by simpa using h), List.find?_cons]
      have hn : r.find? (fun v => decide (v.key = k)) = none := by
        rw [List.find?_eq_none]
        intro x hx e
        exact n1 (by rw [h]; exact List.mem_map.2 ⟨x, hx, by simpa using e⟩)
      rw [hn] at ih'
      simp [h] at ih' ⊢
      exact ih'
    · rw [List.filter_cons_of_pos (by simpa using h), List.find?_cons]
      simp only [h, decide_false, List.length_cons] at ih' ⊢
      omega
theorem RelT.put {T : Tx} {P : PT} (h : RelT T P) (key val : ByteArray) (gone : Bool) (hg : gone = true → val = ⟨#[]⟩) : RelT { T with ws := putA key (!gone, val) T.ws } { P with ws := writeM P.ws ⟨key, 0, val, gone⟩ } := by
  refine ⟨h.st, fun k => ?_, ?_, ?_, putA_nodup _ _ _ h.nd, fun v hv => ?_, h.ks, h.ps⟩
  · simp only
    rw [getA_put]
    simp only [writeM, List.find?_append]
    by_cases e : k = key
    · subst e
      have : (lessK P.ws k).find? (fun v => decide (v.key = k)) = none := by
        rw [List.find?_eq_none]
        intro v hv
        have := (List.mem_filter.1 hv).2
        simpa using this
      simp [this]
    · have e2 : (lessK P.ws key).find? (fun v => decide (v.key = k)) = P.ws.find? (fun v => decide (v.key = k)) := by
        unfold lessK
        rw [List.find?_filter]
        congr 1
        funext v
        by_cases hv : v.key = k
        · simp [hv, e]
        · simp [hv]
      rw [if_neg e, e2, h.ws k]
      have : ¬ key = k := fun h => e h.symm
      simp [this]
  · simp only [writeM]
    rw [putA_length, h.ws key, Option.isSome_map, List.length_append]
    have h1 := lessK_length key h.wn
    have h2 := h.wl
    cases hx : (P.ws.find? (fun v => decide (v.key = key))).isSome
    · rw [hx] at h1; simp at h1 ⊢; omega
    · rw [hx] at h1; simp at h1 ⊢; omega
  · simp only [writeM]
    rw [List.map_append, List.nodup_append]
    refine ⟨lessK_nodup key h.wn, by simp, fun a ha b hb => ?_⟩
    obtain ⟨v, hv, rfl⟩ := List.mem_map.1 ha
    have e1 : b = key := by simpa using hb
    have := (List.mem_filter.1 hv).2
    rw [e1]
    simpa using this
  · rcases List.mem_append.1 hv with hv | hv
    · exact h.ng v (List.mem_filter.1 hv).1
    · have : v = ⟨key, 0, val, gone⟩ := by simpa using hv
      subst this
      exact hg
end Go.Proofs.Ytechhojiifcpjaa
