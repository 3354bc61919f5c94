import Derived.Test.YtcpjocgpahjcjaaRX
namespace Go.Proofs.Ytcpjocgpahjcjaa
open Go.RowKit Go.Sort
/-- the write sets say the same. -/
structure Same (T : MTx) (P : PT) : Prop where
  st : T.start = P.start
  ws : ∀ key, getA key T.ws = (P.ws.find? (fun v => decide (v.key = key))).map (fun v => (!v.gone, v.val))
  nd : (T.ws.map Prod.fst).Nodup
  ng : ∀ v ∈ P.ws, v.gone = true → v.val = ⟨#[]⟩
def SameL : List MTx → List PT → Prop
  | [], [] => True
  | T :: r, P :: q => Same T P ∧ SameL r q
  | _, _ => False
theorem SameL.len : ∀ {a : List MTx} {b : List PT}, SameL a b → a.length = b.length
  | [], [], _ => rfl
  | _ :: _, _ :: _, h => by simp [h.2.len]
theorem SameL.find (n : Int) : ∀ {a : List MTx} {b : List PT}, SameL a b → (findM n a = none ∧ b.findIdx? (fun P => P.start == n) = none) ∨ ∃ k T P, findM n a = some T ∧ b.findIdx? (fun P => P.start == n) = some k ∧ b[k]? = some P ∧ Same T P ∧ T.start = n
  | [], [], _ => Or.inl ⟨rfl, rfl⟩
  | T :: r, P :: q, h => by
    by_cases e : T.start = n
    · refine Or.inr ⟨0, T, P, by simp [findM, e], ?_, rfl, h.1, e⟩
      rw [List.findIdx?_cons]
      simp [← h.1.st, e]
    · have e' : (P.start == n) = false := by rw [← h.1.st]; simpa using e
      rcases h.2.find n with ⟨h1, h2⟩ | ⟨k, T', P', h1, h2, h3, h4, h5⟩
      · refine Or.inl ⟨by simp [findM, e, h1], ?_⟩
        rw [List.findIdx?_cons, e', h2]
        rfl
      · refine Or.inr ⟨k + 1, T', P', by simp [findM, e, h1], ?_, by simpa using h3, h4, h5⟩
        rw [List.findIdx?_cons, e', h2]
        rfl
theorem SameL.set {P P' : PT} (hs : ∀ T, Same T P → Same T P') : ∀ {a : List MTx} {b : List PT} {k : Nat}, SameL a b → b[k]? = some P → SameL a (b.set k P')
  | [], [], _, _, hk => by simp at hk
  | T :: r, Q :: q, 0, h, hk => by
    have : Q = P := by simpa using hk
    subst this
    exact ⟨hs T h.1, h.2⟩
  | T :: r, Q :: q, k + 1, h, hk => ⟨h.1, h.2.set hs (by simpa using hk)⟩
theorem SameL.repl {n : Int} {ws' : List (ByteArray × (Bool × ByteArray))} {P' : PT} (hs : Same ⟨n, ws'⟩ P') : ∀ {a : List MTx} {b : List PT} {k : Nat}, SameL a b → b.findIdx? (fun P => P.start == n) = some k → SameL (replM n ws' a) (b.set k P')
  | [], [], _, _, hk => by simp at hk
  | T :: r, Q :: q, k, h, hk => by
    rw [List.findIdx?_cons] at hk
    by_cases e : T.start = n
    · have e' : (Q.start == n) = true := by rw [← h.1.st]; simpa using e
      rw [e'] at hk
      have : k = 0 := by simpa using hk.symm
      subst this
      simp only [replM, e, if_true]
      exact ⟨hs, h.2⟩
    · have e' : (Q.start == n) = false := by rw [← h.1.st]; simpa using e
      rw [e'] at hk
      cases hx : q.findIdx? (fun P => P.start == n) with
      | none => rw [hx] at hk; simp at hk
      | some m =>
        rw [hx] at hk
        have : k = m + 1 := by simpa using hk.symm
        subst this
        simp only [replM, e, if_false]
        exact ⟨h.1, h.2.repl hs hx⟩
theorem SameL.all {n : Int} : ∀ {a : List MTx} {b : List PT}, SameL a b → (∀ P ∈ b, P.start ≠ n) → SameL a (b.filter (fun x => decide (x.start ≠ n)))
  | [], [], _, _ => trivial
  | T :: r, Q :: q, h, hn => by
    rw [List.filter_cons_of_pos (by simpa using hn Q (by simp))]
    exact ⟨h.1, h.2.all (fun P hP => hn P (by simp [hP]))⟩
theorem SameL.drop {n : Int} : ∀ {a : List MTx} {b : List PT}, SameL a b → (b.map PT.start).Nodup → SameL (dropM n a) (b.filter (fun x => decide (x.start ≠ n)))
  | [], [], _, _ => trivial
  | T :: r, Q :: q, h, hn => by
    obtain ⟨n1, n2⟩ := List.nodup_cons.1 (by simpa using hn : (Q.start :: q.map PT.start).Nodup)
    by_cases e : T.start = n
    · have e' : Q.start = n := by rw [← h.1.st]; exact e
      rw [List.filter_cons_of_neg (by simpa using e')]
      simp only [dropM, e, if_true]
      exact h.2.all (fun P hP he => n1 (by rw [e', ← he]; exact List.mem_map.2 ⟨P, hP, rfl⟩))
    · have e' : Q.start ≠ n := by rw [← h.1.st]; exact e
      rw [List.filter_cons_of_pos (by simpa using e')]
      simp only [dropM, e, if_false]
      exact ⟨h.1, h.2.drop n2⟩
theorem SameL.snoc {T : MTx} {P : PT} (hs : Same T P) : ∀ {a : List MTx} {b : List PT}, SameL a b → SameL (a ++ [T]) (b ++ [P])
  | [], [], _ => ⟨hs, trivial⟩
  | _ :: _, _ :: _, h => ⟨h.1, h.2.snoc hs⟩
theorem getA_put (a : ByteArray) (c : Bool × ByteArray) (k : ByteArray) : ∀ l : List (ByteArray × (Bool × ByteArray)), getA k (putA a c l) = if k = a then some c else getA k l
  | [] => by
    by_cases h : k = a
    · subst h; simp [putA, getA]
    · simp [putA, getA, h, Ne.symm h]
  | (x, y) :: r => by
    by_cases hx : x = a
    · subst hx
      by_cases h : k = x
      · subst h; simp [putA, getA]
      · simp [putA, getA, h, Ne.symm h]
    · have ih := getA_put a c k r
      by_cases h : x = k
      · subst h; simp [putA, getA, hx]
      · simp [putA, getA, hx, h, ih]
theorem Same.put {T : MTx} {P : PT} (h : Same T P) (key val : ByteArray) (gone : Bool) (hg : gone = true → val = ⟨#[]⟩) : Same ⟨T.start, putA key (!gone, val) T.ws⟩ { P with ws := writeM P.ws ⟨key, 0, val, gone⟩ } := by
  refine ⟨h.st, fun k => ?_, putA_nodup _ _ _ h.nd, fun v hv => ?_⟩
  · rw [getA_put]
    simp only [writeM, List.find?_append]
    by_cases e : k = key
    · subst e
      have : (lessK P.ws k).find? (fun v => decide (v.key = k)) = none := by
        rw [List.find?_eq_none]
        intro v hv
        have := (List.mem_filter.1 hv).2
        simpa using this
      simp [this]
    · have e2 : (lessK P.ws key).find? (fun v => decide (v.key = k)) = P.ws.find? (fun v => decide (v.key = k)) := by
        unfold lessK
        rw [List.find?_filter]
        congr 1
        funext v
        by_cases hv : v.key = k
        · have : v.key ≠ key := fun h => e (hv ▸ h)
          simp [hv, e]
        · simp [hv]
      rw [if_neg e, e2, h.ws k]
      have : ¬ key = k := fun h => e h.symm
      simp [this]
  · rcases List.mem_append.1 hv with hv | hv
    · exact h.ng v (List.mem_filter.1 hv).1
    · have : v = ⟨key, 0, val, gone⟩ := by simpa using hv
      subst this
      exact hg
theorem getA_some_iff (k : ByteArray) : ∀ l : List (ByteArray × (Bool × ByteArray)), (getA k l).isSome = true ↔ k ∈ l.map Prod.fst
  | [] => by simp [getA]
  | (x, y) :: r => by
    by_cases h : x = k
    · subst h; simp [getA]
    · have ih := getA_some_iff k r
      simp only [getA, h, if_false, List.map_cons, List.mem_cons, ih]
      exact ⟨Or.inr, fun h' => h'.resolve_left (fun e => h e.symm)⟩
theorem Same.key_iff {T : MTx} {P : PT} (h : Same T P) (k : ByteArray) : k ∈ T.ws.map Prod.fst ↔ ∃ v ∈ P.ws, v.key = k := by
  rw [← getA_some_iff, h.ws k, Option.isSome_map, List.find?_isSome]
  simp
theorem Same.seen {T : MTx} {P : PT} (h : Same T P) (k : ByteArray) (t : Int) : (seenM T.ws k).1 = (seesM P.ws [] t k).2 ∧ (seenM T.ws k).2 = getV (seesM P.ws [] t k) ∧ ((seesM P.ws [] t k).2 = true → (seenM T.ws k).2 = (seesM P.ws [] t k).1) := by
  have hat : atM [] k t = (⟨#[]⟩, false) := rfl
  unfold seenM seesM
  rw [h.ws k]
  cases hf : P.ws.find? (fun v => decide (v.key = k)) with
  | none => simp [hat, getV, noCell]
  | some v =>
    have hg := h.ng v (List.mem_of_find?_eq_some hf)
    cases hv : v.gone with
    | false => simp [getV, hv]
    | true => simp [getV, hv, hg hv]
theorem Same.keys {T : MTx} {P : PT} (h : Same T P) (pre : ByteArray) : KeysOf ([] ++ P.ws) pre ((sortedKeys pre T.ws).map (fun k => ⟨k.toArray⟩)) := by
  have hperm : (sortedKeys pre T.ws).Perm (coll pre T.ws) := List.mergeSort_perm _ _
  have hnd : (sortedKeys pre T.ws).Nodup := hperm.nodup_iff.2 (coll_nodup pre T.ws h.nd)
  constructor
  · unfold Asc
    rw [List.pairwise_map]
    have hs : (sortedKeys pre T.ws).Pairwise (fun x y => x ≤ y) := by
      have := List.pairwise_mergeSort (le := fun (x y : List UInt8) => decide (x ≤ y)) (fun a b c h1 h2 => by simp at h1 h2 ⊢; exact List.le_trans h1 h2) (fun a b => by simp; exact List.le_total a b) (coll pre T.ws)
      exact this.imp (fun h => by simpa using h)
    refine (hs.and hnd).imp ?_
    rintro a b ⟨h1, h2⟩
    show a < b
    refine Classical.byContradiction fun h3 => h2 (List.le_antisymm h1 (List.not_lt.1 h3))
  · intro x
    rw [List.nil_append]
    constructor
    · intro hx
      obtain ⟨k, hk, rfl⟩ := List.mem_map.1 hx
      have hk2 := hperm.mem_iff.1 hk
      unfold coll at hk2
      obtain ⟨b, hb, rfl⟩ := List.mem_map.1 hk2
      obtain ⟨hb1, hb2⟩ := List.mem_filter.1 hb
      obtain ⟨v, hv, e⟩ := (h.key_iff b).1 hb1
      exact ⟨v, hv, e, hb2⟩
    · rintro ⟨v, hv, e, hp⟩
      refine List.mem_map.2 ⟨x.data.toList, hperm.mem_iff.2 ?_, rfl⟩
      unfold coll
      exact List.mem_map.2 ⟨x, List.mem_filter.2 ⟨(h.key_iff x).2 ⟨v, hv, e⟩, hp⟩, rfl⟩
theorem Same.items {T : MTx} {P : PT} (h : Same T P) (pre : ByteArray) (t : Int) : itemsM T.ws pre = itemsR P.ws [] t (keysC ([] ++ P.ws) pre) := by
  rw [keysC_eq (h.keys pre)]
  unfold itemsM itemsR
  rw [List.filterMap_map]
  congr 1
  funext k
  obtain ⟨h1, _, h3⟩ := h.seen ⟨k.toArray⟩ t
  simp only [Function.comp, itemM, itemR]
  rw [h1]
  by_cases hb : (seesM P.ws [] t ⟨k.toArray⟩).2 = true
  · rw [if_pos hb, if_pos hb, h3 hb]
  · rw [if_neg hb, if_neg hb]
structure Rel (s : MSt) (W : PW) : Prop where
  clock : s.clock = W.clock
  L : W.L = []
  q : W.q = []
  txs : SameL s.txs W.ts
  nd : (W.ts.map PT.start).Nodup
  le : ∀ P ∈ W.ts, P.start ≤ W.clock
theorem Rel.set {s : MSt} {W : PW} {k : Nat} {P' : PT} {txs' : List MTx} (h : Rel s W) (hP : W.ts[k]?.map PT.start = some P'.start) (ht : SameL txs' (W.ts.set k P')) : Rel { s with txs := txs' } { W with ts := W.ts.set k P' } := by
  have hst : (W.ts.set k P').map PT.start = W.ts.map PT.start := by
    rw [List.map_set]
    refine List.ext_getElem? fun i => ?_
    rw [List.getElem?_set]
    by_cases hi : k = i
    · subst hi
      have hl : k < W.ts.length := by
        refine Classical.byContradiction fun hn => ?_
        rw [List.getElem?_eq_none (by omega)] at hP
        simp at hP
      simp only [if_true, List.length_map, hl, List.getElem?_map]
      exact hP.symm
    · simp [hi]
  refine ⟨h.clock, h.L, h.q, ht, by simp only [hst]; exact h.nd, fun P hp => ?_⟩
  have hm : P.start ∈ W.ts.map PT.start := by rw [← hst]; exact List.mem_map.2 ⟨P, hp, rfl⟩
  obtain ⟨Q, hQ, e⟩ := List.mem_map.1 hm
  rw [← e]
  exact h.le Q hQ
theorem rel_step {s : MSt} {W : PW} (h : Rel s W) (o : OpM) : (stepM s o).1 = (stepR W o).1 ∧ Rel (stepM s o).2 (stepR W o).2 := by
  unfold stepM stepR
  by_cases k1 : o.kind = 1
  · rw [if_pos k1, if_pos k1, h.txs.len]
    by_cases h6 : 6 ≤ W.ts.length
    · rw [if_pos h6, if_pos h6]; exact ⟨rfl, h⟩
    · rw [if_neg h6, if_neg h6, h.clock]
      refine ⟨rfl, rfl, h.L, h.q, h.txs.snoc (T := ⟨W.clock + 1, []⟩) (P := ⟨W.clock + 1, [], [], []⟩) ⟨rfl, fun _ => rfl, List.Pairwise.nil, by simp⟩, ?_, ?_⟩
      · simp only [List.map_append, List.map_cons, List.map_nil]
        rw [List.nodup_append]
        refine ⟨h.nd, by simp, fun a ha b hb => ?_⟩
        obtain ⟨P, hP, rfl⟩ := List.mem_map.1 ha
        have := h.le P hP
        have e : b = W.clock + 1 := by simpa using hb
        omega
      · intro P hP
        rcases List.mem_append.1 hP with h1 | h1
        · have := h.le P h1; simp only; omega
        · have e : P = ⟨W.clock + 1, [], [], []⟩ := by simpa using h1
          subst e
          simp
  · rw [if_neg k1, if_neg k1]
    by_cases k2 : 2 ≤ o.kind ∧ o.kind ≤ 6
    · rw [if_pos k2, if_pos k2]
      rcases h.txs.find o.t with ⟨f1, f2⟩ | ⟨k, T, P, f1, f2, f3, f4, f5⟩
      · rw [f1, f2]; exact ⟨rfl, h⟩
      · have hq : ¬ o.t ∈ W.q := by rw [h.q]; simp
        rw [f1, f2]
        simp only [if_neg hq, f3]
        have hps : P.start = o.t := f4.st ▸ f5
        unfold ofM ofM'
        have hbk : badKey o.key = true ↔ (o.key.size < 1 ∨ 8 < o.key.size) := by unfold badKey; simp
        by_cases c1 : (o.kind = 2 ∨ o.kind = 4 ∨ o.kind = 5) ∧ (o.key.size < 1 ∨ 8 < o.key.size)
        · rw [if_pos c1]
          have hb := hbk.2 c1.2
          rcases c1.1 with e | e | e <;> simp [e, hb] <;> exact h
        · rw [if_neg c1]
          by_cases c2 : o.kind = 2
          · have hb : ¬ badKey o.key = true := fun e => c1 ⟨Or.inl c2, hbk.1 e⟩
            rw [if_pos c2, if_pos c2, if_neg hb, h.L]
            obtain ⟨s1, s2, _⟩ := f4.seen o.key P.start
            refine ⟨by rw [s1, s2], ?_⟩
            have := h.set (P' := { P with ks := P.ks ++ [o.key] }) (k := k) (by rw [f3]; rfl) (h.txs.set (P := P) (P' := { P with ks := P.ks ++ [o.key] }) (fun T hT => ⟨hT.st, hT.ws, hT.nd, hT.ng⟩) f3)
            rw [h.L] at this
            exact this
          · rw [if_neg c2, if_neg c2]
            by_cases c3 : o.kind = 3
            · rw [if_pos c3, if_pos c3, h.L]
              refine ⟨by rw [f4.items o.key P.start], ?_⟩
              have := h.set (P' := { P with ps := P.ps ++ [o.key] }) (k := k) (by rw [f3]; rfl) (h.txs.set (P := P) (P' := { P with ps := P.ps ++ [o.key] }) (fun T hT => ⟨hT.st, hT.ws, hT.nd, hT.ng⟩) f3)
              rw [h.L] at this
              exact this
            · rw [if_neg c3, if_neg c3]
              by_cases c4 : o.kind = 4
              · have hb : ¬ badKey o.key = true := fun e => c1 ⟨Or.inr (Or.inl c4), hbk.1 e⟩
                rw [if_pos c4, if_pos c4, if_neg hb]
                by_cases c5 : 20 < o.val.size
                · rw [if_pos c5, if_pos c5]; exact ⟨rfl, h⟩
                · rw [if_neg c5, if_neg c5]
                  have hput := f4.put o.key o.val false (by simp)
                  rw [f5] at hput
                  exact ⟨rfl, h.set (by rw [f3]; rfl) (h.txs.repl hput f2)⟩
              · rw [if_neg c4, if_neg c4]
                by_cases c5 : o.kind = 5
                · have hb : ¬ badKey o.key = true := fun e => c1 ⟨Or.inr (Or.inr c5), hbk.1 e⟩
                  rw [if_pos c5, if_pos c5, if_neg hb]
                  have hput := f4.put o.key ⟨#[]⟩ true (fun _ => rfl)
                  rw [f5] at hput
                  exact ⟨rfl, h.set (by rw [f3]; rfl) (h.txs.repl hput f2)⟩
                · rw [if_neg c5, if_neg c5, hps]
                  refine ⟨rfl, h.clock, h.L, h.q, h.txs.drop h.nd, ?_, ?_⟩
                  · exact (List.filter_sublist.map _).nodup h.nd
                  · intro Q hQ
                    exact h.le Q (List.mem_filter.1 hQ).1
    · rw [if_neg k2, if_neg k2]; exact ⟨rfl, h⟩
theorem ans_same : ∀ (ops : List OpM) {s : MSt} {W : PW}, Rel s W → ansM s ops = ansR W ops
  | [], _, _, _ => rfl
  | o :: r, s, W, h => by
    obtain ⟨h1, h2⟩ := rel_step h o
    simp only [ansM, ansR]
    rw [h1, ans_same r h2]
theorem rel0 : Rel s0 p0 := ⟨rfl, rfl, rfl, trivial, List.Pairwise.nil, by simp [p0]⟩
end Go.Proofs.Ytcpjocgpahjcjaa
