import Derived.Test.YtkfjafndplmdkaaGreatPB
namespace Go.Proofs.YtkfjafndplmdkaaGreat
open Go.RowKit Go.Sort
open Go.Maps (Keyed)
structure PSt where
  p : Nat
  cb : Nat
  sb : Nat
  vm : Nat
  ob : Nat
  rb : Nat
  qb : Nat
  ch : Nat
  om : Nat
  clock : Int
  low : Int
  V : List (ByteArray × VEnt)
  rows : List (ByteArray × Int)
  q : List (Int × Nat)
  qs : Nat
  qr : Nat
  txs : List Tx
def Tx.blocks (T : Tx) : List Nat := [T.tb, T.wb, T.kb, T.pb]
def PSt.fix (st : PSt) : List Nat := [st.p, st.cb, st.sb, st.vm, st.ob, st.rb, st.qb, st.ch, st.om]
def PSt.blocks (st : PSt) : List Nat := st.fix ++ (vBlocks st.V ++ st.txs.flatMap Tx.blocks)
structure TxOk (clock : Int) (T : Tx) (n : Nat) : Prop where
  lo : 1 ≤ T.start
  hi : T.start ≤ clock
  len : T.ws.length ≤ n
  kl : T.ks.length ≤ n
  pl : T.ps.length ≤ n
  keys : ∀ q ∈ T.ws, q.1.size ≤ 8
def numsOf (txs : List Tx) : List (Int × Nat) := txs.map fun T => (T.start, T.tb)
/-- THE PLAYER, BEHIND AT MOST n STEPS. -/
structure Inv (w : World) (st : PSt) (n : Nat) : Prop where
  pl : w.heap[st.p]? = some (.cells #[.pointer (some ⟨st.cb, 0, none⟩), .pointer (some ⟨st.sb, 0, none⟩), .pointer (some ⟨st.ob, 0, none⟩), .pointer (some ⟨st.qb, 0, none⟩), .map (some st.om)] 93)
  ck : w.heap[st.cb]? = some (.cells #[.int .i64 st.clock] 86)
  store : StoreAt w st.sb st.vm st.V
  orc : OrAt w st.ob st.cb st.sb st.rb st.rows st.low
  qu : w.heap[st.qb]? = some (.cells #[.chan (some st.ch)] 121)
  chn : w.heap[st.ch]? = some (.chan 3 (st.q.map (fun e => mkP e.2)).toArray false st.qs st.qr false)
  om : mapAt w Tryz.prog 3 mkI mkP st.om (numsOf st.txs)
  txs : ∀ T ∈ st.txs, TxAt w st.sb T
  apart : st.blocks.Nodup
  lo : 0 ≤ st.clock
  hi : st.clock + st.q.length ≤ n
  six : st.txs.length ≤ 6
  ok : ∀ T ∈ st.txs, TxOk st.clock T n
  q3 : st.q.length ≤ 3
  qok : ∀ e ∈ st.q, ∃ T ∈ st.txs, T.start = e.1 ∧ T.tb = e.2
  r6 : st.rows.length ≤ 6
  rk : ∀ r ∈ st.rows, r.1.size ≤ 8
  vsum : sumV st.V ≤ 100
  vk : ∀ p ∈ st.V, p.1.size ≤ 8
  vn : ∀ p ∈ st.V, p.2.vs ≠ []
theorem pair_of {α : Type} {R : α → α → Prop} (hsym : ∀ a b, R a b → R b a) : ∀ {l : List α}, l.Pairwise R → ∀ {a b : α}, a ∈ l → b ∈ l → a ≠ b → R a b
  | [], _, _, _, h, _, _ => by simp at h
  | x :: r, hp, a, b, ha, hb, hne => by
    rw [List.pairwise_cons] at hp
    rcases List.mem_cons.1 ha with e1 | ha'
    · rcases List.mem_cons.1 hb with e2 | hb'
      · exact absurd (e1.trans e2.symm) hne
      · rw [e1]; exact hp.1 b hb'
    · rcases List.mem_cons.1 hb with e2 | hb'
      · rw [e2]; exact hsym _ _ (hp.1 a ha')
      · exact pair_of hsym hp.2 ha' hb' hne
def repl (T' : Tx) : List Tx → List Tx
  | [] => []
  | X :: r => if X.start = T'.start then T' :: r else X :: repl T' r
theorem repl_mem {T' : Tx} : ∀ {txs : List Tx} {X : Tx}, (txs.map (·.start)).Nodup → X ∈ repl T' txs → X = T' ∨ (X ∈ txs ∧ X.start ≠ T'.start)
  | [], _, _, h => by simp [repl] at h
  | Y :: r, X, hn, h => by
    simp only [List.map_cons, List.nodup_cons] at hn
    by_cases hy : Y.start = T'.start
    · simp only [repl] at h
      rw [if_pos hy] at h
      rcases List.mem_cons.1 h with h | h
      · exact Or.inl h
      · exact Or.inr ⟨by simp [h], fun e => hn.1 (List.mem_map.2 ⟨X, h, by rw [e, hy]⟩)⟩
    · simp only [repl] at h
      rw [if_neg hy] at h
      rcases List.mem_cons.1 h with h | h
      · exact Or.inr ⟨by simp [h], by rw [h]; exact hy⟩
      · rcases repl_mem hn.2 h with h | ⟨h, h2⟩
        · exact Or.inl h
        · exact Or.inr ⟨by simp [h], h2⟩
theorem repl_len (T' : Tx) : ∀ txs : List Tx, (repl T' txs).length = txs.length
  | [] => rfl
  | X :: r => by
    simp only [repl]
    split
    · simp
    · simp [repl_len T' r]
theorem repl_same {T T' : Tx} (hs : T'.start = T.start) {β : Type} (f : Tx → β) (hf : f T' = f T) : ∀ txs : List Tx, (txs.map (·.start)).Nodup → T ∈ txs → (repl T' txs).map f = txs.map f
  | [], _, h => by simp at h
  | X :: r, hn, h => by
    simp only [List.map_cons, List.nodup_cons] at hn
    by_cases hx : X.start = T'.start
    · have hxT : X = T := by
        rcases List.mem_cons.1 h with h | h
        · exact h.symm
        · exact absurd (List.mem_map.2 ⟨T, h, by rw [hx, hs]⟩) hn.1
      subst hxT
      simp only [repl]
      rw [if_pos hx]
      simp [hf]
    · have hT : T ∈ r := by
        rcases List.mem_cons.1 h with h | h
        · exact absurd (by rw [← h, hs]) hx
        · exact h
      simp only [repl]
      rw [if_neg hx, List.map_cons, List.map_cons, repl_same hs f hf r hn.2 hT]
def drp (n : Int) : List Tx → List Tx
  | [] => []
  | X :: r => if X.start = n then r else X :: drp n r
theorem drp_nums (n : Int) : ∀ txs : List Tx, numsOf (drp n txs) = delA n (numsOf txs)
  | [] => rfl
  | X :: r => by
    by_cases h : X.start = n
    · simp only [drp, numsOf, List.map_cons, delA]
      rw [if_pos h, if_pos h]
    · have ih := drp_nums n r
      simp only [drp, numsOf, List.map_cons, delA] at ih ⊢
      rw [if_neg h, if_neg h, ← ih]
      rfl
theorem drp_sub (n : Int) : ∀ txs : List Tx, (drp n txs).Sublist txs
  | [] => by simp [drp]
  | X :: r => by
    simp only [drp]
    split
    · exact List.sublist_cons_self _ _
    · exact (drp_sub n r).cons_cons _
theorem flat_sub {α β : Type} (f : α → List β) : ∀ {l l' : List α}, l.Sublist l' → (l.flatMap f).Sublist (l'.flatMap f) := by
  intro l l' h
  induction h with
  | slnil => exact List.Sublist.refl _
  | cons a _ ih => rw [List.flatMap_cons]; exact ih.trans (List.sublist_append_right _ _)
  | cons_cons a _ ih => rw [List.flatMap_cons, List.flatMap_cons]; exact (List.Sublist.refl _).append ih
theorem TxAt.kept {w w' : World} {sb : Nat} {T : Tx} {S : Nat → Prop} (h : TxAt w sb T) (hc : Chg S w w') (hs : ∀ b ∈ T.blocks, ¬ S b) : TxAt w' sb T :=
  h.chg hc (hs _ (by simp [Tx.blocks])) (hs _ (by simp [Tx.blocks])) (hs _ (by simp [Tx.blocks])) (hs _ (by simp [Tx.blocks]))
theorem TxOk.up {c c' : Int} {T : Tx} {n n' : Nat} (h : TxOk c T n) (hc : c ≤ c') (hn : n ≤ n') : TxOk c' T n' := ⟨h.lo, by have := h.hi; omega, by have := h.len; omega, by have := h.kl; omega, by have := h.pl; omega, h.keys⟩
theorem Inv.starts {w : World} {st : PSt} {n : Nat} (h : Inv w st n) : (st.txs.map (·.start)).Nodup := by
  have := h.om.nodup
  simpa [numsOf, List.map_map, Function.comp_def] using this
/-- WHAT 'apart' GIVES. -/
theorem Inv.lie {w : World} {st : PSt} {n : Nat} (h : Inv w st n) : st.fix.Nodup ∧ (∀ b ∈ vBlocks st.V, b ∉ st.fix) ∧ (∀ T ∈ st.txs, ∀ b ∈ T.blocks, b ∉ st.fix ∧ b ∉ vBlocks st.V) ∧ (vBlocks st.V).Nodup ∧ (∀ T ∈ st.txs, T.blocks.Nodup) ∧ (∀ X ∈ st.txs, ∀ T ∈ st.txs, X.start ≠ T.start → ∀ b ∈ X.blocks, b ∉ T.blocks) := by
  obtain ⟨n1, n2, n3⟩ := List.nodup_append.1 h.apart
  obtain ⟨m1, m2, m3⟩ := List.nodup_append.1 n2
  have hp := List.pairwise_flatMap.1 m2
  refine ⟨n1, fun b hb hf => n3 b hf b (List.mem_append.2 (Or.inl hb)) rfl, fun T hT b hb => ?_, m1, fun T hT => hp.1 T hT, fun X hX T hT hne b hb hb' => ?_⟩
  · have hm : b ∈ st.txs.flatMap Tx.blocks := List.mem_flatMap.2 ⟨T, hT, hb⟩
    exact ⟨fun hf => n3 b hf b (List.mem_append.2 (Or.inr hm)) rfl, fun hv => m3 b hv b hm rfl⟩
  · exact pair_of (R := fun a₁ a₂ => ∀ x ∈ Tx.blocks a₁, ∀ y ∈ Tx.blocks a₂, x ≠ y) (fun a b hr x hx y hy e => hr y hy x hx e.symm) hp.2 hX hT (fun e => hne (by rw [e])) b hb b hb' rfl
theorem PSt.mem_fix {st : PSt} {b : Nat} (h : b ∈ st.fix) : b ∈ st.blocks := List.mem_append.2 (Or.inl h)
theorem PSt.mem_v {st : PSt} {b : Nat} (h : b ∈ vBlocks st.V) : b ∈ st.blocks := List.mem_append.2 (Or.inr (List.mem_append.2 (Or.inl h)))
theorem PSt.mem_tx {st : PSt} {T : Tx} (hT : T ∈ st.txs) {b : Nat} (hb : b ∈ T.blocks) : b ∈ st.blocks := List.mem_append.2 (Or.inr (List.mem_append.2 (Or.inr (List.mem_flatMap.2 ⟨T, hT, hb⟩))))
theorem TxAt.there {w : World} {sb : Nat} {T : Tx} (h : TxAt w sb T) : ∀ b ∈ T.blocks, b < w.heap.size := by
  intro b hb
  simp only [Tx.blocks, List.mem_cons, List.not_mem_nil, or_false] at hb
  rcases hb with rfl | rfl | rfl | rfl
  · exact lt_of_block h.tx
  · exact h.wm.lt
  · exact h.km.lt
  · exact h.pm.lt
/-- Every block of the player's is there. -/
theorem Inv.there {w : World} {st : PSt} {n : Nat} (h : Inv w st n) : ∀ b ∈ st.blocks, b < w.heap.size := by
  intro b hb
  unfold PSt.blocks PSt.fix at hb
  rcases List.mem_append.1 hb with hb | hb
  · simp only [List.mem_cons, List.not_mem_nil, or_false] at hb
    rcases hb with rfl | rfl | rfl | rfl | rfl | rfl | rfl | rfl | rfl
    · exact lt_of_block h.pl
    · exact lt_of_block h.ck
    · exact lt_of_block h.store.st
    · exact h.store.vs.lt
    · exact lt_of_block h.orc.o
    · exact h.orc.r.lt
    · exact lt_of_block h.qu
    · exact lt_of_block h.chn
    · exact h.om.lt
  · rcases List.mem_append.1 hb with hb | hb
    · exact h.store.lts b hb
    · obtain ⟨T, hT, hb⟩ := List.mem_flatMap.1 hb
      exact (h.txs T hT).there b hb
theorem Inv.chg {w w' : World} {st : PSt} {n n' : Nat} {S : Nat → Prop} (h : Inv w st n) (hc : Chg S w w') (hs : ∀ b ∈ st.blocks, ¬ S b) (hn : n ≤ n') : Inv w' st n' := by
  have hf : ∀ b ∈ st.fix, ¬ S b := fun b hb => hs b (PSt.mem_fix hb)
  refine ⟨(hc.block _ (lt_of_block h.pl) (hf _ (by simp [PSt.fix]))).trans h.pl, (hc.block _ (lt_of_block h.ck) (hf _ (by simp [PSt.fix]))).trans h.ck, h.store.chg hc (hf _ (by simp [PSt.fix])) (hf _ (by simp [PSt.fix])) (fun b hb => hs b (PSt.mem_v hb)), h.orc.chg hc (hf _ (by simp [PSt.fix])) (hf _ (by simp [PSt.fix])),
    (hc.block _ (lt_of_block h.qu) (hf _ (by simp [PSt.fix]))).trans h.qu, (hc.block _ (lt_of_block h.chn) (hf _ (by simp [PSt.fix]))).trans h.chn, h.om.of_block (hc.block _ h.om.lt (hf _ (by simp [PSt.fix]))), fun T hT => (h.txs T hT).kept hc (fun b hb => hs b (PSt.mem_tx hT hb)), h.apart, h.lo, by have := h.hi; omega, h.six, fun T hT => (h.ok T hT).up (by omega) hn, h.q3, h.qok, h.r6, h.rk, h.vsum, h.vk, h.vn⟩
/-- A transaction has read or written: nothing but its own sets has turned. -/
theorem Inv.upd {w w' : World} {st : PSt} {n : Nat} {T T' : Tx} {S : Nat → Prop} (h : Inv w st n) (hT : T ∈ st.txs) (hb : T'.blocks = T.blocks) (hst : T'.start = T.start) (htb : T'.tb = T.tb) (hT' : TxAt w' st.sb T') (hc : Chg S w w') (hs : ∀ b, S b → b ∈ T.blocks) (hok : TxOk st.clock T' (n + 1)) :
    Inv w' { st with txs := repl T' st.txs } (n + 1) ∧ ({ st with txs := repl T' st.txs } : PSt).blocks = st.blocks := by
  obtain ⟨_, _, hL, _, _, hD⟩ := h.lie
  have hS := h.starts
  have fl : (repl T' st.txs).flatMap Tx.blocks = st.txs.flatMap Tx.blocks := by
    rw [List.flatMap_def, List.flatMap_def, repl_same hst Tx.blocks hb _ hS hT]
  have hbl : ({ st with txs := repl T' st.txs } : PSt).blocks = st.blocks := by
    unfold PSt.blocks
    simp only [fl]
    rfl
  have nS : ∀ b ∈ st.fix, ¬ S b := fun b hb' hSb => (hL T hT b (hs b hSb)).1 hb'
  have nV : ∀ b ∈ vBlocks st.V, ¬ S b := fun b hb' hSb => (hL T hT b (hs b hSb)).2 hb'
  refine ⟨⟨(hc.block _ (lt_of_block h.pl) (nS _ (by simp [PSt.fix]))).trans h.pl, (hc.block _ (lt_of_block h.ck) (nS _ (by simp [PSt.fix]))).trans h.ck, h.store.chg hc (nS _ (by simp [PSt.fix])) (nS _ (by simp [PSt.fix])) nV, h.orc.chg hc (nS _ (by simp [PSt.fix])) (nS _ (by simp [PSt.fix])),
    (hc.block _ (lt_of_block h.qu) (nS _ (by simp [PSt.fix]))).trans h.qu, (hc.block _ (lt_of_block h.chn) (nS _ (by simp [PSt.fix]))).trans h.chn, ?_, fun X hX => ?_, hbl ▸ h.apart, h.lo, by have := h.hi; simp only; omega, by rw [repl_len]; exact h.six, fun X hX => ?_, h.q3, fun e he => ?_, h.r6, h.rk, h.vsum, h.vk, h.vn⟩, hbl⟩
  · have e1 : numsOf (repl T' st.txs) = numsOf st.txs := repl_same hst (fun T => (T.start, T.tb)) (by rw [hst, htb]) _ hS hT
    show mapAt w' Tryz.prog 3 mkI mkP st.om (numsOf (repl T' st.txs))
    rw [e1]
    exact h.om.of_block (hc.block _ h.om.lt (nS _ (by simp [PSt.fix])))
  · rcases repl_mem hS hX with rfl | ⟨hX, hne⟩
    · exact hT'
    · exact (h.txs X hX).kept hc (fun b hb' hSb => hD X hX T hT (by rw [← hst]; exact hne) b hb' (hs b hSb))
  · rcases repl_mem hS hX with rfl | ⟨hX, hne⟩
    · exact hok
    · exact (h.ok X hX).up (by simp only; omega) (by omega)
  · obtain ⟨X, hX, e1, e2⟩ := h.qok e he
    have hm : (e.1, e.2) ∈ (repl T' st.txs).map (fun T => (T.start, T.tb)) := by
      rw [repl_same hst (fun T => (T.start, T.tb)) (by rw [hst, htb]) _ hS hT]
      exact List.mem_map.2 ⟨X, hX, by rw [e1, e2]⟩
    obtain ⟨Y, hY, hy⟩ := List.mem_map.1 hm
    exact ⟨Y, hY, congrArg Prod.fst hy, congrArg Prod.snd hy⟩
end Go.Proofs.YtkfjafndplmdkaaGreat
namespace Go.Proofs.YtkfjafndplmdkaaGreat
open Go.RowKit Go.Sort
/-- what a transaction holds, and what the document's does. -/
structure RelT (T : Tx) (P : PT) : Prop where
  st : T.start = P.start
  ws : ∀ key, getA key T.ws = (P.ws.find? (fun v => decide (v.key = key))).map (fun v => (!v.gone, v.val))
  wl : T.ws.length = P.ws.length
  wn : (P.ws.map Ver.key).Nodup
  nd : (T.ws.map Prod.fst).Nodup
  ng : ∀ v ∈ P.ws, v.gone = true → v.val = ⟨#[]⟩
  ks : ∀ k, (getA k T.ks).isSome = true ↔ k ∈ P.ks
  ps : ∀ k, (getA k T.ps).isSome = true ↔ k ∈ P.ps
def SameL (R : Tx → PT → Prop) : List Tx → List PT → Prop
  | [], [] => True
  | T :: r, P :: q => R T P ∧ SameL R r q
  | _, _ => False
/-- a key's versions, of all. -/
def versM (k : ByteArray) (L : List Ver) : List (Int × (Bool × ByteArray)) := (L.filter (fun v => decide (v.key = k))).map (fun v => (v.time, (!v.gone, v.val)))
/-- a transaction, and whether it waits. -/
def RelQ (q : List Int) (T : Tx) (P : PT) : Prop := RelT T P ∧ T.queued = decide (P.start ∈ q)
structure Rel (st : PSt) (W : PW) : Prop where
  clock : st.clock = W.clock
  low : st.low = W.low
  txs : SameL (RelQ W.q) st.txs W.ts
  q : W.q = st.q.map Prod.fst
  rows : ∀ k, getA k st.rows = getA k W.rows
  rn : (W.rows.map Prod.fst).Nodup
  V : ∀ k, versOf k st.V = versM k W.L
  Lg : ∀ v ∈ W.L, v.gone = true → v.val = ⟨#[]⟩
  nd : (W.ts.map PT.start).Nodup
  le : ∀ P ∈ W.ts, P.start ≤ W.clock
  qn : W.q.Nodup
/-! ### lists -/
theorem SameL.len {R : Tx → PT → Prop} : ∀ {a : List Tx} {b : List PT}, SameL R a b → a.length = b.length
  | [], [], _ => rfl
  | _ :: _, _ :: _, h => by simp [h.2.len]
theorem SameL.imp {R R' : Tx → PT → Prop} : ∀ {a : List Tx} {b : List PT}, SameL R a b → (∀ T ∈ a, ∀ P ∈ b, R T P → R' T P) → SameL R' a b
  | [], [], _, _ => trivial
  | T :: r, P :: q, h, hi => ⟨hi T (by simp) P (by simp) h.1, h.2.imp (fun T hT P hP => hi T (by simp [hT]) P (by simp [hP]))⟩
theorem SameL.find {R : Tx → PT → Prop} (hR : ∀ T P, R T P → T.start = P.start) (n : Int) : ∀ {a : List Tx} {b : List PT}, SameL R a b →
    (getA n (numsOf a) = none ∧ b.findIdx? (fun P => P.start == n) = none ∧ b.find? (fun P => P.start == n) = none) ∨
    ∃ k T P, getA n (numsOf a) = some T.tb ∧ T ∈ a ∧ b.findIdx? (fun P => P.start == n) = some k ∧ b[k]? = some P ∧ b.find? (fun P => P.start == n) = some P ∧ R T P ∧ T.start = n ∧ P ∈ b
  | [], [], _ => Or.inl ⟨rfl, rfl, rfl⟩
  | T :: r, P :: q, h => by
    by_cases e : T.start = n
    · refine Or.inr ⟨0, T, P, by simp [numsOf, getA, e], by simp, ?_, rfl, ?_, h.1, e, by simp⟩
      · rw [List.findIdx?_cons]
        simp [← hR _ _ h.1, e]
      · rw [List.find?_cons]
        simp [← hR _ _ h.1, e]
    · have e' : (P.start == n) = false := by rw [← hR _ _ h.1]; simpa using e
      rcases h.2.find hR n with ⟨h1, h2, h2'⟩ | ⟨k, T', P', h1, h1', h2, h3, h3', h4, h5, h6⟩
      · refine Or.inl ⟨?_, ?_, ?_⟩
        · simp only [numsOf, List.map_cons, getA]; rw [if_neg e]; exact h1
        · rw [List.findIdx?_cons, e', h2]; rfl
        · rw [List.find?_cons, e', h2']
      · refine Or.inr ⟨k + 1, T', P', ?_, by simp [h1'], ?_, by simpa using h3, ?_, h4, h5, by simp [h6]⟩
        · simp only [numsOf, List.map_cons, getA]; rw [if_neg e]; exact h1
        · rw [List.findIdx?_cons, e', h2]; rfl
        · rw [List.find?_cons, e', h3']
theorem SameL.repl {R : Tx → PT → Prop} (hR : ∀ T P, R T P → T.start = P.start) {T' : Tx} {P' : PT} (hs : R T' P') : ∀ {a : List Tx} {b : List PT} {k : Nat}, SameL R a b → b.findIdx? (fun P => P.start == T'.start) = some k → SameL R (repl T' a) (b.set k P')
  | [], [], _, _, hk => by simp at hk
  | T :: r, Q :: q, k, h, hk => by
    rw [List.findIdx?_cons] at hk
    by_cases e : T.start = T'.start
    · have e' : (Q.start == T'.start) = true := by rw [← hR _ _ h.1]; simpa using e
      rw [e'] at hk
      have : k = 0 := by simpa using hk.symm
      subst this
      simp only [Go.Proofs.YtkfjafndplmdkaaGreat.repl, e, if_true]
      exact ⟨hs, h.2⟩
    · have e' : (Q.start == T'.start) = false := by rw [← hR _ _ h.1]; simpa using e
      rw [e'] at hk
      cases hx : q.findIdx? (fun P => P.start == T'.start) with
      | none => rw [hx] at hk; simp at hk
      | some m =>
        rw [hx] at hk
        have : k = m + 1 := by simpa using hk.symm
        subst this
        simp only [Go.Proofs.YtkfjafndplmdkaaGreat.repl, e, if_false]
        exact ⟨h.1, h.2.repl hR hs hx⟩
theorem SameL.all {R : Tx → PT → Prop} {n : Int} : ∀ {a : List Tx} {b : List PT}, SameL R a b → (∀ P ∈ b, P.start ≠ n) → SameL R a (b.filter (fun x => decide (x.start ≠ n)))
  | [], [], _, _ => trivial
  | T :: r, Q :: q, h, hn => by
    rw [List.filter_cons_of_pos (by simpa using hn Q (by simp))]
    exact ⟨h.1, h.2.all (fun P hP => hn P (by simp [hP]))⟩
theorem SameL.drop {R : Tx → PT → Prop} (hR : ∀ T P, R T P → T.start = P.start) {n : Int} : ∀ {a : List Tx} {b : List PT}, SameL R a b → (b.map PT.start).Nodup → SameL R (drp n a) (b.filter (fun x => decide (x.start ≠ n)))
  | [], [], _, _ => trivial
  | T :: r, Q :: q, h, hn => by
    obtain ⟨n1, n2⟩ := List.nodup_cons.1 (by simpa using hn : (Q.start :: q.map PT.start).Nodup)
    by_cases e : T.start = n
    · have e' : Q.start = n := by rw [← hR _ _ h.1]; exact e
      rw [List.filter_cons_of_neg (by simpa using e')]
      simp only [drp, e, if_true]
      exact h.2.all (fun P hP he => n1 (by rw [e', ← he]; exact List.mem_map.2 ⟨P, hP, rfl⟩))
    · have e' : Q.start ≠ n := by rw [← hR _ _ h.1]; exact e
      rw [List.filter_cons_of_pos (by simpa using e')]
      simp only [drp, e, if_false]
      exact ⟨h.1, h.2.drop hR n2⟩
theorem SameL.snoc {R : Tx → PT → Prop} {T : Tx} {P : PT} (hs : R T P) : ∀ {a : List Tx} {b : List PT}, SameL R a b → SameL R (a ++ [T]) (b ++ [P])
  | [], [], _ => ⟨hs, trivial⟩
  | _ :: _, _ :: _, h => ⟨h.1, h.2.snoc hs⟩
theorem RelQ.start {q : List Int} (T : Tx) (P : PT) (h : RelQ q T P) : T.start = P.start := h.1.st
/-! ### how many versions -/
theorem versM_nil {L : List Ver} (h : ∀ k, versM k L = []) : L = [] := by
  cases L with
  | nil => rfl
  | cons v r =>
    have := h v.key
    simp [versM] at this
theorem versM_filter (k x : ByteArray) (L : List Ver) : versM k (L.filter (fun v => decide (v.key ≠ x))) = if k = x then [] else versM k L := by
  unfold versM
  rw [List.filter_filter]
  by_cases e : k = x
  · subst e
    rw [if_pos rfl]
    have : L.filter (fun v => decide (v.key = k) && decide (v.key ≠ k)) = [] := by
      rw [List.filter_eq_nil_iff]
      intro v _
      by_cases h : v.key = k <;> simp [h]
    rw [this]
    rfl
  · rw [if_neg e]
    congr 1
    refine List.filter_congr fun v _ => ?_
    by_cases h : v.key = k
    · simp [h, e]
    · simp [h]
theorem filter_parts (k : ByteArray) : ∀ L : List Ver, (L.filter (fun v => decide (v.key = k))).length + (L.filter (fun v => decide (v.key ≠ k))).length = L.length
  | [] => rfl
  | v :: r => by
    have ih := filter_parts k r
    by_cases h : v.key = k
    · rw [List.filter_cons_of_pos (by simpa using h), List.filter_cons_of_neg (by simpa using h), List.length_cons, List.length_cons]; omega
    · rw [List.filter_cons_of_neg (by simpa using h), List.filter_cons_of_pos (by simpa using h), List.length_cons, List.length_cons]; omega
theorem sum_eq : ∀ {V : List (ByteArray × VEnt)} {L : List Ver}, (V.map Prod.fst).Nodup → (∀ k, versOf k V = versM k L) → sumV V = L.length
  | [], L, _, h => by
    have : L = [] := versM_nil (fun k => by rw [← h k]; rfl)
    rw [this]; rfl
  | p :: r, L, nd, h => by
    obtain ⟨n1, n2⟩ := List.nodup_cons.1 (by simpa using nd : (p.1 :: r.map Prod.fst).Nodup)
    have h1 : p.2.vs = versM p.1 L := by rw [← h p.1]; simp [versOf, getA]
    have h2 : ∀ k, versOf k r = versM k (L.filter (fun v => decide (v.key ≠ p.1))) := fun k => by
      rw [versM_filter]
      by_cases e : k = p.1
      · subst e
        rw [if_pos rfl]
        unfold versOf
        rw [getA_eq_none.2 n1]
      · rw [if_neg e, ← h k]
        unfold versOf
        simp [getA, Ne.symm e]
    rw [sumV_cons, sum_eq n2 h2, h1]
    unfold versM
    rw [List.length_map]
    exact filter_parts p.1 L
theorem Rel.sum {st : PSt} {W : PW} (h : Rel st W) (nd : (st.V.map Prod.fst).Nodup) : sumV st.V = W.L.length := sum_eq nd h.V
/-! ### what it sees -/
theorem find_filter (t : Int) (k : ByteArray) : ∀ l : List Ver, ((l.filter (fun v => decide (v.key = k))).map (fun v => (v.time, (!v.gone, v.val)))).find? (fun p => decide (p.1 ≤ t)) = (l.find? (fun v => decide (v.key = k) && decide (v.time ≤ t))).map (fun v => (v.time, (!v.gone, v.val)))
  | [] => rfl
  | v :: r => by
    have ih := find_filter t k r
    by_cases h : v.key = k
    · rw [List.filter_cons_of_pos (by simpa using h), List.map_cons, List.find?_cons, List.find?_cons]
      by_cases h2 : v.time ≤ t
      · simp [h, h2]
      · simp [h, h2, ih]
    · rw [List.filter_cons_of_neg (by simpa using h), List.find?_cons]
      simp [h, ih]
theorem atV_versM {L : List Ver} (hg : ∀ v ∈ L, v.gone = true → v.val = ⟨#[]⟩) (k : ByteArray) (t : Int) : (atV (versM k L) t).1 = (atM L k t).2 ∧ (atV (versM k L) t).2 = getV (atM L k t) ∧ ((atM L k t).2 = true → (atV (versM k L) t).2 = (atM L k t).1) := by
  unfold atV atM versM
  rw [← List.map_reverse, ← List.filter_reverse, find_filter]
  cases hf : L.reverse.find? (fun v => decide (v.key = k) && decide (v.time ≤ t)) with
  | none => simp [getV, noCell]
  | some v =>
    have hv := hg v (List.mem_reverse.1 (List.mem_of_find?_eq_some hf))
    cases hgo : v.gone with
    | false => simp [getV, hgo]
    | true => simp [getV, hgo, hv hgo]
theorem seen_sees {st : PSt} {W : PW} (h : Rel st W) {T : Tx} {P : PT} (hT : RelT T P) (k : ByteArray) : (seen T st.V k).1 = (seesM P.ws W.L P.start k).2 ∧ (seen T st.V k).2 = getV (seesM P.ws W.L P.start k) ∧ ((seesM P.ws W.L P.start k).2 = true → (seen T st.V k).2 = (seesM P.ws W.L P.start k).1) := by
  unfold seen seesM
  rw [hT.ws k]
  cases hf : P.ws.find? (fun v => decide (v.key = k)) with
  | none =>
    simp only [Option.map_none]
    rw [h.V k, hT.st]
    exact atV_versM h.Lg k P.start
  | some v =>
    have hg := hT.ng v (List.mem_of_find?_eq_some hf)
    cases hv : v.gone with
    | false => simp [getV, hv]
    | true => simp [getV, hv, hg hv]
theorem RelT.key_iff {T : Tx} {P : PT} (h : RelT T P) (k : ByteArray) : k ∈ T.ws.map Prod.fst ↔ ∃ v ∈ P.ws, v.key = k := by
  rw [← getA_isSome, h.ws k, Option.isSome_map, List.find?_isSome]
  simp
theorem Rel.key_iff {st : PSt} {W : PW} (h : Rel st W) (vn : ∀ p ∈ st.V, p.2.vs ≠ []) (nd : (st.V.map Prod.fst).Nodup) (k : ByteArray) : k ∈ st.V.map Prod.fst ↔ ∃ v ∈ W.L, v.key = k := by
  constructor
  · intro hk
    obtain ⟨p, hp, rfl⟩ := List.mem_map.1 hk
    have h1 : versOf p.1 st.V = p.2.vs := by unfold versOf; rw [getA_of_mem nd (show (p.1, p.2) ∈ st.V from hp)]
    have h2 : versM p.1 W.L ≠ [] := by rw [← h.V p.1, h1]; exact vn p hp
    refine Classical.byContradiction fun hn => h2 ?_
    unfold versM
    rw [List.map_eq_nil_iff, List.filter_eq_nil_iff]
    intro v hv
    have : v.key ≠ p.1 := fun e => hn ⟨v, hv, e⟩
    simpa using this
  · rintro ⟨v, hv, rfl⟩
    have h2 : versM v.key W.L ≠ [] := by
      unfold versM
      intro e
      rw [List.map_eq_nil_iff, List.filter_eq_nil_iff] at e
      exact e v hv (by simp)
    rw [← h.V v.key] at h2
    rw [← getA_isSome]
    unfold versOf at h2
    cases hg : getA v.key st.V with
    | none => rw [hg] at h2; exact absurd rfl h2
    | some e => rfl
theorem items_eq {st : PSt} {W : PW} (h : Rel st W) {T : Tx} {P : PT} (hT : RelT T P) (vn : ∀ p ∈ st.V, p.2.vs ≠ []) (nd : (st.V.map Prod.fst).Nodup) (pre : ByteArray) :
    itemsOf T st.V (knownK pre st.V T.ws) = itemsR P.ws W.L P.start (keysC (W.L ++ P.ws) pre) := by
  have hk : KeysOf (W.L ++ P.ws) pre ((knownK pre st.V T.ws).map (fun k => (⟨k.toArray⟩ : ByteArray))) := by
    obtain ⟨h1, h2⟩ := known_asc pre st.V T.ws
    constructor
    · unfold Asc
      rw [List.pairwise_map]
      exact h1
    · intro x
      have hm : x ∈ (knownK pre st.V T.ws).map (fun k => (⟨k.toArray⟩ : ByteArray)) ↔ x.data.toList ∈ knownK pre st.V T.ws := by
        constructor
        · intro hx
          obtain ⟨k, hk, rfl⟩ := List.mem_map.1 hx
          simpa using hk
        · intro hx
          exact List.mem_map.2 ⟨_, hx, by simp⟩
      have hc : ∀ {β : Type} (l : List (ByteArray × β)), x.data.toList ∈ coll pre l ↔ x ∈ l.map Prod.fst ∧ pk pre x = true := fun l => by
        unfold coll
        rw [List.mem_map]
        constructor
        · rintro ⟨b, hb, e⟩
          have : b = x := toList_inj e
          subst this
          exact List.mem_filter.1 hb
        · rintro ⟨h1, h2⟩
          exact ⟨x, List.mem_filter.2 ⟨h1, h2⟩, rfl⟩
      rw [hm, h2, hc, hc, h.key_iff vn nd x, hT.key_iff x]
      constructor
      · rintro (⟨⟨v, hv, e⟩, hp⟩ | ⟨⟨v, hv, e⟩, hp⟩)
        · exact ⟨v, List.mem_append.2 (Or.inl hv), e, hp⟩
        · exact ⟨v, List.mem_append.2 (Or.inr hv), e, hp⟩
      · rintro ⟨v, hv, e, hp⟩
        rcases List.mem_append.1 hv with hv | hv
        · exact Or.inl ⟨⟨v, hv, e⟩, hp⟩
        · exact Or.inr ⟨⟨v, hv, e⟩, hp⟩
  rw [keysC_eq hk]
  unfold itemsOf itemsR
  rw [List.filterMap_map]
  congr 1
  funext k
  obtain ⟨h1, _, h3⟩ := seen_sees h hT ⟨k.toArray⟩
  simp only [Function.comp, itemOf, itemR]
  rw [h1]
  by_cases hb : (seesM P.ws W.L P.start ⟨k.toArray⟩).2 = true
  · rw [if_pos hb, if_pos hb, h3 hb]
  · rw [if_neg hb, if_neg hb]
/-! ### what refuses -/
theorem extract_pk (p k : ByteArray) : pk p k = true ↔ p.size ≤ k.size ∧ k.extract 0 p.size = p := by
  have e := (Lib.hasPrefix_raw k p).symm
  have e1 : pk p k = (decide (p.size ≤ k.size) && ((k.extract 0 p.size).toList == p.toList)) := e
  rw [e1, Bool.and_eq_true, decide_eq_true_eq, beq_iff_eq, ByteArray.toList_eq, ByteArray.toList_eq]
  exact ⟨fun h => ⟨h.1, toList_inj h.2⟩, fun h => ⟨h.1, by rw [h.2]⟩⟩
theorem hit_eq {T : Tx} {P : PT} (h : RelT T P) (k : ByteArray) : hitT T k = hitM P k := by
  rw [Bool.eq_iff_iff]
  unfold hitT hitM
  rw [Bool.or_eq_true, Bool.or_eq_true, List.any_eq_true, List.any_eq_true, List.any_eq_true, h.ks k]
  constructor
  · rintro (h1 | ⟨e, he, h1⟩)
    · exact Or.inl ⟨k, h1, by simp⟩
    · refine Or.inr ⟨_, (h.ps _).1 h1, ?_⟩
      rw [extract_pk, ByteArray.size_extract]
      have := List.mem_range.1 he
      refine ⟨by omega, ?_⟩
      congr 1
      omega
  · rintro (⟨x, hx, e⟩ | ⟨p, hp, h1⟩)
    · have : x = k := by simpa using e
      subst this
      exact Or.inl hx
    · obtain ⟨h2, h3⟩ := (extract_pk p k).1 h1
      exact Or.inr ⟨p.size, List.mem_range.2 (by omega), by rw [h3]; exact (h.ps p).2 hp⟩
theorem RelT.none_iff {T : Tx} {P : PT} (h : RelT T P) : (0 < T.ks.length + T.ps.length) ↔ (0 < P.ks.length + P.ps.length) := by
  have aux : ∀ (l : List (ByteArray × Unit)) (m : List ByteArray), (∀ k, (getA k l).isSome = true ↔ k ∈ m) → (l.length = 0 ↔ m.length = 0) := fun l m hh => by
    constructor
    · intro e
      cases m with
      | nil => rfl
      | cons x r =>
        have := (hh x).2 (by simp)
        rw [List.eq_nil_of_length_eq_zero e] at this
        simp [getA] at this
    · intro e
      cases l with
      | nil => rfl
      | cons x r =>
        have := (hh x.1).1 (by simp [getA])
        rw [List.eq_nil_of_length_eq_zero e] at this
        simp at this
  have a1 := aux T.ks P.ks h.ks
  have a2 := aux T.ps P.ps h.ps
  omega
theorem ref_eq {st : PSt} {W : PW} (h : Rel st W) {T : Tx} {P : PT} (hT : RelT T P) (nd : (st.V.map Prod.fst).Nodup) (rd : (st.rows.map Prod.fst).Nodup) : refT T st.rows st.low st.V = refusedM W P := by
  have e1 : conflT st.rows T = conflM W.rows P := by
    rw [conflT_perm (perm_of_getA rd h.rn h.rows) T]
    unfold conflT conflM
    congr 1
    funext r
    rw [hT.st, hit_eq hT]
  unfold refT refusedM
  rw [e1, hT.st, h.low, h.sum nd, hT.wl]
  have cc : (0 < T.ks.length + T.ps.length ∧ P.start < W.low) ↔ (0 < P.ks.length + P.ps.length ∧ P.start < W.low) := ⟨fun c => ⟨hT.none_iff.1 c.1, c.2⟩, fun c => ⟨hT.none_iff.2 c.1, c.2⟩⟩
  simp only [cc]
end Go.Proofs.YtkfjafndplmdkaaGreat
namespace Go.Proofs.YtkfjafndplmdkaaGreat
open Go.RowKit Go.Sort
theorem trim_sub : ∀ (n : Nat) (rs : List (ByteArray × Int)) (low : Int), ∀ p ∈ (trimM n rs low).1, p ∈ rs
  | 0, rs, low, p, h => h
  | n + 1, rs, low, p, h => by
    unfold trimM at h
    split at h
    · split at h
      · exact (List.mem_filter.1 (trim_sub n _ _ p h)).1
      · exact h
    · exact h
theorem trim_len : ∀ (n : Nat) (rs : List (ByteArray × Int)) (low : Int), rs.length ≤ n → (trimM n rs low).1.length ≤ 6
  | 0, rs, low, h => by have : rs.length = 0 := by omega
                        simp [trimM]; omega
  | n + 1, rs, low, h => by
    unfold trimM
    by_cases h6 : 6 < rs.length
    · rw [if_pos h6]
      obtain ⟨m, h1, h2⟩ := leastM_is (l := rs) (fun e => by rw [e] at h6; simp at h6)
      rw [h1]
      have hlt : (rs.filter (fun r => decide (r.1 ≠ m.1))).length < rs.length := by
        refine Nat.lt_of_le_of_ne (List.length_filter_le _ _) (fun e => ?_)
        have := List.length_filter_eq_length_iff.1 e m h2.1
        simp at this
      exact trim_len n _ _ (by omega)
    · rw [if_neg h6]; simpa using h6
theorem trim_nodup : ∀ (n : Nat) {rs : List (ByteArray × Int)} (low : Int), (rs.map Prod.fst).Nodup → ((trimM n rs low).1.map Prod.fst).Nodup
  | 0, _, _, h => h
  | n + 1, rs, low, h => by
    unfold trimM
    split
    · split
      · exact trim_nodup n _ (filter_nodup _ h)
      · exact h
    · exact h
theorem versM_append (k : ByteArray) (a b : List Ver) : versM k (a ++ b) = versM k a ++ versM k b := by simp [versM]
theorem versM_stamp (k : ByteArray) (t : Int) : ∀ {ws : List Ver}, (ws.map Ver.key).Nodup → versM k (stampM ws t) = (match ws.find? (fun v => decide (v.key = k)) with | some v => [(t, (!v.gone, v.val))] | none => [])
  | [], _ => rfl
  | v :: r, nd => by
    obtain ⟨n1, n2⟩ := List.nodup_cons.1 (by simpa using nd : (v.key :: r.map Ver.key).Nodup)
    have ih := versM_stamp k t n2
    have e1 : stampM (v :: r) t = { v with time := t } :: stampM r t := rfl
    rw [e1]
    by_cases h : v.key = k
    · have hr : versM k (stampM r t) = [] := by
        rw [ih]
        have : r.find? (fun v => decide (v.key = k)) = none := by
          rw [List.find?_eq_none]
          intro x hx e
          exact n1 (by rw [h]; exact List.mem_map.2 ⟨x, hx, by simpa using e⟩)
        rw [this]
      have e2 : versM k ({ v with time := t } :: stampM r t) = (t, (!v.gone, v.val)) :: versM k (stampM r t) := by
        unfold versM
        rw [List.filter_cons_of_pos (by simpa using h)]
        rfl
      rw [e2, hr, List.find?_cons]
      simp [h]
    · have e2 : versM k ({ v with time := t } :: stampM r t) = versM k (stampM r t) := by
        unfold versM
        rw [List.filter_cons_of_neg (by simpa using h)]
      rw [e2, ih, List.find?_cons]
      simp [h]
theorem fix_ne {l : List Nat} (h : l.Nodup) (i j : Nat) {a b : Nat} (hi : l[i]? = some a) (hj : l[j]? = some b) (hij : i ≠ j) : a ≠ b := fun e => by
  subst e
  obtain ⟨h1, h2⟩ := List.getElem?_eq_some_iff.1 hi
  obtain ⟨h3, h4⟩ := List.getElem?_eq_some_iff.1 hj
  have hp := List.pairwise_iff_getElem.1 h
  rcases Nat.lt_or_gt_of_ne hij with h5 | h5
  · exact hp i j h1 h3 h5 (h2.trans h4.symm)
  · exact hp j i h3 h1 h5 (h4.trans h2.symm)
def decV (d : Dec) : Value := .agg #[.int .i64 d.num, .int .i64 d.code, .int .i64 d.time]
def Kept (st st' : PSt) (w : World) : Prop := ∀ b ∈ st'.blocks, b ∈ st.blocks ∨ w.heap.size ≤ b
theorem kept_refl (st : PSt) (w : World) : Kept st st w := fun _ h => Or.inl h
/-- the rows of a commit, and the document's. -/
theorem rows1_perm {st : PSt} {W : PW} (h : Rel st W) {T : Tx} {P : PT} (hT : RelT T P) {t : Int} {V' : List (ByteArray × VEnt)} {rows1 : List (ByteArray × Int)} {size : Nat} (ha : Added T t st.V V' st.rows rows1 [] size) : rows1.Perm (notesM W.rows P.ws t) := by
  refine perm_of_getA ha.rn (notes_nodup t P.ws h.rn) (fun k => ?_)
  rw [ha.rs k, notes_get, h.rows k]
  unfold rowV
  rw [hT.ws k]
  cases hf : P.ws.find? (fun v => decide (v.key = k)) with
  | none =>
    have hx : ¬ ∃ v ∈ P.ws, v.key = k := by
      rintro ⟨v, hv, e⟩
      have := List.find?_eq_none.1 hf v hv
      simp [e] at this
    rw [if_neg hx]
    rfl
  | some v =>
    have hx : ∃ v ∈ P.ws, v.key = k := ⟨v, List.mem_of_find?_eq_some hf, by have := List.find?_some hf; simpa using this⟩
    rw [if_pos hx]
    rfl
theorem Rel.commit {st : PSt} {W : PW} (h : Rel st W) {T : Tx} {P : PT} (hT : RelT T P) {V' : List (ByteArray × VEnt)} {rows1 rows' : List (ByteArray × Int)} {low' : Int} {size : Nat} (ha : Added T (st.clock + 1) st.V V' st.rows rows1 [] size)
    (htr : ∀ n, rows1.length ≤ n → ∀ rs, (rs.map Prod.fst).Nodup → rows1.Perm rs → rows'.Perm (trimM n rs st.low).1 ∧ low' = (trimM n rs st.low).2) (hrn : (rows'.map Prod.fst).Nodup) :
    Rel { st with clock := st.clock + 1, V := V', rows := rows', low := low' } (commitM W P) := by
  have hp := rows1_perm h hT ha
  rw [h.clock] at hp
  obtain ⟨t1, t2⟩ := htr (notesM W.rows P.ws (W.clock + 1)).length (by have := hp.length_eq; omega) _ (notes_nodup _ P.ws h.rn) hp
  rw [h.low] at t1 t2
  refine ⟨by show st.clock + 1 = W.clock + 1; rw [h.clock], t2, h.txs, h.q, fun k => getA_perm hrn t1 k, trim_nodup _ _ (notes_nodup _ P.ws h.rn), fun k => ?_, fun v hv => ?_, h.nd, fun Q hQ => ?_, h.qn⟩
  · show versOf k V' = versM k (W.L ++ stampM P.ws (W.clock + 1))
    rw [ha.vs k, h.V k, versM_append, versM_stamp k _ hT.wn, h.clock]
    congr 1
    unfold addV
    rw [hT.ws k]
    cases P.ws.find? (fun v => decide (v.key = k)) with
    | none => rfl
    | some v => rfl
  · rcases List.mem_append.1 hv with hv | hv
    · exact h.Lg v hv
    · obtain ⟨x, hx, rfl⟩ := List.mem_map.1 hv
      exact hT.ng x hx
  · have := h.le Q hQ
    show Q.start ≤ W.clock + 1
    omega
set_option maxHeartbeats 400000 in
theorem decide_step {st : PSt} {n : Nat} {w : World} {W : PW} {T : Tx} {P : PT} (h : Inv w st n) (hr : Rel st W) (hT : TxAt w st.sb T) (hTb : ∀ b ∈ T.blocks, b ∉ st.blocks) (hrt : RelT T P) (hok : TxOk st.clock T n) (hroom : st.clock + st.q.length + 1 ≤ n) (hn : n ≤ 100000000) :
    Calls Tryz.prog 87 #[.pointer (some ⟨st.ob, 0, none⟩), .pointer (some ⟨T.tb, 0, none⟩)] w fun e w' => e = .returned (decV (decideM W P).1) ∧ ∃ c V' rows' low', Inv w' { st with clock := c, V := V', rows := rows', low := low' } n ∧ Rel { st with clock := c, V := V', rows := rows', low := low' } (decideM W P).2 ∧ Chg (fun b => b ∈ st.blocks) w w' ∧ Kept st { st with clock := c, V := V', rows := rows', low := low' } w := by
  obtain ⟨hfx, hvf, htf, hvn, _, _⟩ := h.lie
  have hfit : Fits T st.rows st.V := ⟨by have := hok.kl; omega, by have := hok.pl; omega, by have := hok.len; omega, h.vsum, by have := h.r6; omega, h.rk, hok.keys⟩
  have hse : { st with clock := st.clock, V := st.V, rows := st.rows, low := st.low } = st := rfl
  by_cases hw : T.ws = []
  · have hPw : P.ws = [] := List.eq_nil_of_length_eq_zero (by rw [← hrt.wl, hw]; rfl)
    have e1 : decideM W P = (⟨P.start, 0, P.start⟩, W) := by unfold decideM; rw [if_pos hPw]
    rw [e1]
    refine (decide_ret T st.ob st.sb T.start w hT nobody (fun _ _ => True) (fun _ hf => hf.elim) (fun wq hq => (ocommit_none T st.ob st.sb wq (hT.chg hq (fun h => h) (fun h => h) (fun h => h) (fun h => h)) hw).mono (fun e w' ⟨h1, h2⟩ => ⟨h1, h2, trivial⟩))).mono ?_
    rintro e w' ⟨rfl, wq, w1, rs, q1, q2, q3, q4, _, q5⟩
    have hc : Chg nobody w w' := (q1.trans q4).andThen q5 (fun i hi (e : i = rs) => by omega)
    refine ⟨by rw [hrt.st]; rfl, st.clock, st.V, st.rows, st.low, h.chg hc (fun _ _ hf => hf) (Nat.le_refl _), hr, hc.any _, kept_refl _ _⟩
  · have hPw : P.ws ≠ [] := fun e => hw (List.eq_nil_of_length_eq_zero (by rw [hrt.wl, e]; rfl))
    have href := ref_eq hr hrt h.store.vs.nodup h.orc.r.nodup
    by_cases hz : refusedM W P ≠ 0
    · have e1 : decideM W P = (⟨P.start, refusedM W P, 0⟩, W) := by unfold decideM; rw [if_neg hPw, if_pos hz]
      rw [e1]
      have hz' : refT T st.rows st.low st.V ≠ 0 := by rw [href]; exact hz
      refine (decide_err T st.ob st.sb (refT T st.rows st.low st.V) w hT (fun wq hq => ocommit_refused T st.ob st.cb st.sb st.rb st.vm st.rows st.low st.V wq (hT.chg hq (fun h => h) (fun h => h) (fun h => h) (fun h => h)) (h.orc.chg hq (fun h => h) (fun h => h)) (h.store.chg hq (fun h => h) (fun h => h) (fun _ _ h => h)) hfit hw hz')).mono ?_
      rintro e w' ⟨rfl, hc⟩
      exact ⟨by rw [hrt.st, href]; rfl, st.clock, st.V, st.rows, st.low, h.chg hc (fun _ _ hf => hf) (Nat.le_refl _), hr, hc.any _, kept_refl _ _⟩
    · have hz0 : refusedM W P = 0 := Classical.byContradiction hz
      have e1 : decideM W P = (⟨P.start, 0, W.clock + 1⟩, commitM W P) := by unfold decideM; rw [if_neg hPw, if_neg hz]
      rw [e1]
      have hz' : refT T st.rows st.low st.V = 0 := by rw [href]; exact hz0
      have hsum : sumV st.V + T.ws.length ≤ 100 := by
        unfold refT at hz'
        refine Classical.byContradiction fun hx => ?_
        have : 100 < sumV st.V + T.ws.length := by omega
        by_cases a1 : 0 < T.ks.length + T.ps.length ∧ T.start < st.low
        · rw [if_pos a1] at hz'; cases hz'
        · rw [if_neg a1] at hz'
          by_cases a2 : conflT st.rows T = true
          · rw [if_pos a2] at hz'; cases hz'
          · rw [if_neg a2, if_pos this] at hz'; cases hz'
      have hvr : st.vm ≠ st.rb := fix_ne hfx 3 5 rfl rfl (by decide)
      have hnf : ∀ b ∈ T.blocks, b ∉ st.fix := fun b hb hf => hTb b hb (PSt.mem_fix hf)
      have hvw : st.vm ≠ T.wb := fun e => hnf T.wb (by simp [Tx.blocks]) (by simp [PSt.fix, e])
      have hrw : st.rb ≠ T.wb := fun e => hnf T.wb (by simp [Tx.blocks]) (by simp [PSt.fix, e])
      have hSl : ∀ b, (b = st.cb ∨ b = st.ob ∨ b = st.rb ∨ b = st.vm ∨ b ∈ vBlocks st.V) → b ∈ st.blocks := fun b hb => by
        rcases hb with e | e | e | e | e
        · exact PSt.mem_fix (by simp [PSt.fix, e])
        · exact PSt.mem_fix (by simp [PSt.fix, e])
        · exact PSt.mem_fix (by simp [PSt.fix, e])
        · exact PSt.mem_fix (by simp [PSt.fix, e])
        · exact PSt.mem_v e
      refine (decide_ret T st.ob st.sb (st.clock + 1) w hT (fun b => b = st.cb ∨ b = st.ob ∨ b = st.rb ∨ b = st.vm ∨ b ∈ vBlocks st.V) (fun wq w1 => CommitPost T st.ob st.cb st.sb st.rb st.vm st.rows st.low st.clock st.V wq w1) (fun b hb => h.there b (hSl b hb)) (fun wq hq => (ocommit_ok T st.ob st.cb st.sb st.rb st.vm st.rows st.low st.clock st.V wq (hT.chg hq (fun h => h) (fun h => h) (fun h => h) (fun h => h)) (h.orc.chg hq (fun h => h) (fun h => h)) (h.store.chg hq (fun h => h) (fun h => h) (fun _ _ h => h)) ((hq.block _ (lt_of_block h.ck) (fun h => h)).trans h.ck) h.lo (by have := h.hi; omega) hfit hvn hvr hvw hrw hw hz').mono (fun e w' ⟨h1, h2⟩ => ⟨h1, by obtain ⟨_, _, _, _, _, _, _, _, _, hc⟩ := h2; exact hc, h2⟩))).mono ?_
      rintro e w' ⟨rfl, wq, w1, rs, q1, q2, q3, q4, ⟨V', rows1, rows', low', ha, hs1, ho1, htr, hck1, _⟩, q5⟩
      have hzq : w.heap.size ≤ wq.heap.size := q1.size
      have hcw : Chg (fun b => b = st.cb ∨ b = st.ob ∨ b = st.rb ∨ b = st.vm ∨ b ∈ vBlocks st.V) w w' := ((q1.any _).trans q4).andThen q5 (fun i hi (e : i = rs) => by omega)
      have lf : ∀ b ∈ st.fix, b ≠ rs := fun b hb e => by have := h.there b (PSt.mem_fix hb); omega
      have hvb : ∀ b ∈ vBlocks V', b ∈ vBlocks st.V ∨ wq.heap.size ≤ b := ha.vb
      have hs' : StoreAt w' st.sb st.vm V' := hs1.chg q5 (lf _ (by simp [PSt.fix])) (lf _ (by simp [PSt.fix])) (fun b hb e => by
        rcases hvb b hb with h1 | h1
        · have := h.there b (PSt.mem_v h1); omega
        · omega)
      have ho' : OrAt w' st.ob st.cb st.sb st.rb rows' low' := ho1.chg q5 (lf _ (by simp [PSt.fix])) (lf _ (by simp [PSt.fix]))
      have hck' : w'.heap[st.cb]? = some (.cells #[.int .i64 (st.clock + 1)] 86) := (q5.block _ (lt_of_block hck1) (lf _ (by simp [PSt.fix]))).trans hck1
      have hrel := hr.commit hrt ha htr ho'.r.nodup
      have nS : ∀ b ∈ st.fix, b ≠ st.cb → b ≠ st.ob → b ≠ st.rb → b ≠ st.vm → ¬ (b = st.cb ∨ b = st.ob ∨ b = st.rb ∨ b = st.vm ∨ b ∈ vBlocks st.V) := fun b hb e1 e2 e3 e4 hx => by
        rcases hx with e | e | e | e | e
        · exact e1 e
        · exact e2 e
        · exact e3 e
        · exact e4 e
        · exact hvf b e hb
      have np : ¬ (st.p = st.cb ∨ st.p = st.ob ∨ st.p = st.rb ∨ st.p = st.vm ∨ st.p ∈ vBlocks st.V) := nS _ (by simp [PSt.fix]) (fix_ne hfx 0 1 rfl rfl (by decide)) (fix_ne hfx 0 4 rfl rfl (by decide)) (fix_ne hfx 0 5 rfl rfl (by decide)) (fix_ne hfx 0 3 rfl rfl (by decide))
      have nq : ¬ (st.qb = st.cb ∨ st.qb = st.ob ∨ st.qb = st.rb ∨ st.qb = st.vm ∨ st.qb ∈ vBlocks st.V) := nS _ (by simp [PSt.fix]) (fix_ne hfx 6 1 rfl rfl (by decide)) (fix_ne hfx 6 4 rfl rfl (by decide)) (fix_ne hfx 6 5 rfl rfl (by decide)) (fix_ne hfx 6 3 rfl rfl (by decide))
      have nc : ¬ (st.ch = st.cb ∨ st.ch = st.ob ∨ st.ch = st.rb ∨ st.ch = st.vm ∨ st.ch ∈ vBlocks st.V) := nS _ (by simp [PSt.fix]) (fix_ne hfx 7 1 rfl rfl (by decide)) (fix_ne hfx 7 4 rfl rfl (by decide)) (fix_ne hfx 7 5 rfl rfl (by decide)) (fix_ne hfx 7 3 rfl rfl (by decide))
      have no : ¬ (st.om = st.cb ∨ st.om = st.ob ∨ st.om = st.rb ∨ st.om = st.vm ∨ st.om ∈ vBlocks st.V) := nS _ (by simp [PSt.fix]) (fix_ne hfx 8 1 rfl rfl (by decide)) (fix_ne hfx 8 4 rfl rfl (by decide)) (fix_ne hfx 8 5 rfl rfl (by decide)) (fix_ne hfx 8 3 rfl rfl (by decide))
      have hkept : Kept st { st with clock := st.clock + 1, V := V', rows := rows', low := low' } w := fun b hb => by
        rcases List.mem_append.1 hb with h1 | h1
        · exact Or.inl (PSt.mem_fix h1)
        · rcases List.mem_append.1 h1 with h2 | h2
          · rcases hvb b h2 with h3 | h3
            · exact Or.inl (PSt.mem_v h3)
            · exact Or.inr (by omega)
          · exact Or.inl (List.mem_append.2 (Or.inr (List.mem_append.2 (Or.inr h2))))
      have hapart : ({ st with clock := st.clock + 1, V := V', rows := rows', low := low' } : PSt).blocks.Nodup :=
        nodup_swap (A := st.fix) (B := st.txs.flatMap Tx.blocks) (X := vBlocks st.V) (X' := vBlocks V') (n := w.heap.size) h.apart ha.nd (fun b hb => (hvb b hb).imp id (fun h => by omega)) (fun b hb => h.there b (PSt.mem_fix hb)) (fun b hb => h.there b (List.mem_append.2 (Or.inr (List.mem_append.2 (Or.inr hb)))))
      obtain ⟨t1, t2⟩ := htr rows1.length (Nat.le_refl _) rows1 ha.rn (List.Perm.refl _)
      have hsum' : sumV V' ≤ 100 := by
        have e2 := hrel.sum hs'.vs.nodup
        have e3 := hr.sum h.store.vs.nodup
        have e4 : (commitM W P).L.length = W.L.length + P.ws.length := by simp [commitM, stampM]
        have e5 : sumV V' = (commitM W P).L.length := e2
        have := hrt.wl
        omega
      refine ⟨by rw [hrt.st, hr.clock]; rfl, st.clock + 1, V', rows', low', ⟨(hcw.block _ (lt_of_block h.pl) np).trans h.pl, hck', hs', ho', (hcw.block _ (lt_of_block h.qu) nq).trans h.qu, (hcw.block _ (lt_of_block h.chn) nc).trans h.chn, h.om.of_block (hcw.block _ h.om.lt no), fun X hX => ?_, hapart, by have := h.lo; simp only; omega, by simp only; omega, h.six, fun X hX => (h.ok X hX).up (by simp only; omega) (Nat.le_refl _), h.q3, h.qok, ?_, fun r hr' => ?_, hsum', fun p hp => ?_, ha.vn h.vn⟩, hrel, hcw.mono (fun b _ hb => hSl b hb), hkept⟩
      · refine (h.txs X hX).kept hcw (fun b hb hx => ?_)
        obtain ⟨f1, f2⟩ := htf X hX b hb
        rcases hx with e | e | e | e | e
        · exact f1 (by simp [PSt.fix, e])
        · exact f1 (by simp [PSt.fix, e])
        · exact f1 (by simp [PSt.fix, e])
        · exact f1 (by simp [PSt.fix, e])
        · exact f2 e
      · show rows'.length ≤ 6
        rw [t1.length_eq]
        exact trim_len _ _ _ (Nat.le_refl _)
      · have hm := trim_sub _ _ _ r (t1.mem_iff.1 hr')
        have hg : getA r.1 rows1 = some r.2 := getA_of_mem ha.rn hm
        rw [ha.rs r.1] at hg
        unfold rowV at hg
        cases hgw : getA r.1 T.ws with
        | some c => exact hok.keys _ (getA_mem hgw)
        | none =>
          rw [hgw] at hg
          exact h.rk _ (getA_mem hg)
      · have hs2 : (getA p.1 V').isSome = true := (getA_isSome p.1 V').2 (List.mem_map.2 ⟨p, hp, rfl⟩)
        rcases ha.vk p.1 hs2 with h1 | h1
        · obtain ⟨x, hx, e⟩ := List.mem_map.1 ((getA_isSome _ _).1 h1)
          rw [← e]; exact h.vk x hx
        · obtain ⟨x, hx, e⟩ := List.mem_map.1 ((getA_isSome _ _).1 h1)
          rw [← e]; exact hok.keys x hx
end Go.Proofs.YtkfjafndplmdkaaGreat
namespace Go.Proofs.YtkfjafndplmdkaaGreat
open Go.RowKit Go.Sort
open Go.Maps (Keyed)
/-- a step of Go's. -/
structure OpM.ok (o : OpM) : Prop where
  kind : isInt o.kind
  t : isInt o.t
  key : o.key.size ≤ maxLen
  val : o.val.size ≤ maxLen
  n : isInt o.n
def decCell (d : Dec) : List Value := [.int .i64 d.num, .int .i64 d.code, .int .i64 d.time]
def decCells (l : List Dec) : List Value := l.flatMap decCell
theorem decCells_snoc (l : List Dec) (d : Dec) : decCells (l ++ [d]) = decCells l ++ decCell d := by simp [decCells]
theorem infoDec : (Tryz.prog.info? 44).map (fun i => (i.zero, i.size, i.bytes)) = some (some (.agg #[.int .i64 0, .int .i64 0, .int .i64 0]), 3, 24) := by kernel_rfl
theorem dec_one (x : Dec) : ∀ u ∈ decCell x, u.oneCell' = true := by
  intro u hu
  simp only [decCell, List.mem_cons, List.not_mem_nil, or_false] at hu
  rcases hu with rfl | rfl | rfl <;> rfl
theorem drp_mem (n : Int) : ∀ {txs : List Tx} {X : Tx}, X ∈ txs → X.start ≠ n → X ∈ drp n txs
  | Y :: r, X, h, hn => by
    simp only [drp]
    rcases List.mem_cons.1 h with rfl | h
    · rw [if_neg hn]; exact List.mem_cons_self ..
    · split
      · exact h
      · exact List.mem_cons_of_mem _ (drp_mem n h hn)
theorem drp_ne (n : Int) : ∀ {txs : List Tx} {X : Tx}, (txs.map (·.start)).Nodup → X ∈ drp n txs → X.start ≠ n
  | Y :: r, X, hn, h => by
    simp only [List.map_cons, List.nodup_cons] at hn
    simp only [drp] at h
    by_cases e : Y.start = n
    · rw [if_pos e] at h
      exact fun e2 => hn.1 (List.mem_map.2 ⟨X, h, by rw [e2, e]⟩)
    · rw [if_neg e] at h
      rcases List.mem_cons.1 h with rfl | h
      · exact e
      · exact drp_ne n hn.2 h
/-- the first of the queue goes: at the level of Inv. -/
theorem Inv.take {w w2 : World} {st : PSt} {n : Nat} {t : Int} {tb : Nat} {q' : List (Int × Nat)} {T : Tx} (h : Inv w st n) (hq : st.q = (t, tb) :: q') (hT : T ∈ st.txs) (hTt : T.start = t) (hqn : (st.q.map Prod.fst).Nodup)
    (hc : Chg (fun b => b = st.ch ∨ b = st.om) w w2) (hch : w2.heap[st.ch]? = some (.chan 3 (q'.map (fun e => mkP e.2)).toArray false st.qs (st.qr + 1) false)) (hom : mapAt w2 Tryz.prog 3 mkI mkP st.om (delA t (numsOf st.txs))) :
    Inv w2 { st with q := q', qr := st.qr + 1, txs := drp t st.txs } n ∧ TxAt w2 st.sb T ∧ (∀ b ∈ T.blocks, b ∉ ({ st with q := q', qr := st.qr + 1, txs := drp t st.txs } : PSt).blocks) ∧ (∀ b ∈ ({ st with q := q', qr := st.qr + 1, txs := drp t st.txs } : PSt).blocks, b ∈ st.blocks) := by
  obtain ⟨hfx, hvf, htf, hvn, hTn, hD⟩ := h.lie
  have hsub := flat_sub Tx.blocks (drp_sub t st.txs)
  have hbs : ({ st with q := q', qr := st.qr + 1, txs := drp t st.txs } : PSt).blocks.Sublist st.blocks := (List.Sublist.refl _).append ((List.Sublist.refl _).append hsub)
  have nS : ∀ (i : Nat) (b : Nat), st.fix[i]? = some b → i ≠ 7 → i ≠ 8 → ¬ (b = st.ch ∨ b = st.om) := fun i b hi h7 h8 hx => hx.elim (fix_ne hfx i 7 hi rfl h7) (fix_ne hfx i 8 hi rfl h8)
  have nV : ∀ b ∈ vBlocks st.V, ¬ (b = st.ch ∨ b = st.om) := fun b hb hx => hvf b hb (by rcases hx with e | e <;> simp [PSt.fix, e])
  have nT : ∀ X ∈ st.txs, ∀ b ∈ X.blocks, ¬ (b = st.ch ∨ b = st.om) := fun X hX b hb hx => (htf X hX b hb).1 (by rcases hx with e | e <;> simp [PSt.fix, e])
  have hS := h.starts
  have hql : st.q.length = q'.length + 1 := by rw [hq]; simp
  refine ⟨⟨(hc.block _ (lt_of_block h.pl) (nS 0 _ rfl (by decide) (by decide))).trans h.pl, (hc.block _ (lt_of_block h.ck) (nS 1 _ rfl (by decide) (by decide))).trans h.ck, h.store.chg hc (nS 2 _ rfl (by decide) (by decide)) (nS 3 _ rfl (by decide) (by decide)) nV, h.orc.chg hc (nS 4 _ rfl (by decide) (by decide)) (nS 5 _ rfl (by decide) (by decide)), (hc.block _ (lt_of_block h.qu) (nS 6 _ rfl (by decide) (by decide))).trans h.qu, hch, ?_, fun X hX => (h.txs X ((drp_sub t st.txs).subset hX)).kept hc (nT X ((drp_sub t st.txs).subset hX)), hbs.nodup h.apart, h.lo, ?_, Nat.le_trans (drp_sub t st.txs).length_le h.six, fun X hX => h.ok X ((drp_sub t st.txs).subset hX), ?_, fun e he => ?_, h.r6, h.rk, h.vsum, h.vk, h.vn⟩, (h.txs T hT).kept hc (nT T hT), fun b hb hm => ?_, fun b hb => hbs.subset hb⟩
  · show mapAt w2 Tryz.prog 3 mkI mkP st.om (numsOf (drp t st.txs))
    rw [drp_nums]
    exact hom
  · have := h.hi; simp only; omega
  · have := h.q3; simp only; omega
  · obtain ⟨X, hX, e1, e2⟩ := h.qok e (by rw [hq]; exact List.mem_cons_of_mem _ he)
    refine ⟨X, drp_mem t hX (fun e3 => ?_), e1, e2⟩
    rw [hq] at hqn
    have := (List.nodup_cons.1 (by simpa using hqn : (t :: q'.map Prod.fst).Nodup)).1
    exact this (List.mem_map.2 ⟨e, he, by rw [← e1, e3]⟩)
  · rcases List.mem_append.1 hm with h1 | h1
    · exact (htf T hT b hb).1 h1
    · rcases List.mem_append.1 h1 with h2 | h2
      · exact (htf T hT b hb).2 h2
      · obtain ⟨X, hX, hbX⟩ := List.mem_flatMap.1 h2
        have hX' := (drp_sub t st.txs).subset hX
        exact hD T hT X hX' (fun e => drp_ne t hS hX (by rw [← e, hTt])) b hb hbX
theorem Rel.take {st : PSt} {W : PW} {t : Int} {tb qr : Nat} {q' : List (Int × Nat)} (h : Rel st W) (hq : st.q = (t, tb) :: q') : W.q = t :: q'.map Prod.fst ∧ Rel { st with q := q', qr := qr, txs := drp t st.txs } (outM W t (q'.map Prod.fst)) := by
  have hWq : W.q = t :: q'.map Prod.fst := by rw [h.q, hq]; rfl
  refine ⟨hWq, h.clock, h.low, ?_, rfl, h.rows, h.rn, h.V, h.Lg, (List.filter_sublist.map _).nodup h.nd, fun P hP => h.le P (List.mem_filter.1 hP).1, ?_⟩
  · have h1 := h.txs.drop (R := RelQ W.q) RelQ.start (n := t) h.nd
    refine h1.imp (fun T _ P hP hr => ⟨hr.1, ?_⟩)
    have hne : P.start ≠ t := by have := (List.mem_filter.1 hP).2; simpa using this
    rw [hr.2, hWq]
    exact decide_eq_decide.2 (by simp [hne, outM])
  · have := h.qn
    rw [hWq] at this
    exact (List.nodup_cons.1 this).2
theorem flushM_nil (m : Nat) (W : PW) (h : W.q = []) : flushM m W = ([], W) := by
  cases m with
  | zero => rfl
  | succ m => simp [flushM, h]
theorem flushM_cons (m : Nat) (W : PW) {t : Int} {q : List Int} {P : PT} (h : W.q = t :: q) (hf : W.ts.find? (fun T => T.start == t) = some P) : flushM (m + 1) W = ((decideM (outM W t q) P).1 :: (flushM m (decideM (outM W t q) P).2).1, (flushM m (decideM (outM W t q) P).2).2) := by
  rw [flushM]
  simp only [h, hf]
/-- the flush under way. -/
structure Fl (w2 : World) (st : PSt) (W : PW) (n N j : Nat) (v : Value) (wr : World) : Prop where
  it : ∃ (st' : PSt) (W' : PW) (ds : List Dec), Inv wr st' n ∧ Rel st' W' ∧ wr.ownsRow w2.heap.size 44 3 v ds.length (decCells ds) ∧ ds.length ≤ j ∧ flushM N W = (ds ++ (flushM (N - j) W').1, (flushM (N - j) W').2) ∧ Chg (fun b => b ∈ st.blocks) w2 wr ∧ Kept st st' w2 ∧ st'.fix = st.fix ∧ (∀ g, v.ownBlock = some g → g ∉ st'.blocks)
end Go.Proofs.YtkfjafndplmdkaaGreat
