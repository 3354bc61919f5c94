import Derived.Test.YtechhojiifcpjaaPB
namespace Go.Proofs.Ytechhojiifcpjaa
open Go.RowKit Go.Sort
open Go.Maps (Keyed)
structure PSt where
  p : Nat
  cb : Nat
  sb : Nat
  vm : Nat
  ob : Nat
  rb : Nat
  qb : Nat
  ch : Nat
  om : Nat
  clock : Int
  low : Int
  V : List (ByteArray × VEnt)
  rows : List (ByteArray × Int)
  q : List (Int × Nat)
  qs : Nat
  qr : Nat
  txs : List Tx
def Tx.blocks (T : Tx) : List Nat := [T.tb, T.wb, T.kb, T.pb]
def PSt.fix (st : PSt) : List Nat := [st.p, st.cb, st.sb, st.vm, st.ob, st.rb, st.qb, st.ch, st.om]
def PSt.blocks (st : PSt) : List Nat := st.fix ++ (vBlocks st.V ++ st.txs.flatMap Tx.blocks)
structure TxOk (clock : Int) (T : Tx) (n : Nat) : Prop where
  lo : 1 ≤ T.start
  hi : T.start ≤ clock
  len : T.ws.length ≤ n
  kl : T.ks.length ≤ n
  pl : T.ps.length ≤ n
  keys : ∀ q ∈ T.ws, q.1.size ≤ 8
def numsOf (txs : List Tx) : List (Int × Nat) := txs.map fun T => (T.start, T.tb)
/-- THE PLAYER, BEHIND AT MOST n STEPS. -/
structure Inv (w : World) (st : PSt) (n : Nat) : Prop where
  pl : w.heap[st.p]? = some (.cells #[.pointer (some ⟨st.cb, 0, none⟩), .pointer (some ⟨st.sb, 0, none⟩), .pointer (some ⟨st.ob, 0, none⟩), .pointer (some ⟨st.qb, 0, none⟩), .map (some st.om)] 69)
  ck : w.heap[st.cb]? = some (.cells #[.int .i64 st.clock] 60)
  store : StoreAt w st.sb st.vm st.V
  orc : OrAt w st.ob st.cb st.sb st.rb st.rows st.low
  qu : w.heap[st.qb]? = some (.cells #[.chan (some st.ch)] 79)
  chn : w.heap[st.ch]? = some (.chan 3 (st.q.map (fun e => mkP e.2)).toArray false st.qs st.qr false)
  om : mapAt w Try.prog 3 mkI mkP st.om (numsOf st.txs)
  txs : ∀ T ∈ st.txs, TxAt w st.sb T
  apart : st.blocks.Nodup
  lo : 0 ≤ st.clock
  hi : st.clock + st.q.length ≤ n
  six : st.txs.length ≤ 6
  ok : ∀ T ∈ st.txs, TxOk st.clock T n
  q3 : st.q.length ≤ 3
  qok : ∀ e ∈ st.q, ∃ T ∈ st.txs, T.start = e.1 ∧ T.tb = e.2
  r6 : st.rows.length ≤ 6
  rk : ∀ r ∈ st.rows, r.1.size ≤ 8
  vsum : sumV st.V ≤ 100
  vk : ∀ p ∈ st.V, p.1.size ≤ 8
  vn : ∀ p ∈ st.V, p.2.vs ≠ []
theorem pair_of {α : Type} {R : α → α → Prop} (hsym : ∀ a b, R a b → R b a) : ∀ {l : List α}, l.Pairwise R → ∀ {a b : α}, a ∈ l → b ∈ l → a ≠ b → R a b
  | [], _, _, _, h, _, _ => by simp at h
  | x :: r, hp, a, b, ha, hb, hne => by
    rw [List.pairwise_cons] at hp
    rcases List.mem_cons.1 ha with e1 | ha'
    · rcases List.mem_cons.1 hb with e2 | hb'
      · exact absurd (e1.trans e2.symm) hne
      · rw [e1]; exact hp.1 b hb'
    · rcases List.mem_cons.1 hb with e2 | hb'
      · rw [e2]; exact hsym _ _ (hp.1 a ha')
      · exact pair_of hsym hp.2 ha' hb' hne
def repl (T' : Tx) : List Tx → List Tx
  | [] => []
  | X :: r => if X.start = T'.start then T' :: r else X :: repl T' r
theorem repl_mem {T' : Tx} : ∀ {txs : List Tx} {X : Tx}, (txs.map (·.start)).Nodup → X ∈ repl T' txs → X = T' ∨ (X ∈ txs ∧ X.start ≠ T'.start)
  | [], _, _, h => by simp [repl] at h
  | Y :: r, X, hn, h => by
    simp only [List.map_cons, List.nodup_cons] at hn
    by_cases hy : Y.start = T'.start
    · simp only [repl] at h
      rw [if_pos hy] at h
      rcases List.mem_cons.1 h with h | h
      · exact Or.inl h
      · exact Or.inr ⟨by simp [h], fun e => hn.1 (List.mem_map.2 ⟨X, h, by rw [e, hy]⟩)⟩
    · simp only [repl] at h
      rw [if_neg hy] at h
      rcases List.mem_cons.1 h with h | h
      · exact Or.inr ⟨by simp [h], by rw [h]; exact hy⟩
      · rcases repl_mem hn.2 h with h | ⟨h, h2⟩
        · exact Or.inl h
        · exact Or.inr ⟨by simp [h], h2⟩
theorem repl_len (T' : Tx) : ∀ txs : List Tx, (repl T' txs).length = txs.length
  | [] => rfl
  | X :: r => by
    simp only [repl]
    split
    · simp
    · simp [repl_len T' r]
theorem repl_same {T T' : Tx} (hs : T'.start = T.start) {β : Type} (f : Tx → β) (hf : f T' = f T) : ∀ txs : List Tx, (txs.map (·.start)).Nodup → T ∈ txs → (repl T' txs).map f = txs.map f
  | [], _, h => by simp at h
  | X :: r, hn, h => by
    simp only [List.map_cons, List.nodup_cons] at hn
    by_cases hx : X.start = T'.start
    · have hxT : X = T := by
        rcases List.mem_cons.1 h with h | h
        · exact h.symm
        · exact absurd (List.mem_map.2 ⟨T, h, by rw [hx, hs]⟩) hn.1
      subst hxT
      simp only [repl]
      rw [if_pos hx]
      simp [hf]
    · have hT : T ∈ r := by
        rcases List.mem_cons.1 h with h | h
        · exact absurd (by rw [← h, hs]) hx
        · exact h
      simp only [repl]
      rw [if_neg hx, List.map_cons, List.map_cons, repl_same hs f hf r hn.2 hT]
def drp (n : Int) : List Tx → List Tx
  | [] => []
  | X :: r => if X.start = n then r else X :: drp n r
theorem drp_nums (n : Int) : ∀ txs : List Tx, numsOf (drp n txs) = delA n (numsOf txs)
  | [] => rfl
  | X :: r => by
    by_cases h : X.start = n
    · simp only [drp, numsOf, List.map_cons, delA]
      rw [if_pos h, if_pos h]
    · have ih := drp_nums n r
      simp only [drp, numsOf, List.map_cons, delA] at ih ⊢
      rw [if_neg h, if_neg h, ← ih]
      rfl
theorem drp_sub (n : Int) : ∀ txs : List Tx, (drp n txs).Sublist txs
  | [] => by simp [drp]
  | X :: r => by
    simp only [drp]
    split
    · exact List.sublist_cons_self _ _
    · exact (drp_sub n r).cons_cons _
theorem flat_sub {α β : Type} (f : α → List β) : ∀ {l l' : List α}, l.Sublist l' → (l.flatMap f).Sublist (l'.flatMap f) := by
  intro l l' h
  induction h with
  | slnil => exact List.Sublist.refl _
  | cons a _ ih => rw [List.flatMap_cons]; exact ih.trans (List.sublist_append_right _ _)
  | cons_cons a _ ih => rw [List.flatMap_cons, List.flatMap_cons]; exact (List.Sublist.refl _).append ih
theorem TxAt.kept {w w' : World} {sb : Nat} {T : Tx} {S : Nat → Prop} (h : TxAt w sb T) (hc : Chg S w w') (hs : ∀ b ∈ T.blocks, ¬ S b) : TxAt w' sb T :=
  h.chg hc (hs _ (by simp [Tx.blocks])) (hs _ (by simp [Tx.blocks])) (hs _ (by simp [Tx.blocks])) (hs _ (by simp [Tx.blocks]))
theorem TxOk.up {c c' : Int} {T : Tx} {n n' : Nat} (h : TxOk c T n) (hc : c ≤ c') (hn : n ≤ n') : TxOk c' T n' := ⟨h.lo, by have := h.hi; omega, by have := h.len; omega, by have := h.kl; omega, by have := h.pl; omega, h.keys⟩
theorem Inv.starts {w : World} {st : PSt} {n : Nat} (h : Inv w st n) : (st.txs.map (·.start)).Nodup := by
  have := h.om.nodup
  simpa [numsOf, List.map_map, Function.comp_def] using this
/-- WHAT 'apart' GIVES. -/
theorem Inv.lie {w : World} {st : PSt} {n : Nat} (h : Inv w st n) : st.fix.Nodup ∧ (∀ b ∈ vBlocks st.V, b ∉ st.fix) ∧ (∀ T ∈ st.txs, ∀ b ∈ T.blocks, b ∉ st.fix ∧ b ∉ vBlocks st.V) ∧ (vBlocks st.V).Nodup ∧ (∀ T ∈ st.txs, T.blocks.Nodup) ∧ (∀ X ∈ st.txs, ∀ T ∈ st.txs, X.start ≠ T.start → ∀ b ∈ X.blocks, b ∉ T.blocks) := by
  obtain ⟨n1, n2, n3⟩ := List.nodup_append.1 h.apart
  obtain ⟨m1, m2, m3⟩ := List.nodup_append.1 n2
  have hp := List.pairwise_flatMap.1 m2
  refine ⟨n1, fun b hb hf => n3 b hf b (List.mem_append.2 (Or.inl hb)) rfl, fun T hT b hb => ?_, m1, fun T hT => hp.1 T hT, fun X hX T hT hne b hb hb' => ?_⟩
  · have hm : b ∈ st.txs.flatMap Tx.blocks := List.mem_flatMap.2 ⟨T, hT, hb⟩
    exact ⟨fun hf => n3 b hf b (List.mem_append.2 (Or.inr hm)) rfl, fun hv => m3 b hv b hm rfl⟩
  · exact pair_of (R := fun a₁ a₂ => ∀ x ∈ Tx.blocks a₁, ∀ y ∈ Tx.blocks a₂, x ≠ y) (fun a b hr x hx y hy e => hr y hy x hx e.symm) hp.2 hX hT (fun e => hne (by rw [e])) b hb b hb' rfl
theorem PSt.mem_fix {st : PSt} {b : Nat} (h : b ∈ st.fix) : b ∈ st.blocks := List.mem_append.2 (Or.inl h)
theorem PSt.mem_v {st : PSt} {b : Nat} (h : b ∈ vBlocks st.V) : b ∈ st.blocks := List.mem_append.2 (Or.inr (List.mem_append.2 (Or.inl h)))
theorem PSt.mem_tx {st : PSt} {T : Tx} (hT : T ∈ st.txs) {b : Nat} (hb : b ∈ T.blocks) : b ∈ st.blocks := List.mem_append.2 (Or.inr (List.mem_append.2 (Or.inr (List.mem_flatMap.2 ⟨T, hT, hb⟩))))
theorem TxAt.there {w : World} {sb : Nat} {T : Tx} (h : TxAt w sb T) : ∀ b ∈ T.blocks, b < w.heap.size := by
  intro b hb
  simp only [Tx.blocks, List.mem_cons, List.not_mem_nil, or_false] at hb
  rcases hb with rfl | rfl | rfl | rfl
  · exact lt_of_block h.tx
  · exact h.wm.lt
  · exact h.km.lt
  · exact h.pm.lt
/-- Every block of the player's is there. -/
theorem Inv.there {w : World} {st : PSt} {n : Nat} (h : Inv w st n) : ∀ b ∈ st.blocks, b < w.heap.size := by
  intro b hb
  unfold PSt.blocks PSt.fix at hb
  rcases List.mem_append.1 hb with hb | hb
  · simp only [List.mem_cons, List.not_mem_nil, or_false] at hb
    rcases hb with rfl | rfl | rfl | rfl | rfl | rfl | rfl | rfl | rfl
    · exact lt_of_block h.pl
    · exact lt_of_block h.ck
    · exact lt_of_block h.store.st
    · exact h.store.vs.lt
    · exact lt_of_block h.orc.o
    · exact h.orc.r.lt
    · exact lt_of_block h.qu
    · exact lt_of_block h.chn
    · exact h.om.lt
  · rcases List.mem_append.1 hb with hb | hb
    · exact h.store.lts b hb
    · obtain ⟨T, hT, hb⟩ := List.mem_flatMap.1 hb
      exact (h.txs T hT).there b hb
theorem Inv.chg {w w' : World} {st : PSt} {n n' : Nat} {S : Nat → Prop} (h : Inv w st n) (hc : Chg S w w') (hs : ∀ b ∈ st.blocks, ¬ S b) (hn : n ≤ n') : Inv w' st n' := by
  have hf : ∀ b ∈ st.fix, ¬ S b := fun b hb => hs b (PSt.mem_fix hb)
  refine ⟨(hc.block _ (lt_of_block h.pl) (hf _ (by simp [PSt.fix]))).trans h.pl, (hc.block _ (lt_of_block h.ck) (hf _ (by simp [PSt.fix]))).trans h.ck, h.store.chg hc (hf _ (by simp [PSt.fix])) (hf _ (by simp [PSt.fix])) (fun b hb => hs b (PSt.mem_v hb)), h.orc.chg hc (hf _ (by simp [PSt.fix])) (hf _ (by simp [PSt.fix])),
    (hc.block _ (lt_of_block h.qu) (hf _ (by simp [PSt.fix]))).trans h.qu, (hc.block _ (lt_of_block h.chn) (hf _ (by simp [PSt.fix]))).trans h.chn, h.om.of_block (hc.block _ h.om.lt (hf _ (by simp [PSt.fix]))), fun T hT => (h.txs T hT).kept hc (fun b hb => hs b (PSt.mem_tx hT hb)), h.apart, h.lo, by have := h.hi; omega, h.six, fun T hT => (h.ok T hT).up (by omega) hn, h.q3, h.qok, h.r6, h.rk, h.vsum, h.vk, h.vn⟩
/-- A transaction has read or written: nothing but its own sets has turned. -/
theorem Inv.upd {w w' : World} {st : PSt} {n : Nat} {T T' : Tx} {S : Nat → Prop} (h : Inv w st n) (hT : T ∈ st.txs) (hb : T'.blocks = T.blocks) (hst : T'.start = T.start) (htb : T'.tb = T.tb) (hT' : TxAt w' st.sb T') (hc : Chg S w w') (hs : ∀ b, S b → b ∈ T.blocks) (hok : TxOk st.clock T' (n + 1)) :
    Inv w' { st with txs := repl T' st.txs } (n + 1) ∧ ({ st with txs := repl T' st.txs } : PSt).blocks = st.blocks := by
  obtain ⟨_, _, hL, _, _, hD⟩ := h.lie
  have hS := h.starts
  have fl : (repl T' st.txs).flatMap Tx.blocks = st.txs.flatMap Tx.blocks := by
    rw [List.flatMap_def, List.flatMap_def, repl_same hst Tx.blocks hb _ hS hT]
  have hbl : ({ st with txs := repl T' st.txs } : PSt).blocks = st.blocks := by
    unfold PSt.blocks
    simp only [fl]
    rfl
  have nS : ∀ b ∈ st.fix, ¬ S b := fun b hb' hSb => (hL T hT b (hs b hSb)).1 hb'
  have nV : ∀ b ∈ vBlocks st.V, ¬ S b := fun b hb' hSb => (hL T hT b (hs b hSb)).2 hb'
  refine ⟨⟨(hc.block _ (lt_of_block h.pl) (nS _ (by simp [PSt.fix]))).trans h.pl, (hc.block _ (lt_of_block h.ck) (nS _ (by simp [PSt.fix]))).trans h.ck, h.store.chg hc (nS _ (by simp [PSt.fix])) (nS _ (by simp [PSt.fix])) nV, h.orc.chg hc (nS _ (by simp [PSt.fix])) (nS _ (by simp [PSt.fix])),
    (hc.block _ (lt_of_block h.qu) (nS _ (by simp [PSt.fix]))).trans h.qu, (hc.block _ (lt_of_block h.chn) (nS _ (by simp [PSt.fix]))).trans h.chn, ?_, fun X hX => ?_, hbl ▸ h.apart, h.lo, by have := h.hi; simp only; omega, by rw [repl_len]; exact h.six, fun X hX => ?_, h.q3, fun e he => ?_, h.r6, h.rk, h.vsum, h.vk, h.vn⟩, hbl⟩
  · have e1 : numsOf (repl T' st.txs) = numsOf st.txs := repl_same hst (fun T => (T.start, T.tb)) (by rw [hst, htb]) _ hS hT
    show mapAt w' Try.prog 3 mkI mkP st.om (numsOf (repl T' st.txs))
    rw [e1]
    exact h.om.of_block (hc.block _ h.om.lt (nS _ (by simp [PSt.fix])))
  · rcases repl_mem hS hX with rfl | ⟨hX, hne⟩
    · exact hT'
    · exact (h.txs X hX).kept hc (fun b hb' hSb => hD X hX T hT (by rw [← hst]; exact hne) b hb' (hs b hSb))
  · rcases repl_mem hS hX with rfl | ⟨hX, hne⟩
    · exact hok
    · exact (h.ok X hX).up (by simp only; omega) (by omega)
  · obtain ⟨X, hX, e1, e2⟩ := h.qok e he
    have hm : (e.1, e.2) ∈ (repl T' st.txs).map (fun T => (T.start, T.tb)) := by
      rw [repl_same hst (fun T => (T.start, T.tb)) (by rw [hst, htb]) _ hS hT]
      exact List.mem_map.2 ⟨X, hX, by rw [e1, e2]⟩
    obtain ⟨Y, hY, hy⟩ := List.mem_map.1 hm
    exact ⟨Y, hY, congrArg Prod.fst hy, congrArg Prod.snd hy⟩
end Go.Proofs.Ytechhojiifcpjaa
