import Derived.Test.YtcpjocgpahjcjaaTC
namespace Go.Proofs.Ytcpjocgpahjcjaa
open Go.RowKit Go.Sort
/-! ### the model -/
structure MTx where
  start : Int
  ws : List (ByteArray × (Bool × ByteArray))
structure MSt where
  clock : Int
  txs : List MTx
structure AnsM where
  code : Int
  number : Int
  found : Bool
  value : ByteArray
  items : List (ByteArray × ByteArray)
abbrev okA : AnsM := ⟨0, 0, false, ⟨#[]⟩, []⟩
abbrev errA (c : Int) : AnsM := ⟨c, 0, false, ⟨#[]⟩, []⟩
def seenM (ws : List (ByteArray × (Bool × ByteArray))) (key : ByteArray) : Bool × ByteArray := (getA key ws).getD noCell
def itemM (ws : List (ByteArray × (Bool × ByteArray))) (k : List UInt8) : Option (ByteArray × ByteArray) := if (seenM ws ⟨k.toArray⟩).1 then some (⟨k.toArray⟩, (seenM ws ⟨k.toArray⟩).2) else none
def itemsM (ws : List (ByteArray × (Bool × ByteArray))) (pre : ByteArray) : List (ByteArray × ByteArray) := (sortedKeys pre ws).filterMap (itemM ws)
def findM (n : Int) : List MTx → Option MTx
  | [] => none
  | T :: r => if T.start = n then some T else findM n r
def replM (n : Int) (ws : List (ByteArray × (Bool × ByteArray))) : List MTx → List MTx
  | [] => []
  | T :: r => if T.start = n then ⟨n, ws⟩ :: r else T :: replM n ws r
def dropM (n : Int) : List MTx → List MTx
  | [] => []
  | T :: r => if T.start = n then r else T :: dropM n r
def badKey (k : ByteArray) : Bool := decide (k.size < 1 ∨ 8 < k.size)
/-- A step of a transaction. -/
def ofM (s : MSt) (o : OpM) (T : MTx) : AnsM × MSt :=
  if o.kind = 2 then (if badKey o.key then (errA 4, s) else (⟨0, 0, (seenM T.ws o.key).1, (seenM T.ws o.key).2, []⟩, s))
  else if o.kind = 3 then (⟨0, 0, false, ⟨#[]⟩, itemsM T.ws o.key⟩, s)
  else if o.kind = 4 then (if badKey o.key then (errA 4, s) else if 20 < o.val.size then (errA 5, s) else (okA, { s with txs := replM o.t (putA o.key (true, o.val) T.ws) s.txs }))
  else if o.kind = 5 then (if badKey o.key then (errA 4, s) else (okA, { s with txs := replM o.t (putA o.key noCell T.ws) s.txs }))
  else (okA, { s with txs := dropM o.t s.txs })
def stepM (s : MSt) (o : OpM) : AnsM × MSt :=
  if o.kind = 1 then (if 6 ≤ s.txs.length then (errA 6, s) else (⟨0, s.clock + 1, false, ⟨#[]⟩, []⟩, ⟨s.clock + 1, s.txs ++ [⟨s.clock + 1, []⟩]⟩))
  else if 2 ≤ o.kind ∧ o.kind ≤ 6 then (match findM o.t s.txs with | none => (errA 2, s) | some T => ofM s o T)
  else (errA 1, s)
/-! ### the world's player is the model's -/
def absT (T : Tx) : MTx := ⟨T.start, T.ws⟩
def PSt.abs (st : PSt) : MSt := ⟨st.clock, st.txs.map absT⟩
def numsOf (txs : List Tx) : List (Int × Nat) := txs.map fun T => (T.start, T.tb)
theorem find_spec (n : Int) : ∀ txs : List Tx, (findM n (txs.map absT) = none ∧ getA n (numsOf txs) = none) ∨ ∃ T, T ∈ txs ∧ T.start = n ∧ findM n (txs.map absT) = some (absT T) ∧ getA n (numsOf txs) = some T.tb
  | [] => Or.inl ⟨rfl, rfl⟩
  | X :: r => by
    by_cases h : X.start = n
    · exact Or.inr ⟨X, by simp, h, by simp [findM, absT, h], by simp [numsOf, getA, h]⟩
    · have h' : (absT X).start ≠ n := h
      rcases find_spec n r with ⟨h1, h2⟩ | ⟨T, h1, h2, h3, h4⟩
      · refine Or.inl ⟨?_, ?_⟩
        · simp only [List.map_cons, findM]; rw [if_neg h']; exact h1
        · simp only [numsOf, List.map_cons, getA]; rw [if_neg h]; exact h2
      · refine Or.inr ⟨T, by simp [h1], h2, ?_, ?_⟩
        · simp only [List.map_cons, findM]; rw [if_neg h']; exact h3
        · simp only [numsOf, List.map_cons, getA]; rw [if_neg h]; exact h4
def repl (T' : Tx) : List Tx → List Tx
  | [] => []
  | X :: r => if X.start = T'.start then T' :: r else X :: repl T' r
theorem repl_abs (T' : Tx) : ∀ txs : List Tx, (repl T' txs).map absT = replM T'.start T'.ws (txs.map absT)
  | [] => rfl
  | X :: r => by
    by_cases h : X.start = T'.start
    · have h' : (absT X).start = T'.start := h
      simp only [repl, List.map_cons, replM]
      rw [if_pos h, if_pos h']
      rfl
    · have h' : (absT X).start ≠ T'.start := h
      simp only [repl, List.map_cons, replM]
      rw [if_neg h, if_neg h', ← repl_abs T' r]
      rfl
theorem repl_same {T T' : Tx} (hs : T'.start = T.start) {β : Type} (f : Tx → β) (hf : f T' = f T) : ∀ txs : List Tx, (txs.map (·.start)).Nodup → T ∈ txs → (repl T' txs).map f = txs.map f
  | [], _, h => by simp at h
  | X :: r, hn, h => by
    simp only [List.map_cons, List.nodup_cons] at hn
    by_cases hx : X.start = T'.start
    · have hxT : X = T := by
        rcases List.mem_cons.1 h with h | h
        · exact h.symm
        · exact absurd (List.mem_map.2 ⟨T, h, by rw [hx, hs]⟩) hn.1
      subst hxT
      simp only [repl]
      rw [if_pos hx]
      simp [hf]
    · have hT : T ∈ r := by
        rcases List.mem_cons.1 h with h | h
        · exact absurd (by rw [← h, hs]) hx
        · exact h
      simp only [repl]
      rw [if_neg hx, List.map_cons, List.map_cons, repl_same hs f hf r hn.2 hT]
theorem repl_mem {T' : Tx} : ∀ {txs : List Tx} {X : Tx}, (txs.map (·.start)).Nodup → X ∈ repl T' txs → X = T' ∨ (X ∈ txs ∧ X.start ≠ T'.start)
  | [], _, _, h => by simp [repl] at h
  | Y :: r, X, hn, h => by
    simp only [List.map_cons, List.nodup_cons] at hn
    by_cases hy : Y.start = T'.start
    · simp only [repl] at h
      rw [if_pos hy] at h
      rcases List.mem_cons.1 h with h | h
      · exact Or.inl h
      · exact Or.inr ⟨by simp [h], fun e => hn.1 (List.mem_map.2 ⟨X, h, by rw [e, hy]⟩)⟩
    · simp only [repl] at h
      rw [if_neg hy] at h
      rcases List.mem_cons.1 h with h | h
      · exact Or.inr ⟨by simp [h], by rw [h]; exact hy⟩
      · rcases repl_mem hn.2 h with h | ⟨h, h2⟩
        · exact Or.inl h
        · exact Or.inr ⟨by simp [h], h2⟩
theorem repl_len (T' : Tx) : ∀ txs : List Tx, (repl T' txs).length = txs.length
  | [] => rfl
  | X :: r => by
    simp only [repl]
    split
    · simp
    · simp [repl_len T' r]
theorem pair_of {α : Type} {R : α → α → Prop} (hsym : ∀ a b, R a b → R b a) : ∀ {l : List α}, l.Pairwise R → ∀ {a b : α}, a ∈ l → b ∈ l → a ≠ b → R a b
  | [], _, _, _, h, _, _ => by simp at h
  | x :: r, hp, a, b, ha, hb, hne => by
    rw [List.pairwise_cons] at hp
    rcases List.mem_cons.1 ha with e1 | ha'
    · rcases List.mem_cons.1 hb with e2 | hb'
      · exact absurd (e1.trans e2.symm) hne
      · rw [e1]; exact hp.1 b hb'
    · rcases List.mem_cons.1 hb with e2 | hb'
      · rw [e2]; exact hsym _ _ (hp.1 a ha')
      · exact pair_of hsym hp.2 ha' hb' hne
/-- WHAT 'apart' GIVES. -/
theorem Inv.lie {w : World} {st : PSt} {n : Nat} (h : Inv w st n) : (st.p ≠ st.sb ∧ st.p ≠ st.vm ∧ st.p ≠ st.om ∧ st.sb ≠ st.vm ∧ st.sb ≠ st.om ∧ st.vm ≠ st.om) ∧
    (∀ T ∈ st.txs, ∀ b ∈ T.blocks, b ≠ st.p ∧ b ≠ st.sb ∧ b ≠ st.vm ∧ b ≠ st.om) ∧ (∀ T ∈ st.txs, T.blocks.Nodup) ∧ (∀ X ∈ st.txs, ∀ T ∈ st.txs, X.start ≠ T.start → ∀ b ∈ X.blocks, b ∉ T.blocks) := by
  have ha := h.apart
  unfold PSt.blocks at ha
  simp only [List.nodup_cons, List.mem_cons, not_or] at ha
  obtain ⟨⟨a1, a2, a3, a4⟩, ⟨b1, b2, b3⟩, ⟨c1, c2⟩, d1, e1⟩ := ha
  have hp := List.pairwise_flatMap.1 e1
  refine ⟨⟨a1, a2, a3, b1, b2, c1⟩, fun T hT b hb => ?_, fun T hT => hp.1 T hT, fun X hX T hT hne b hb hb' => ?_⟩
  · have hm : b ∈ st.txs.flatMap Tx.blocks := List.mem_flatMap.2 ⟨T, hT, hb⟩
    exact ⟨fun e => a4 (e ▸ hm), fun e => b3 (e ▸ hm), fun e => c2 (e ▸ hm), fun e => d1 (e ▸ hm)⟩
  · exact pair_of (R := fun a₁ a₂ => ∀ x ∈ Tx.blocks a₁, ∀ y ∈ Tx.blocks a₂, x ≠ y) (fun a b hr x hx y hy e => hr y hy x hx e.symm) hp.2 hX hT (fun e => hne (by rw [e])) b hb b hb' rfl
theorem Inv.starts {w : World} {st : PSt} {n : Nat} (h : Inv w st n) : (st.txs.map (·.start)).Nodup := by
  obtain ⟨_, _, _, hE⟩ := h.om
  have := hE.nodup
  simpa [List.map_map, Function.comp_def] using this
/-- Every block of the player's is there. -/
theorem Inv.there {w : World} {st : PSt} {n : Nat} (h : Inv w st n) : ∀ b ∈ st.blocks, b < w.heap.size := by
  intro b hb
  unfold PSt.blocks at hb
  simp only [List.mem_cons, List.mem_flatMap] at hb
  rcases hb with rfl | rfl | rfl | rfl | ⟨T, hT, hb⟩
  · exact lt_of_block h.pl
  · exact lt_of_block h.store.st
  · exact lt_of_block h.store.vs
  · exact h.om.lt
  · have hx := h.txs T hT
    simp only [Tx.blocks, List.mem_cons, List.not_mem_nil, or_false] at hb
    rcases hb with rfl | rfl | rfl | rfl
    · exact lt_of_block hx.tx
    · exact hx.wm.lt
    · exact hx.km.lt
    · exact hx.pm.lt
theorem TxAt.kept {w w' : World} {sb : Nat} {T : Tx} {S : Nat → Prop} (h : TxAt w sb T) (hc : Chg S w w') (hs : ∀ b ∈ T.blocks, ¬ S b) : TxAt w' sb T :=
  h.chg hc (hs _ (by simp [Tx.blocks])) (hs _ (by simp [Tx.blocks])) (hs _ (by simp [Tx.blocks])) (hs _ (by simp [Tx.blocks]))
theorem TxOk.up {c c' : Int} {T : Tx} {n n' : Nat} (h : TxOk c T n) (hc : c ≤ c') (hn : n ≤ n') : TxOk c' T n' := ⟨h.lo, by have := h.hi; omega, by have := h.len; omega, h.keys⟩
theorem Inv.chg {w w' : World} {st : PSt} {n n' : Nat} {S : Nat → Prop} (h : Inv w st n) (hc : Chg S w w') (hs : ∀ b ∈ st.blocks, ¬ S b) (hn : n ≤ n') : Inv w' st n' := by
  have mp : st.p ∈ st.blocks := by simp [PSt.blocks]
  have ms : st.sb ∈ st.blocks := by simp [PSt.blocks]
  have mv : st.vm ∈ st.blocks := by simp [PSt.blocks]
  have mo : st.om ∈ st.blocks := by simp [PSt.blocks]
  exact ⟨(hc.block _ (lt_of_block h.pl) (hs _ mp)).trans h.pl, h.store.chg hc (hs _ ms) (hs _ mv), h.om.of_block (hc.block _ h.om.lt (hs _ mo)),
    fun T hT => (h.txs T hT).kept hc (fun b hb => hs b (by unfold PSt.blocks; simp only [List.mem_cons, List.mem_flatMap]; exact Or.inr (Or.inr (Or.inr (Or.inr ⟨T, hT, hb⟩))))), h.apart, h.lo, by have := h.hi; omega, h.six, fun T hT => (h.ok T hT).up (by omega) hn⟩
theorem PSt.mem_tx {st : PSt} {T : Tx} (hT : T ∈ st.txs) {b : Nat} (hb : b ∈ T.blocks) : b ∈ st.blocks := by
  unfold PSt.blocks
  simp only [List.mem_cons, List.mem_flatMap]
  exact Or.inr (Or.inr (Or.inr (Or.inr ⟨T, hT, hb⟩)))
/-- A transaction has read or written: nothing but its own sets has turned. -/
theorem Inv.upd {w w' : World} {st : PSt} {n : Nat} {T T' : Tx} {S : Nat → Prop} (h : Inv w st n) (hT : T ∈ st.txs) (hb : T'.blocks = T.blocks) (hst : T'.start = T.start) (htb : T'.tb = T.tb) (hT' : TxAt w' st.sb T') (hc : Chg S w w') (hs : ∀ b, S b → b ∈ T.blocks) (hok : TxOk st.clock T' (n + 1)) :
    Inv w' { st with txs := repl T' st.txs } (n + 1) ∧ ({ st with txs := repl T' st.txs } : PSt).blocks = st.blocks := by
  obtain ⟨_, hL, _, hD⟩ := h.lie
  have hS := h.starts
  have fl : (repl T' st.txs).flatMap Tx.blocks = st.txs.flatMap Tx.blocks := by
    rw [List.flatMap_def, List.flatMap_def, repl_same hst Tx.blocks hb _ hS hT]
  have hbl : ({ st with txs := repl T' st.txs } : PSt).blocks = st.blocks := by
    unfold PSt.blocks
    simp only [fl]
  have nS : ∀ b, (b = st.p ∨ b = st.sb ∨ b = st.vm ∨ b = st.om) → ¬ S b := fun b hb' hSb => by
    have := hL T hT b (hs b hSb)
    omega
  refine ⟨⟨(hc.block _ (lt_of_block h.pl) (nS _ (by simp))).trans h.pl, h.store.chg hc (nS _ (by simp)) (nS _ (by simp)), ?_, fun X hX => ?_, hbl ▸ h.apart, h.lo, by have := h.hi; simp only; omega, by rw [repl_len]; exact h.six, fun X hX => ?_⟩, hbl⟩
  · simp only
    rw [repl_same hst (fun T => (T.start, T.tb)) (by rw [hst, htb]) _ hS hT]
    exact h.om.of_block (hc.block _ h.om.lt (nS _ (by simp)))
  · rcases repl_mem hS hX with rfl | ⟨hX, hne⟩
    · exact hT'
    · exact (h.txs X hX).kept hc (fun b hb' hSb => hD X hX T hT (by rw [← hst]; exact hne) b hb' (hs b hSb))
  · rcases repl_mem hS hX with rfl | ⟨hX, hne⟩
    · exact hok
    · exact (h.ok X hX).up (by simp only; omega) (by omega)
end Go.Proofs.Ytcpjocgpahjcjaa
