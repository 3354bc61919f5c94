import Derived.Test.YtcpjocgpahjcjaaTD
namespace Go.Proofs.Ytcpjocgpahjcjaa
open Go.RowKit Go.Sort
/-- a step of Go's. -/
structure OpM.ok (o : OpM) : Prop where
  kind : isInt o.kind
  t : isInt o.t
  key : o.key.size ≤ maxLen
  val : o.val.size ≤ maxLen
def Kept (st st' : PSt) (w : World) : Prop := ∀ b ∈ st'.blocks, b ∈ st.blocks ∨ w.heap.size ≤ b
def StepPost (st : PSt) (n : Nat) (w : World) (r : AnsM × MSt) (e : Ending) (w' : World) : Prop :=
  ∃ st' : PSt, st'.p = st.p ∧ Inv w' st' (n + 1) ∧ st'.abs = r.2 ∧ Chg (fun b => b ∈ st.blocks) w w' ∧ Kept st st' w ∧
   ((r.1.code = 0 ∧ ∃ a k c, e = .returned (ansV 0 r.1.number r.1.found r.1.value (.slice a k c)) ∧ w'.ownsRow w.heap.size 48 2 (.slice a k c) r.1.items.length (itemCells r.1.items) ∧ ∀ g, (Value.slice a k c).ownBlock = some g → g ∉ st'.blocks) ∨
    (∃ c, c ≠ 0 ∧ r.1 = errA c ∧ e = errE c))
theorem kept_refl (st : PSt) (w : World) : Kept st st w := fun _ h => Or.inl h
theorem err_post {st : PSt} {n : Nat} {w w' : World} {c : Int} (h : Inv w st n) (hc : Chg nobody w w') (h0 : c ≠ 0) : StepPost st n w (errA c, st.abs) (errE c) w' :=
  ⟨st, rfl, h.chg hc (fun _ _ hf => hf) (by omega), rfl, hc.any _, kept_refl _ _, Or.inr ⟨c, h0, rfl, rfl⟩⟩
theorem Inv.plays {w : World} {st : PSt} {n : Nat} (h : Inv w st n) : Plays w st.p st.sb st.vm st.om (numsOf st.txs) := ⟨cell_of h.pl rfl, h.om⟩
/-- A transaction's own blocks are apart from each other and from the store's. -/
theorem Inv.own {w : World} {st : PSt} {n : Nat} (h : Inv w st n) {T : Tx} (hT : T ∈ st.txs) : (T.tb ≠ T.wb ∧ T.tb ≠ T.kb ∧ T.tb ≠ T.pb ∧ T.wb ≠ T.kb ∧ T.wb ≠ T.pb ∧ T.kb ≠ T.pb) ∧ (T.kb ≠ st.sb ∧ T.kb ≠ st.vm ∧ T.pb ≠ st.sb ∧ T.pb ≠ st.vm) := by
  obtain ⟨_, hL, hN, _⟩ := h.lie
  have h1 := hN T hT
  simp only [Tx.blocks, List.nodup_cons, List.mem_cons, List.not_mem_nil, or_false, not_or, List.nodup_nil, and_true, not_false_eq_true] at h1
  have h2 := hL T hT T.kb (by simp [Tx.blocks])
  have h3 := hL T hT T.pb (by simp [Tx.blocks])
  exact ⟨⟨h1.1.1, h1.1.2.1, h1.1.2.2, h1.2.1.1, h1.2.1.2, h1.2.2⟩, h2.2.1, h2.2.2.1, h3.2.1, h3.2.2.1⟩
theorem stepM_of {s : MSt} {o : OpM} (h2 : 2 ≤ o.kind) (h6 : o.kind ≤ 6) : stepM s o = (match findM o.t s.txs with | none => (errA 2, s) | some T => ofM s o T) := by
  unfold stepM
  rw [if_neg (by omega), if_pos ⟨h2, h6⟩]
  rfl
theorem noItems (w : World) (b : Nat) (e : TypeId) (size : Nat) : w.ownsRow b e size (.slice none 0 0) ([] : List (ByteArray × ByteArray)).length (itemCells []) := World.ownsRow_nil _ _ _ _
theorem badKey_iff (k : ByteArray) : badKey k = true ↔ (k.size < 1 ∨ 8 < k.size) := by simp [badKey]
theorem get_step {st : PSt} {n : Nat} {w : World} {o : OpM} (h : Inv w st n) (ho : o.ok) (hk : o.kind = 2) : Calls Try.prog 33 #[.pointer (some ⟨st.p, 0, none⟩), o.v] w (StepPost st n w (stepM st.abs o)) := by
  rw [stepM_of (by omega) (by omega)]
  rcases find_spec o.t st.txs with ⟨h1, h2⟩ | ⟨T, hT, hTs, h1, h2⟩
  · refine (get_none _ _ _ _ _ o w h.plays ho.t h2).mono ?_
    rintro e w' ⟨rfl, hc⟩
    simp only [PSt.abs, h1]
    exact err_post h hc (by decide)
  · simp only [PSt.abs, h1]
    unfold ofM
    rw [if_pos hk]
    by_cases hb : o.key.size < 1 ∨ 8 < o.key.size
    · rw [if_pos ((badKey_iff _).2 hb)]
      refine (get_key _ _ _ _ _ _ o w h.plays ho.t h2 hb).mono ?_
      rintro e w' ⟨rfl, hc⟩
      exact err_post h hc (by decide)
    · rw [if_neg (fun h => hb ((badKey_iff _).1 h))]
      obtain ⟨o1, o2⟩ := h.own hT
      refine (get_ok _ _ _ _ T _ o w h.plays ho.t h2 (by omega) (by omega) (h.txs T hT) h.store ⟨Ne.symm o1.2.1, Ne.symm o1.2.2.2.1, o1.2.2.2.2.2, o2.1, o2.2.1⟩).mono ?_
      rintro e w' ⟨rfl, hT', hc⟩
      have hok := h.ok T hT
      obtain ⟨q1, q2⟩ := h.upd (T' := { T with ks := putA o.key () T.ks }) hT rfl rfl rfl hT' hc (fun b e => by subst e; simp [Tx.blocks]) ⟨hok.lo, hok.hi, by have := hok.len; simp only; omega, hok.keys⟩
      refine ⟨{ st with txs := repl { T with ks := putA o.key () T.ks } st.txs }, rfl, q1, ?_, hc.mono (fun i _ e => by subst e; exact PSt.mem_tx hT (by simp [Tx.blocks])), fun b hb => Or.inl (q2 ▸ hb), Or.inl ⟨rfl, none, 0, 0, rfl, noItems _ _ _ _, fun g hg => by cases hg⟩⟩
      simp only [PSt.abs]
      rw [repl_same (T := T) (T' := { T with ks := putA o.key () T.ks }) rfl absT rfl _ h.starts hT]
theorem scan_step {st : PSt} {n : Nat} {w : World} {o : OpM} (h : Inv w st n) (hn : n ≤ 100000000) (ho : o.ok) (hk : o.kind = 3) : Calls Try.prog 34 #[.pointer (some ⟨st.p, 0, none⟩), o.v] w (StepPost st n w (stepM st.abs o)) := by
  rw [stepM_of (by omega) (by omega)]
  rcases find_spec o.t st.txs with ⟨h1, h2⟩ | ⟨T, hT, hTs, h1, h2⟩
  · refine (scan_none _ _ _ _ _ o w h.plays ho.t h2).mono ?_
    rintro e w' ⟨rfl, hc⟩
    simp only [PSt.abs, h1]
    exact err_post h hc (by decide)
  · simp only [PSt.abs, h1]
    unfold ofM
    rw [if_neg (by omega), if_pos hk]
    obtain ⟨o1, o2⟩ := h.own hT
    have hok := h.ok T hT
    refine (scan_ok _ _ _ _ T _ o w h.plays ho.t h2 ho.key (h.txs T hT) h.store (by have := hok.len; omega) (fun q hq => by have := hok.keys q hq; unfold maxLen; omega) ⟨Ne.symm o1.2.2.1, Ne.symm o1.2.2.2.2.1, Ne.symm o1.2.2.2.2.2, o2.2.2.1, o2.2.2.2⟩).mono ?_
    rintro e w' ⟨a, k, c, rfl, hrow, hT', hc⟩
    obtain ⟨q1, q2⟩ := h.upd (T' := { T with ps := putA o.key () T.ps }) hT rfl rfl rfl hT' hc (fun b e => by subst e; simp [Tx.blocks]) ⟨hok.lo, hok.hi, by have := hok.len; simp only; omega, hok.keys⟩
    refine ⟨{ st with txs := repl { T with ps := putA o.key () T.ps } st.txs }, rfl, q1, ?_, hc.mono (fun i _ e => by subst e; exact PSt.mem_tx hT (by simp [Tx.blocks])), fun b hb => Or.inl (q2 ▸ hb), Or.inl ⟨rfl, a, k, c, rfl, hrow, fun g hg hm => ?_⟩⟩
    · simp only [PSt.abs]
      rw [repl_same (T := T) (T' := { T with ps := putA o.key () T.ps }) rfl absT rfl _ h.starts hT]
    · have h3 := h.there g (q2 ▸ hm)
      have h4 := (hrow.lt g hg).1
      omega
theorem putA_sizes {key : ByteArray} {c : Bool × ByteArray} {ws : List (ByteArray × (Bool × ByteArray))} (hw : ∀ q ∈ ws, q.1.size ≤ 8) (hk : key.size ≤ 8) : ∀ q ∈ putA key c ws, q.1.size ≤ 8 := fun q hq => by
  rcases putA_keys key c ws q hq with rfl | hq
  · exact hk
  · exact hw q hq
theorem put_step {st : PSt} {n : Nat} {w : World} {o : OpM} (h : Inv w st n) (ho : o.ok) (hk : o.kind = 4) : Calls Try.prog 35 #[.pointer (some ⟨st.p, 0, none⟩), o.v] w (StepPost st n w (stepM st.abs o)) := by
  rw [stepM_of (by omega) (by omega)]
  rcases find_spec o.t st.txs with ⟨h1, h2⟩ | ⟨T, hT, hTs, h1, h2⟩
  · refine (put_none _ _ _ _ _ o w h.plays ho.t h2).mono ?_
    rintro e w' ⟨rfl, hc⟩
    simp only [PSt.abs, h1]
    exact err_post h hc (by decide)
  · simp only [PSt.abs, h1]
    unfold ofM
    rw [if_neg (by omega), if_neg (by omega), if_pos hk]
    by_cases hb : o.key.size < 1 ∨ 8 < o.key.size
    · rw [if_pos ((badKey_iff _).2 hb)]
      refine (put_key _ _ _ _ _ _ o w h.plays ho.t h2 hb).mono ?_
      rintro e w' ⟨rfl, hc⟩
      exact err_post h hc (by decide)
    · rw [if_neg (fun h => hb ((badKey_iff _).1 h))]
      by_cases hv : 20 < o.val.size
      · rw [if_pos hv]
        refine (put_value _ _ _ _ _ _ o w h.plays ho.t h2 (by omega) (by omega) hv).mono ?_
        rintro e w' ⟨rfl, hc⟩
        exact err_post h hc (by decide)
      · rw [if_neg hv]
        obtain ⟨o1, o2⟩ := h.own hT
        refine (put_ok _ _ _ _ T _ o w h.plays ho.t h2 (by omega) (by omega) (by omega) (h.txs T hT) ⟨Ne.symm o1.1, o1.2.2.2.1, o1.2.2.2.2.1⟩).mono ?_
        rintro e w' ⟨rfl, hT', hc⟩
        have hok := h.ok T hT
        obtain ⟨q1, q2⟩ := h.upd (T' := { T with ws := putA o.key (true, o.val) T.ws }) hT rfl rfl rfl hT' hc (fun b e => by subst e; simp [Tx.blocks]) ⟨hok.lo, hok.hi, by have := hok.len; have := putA_len o.key (true, o.val) T.ws; simp only; omega, putA_sizes hok.keys (by omega)⟩
        refine ⟨{ st with txs := repl { T with ws := putA o.key (true, o.val) T.ws } st.txs }, rfl, q1, ?_, hc.mono (fun i _ e => by subst e; exact PSt.mem_tx hT (by simp [Tx.blocks])), fun b hb => Or.inl (q2 ▸ hb), Or.inl ⟨rfl, none, 0, 0, rfl, noItems _ _ _ _, fun g hg => by cases hg⟩⟩
        simp only [PSt.abs]
        rw [repl_abs]
        simp only [hTs]
        rfl
theorem del_step {st : PSt} {n : Nat} {w : World} {o : OpM} (h : Inv w st n) (ho : o.ok) (hk : o.kind = 5) : Calls Try.prog 36 #[.pointer (some ⟨st.p, 0, none⟩), o.v] w (StepPost st n w (stepM st.abs o)) := by
  rw [stepM_of (by omega) (by omega)]
  rcases find_spec o.t st.txs with ⟨h1, h2⟩ | ⟨T, hT, hTs, h1, h2⟩
  · refine (del_none _ _ _ _ _ o w h.plays ho.t h2).mono ?_
    rintro e w' ⟨rfl, hc⟩
    simp only [PSt.abs, h1]
    exact err_post h hc (by decide)
  · simp only [PSt.abs, h1]
    unfold ofM
    rw [if_neg (by omega), if_neg (by omega), if_neg (by omega), if_pos hk]
    by_cases hb : o.key.size < 1 ∨ 8 < o.key.size
    · rw [if_pos ((badKey_iff _).2 hb)]
      refine (del_key _ _ _ _ _ _ o w h.plays ho.t h2 hb).mono ?_
      rintro e w' ⟨rfl, hc⟩
      exact err_post h hc (by decide)
    · rw [if_neg (fun h => hb ((badKey_iff _).1 h))]
      obtain ⟨o1, o2⟩ := h.own hT
      refine (del_ok _ _ _ _ T _ o w h.plays ho.t h2 (by omega) (by omega) (h.txs T hT) ⟨Ne.symm o1.1, o1.2.2.2.1, o1.2.2.2.2.1⟩).mono ?_
      rintro e w' ⟨rfl, hT', hc⟩
      have hok := h.ok T hT
      obtain ⟨q1, q2⟩ := h.upd (T' := { T with ws := putA o.key noCell T.ws }) hT rfl rfl rfl hT' hc (fun b e => by subst e; simp [Tx.blocks]) ⟨hok.lo, hok.hi, by have := hok.len; have := putA_len o.key noCell T.ws; simp only; omega, putA_sizes hok.keys (by omega)⟩
      refine ⟨{ st with txs := repl { T with ws := putA o.key noCell T.ws } st.txs }, rfl, q1, ?_, hc.mono (fun i _ e => by subst e; exact PSt.mem_tx hT (by simp [Tx.blocks])), fun b hb => Or.inl (q2 ▸ hb), Or.inl ⟨rfl, none, 0, 0, rfl, noItems _ _ _ _, fun g hg => by cases hg⟩⟩
      simp only [PSt.abs]
      rw [repl_abs]
      simp only [hTs]
      rfl
end Go.Proofs.Ytcpjocgpahjcjaa
