import Derived.Test.YtechhojiifcpjaaPE
namespace Go.Proofs.Ytechhojiifcpjaa
open Go.RowKit Go.Sort
open Go.Maps (Keyed)
/-- a step of Go's. -/
structure OpM.ok (o : OpM) : Prop where
  kind : isInt o.kind
  t : isInt o.t
  key : o.key.size ≤ maxLen
  val : o.val.size ≤ maxLen
  n : isInt o.n
def decCell (d : Dec) : List Value := [.int .i64 d.num, .int .i64 d.code, .int .i64 d.time]
def decCells (l : List Dec) : List Value := l.flatMap decCell
theorem decCells_snoc (l : List Dec) (d : Dec) : decCells (l ++ [d]) = decCells l ++ decCell d := by simp [decCells]
theorem infoDec : (Try.prog.info? 42).map (fun i => (i.zero, i.size, i.bytes)) = some (some (.agg #[.int .i64 0, .int .i64 0, .int .i64 0]), 3, 24) := by kernel_rfl
theorem dec_one (x : Dec) : ∀ u ∈ decCell x, u.oneCell' = true := by
  intro u hu
  simp only [decCell, List.mem_cons, List.not_mem_nil, or_false] at hu
  rcases hu with rfl | rfl | rfl <;> rfl
theorem drp_mem (n : Int) : ∀ {txs : List Tx} {X : Tx}, X ∈ txs → X.start ≠ n → X ∈ drp n txs
  | Y :: r, X, h, hn => by
    simp only [drp]
    rcases List.mem_cons.1 h with rfl | h
    · rw [if_neg hn]; exact List.mem_cons_self ..
    · split
      · exact h
      · exact List.mem_cons_of_mem _ (drp_mem n h hn)
theorem drp_ne (n : Int) : ∀ {txs : List Tx} {X : Tx}, (txs.map (·.start)).Nodup → X ∈ drp n txs → X.start ≠ n
  | Y :: r, X, hn, h => by
    simp only [List.map_cons, List.nodup_cons] at hn
    simp only [drp] at h
    by_cases e : Y.start = n
    · rw [if_pos e] at h
      exact fun e2 => hn.1 (List.mem_map.2 ⟨X, h, by rw [e2, e]⟩)
    · rw [if_neg e] at h
      rcases List.mem_cons.1 h with rfl | h
      · exact e
      · exact drp_ne n hn.2 h
/-- the first of the queue goes: at the level of Inv. -/
theorem Inv.take {w w2 : World} {st : PSt} {n : Nat} {t : Int} {tb : Nat} {q' : List (Int × Nat)} {T : Tx} (h : Inv w st n) (hq : st.q = (t, tb) :: q') (hT : T ∈ st.txs) (hTt : T.start = t) (hqn : (st.q.map Prod.fst).Nodup)
    (hc : Chg (fun b => b = st.ch ∨ b = st.om) w w2) (hch : w2.heap[st.ch]? = some (.chan 3 (q'.map (fun e => mkP e.2)).toArray false st.qs (st.qr + 1) false)) (hom : mapAt w2 Try.prog 3 mkI mkP st.om (delA t (numsOf st.txs))) :
    Inv w2 { st with q := q', qr := st.qr + 1, txs := drp t st.txs } n ∧ TxAt w2 st.sb T ∧ (∀ b ∈ T.blocks, b ∉ ({ st with q := q', qr := st.qr + 1, txs := drp t st.txs } : PSt).blocks) ∧ (∀ b ∈ ({ st with q := q', qr := st.qr + 1, txs := drp t st.txs } : PSt).blocks, b ∈ st.blocks) := by
  obtain ⟨hfx, hvf, htf, hvn, hTn, hD⟩ := h.lie
  have hsub := flat_sub Tx.blocks (drp_sub t st.txs)
  have hbs : ({ st with q := q', qr := st.qr + 1, txs := drp t st.txs } : PSt).blocks.Sublist st.blocks := (List.Sublist.refl _).append ((List.Sublist.refl _).append hsub)
  have nS : ∀ (i : Nat) (b : Nat), st.fix[i]? = some b → i ≠ 7 → i ≠ 8 → ¬ (b = st.ch ∨ b = st.om) := fun i b hi h7 h8 hx => hx.elim (fix_ne hfx i 7 hi rfl h7) (fix_ne hfx i 8 hi rfl h8)
  have nV : ∀ b ∈ vBlocks st.V, ¬ (b = st.ch ∨ b = st.om) := fun b hb hx => hvf b hb (by rcases hx with e | e <;> simp [PSt.fix, e])
  have nT : ∀ X ∈ st.txs, ∀ b ∈ X.blocks, ¬ (b = st.ch ∨ b = st.om) := fun X hX b hb hx => (htf X hX b hb).1 (by rcases hx with e | e <;> simp [PSt.fix, e])
  have hS := h.starts
  have hql : st.q.length = q'.length + 1 := by rw [hq]; simp
  refine ⟨⟨(hc.block _ (lt_of_block h.pl) (nS 0 _ rfl (by decide) (by decide))).trans h.pl, (hc.block _ (lt_of_block h.ck) (nS 1 _ rfl (by decide) (by decide))).trans h.ck, h.store.chg hc (nS 2 _ rfl (by decide) (by decide)) (nS 3 _ rfl (by decide) (by decide)) nV, h.orc.chg hc (nS 4 _ rfl (by decide) (by decide)) (nS 5 _ rfl (by decide) (by decide)), (hc.block _ (lt_of_block h.qu) (nS 6 _ rfl (by decide) (by decide))).trans h.qu, hch, ?_, fun X hX => (h.txs X ((drp_sub t st.txs).subset hX)).kept hc (nT X ((drp_sub t st.txs).subset hX)), hbs.nodup h.apart, h.lo, ?_, Nat.le_trans (drp_sub t st.txs).length_le h.six, fun X hX => h.ok X ((drp_sub t st.txs).subset hX), ?_, fun e he => ?_, h.r6, h.rk, h.vsum, h.vk, h.vn⟩, (h.txs T hT).kept hc (nT T hT), fun b hb hm => ?_, fun b hb => hbs.subset hb⟩
  · show mapAt w2 Try.prog 3 mkI mkP st.om (numsOf (drp t st.txs))
    rw [drp_nums]
    exact hom
  · have := h.hi; simp only; omega
  · have := h.q3; simp only; omega
  · obtain ⟨X, hX, e1, e2⟩ := h.qok e (by rw [hq]; exact List.mem_cons_of_mem _ he)
    refine ⟨X, drp_mem t hX (fun e3 => ?_), e1, e2⟩
    rw [hq] at hqn
    have := (List.nodup_cons.1 (by simpa using hqn : (t :: q'.map Prod.fst).Nodup)).1
    exact this (List.mem_map.2 ⟨e, he, by rw [← e1, e3]⟩)
  · rcases List.mem_append.1 hm with h1 | h1
    · exact (htf T hT b hb).1 h1
    · rcases List.mem_append.1 h1 with h2 | h2
      · exact (htf T hT b hb).2 h2
      · obtain ⟨X, hX, hbX⟩ := List.mem_flatMap.1 h2
        have hX' := (drp_sub t st.txs).subset hX
        exact hD T hT X hX' (fun e => drp_ne t hS hX (by rw [← e, hTt])) b hb hbX
theorem Rel.take {st : PSt} {W : PW} {t : Int} {tb qr : Nat} {q' : List (Int × Nat)} (h : Rel st W) (hq : st.q = (t, tb) :: q') : W.q = t :: q'.map Prod.fst ∧ Rel { st with q := q', qr := qr, txs := drp t st.txs } (outM W t (q'.map Prod.fst)) := by
  have hWq : W.q = t :: q'.map Prod.fst := by rw [h.q, hq]; rfl
  refine ⟨hWq, h.clock, h.low, ?_, rfl, h.rows, h.rn, h.V, h.Lg, (List.filter_sublist.map _).nodup h.nd, fun P hP => h.le P (List.mem_filter.1 hP).1, ?_⟩
  · have h1 := h.txs.drop (R := RelQ W.q) RelQ.start (n := t) h.nd
    refine h1.imp (fun T _ P hP hr => ⟨hr.1, ?_⟩)
    have hne : P.start ≠ t := by have := (List.mem_filter.1 hP).2; simpa using this
    rw [hr.2, hWq]
    exact decide_eq_decide.2 (by simp [hne, outM])
  · have := h.qn
    rw [hWq] at this
    exact (List.nodup_cons.1 this).2
theorem flushM_nil (m : Nat) (W : PW) (h : W.q = []) : flushM m W = ([], W) := by
  cases m with
  | zero => rfl
  | succ m => simp [flushM, h]
theorem flushM_cons (m : Nat) (W : PW) {t : Int} {q : List Int} {P : PT} (h : W.q = t :: q) (hf : W.ts.find? (fun T => T.start == t) = some P) : flushM (m + 1) W = ((decideM (outM W t q) P).1 :: (flushM m (decideM (outM W t q) P).2).1, (flushM m (decideM (outM W t q) P).2).2) := by
  rw [flushM]
  simp only [h, hf]
/-- the flush under way. -/
structure Fl (w2 : World) (st : PSt) (W : PW) (n N j : Nat) (v : Value) (wr : World) : Prop where
  it : ∃ (st' : PSt) (W' : PW) (ds : List Dec), Inv wr st' n ∧ Rel st' W' ∧ wr.ownsRow w2.heap.size 42 3 v ds.length (decCells ds) ∧ ds.length ≤ j ∧ flushM N W = (ds ++ (flushM (N - j) W').1, (flushM (N - j) W').2) ∧ Chg (fun b => b ∈ st.blocks) w2 wr ∧ Kept st st' w2 ∧ st'.fix = st.fix ∧ (∀ g, v.ownBlock = some g → g ∉ st'.blocks)
end Go.Proofs.Ytechhojiifcpjaa
