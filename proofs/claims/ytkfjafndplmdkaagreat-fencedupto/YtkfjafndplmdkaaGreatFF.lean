import Derived.Test.YtkfjafndplmdkaaGreatFB
namespace Go.Proofs.YtkfjafndplmdkaaGreat
/-! ### Fenced: the pure part -/
theorem fres_Lt (xs : List OpM) : ∀ v ∈ (stP p0 xs).L, v.time ≤ (stP p0 xs).clock := fun v hv => by
  obtain ⟨H, h⟩ := serial_inv xs
  exact h.Ht v (h.sub.subset hv)
/-- the clock goes on. -/
theorem flush_clock : ∀ (n : Nat) (W : PW), W.clock ≤ (flushM n W).2.clock
  | 0, W => Int.le_refl _
  | n + 1, W => by
    unfold flushM
    split
    · exact Int.le_refl _
    · rename_i t q hq
      split
      · exact Int.le_refl _
      · rename_i T hT
        refine Int.le_trans ?_ (flush_clock n _)
        unfold decideM
        split
        · exact Int.le_refl _
        · split
          · exact Int.le_refl _
          · show W.clock ≤ W.clock + 1
            omega
theorem of_clock (W : PW) (k : Nat) (T : PT) (o : OpM) : (ofM W k T o).2.clock = W.clock := by
  unfold ofM
  split; · rfl
  split; · rfl
  split; · rfl
  split
  · split <;> rfl
  split; · rfl
  split; · rfl
  split <;> rfl
theorem step_clock (W : PW) (o : OpM) : W.clock ≤ (stepP W o).2.clock := by
  show W.clock ≤ (stepR W o).2.clock
  unfold stepR
  split
  · split
    · exact Int.le_refl _
    · show W.clock ≤ W.clock + 1
      omega
  split
  · split
    · exact Int.le_refl _
    · split
      · exact Int.le_refl _
      · split
        · rw [of_clock]; exact Int.le_refl _
        · exact Int.le_refl _
  split
  · split
    · exact Int.le_refl _
    · exact flush_clock _ W
  split; · exact Int.le_refl _
  split; · exact Int.le_refl _
  split <;> exact Int.le_refl _
theorem run_clock : ∀ (l : List OpM) (W : PW), W.clock ≤ (stP W l).clock
  | [], _ => Int.le_refl _
  | o :: r, W => Int.le_trans (step_clock W o) (run_clock r _)
/-- the numbers that BEGINs were told. -/
theorem begin_num {W : PW} {o : OpM} (hk : o.kind = 1) (hc : (stepP W o).1.code = 0) : (stepP W o).1.number = W.clock + 1 ∧ (stepP W o).2.clock = W.clock + 1 := by
  have hc' : (stepR W o).1.code = 0 := hc
  show (stepR W o).1.number = _ ∧ (stepR W o).2.clock = _
  unfold stepR at hc' ⊢
  rw [if_pos hk] at hc' ⊢
  split
  · rename_i h6
    rw [if_pos h6] at hc'
    simp at hc'
  · exact ⟨rfl, rfl⟩
theorem nums_le : ∀ (xs : List OpM) (W : PW), 0 ≤ W.clock → ∀ i (h : i < xs.length), xs[i].kind = 1 → ((ansP W xs)[i]'(by rw [ansP_len]; exact h)).code = 0 → 1 ≤ ((ansP W xs)[i]'(by rw [ansP_len]; exact h)).number ∧ ((ansP W xs)[i]'(by rw [ansP_len]; exact h)).number ≤ (stP W xs).clock
  | [], _, _, _, h, _, _ => by simp at h
  | o :: r, W, h0, 0, _, hk, hc => by
    obtain ⟨h1, h2⟩ := begin_num (W := W) (o := o) hk hc
    have h3 := run_clock r (stepP W o).2
    show 1 ≤ (stepP W o).1.number ∧ (stepP W o).1.number ≤ (stP (stepP W o).2 r).clock
    omega
  | o :: r, W, h0, i + 1, h, hk, hc => by
    have hi : i < r.length := by simpa using h
    exact nums_le r (stepP W o).2 (Int.le_trans h0 (step_clock W o)) i hi hk hc
/-- a PUT that names none that is open. -/
theorem put_noneR (W : PW) (t : Int) (key val : ByteArray) (h : ∀ T ∈ W.ts, T.start ≠ t) : stepR W (putOp t key val) = (errA 2, W) := by
  have e : W.ts.findIdx? (fun T => T.start == t) = none := by
    rw [List.findIdx?_eq_none_iff]
    intro T hT
    simpa using h T hT
  rw [stepR_of (by simp) (by simp)]
  simp only [e]
theorem puts_none : ∀ (ms : List OpM) (W : PW), (∀ o ∈ ms, ∃ n, o = putOp n ⟨#[97]⟩ ⟨#[]⟩ ∧ ∀ T ∈ W.ts, T.start ≠ n) → stP W ms = W ∧ ∀ i (h : i < (ansP W ms).length), (ansP W ms)[i] = errA 2
  | [], W, _ => ⟨rfl, fun i h => by simp [ansP] at h⟩
  | o :: r, W, h => by
    obtain ⟨n, rfl, hn⟩ := h o (by simp)
    have e := put_noneR W n ⟨#[97]⟩ ⟨#[]⟩ hn
    have ih := puts_none r W (fun o ho => h o (by simp [ho]))
    have e2 : stepP W (putOp n ⟨#[97]⟩ ⟨#[]⟩) = (errA 2, W) := e
    refine ⟨?_, fun i hi => ?_⟩
    · simp only [stP, e2]
      exact ih.1
    · cases i with
      | zero => simp only [ansP, e2]; rfl
      | succ i =>
        simp only [ansP, e2, List.getElem_cons_succ]
        exact ih.2 i (by simpa [ansP, e2] using hi)
/-- What is scanned hangs on what each key holds at that time alone: at two times. -/
theorem items_view2 {L : List Ver} {s t : Int} (h : ∀ k, atM L k s = atM L k t) (K : List ByteArray) : itemsR [] L s K = itemsR [] L t K := by
  have ef : itemR [] L s = itemR [] L t := by
    funext k
    have e : seesM [] L s k = seesM [] L t k := h k
    unfold itemR
    rw [e]
  unfold itemsR
  rw [ef]
theorem flush_none (W : PW) (h : W.q = []) : stepR W (fluOp 9) = (errA 0, W) := by
  have e : flushM (9 : Int).toNat W = ([], W) := flushM_nil _ W h
  unfold stepR
  simp only
  rw [if_neg (by decide), if_neg (by decide), if_pos trivial, if_neg (by decide), e]
theorem scan_at (c : Int) (L : List Ver) (t : Int) (low : Int) (pre : ByteArray) : stepR ⟨c, L, [⟨t, [], [], []⟩], [], [], low⟩ (sOp t pre) = (⟨0, 0, false, ⟨#[]⟩, itemsR [] L t (keysC (L ++ []) pre), [], []⟩, ⟨c, L, [⟨t, [], [], [pre]⟩], [], [], low⟩) := by
  simp [stepR, ofM, List.findIdx?_cons]
abbrev sumOp : OpM := ⟨11, 0, ⟨#[]⟩, ⟨#[]⟩, 0⟩
/-- THE ANSWERS OF FENCED's SCRIPTS. -/
theorem fenced_ans (xs ms : List OpM) (hm : ∀ o ∈ ms, ∃ n, o = putOp n ⟨#[97]⟩ ⟨#[]⟩ ∧ n ≤ (stP p0 xs).clock) : ∃ a1 t Ln, t = (stP p0 xs).clock + 1 ∧
    ansP p0 (xs ++ [fOp, sumOp, bOp]) = ansP p0 xs ++ [a1, ⟨0, 0, false, ⟨#[]⟩, [], [], [Ln, 0, 0, 0, (stP p0 xs).clock, (stP p0 xs).clock]⟩, ⟨0, t, false, ⟨#[]⟩, [], [], []⟩] ∧
    ∃ Am I a3, Am.length = ms.length ∧ (∀ A ∈ Am, A = errA 2) ∧ ansP p0 (((xs ++ [fOp, sumOp, bOp]) ++ ms) ++ [sOp t ⟨#[]⟩, fluOp 9, fOp, bOp, sOp (t + 1) ⟨#[]⟩]) =
      (ansP p0 xs ++ [a1, ⟨0, 0, false, ⟨#[]⟩, [], [], [Ln, 0, 0, 0, (stP p0 xs).clock, (stP p0 xs).clock]⟩, ⟨0, t, false, ⟨#[]⟩, [], [], []⟩]) ++ (Am ++ [⟨0, 0, false, ⟨#[]⟩, I, [], []⟩, errA 0, a3, ⟨0, t + 1, false, ⟨#[]⟩, [], [], []⟩, ⟨0, 0, false, ⟨#[]⟩, I, [], []⟩]) := by
  have hLt := fres_Lt xs
  simp only [ansP_append, stP_append]
  generalize stP p0 xs = W at *
  generalize ansP p0 xs = P
  obtain ⟨c, L, ts, q, rows, low⟩ := W
  simp only at hLt hm
  have e1 : stepR ⟨c, L, ts, q, rows, low⟩ fOp = (⟨0, ts.length, false, ⟨#[]⟩, [], [], []⟩, ⟨c, L, [], [], [], c⟩) := fence_ans _
  have e2 : stepR ⟨c, L, [], [], [], c⟩ sumOp = (⟨0, 0, false, ⟨#[]⟩, [], [], [(L.length : Int), 0, 0, 0, c, c]⟩, ⟨c, L, [], [], [], c⟩) := by simp [stepR]
  have e3 := begin_zero c L [] c
  obtain ⟨p1, p2⟩ := puts_none ms ⟨c + 1, L, [⟨c + 1, [], [], []⟩], [], [], c⟩ (fun o ho => by
    obtain ⟨n, rfl, hn⟩ := hm o ho
    refine ⟨n, rfl, fun T hT => ?_⟩
    rw [List.mem_singleton.1 hT]
    simp only
    omega)
  have e4 := scan_at (c + 1) L (c + 1) c ⟨#[]⟩
  have e5 : stepR ⟨c + 1, L, [⟨c + 1, [], [], [⟨#[]⟩]⟩], [], [], c⟩ (fluOp 9) = (errA 0, ⟨c + 1, L, [⟨c + 1, [], [], [⟨#[]⟩]⟩], [], [], c⟩) := flush_none _ rfl
  have e6 : stepR ⟨c + 1, L, [⟨c + 1, [], [], [⟨#[]⟩]⟩], [], [], c⟩ fOp = (⟨0, 1, false, ⟨#[]⟩, [], [], []⟩, ⟨c + 1, L, [], [], [], c + 1⟩) := by rw [fence_ans]; rfl
  have e7 := begin_zero (c + 1) L [] (c + 1)
  have e8 := scan_at (c + 1 + 1) L (c + 1 + 1) (c + 1) ⟨#[]⟩
  have eI : itemsR [] L (c + 1 + 1) (keysC (L ++ []) ⟨#[]⟩) = itemsR [] L (c + 1) (keysC (L ++ []) ⟨#[]⟩) := items_view2 (fun k => atM_between (by omega) (fun v hv _ _ => by have := hLt v hv; omega)) _
  rw [eI] at e8
  refine ⟨⟨0, ts.length, false, ⟨#[]⟩, [], [], []⟩, c + 1, L.length, rfl, ?_, ansP ⟨c + 1, L, [⟨c + 1, [], [], []⟩], [], [], c⟩ ms, itemsR [] L (c + 1) (keysC (L ++ []) ⟨#[]⟩), ⟨0, 1, false, ⟨#[]⟩, [], [], []⟩, ansP_len _ _, fun A hA => ?_, ?_⟩
  · simp only [ansP, stepP, e1, e2, e3]
  · obtain ⟨i, hi, rfl⟩ := List.getElem_of_mem hA
    exact p2 i hi
  · simp only [ansP, stP, stepP, e1, e2, e3, p1, e4, e5, e6, e7, e8, List.append_assoc, List.cons_append, List.nil_append]
end Go.Proofs.YtkfjafndplmdkaaGreat
