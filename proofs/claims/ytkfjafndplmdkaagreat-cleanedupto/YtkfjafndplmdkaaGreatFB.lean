import Derived.Test.YtkfjafndplmdkaaGreatFA
import Derived.Test.YtkfjafndplmdkaaGreatTP
namespace Go.Proofs.YtkfjafndplmdkaaGreat
abbrev fOp : OpM := ⟨9, 0, ⟨#[]⟩, ⟨#[]⟩, 0⟩
abbrev putOp (t : Int) (key val : ByteArray) : OpM := ⟨4, t, key, val, 0⟩
abbrev comOp (t : Int) : OpM := ⟨7, t, ⟨#[]⟩, ⟨#[]⟩, 0⟩
abbrev fluOp (n : Int) : OpM := ⟨8, 0, ⟨#[]⟩, ⟨#[]⟩, n⟩
theorem fence_ans (W : PW) : stepR W fOp = (⟨0, W.ts.length, false, ⟨#[]⟩, [], [], []⟩, ⟨W.clock, W.L, [], [], [], W.clock⟩) := by
  simp [stepR]
theorem begin_zero (c : Int) (L : List Ver) (rows : List (ByteArray × Int)) (low : Int) : stepR ⟨c, L, [], [], rows, low⟩ bOp = (⟨0, c + 1, false, ⟨#[]⟩, [], [], []⟩, ⟨c + 1, L, [⟨c + 1, [], [], []⟩], [], rows, low⟩) := by
  simp [stepR]
theorem scan_one (c : Int) (L : List Ver) (t : Int) (low : Int) (pre : ByteArray) : ∃ I, stepR ⟨c, L, [⟨t, [], [], []⟩], [], [], low⟩ (sOp t pre) = (⟨0, 0, false, ⟨#[]⟩, I, [], []⟩, ⟨c, L, [⟨t, [], [], [pre]⟩], [], [], low⟩) := by
  refine ⟨itemsR [] L t (keysC (L ++ []) pre), ?_⟩
  simp [stepR, ofM, List.findIdx?_cons]
theorem put_one (c : Int) (L : List Ver) (t : Int) (low : Int) (pre key val : ByteArray) (h1 : 1 ≤ key.size) (h8 : key.size ≤ 8) (hv : val.size ≤ 20) : stepR ⟨c, L, [⟨t, [], [], [pre]⟩], [], [], low⟩ (putOp t key val) = (errA 0, ⟨c, L, [⟨t, [⟨key, 0, val, false⟩], [], [pre]⟩], [], [], low⟩) := by
  have hn : key ≠ ByteArray.empty := fun e => by rw [e] at h1; simp at h1
  have hb : ¬ 8 < key.size := by omega
  have hs : ¬ 20 < val.size := by omega
  simp [stepR, ofM, hn, hb, hs, List.findIdx?_cons, writeM, lessK]
theorem com_one (c : Int) (L : List Ver) (T : PT) (low : Int) : stepR ⟨c, L, [T], [], [], low⟩ (comOp T.start) = (errA 0, ⟨c, L, [T], [T.start], [], low⟩) := by
  simp [stepR, ofM, List.findIdx?_cons]
theorem flush_one (c : Int) (L : List Ver) (t : Int) (low : Int) (pre key val : ByteArray) (hl : low ≤ t) :
    (100 < L.length + 1 ∧ ∃ W', stepR ⟨c, L, [⟨t, [⟨key, 0, val, false⟩], [], [pre]⟩], [t], [], low⟩ (fluOp 1) = (⟨0, 0, false, ⟨#[]⟩, [], [⟨t, 10, 0⟩], []⟩, W')) ∨
    (∃ rows' low', stepR ⟨c, L, [⟨t, [⟨key, 0, val, false⟩], [], [pre]⟩], [t], [], low⟩ (fluOp 1) = (⟨0, 0, false, ⟨#[]⟩, [], [⟨t, 0, c + 1⟩], []⟩, ⟨c + 1, L ++ [⟨key, c + 1, val, false⟩], [], [], rows', low'⟩)) := by
  have hlow : ¬ t < low := by omega
  by_cases hr : 100 < L.length + 1
  · left
    refine ⟨hr, ⟨c, L, [], [], [], low⟩, ?_⟩
    simp [stepR, flushM, decideM, outM, refusedM, conflM, hr, hlow]
  · right
    refine ⟨(trimM (notesM [] [⟨key, 0, val, false⟩] (c + 1)).length (notesM [] [⟨key, 0, val, false⟩] (c + 1)) low).1, (trimM (notesM [] [⟨key, 0, val, false⟩] (c + 1)).length (notesM [] [⟨key, 0, val, false⟩] (c + 1)) low).2, ?_⟩
    simp [stepR, flushM, decideM, outM, refusedM, conflM, hr, hlow, commitM, stampM]
theorem get_last (c : Int) (L : List Ver) (key val : ByteArray) (rows : List (ByteArray × Int)) (low : Int) (h1 : 1 ≤ key.size) (h8 : key.size ≤ 8) : (stepR ⟨c + 1, L ++ [⟨key, c, val, false⟩], [⟨c + 1, [], [], []⟩], [], rows, low⟩ (gOp (c + 1) key)).1 = ⟨0, 0, true, val, [], [], []⟩ := by
  have hn : key ≠ ByteArray.empty := fun e => by rw [e] at h1; simp at h1
  have hb : ¬ 8 < key.size := by omega
  have hc : c ≤ c + 1 := by omega
  simp [stepR, ofM, hn, hb, List.findIdx?_cons, seesM, atM, getV, hc]
/-- THE ANSWERS OF SURE's SCRIPTS. -/
theorem sure_ans (xs : List OpM) (key val : ByteArray) (h1 : 1 ≤ key.size) (h8 : key.size ≤ 8) (hv : val.size ≤ 20) : ∃ a1 a3 t, t = (stP p0 xs).clock + 1 ∧
    ansP p0 (xs ++ [fOp, bOp]) = ansP p0 xs ++ [a1, ⟨0, t, false, ⟨#[]⟩, [], [], []⟩] ∧
    ((∃ a7, ansP p0 ((xs ++ [fOp, bOp]) ++ [sOp t ⟨#[]⟩, putOp t key val, comOp t, fluOp 1, bOp]) = ansP p0 xs ++ [a1, ⟨0, t, false, ⟨#[]⟩, [], [], []⟩, a3, errA 0, errA 0, ⟨0, 0, false, ⟨#[]⟩, [], [⟨t, 10, 0⟩], []⟩, a7]) ∨
     (ansP p0 ((xs ++ [fOp, bOp]) ++ [sOp t ⟨#[]⟩, putOp t key val, comOp t, fluOp 1, bOp]) = ansP p0 xs ++ [a1, ⟨0, t, false, ⟨#[]⟩, [], [], []⟩, a3, errA 0, errA 0, ⟨0, 0, false, ⟨#[]⟩, [], [⟨t, 0, t + 1⟩], []⟩, ⟨0, t + 2, false, ⟨#[]⟩, [], [], []⟩] ∧
      ansP p0 (((xs ++ [fOp, bOp]) ++ [sOp t ⟨#[]⟩, putOp t key val, comOp t, fluOp 1, bOp]) ++ [gOp (t + 2) key]) = ansP p0 xs ++ [a1, ⟨0, t, false, ⟨#[]⟩, [], [], []⟩, a3, errA 0, errA 0, ⟨0, 0, false, ⟨#[]⟩, [], [⟨t, 0, t + 1⟩], []⟩, ⟨0, t + 2, false, ⟨#[]⟩, [], [], []⟩, ⟨0, 0, true, val, [], [], []⟩])) := by
  simp only [ansP_append, stP_append]
  generalize stP p0 xs = W
  generalize ansP p0 xs = P
  obtain ⟨c, L, ts, q, rows, low⟩ := W
  obtain ⟨I, e3⟩ := scan_one (c + 1) L (c + 1) c ⟨#[]⟩
  have e4 := put_one (c + 1) L (c + 1) c ⟨#[]⟩ key val h1 h8 hv
  have e5 := com_one (c + 1) L ⟨c + 1, [⟨key, 0, val, false⟩], [], [⟨#[]⟩]⟩ c
  refine ⟨⟨0, ts.length, false, ⟨#[]⟩, [], [], []⟩, ⟨0, 0, false, ⟨#[]⟩, I, [], []⟩, c + 1, rfl, ?_, ?_⟩
  · simp only [ansP, stepP, fence_ans, begin_zero]
  · rcases flush_one (c + 1) L (c + 1) c ⟨#[]⟩ key val (by omega) with ⟨_, W', e6⟩ | ⟨rows', low', e6⟩
    · left
      refine ⟨(stepR W' bOp).1, ?_⟩
      simp only [ansP, stP, stepP, fence_ans, begin_zero, e3, e4, e5, e6, List.append_assoc, List.cons_append, List.nil_append]
    · right
      have e7 := begin_zero (c + 1 + 1) (L ++ [⟨key, c + 1 + 1, val, false⟩]) rows' low'
      have e8 := get_last (c + 1 + 1) L key val rows' low' h1 h8
      have eu : c + 1 + 1 + 1 = c + 1 + 2 := by omega
      rw [eu] at e7 e8
      constructor
      · simp only [ansP, stP, stepP, fence_ans, begin_zero, e3, e4, e5, e6, e7, List.append_assoc, List.cons_append, List.nil_append]
      · simp only [ansP, stP, stepP, fence_ans, e3, e4, e5, e6, e7, e8, begin_zero, List.append_assoc, List.cons_append, List.nil_append]
end Go.Proofs.YtkfjafndplmdkaaGreat
