import Derived.Test.YtkfjafndplmdkaaGreatTO
namespace Go.Proofs.YtkfjafndplmdkaaGreat
open Go.RowKit Go.Sort
def decOps : List OpM := [⟨1, 0, ⟨#[]⟩, ⟨#[]⟩, 0⟩, ⟨4, 1, ⟨#[97]⟩, ⟨#[120]⟩, 0⟩, ⟨1, 0, ⟨#[]⟩, ⟨#[]⟩, 0⟩, ⟨2, 2, ⟨#[97]⟩, ⟨#[]⟩, 0⟩, ⟨4, 2, ⟨#[98]⟩, ⟨#[121]⟩, 0⟩, ⟨7, 1, ⟨#[]⟩, ⟨#[]⟩, 0⟩, ⟨7, 2, ⟨#[]⟩, ⟨#[]⟩, 0⟩, ⟨8, 0, ⟨#[]⟩, ⟨#[]⟩, 5⟩, ⟨1, 0, ⟨#[]⟩, ⟨#[]⟩, 0⟩, ⟨2, 4, ⟨#[97]⟩, ⟨#[]⟩, 0⟩]
theorem decAns : ansP p0 decOps = [⟨0, 1, false, ⟨#[]⟩, [], [], []⟩, errA 0, ⟨0, 2, false, ⟨#[]⟩, [], [], []⟩, errA 0, errA 0, errA 0, errA 0, ⟨0, 0, false, ⟨#[]⟩, [], [⟨1, 0, 3⟩, ⟨2, 9, 0⟩], []⟩, ⟨0, 4, false, ⟨#[]⟩, [], [], []⟩, ⟨0, 0, true, ⟨#[120]⟩, [], [], []⟩] := by kernel_rfl
/-- Crossed's script: what the two read (by GET or SCAN), what they write. -/
def crossOps (kind : Int) (x y a b : ByteArray) : List OpM := [⟨1, 0, ⟨#[]⟩, ⟨#[]⟩, 0⟩, ⟨1, 0, ⟨#[]⟩, ⟨#[]⟩, 0⟩, ⟨kind, 1, x, ⟨#[]⟩, 0⟩, ⟨kind, 2, y, ⟨#[]⟩, 0⟩, ⟨4, 1, b, ⟨#[49]⟩, 0⟩, ⟨4, 2, a, ⟨#[50]⟩, 0⟩, ⟨7, 1, ⟨#[]⟩, ⟨#[]⟩, 0⟩, ⟨7, 2, ⟨#[]⟩, ⟨#[]⟩, 0⟩, ⟨8, 0, ⟨#[]⟩, ⟨#[]⟩, 2⟩]
def rdT (kind : Int) (n : Int) (x : ByteArray) (ws : List Ver) : PT := if kind = 2 then ⟨n, ws, [x], []⟩ else ⟨n, ws, [], [x]⟩
theorem rd_start (kind n : Int) (x : ByteArray) (ws : List Ver) : (rdT kind n x ws).start = n := by unfold rdT; split <;> rfl
theorem rd_ws (kind n : Int) (x : ByteArray) (ws : List Ver) : (rdT kind n x ws).ws = ws := by unfold rdT; split <;> rfl
theorem rd_put (kind n : Int) (x : ByteArray) (v : Ver) : ({ rdT kind n x [] with ws := writeM (rdT kind n x []).ws v } : PT) = rdT kind n x [v] := by
  unfold rdT
  split <;> rfl
theorem cross_read1 (kind : Int) (x : ByteArray) (hk : kind = 2 ∨ kind = 3) (h1 : 1 ≤ x.size) (h8 : x.size ≤ 8) : (stepP ⟨2, [], [⟨1, [], [], []⟩, ⟨2, [], [], []⟩], [], [], 0⟩ ⟨kind, 1, x, ⟨#[]⟩, 0⟩).2 = ⟨2, [], [rdT kind 1 x [], ⟨2, [], [], []⟩], [], [], 0⟩ := by
  have hn : x ≠ ByteArray.empty := fun e => by rw [e] at h1; simp at h1
  have hb : ¬ 8 < x.size := by omega
  rcases hk with rfl | rfl <;> simp [stepP, stepR, ofM, rdT, hn, hb, List.findIdx?_cons]
theorem cross_read2 (kind : Int) (x y : ByteArray) (hk : kind = 2 ∨ kind = 3) (h1 : 1 ≤ y.size) (h8 : y.size ≤ 8) : (stepP ⟨2, [], [rdT kind 1 x [], ⟨2, [], [], []⟩], [], [], 0⟩ ⟨kind, 2, y, ⟨#[]⟩, 0⟩).2 = ⟨2, [], [rdT kind 1 x [], rdT kind 2 y []], [], [], 0⟩ := by
  have hn : y ≠ ByteArray.empty := fun e => by rw [e] at h1; simp at h1
  have hb : ¬ 8 < y.size := by omega
  rcases hk with rfl | rfl <;> simp [stepP, stepR, ofM, rdT, hn, hb, List.findIdx?_cons]
theorem cross_put1 (kind : Int) (x y b : ByteArray) (h1 : 1 ≤ b.size) (h8 : b.size ≤ 8) : (stepP ⟨2, [], [rdT kind 1 x [], rdT kind 2 y []], [], [], 0⟩ ⟨4, 1, b, ⟨#[49]⟩, 0⟩).2 = ⟨2, [], [rdT kind 1 x [⟨b, 0, ⟨#[49]⟩, false⟩], rdT kind 2 y []], [], [], 0⟩ := by
  have hn : b ≠ ByteArray.empty := fun e => by rw [e] at h1; simp at h1
  have hb : ¬ 8 < b.size := by omega
  have hs : ¬ 20 < (⟨#[49]⟩ : ByteArray).size := by decide
  unfold rdT
  by_cases hk : kind = 2 <;> simp [stepP, stepR, ofM, hk, hn, hb, hs, List.findIdx?_cons, writeM, lessK]
theorem cross_put2 (kind : Int) (x y a : ByteArray) (ws : List Ver) (h1 : 1 ≤ a.size) (h8 : a.size ≤ 8) : (stepP ⟨2, [], [rdT kind 1 x ws, rdT kind 2 y []], [], [], 0⟩ ⟨4, 2, a, ⟨#[50]⟩, 0⟩).2 = ⟨2, [], [rdT kind 1 x ws, rdT kind 2 y [⟨a, 0, ⟨#[50]⟩, false⟩]], [], [], 0⟩ := by
  have hn : a ≠ ByteArray.empty := fun e => by rw [e] at h1; simp at h1
  have hb : ¬ 8 < a.size := by omega
  have hs : ¬ 20 < (⟨#[50]⟩ : ByteArray).size := by decide
  unfold rdT
  by_cases hk : kind = 2 <;> simp [stepP, stepR, ofM, hk, hn, hb, hs, List.findIdx?_cons, writeM, lessK]
theorem cross_commits (T1 T2 : PT) (h1 : T1.start = 1) (h2 : T2.start = 2) : stP ⟨2, [], [T1, T2], [], [], 0⟩ [⟨7, 1, ⟨#[]⟩, ⟨#[]⟩, 0⟩, ⟨7, 2, ⟨#[]⟩, ⟨#[]⟩, 0⟩] = ⟨2, [], [T1, T2], [1, 2], [], 0⟩ := by
  simp [stP, stepP, stepR, ofM, h1, h2, List.findIdx?_cons]
theorem cross_flush (T1 T2 : PT) (u v : Ver) (h1 : T1.start = 1) (h2 : T2.start = 2) (w1 : T1.ws = [u]) (w2 : T2.ws = [v]) :
    ∃ d, (stepP ⟨2, [], [T1, T2], [1, 2], [], 0⟩ ⟨8, 0, ⟨#[]⟩, ⟨#[]⟩, 2⟩).1 = ⟨0, 0, false, ⟨#[]⟩, [], [⟨1, 0, 3⟩, ⟨2, if hitM T2 u.key then 9 else 0, d⟩], []⟩ := by
  have r1 : refusedM ⟨2, [], [T2], [2], [], 0⟩ T1 = 0 := by
    simp [refusedM, conflM, h1, w1]
  have d1 : decideM ⟨2, [], [T2], [2], [], 0⟩ T1 = (⟨1, 0, 3⟩, commitM ⟨2, [], [T2], [2], [], 0⟩ T1) := by
    unfold decideM
    rw [if_neg (by rw [w1]; simp), if_neg (by rw [r1]; simp), h1]
    rfl
  have c1 : commitM ⟨2, [], [T2], [2], [], 0⟩ T1 = ⟨3, [⟨u.key, 3, u.val, u.gone⟩], [T2], [2], [(u.key, 3)], 0⟩ := by
    simp [commitM, w1, notesM, noteM, trimM, stampM]
  have o1 : outM ⟨2, [], [T1, T2], [1, 2], [], 0⟩ 1 [2] = ⟨2, [], [T2], [2], [], 0⟩ := by
    simp [outM, h1, h2]
  have o2 : outM ⟨3, [⟨u.key, 3, u.val, u.gone⟩], [T2], [2], [(u.key, 3)], 0⟩ 2 [] = ⟨3, [⟨u.key, 3, u.val, u.gone⟩], [], [], [(u.key, 3)], 0⟩ := by
    simp [outM, h2]
  have r2 : refusedM ⟨3, [⟨u.key, 3, u.val, u.gone⟩], [], [], [(u.key, 3)], 0⟩ T2 = if hitM T2 u.key then 9 else 0 := by
    simp [refusedM, conflM, h2, w2]
  have f1 : [T1, T2].find? (fun T => T.start == 1) = some T1 := by simp [h1]
  have f2 : [T2].find? (fun T => T.start == 2) = some T2 := by simp [h2]
  have e : stepP ⟨2, [], [T1, T2], [1, 2], [], 0⟩ ⟨8, 0, ⟨#[]⟩, ⟨#[]⟩, 2⟩ = (⟨0, 0, false, ⟨#[]⟩, [], (flushM 2 ⟨2, [], [T1, T2], [1, 2], [], 0⟩).1, []⟩, (flushM 2 ⟨2, [], [T1, T2], [1, 2], [], 0⟩).2) := by
    simp [stepP, stepR]
  rw [e]
  simp only [flushM, f1, o1, d1, c1, f2, o2]
  cases hh : hitM T2 u.key
  · refine ⟨4, ?_⟩
    unfold decideM
    rw [if_neg (by rw [w2]; simp), if_neg (by rw [r2, hh]; simp), h2]
    simp
  · refine ⟨0, ?_⟩
    unfold decideM
    rw [if_neg (by rw [w2]; simp), if_pos (by rw [r2, hh]; simp), h2, r2, hh]
theorem cross_ans (kind : Int) (x y a b : ByteArray) (hk : kind = 2 ∨ kind = 3) (hx1 : 1 ≤ x.size) (hx8 : x.size ≤ 8) (hy1 : 1 ≤ y.size) (hy8 : y.size ≤ 8) (ha1 : 1 ≤ a.size) (ha8 : a.size ≤ 8) (hb1 : 1 ≤ b.size) (hb8 : b.size ≤ 8) :
    ∃ A d, A.length = 8 ∧ ansP p0 (crossOps kind x y a b) = A ++ [⟨0, 0, false, ⟨#[]⟩, [], [⟨1, 0, 3⟩, ⟨2, if hitM (rdT kind 2 y []) b then 9 else 0, d⟩], []⟩] := by
  have s2 : stP p0 [⟨1, 0, ⟨#[]⟩, ⟨#[]⟩, 0⟩, ⟨1, 0, ⟨#[]⟩, ⟨#[]⟩, 0⟩] = ⟨2, [], [⟨1, [], [], []⟩, ⟨2, [], [], []⟩], [], [], 0⟩ := by kernel_rfl
  obtain ⟨d, hd⟩ := cross_flush (rdT kind 1 x [⟨b, 0, ⟨#[49]⟩, false⟩]) (rdT kind 2 y [⟨a, 0, ⟨#[50]⟩, false⟩]) _ _ (rd_start ..) (rd_start ..) (rd_ws ..) (rd_ws ..)
  have eh : hitM (rdT kind 2 y [⟨a, 0, ⟨#[50]⟩, false⟩]) b = hitM (rdT kind 2 y []) b := by
    unfold rdT
    split <;> rfl
  rw [eh] at hd
  have e8 : stP p0 ([⟨1, 0, ⟨#[]⟩, ⟨#[]⟩, 0⟩, ⟨1, 0, ⟨#[]⟩, ⟨#[]⟩, 0⟩] ++ ([⟨kind, 1, x, ⟨#[]⟩, 0⟩, ⟨kind, 2, y, ⟨#[]⟩, 0⟩, ⟨4, 1, b, ⟨#[49]⟩, 0⟩, ⟨4, 2, a, ⟨#[50]⟩, 0⟩] ++ [⟨7, 1, ⟨#[]⟩, ⟨#[]⟩, 0⟩, ⟨7, 2, ⟨#[]⟩, ⟨#[]⟩, 0⟩])) = ⟨2, [], [rdT kind 1 x [⟨b, 0, ⟨#[49]⟩, false⟩], rdT kind 2 y [⟨a, 0, ⟨#[50]⟩, false⟩]], [1, 2], [], 0⟩ := by
    rw [stP_append, stP_append, s2]
    have e4 : stP ⟨2, [], [⟨1, [], [], []⟩, ⟨2, [], [], []⟩], [], [], 0⟩ [⟨kind, 1, x, ⟨#[]⟩, 0⟩, ⟨kind, 2, y, ⟨#[]⟩, 0⟩, ⟨4, 1, b, ⟨#[49]⟩, 0⟩, ⟨4, 2, a, ⟨#[50]⟩, 0⟩] = ⟨2, [], [rdT kind 1 x [⟨b, 0, ⟨#[49]⟩, false⟩], rdT kind 2 y [⟨a, 0, ⟨#[50]⟩, false⟩]], [], [], 0⟩ := by
      simp only [stP]
      rw [cross_read1 kind x hk hx1 hx8, cross_read2 kind x y hk hy1 hy8, cross_put1 kind x y b hb1 hb8, cross_put2 kind x y a _ ha1 ha8]
    rw [e4]
    exact cross_commits _ _ (rd_start ..) (rd_start ..)
  refine ⟨ansP p0 ([⟨1, 0, ⟨#[]⟩, ⟨#[]⟩, 0⟩, ⟨1, 0, ⟨#[]⟩, ⟨#[]⟩, 0⟩] ++ ([⟨kind, 1, x, ⟨#[]⟩, 0⟩, ⟨kind, 2, y, ⟨#[]⟩, 0⟩, ⟨4, 1, b, ⟨#[49]⟩, 0⟩, ⟨4, 2, a, ⟨#[50]⟩, 0⟩] ++ [⟨7, 1, ⟨#[]⟩, ⟨#[]⟩, 0⟩, ⟨7, 2, ⟨#[]⟩, ⟨#[]⟩, 0⟩])), d, ansP_len _ _, ?_⟩
  rw [← hd, ← e8]
  exact ansP_snoc ([⟨1, 0, ⟨#[]⟩, ⟨#[]⟩, 0⟩, ⟨1, 0, ⟨#[]⟩, ⟨#[]⟩, 0⟩] ++ ([⟨kind, 1, x, ⟨#[]⟩, 0⟩, ⟨kind, 2, y, ⟨#[]⟩, 0⟩, ⟨4, 1, b, ⟨#[49]⟩, 0⟩, ⟨4, 2, a, ⟨#[50]⟩, 0⟩] ++ [⟨7, 1, ⟨#[]⟩, ⟨#[]⟩, 0⟩, ⟨7, 2, ⟨#[]⟩, ⟨#[]⟩, 0⟩])) p0 ⟨8, 0, ⟨#[]⟩, ⟨#[]⟩, 2⟩
end Go.Proofs.YtkfjafndplmdkaaGreat
