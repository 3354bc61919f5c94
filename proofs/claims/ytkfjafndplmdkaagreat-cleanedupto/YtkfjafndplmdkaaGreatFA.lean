import Derived.Test.YtkfjafndplmdkaaGreatXB
namespace Go.Proofs.YtkfjafndplmdkaaGreat
open Go.RowKit Go.Sort
def fenOps : List OpM := [⟨1, 0, ⟨#[]⟩, ⟨#[]⟩, 0⟩, ⟨4, 1, ⟨#[97]⟩, ⟨#[120]⟩, 0⟩, ⟨9, 0, ⟨#[]⟩, ⟨#[]⟩, 0⟩, ⟨10, 0, ⟨#[]⟩, ⟨#[]⟩, 0⟩, ⟨11, 0, ⟨#[]⟩, ⟨#[]⟩, 0⟩, ⟨2, 1, ⟨#[97]⟩, ⟨#[]⟩, 0⟩]
theorem fenAns : ansP p0 fenOps = [⟨0, 1, false, ⟨#[]⟩, [], [], []⟩, errA 0, ⟨0, 1, false, ⟨#[]⟩, [], [], []⟩, errA 0, ⟨0, 0, false, ⟨#[]⟩, [], [], [0, 0, 0, 0, 1, 1]⟩, errA 2] := by kernel_rfl
theorem fenOk : ∀ o ∈ fenOps, o.ok := by
  intro o ho
  simp only [fenOps, List.mem_cons, List.not_mem_nil, or_false] at ho
  rcases ho with rfl | rfl | rfl | rfl | rfl | rfl
  all_goals exact ⟨by unfold isInt; simp, by unfold isInt; simp, by simp [ByteArray.size, maxLen], by simp [ByteArray.size, maxLen], by unfold isInt; simp⟩
/-- the list of sums of an answer. -/
theorem ans_sums {w : World} {base g n cap : Nat} {As : List AnsM} {sl : List Sl3} (hl : sl.length = As.length) (h : w.ownsRow base 36 7 (.slice (some ⟨g, 0, none⟩) n cap) n (ansCells As sl)) (i : Nat) (hi : i < As.length) : w.cell? ⟨g, i * 7 + 6, none⟩ = some (slV (sl[i]'(by omega)).2.2) :=
  row_cells h _ _ (by rw [ansCells_at As sl hl i 6 hi (by omega)]; rfl)
theorem six_sums {w : World} {base : Nat} {x : Sl} {a b c d e f : Int} (h : w.ownsRow base 3 1 (slV x) [a, b, c, d, e, f].length ([a, b, c, d, e, f].map (fun n => Value.int .i64 n))) :
    ∃ g cap : Nat, slV x = .slice (some ⟨g, 0, none⟩) 6 cap ∧ g < w.heap.size ∧ w.cell? ⟨g, 1, none⟩ = some (.int .i64 b) ∧ w.cell? ⟨g, 2, none⟩ = some (.int .i64 c) ∧ w.cell? ⟨g, 3, none⟩ = some (.int .i64 d) ∧ w.cell? ⟨g, 4, none⟩ = some (.int .i64 e) ∧ w.cell? ⟨g, 5, none⟩ = some (.int .i64 f) := by
  rcases h.2 with ⟨_, h0⟩ | ⟨g, cap, cur, e1, _, hb, _⟩
  · simp at h0
  · have h1 := h
    rw [e1] at h1
    exact ⟨g, cap, e1, lt_of_block hb, row_cells h1 1 _ rfl, row_cells h1 2 _ rfl, row_cells h1 3 _ rfl, row_cells h1 4 _ rfl, row_cells h1 5 _ rfl⟩
theorem fen_run (b : Nat) (w : World) (hb : w.heap[b]? = some (.cells #[.int .i64 1, .int .i64 0, .string ⟨#[]⟩, .string ⟨#[]⟩, .int .i64 0, .int .i64 4, .int .i64 1, .string ⟨#[97]⟩, .string ⟨#[120]⟩, .int .i64 0, .int .i64 9, .int .i64 0, .string ⟨#[]⟩, .string ⟨#[]⟩, .int .i64 0, .int .i64 10, .int .i64 0, .string ⟨#[]⟩, .string ⟨#[]⟩, .int .i64 0, .int .i64 11, .int .i64 0, .string ⟨#[]⟩, .string ⟨#[]⟩, .int .i64 0, .int .i64 2, .int .i64 1, .string ⟨#[97]⟩, .string ⟨#[]⟩, .int .i64 0] 30)) :
    Calls Tryz.prog 16 #[.slice (some ⟨b, 0, none⟩) 6 6] w fun e w' => ∃ g cap gs cs : Nat, e = .returned (.slice (some ⟨g, 0, none⟩) 6 cap) ∧ Chg nobody w w' ∧
      w'.cell? ⟨g, 15, none⟩ = some (.int .i64 1) ∧ w'.cell? ⟨g, 21, none⟩ = some (.int .i64 0) ∧ w'.cell? ⟨g, 34, none⟩ = some (.slice (some ⟨gs, 0, none⟩) 6 cs) ∧ w'.cell? ⟨g, 35, none⟩ = some (.int .i64 2) ∧ w'.cell? ⟨gs, 4, none⟩ = some (.int .i64 1) := by
  have h := run_any b 0 6 fenOps w (opsAt_block hb rfl) (lt_of_block hb) fenOk (by decide)
  refine Calls.mono h ?_
  rintro e w2 ⟨g, cap, sl, rfl, hrow, hit, hc⟩
  have hl := hit.1
  have h4 := hit.at 4 (by rw [fenAns]; simp)
  have a2 := (ans_cells hl hrow 2 (by rw [fenAns]; simp)).2.1
  have a3 := (ans_cells hl hrow 3 (by rw [fenAns]; simp)).1
  have a4 := ans_sums hl hrow 4 (by rw [fenAns]; simp)
  have a5 := (ans_cells hl hrow 5 (by rw [fenAns]; simp)).1
  have e2 : (ansP p0 fenOps)[2]'(by rw [fenAns]; simp) = ⟨0, 1, false, ⟨#[]⟩, [], [], []⟩ := by simp [fenAns]
  have e3 : (ansP p0 fenOps)[3]'(by rw [fenAns]; simp) = errA 0 := by simp [fenAns]
  have e4 : (ansP p0 fenOps)[4]'(by rw [fenAns]; simp) = ⟨0, 0, false, ⟨#[]⟩, [], [], [0, 0, 0, 0, 1, 1]⟩ := by simp [fenAns]
  have e5 : (ansP p0 fenOps)[5]'(by rw [fenAns]; simp) = errA 2 := by simp [fenAns]
  rw [e2] at a2
  rw [e3] at a3
  rw [e4] at h4
  rw [e5] at a5
  obtain ⟨gs, cs, ed, _, _, _, _, d4, _⟩ := six_sums h4.2.2
  rw [ed] at a4
  exact ⟨g, cap, gs, cs, rfl, hc, a2, a3, a4, a5, d4⟩
set_option maxRecDepth 100000 in
set_option maxHeartbeats 1000000 in
theorem fencing_any (w : World) : Calls Tryz.prog 24 #[] w fun e w' => e = .returned (.bool true) ∧ Chg nobody w w' := by
  go_enter Tryz.func24, Tryz.ntmps24
  go_wp2_with (go_at_call 19; refine (op_any _ _ _ _ _).mono ?_; rintro e w' ⟨rfl, rfl⟩)
  refine (fen_run _ _ ?_).mono ?_
  · exact heap_new (by simp)
  rintro e w2 ⟨g, cap, gs, cs, rfl, hc, a2, a3, a4, a5, d4⟩
  have HCh : Hid (Chg nobody w w2) := (((Chg.refl _ _).alloc _).alloc _ |>.alloc _).trans hc
  clear hc
  go_wp2
  go_ret
  exact ⟨rfl, HCh.out⟩
end Go.Proofs.YtkfjafndplmdkaaGreat
