import Derived.Test.YtkfjafndplmdkaaGreatXA
namespace Go.Proofs.YtkfjafndplmdkaaGreat
open Go.RowKit Go.Sort
theorem decOk : ∀ o ∈ decOps, o.ok := by
  intro o ho
  simp only [decOps, List.mem_cons, List.not_mem_nil, or_false] at ho
  rcases ho with rfl | rfl | rfl | rfl | rfl | rfl | rfl | rfl | rfl | rfl
  all_goals exact ⟨by unfold isInt; simp, by unfold isInt; simp, by simp [ByteArray.size, maxLen], by simp [ByteArray.size, maxLen], by unfold isInt; simp⟩
/-- A list of two decisions that was answered: where it lies. -/
theorem two_done {w : World} {base : Nat} {x : Sl} {d e : Dec} (h : w.ownsRow base 44 3 (slV x) [d, e].length (decCells [d, e])) :
    ∃ g cap : Nat, slV x = .slice (some ⟨g, 0, none⟩) 2 cap ∧ w.cell? ⟨g, 0, none⟩ = some (.int .i64 d.num) ∧ w.cell? ⟨g, 1, none⟩ = some (.int .i64 d.code) ∧ w.cell? ⟨g, 2, none⟩ = some (.int .i64 d.time) ∧ w.cell? ⟨g, 3, none⟩ = some (.int .i64 e.num) ∧ w.cell? ⟨g, 4, none⟩ = some (.int .i64 e.code) ∧ w.cell? ⟨g, 5, none⟩ = some (.int .i64 e.time) := by
  rcases h.2 with ⟨_, h0⟩ | ⟨g, cap, cur, e1, _⟩
  · simp at h0
  · have h1 := h
    rw [e1] at h1
    exact ⟨g, cap, e1, row_cells h1 0 _ rfl, row_cells h1 1 _ rfl, row_cells h1 2 _ rfl, row_cells h1 3 _ rfl, row_cells h1 4 _ rfl, row_cells h1 5 _ rfl⟩
theorem dec_run (b : Nat) (w : World) (hb : w.heap[b]? = some (.cells #[.int .i64 1, .int .i64 0, .string ⟨#[]⟩, .string ⟨#[]⟩, .int .i64 0, .int .i64 4, .int .i64 1, .string ⟨#[97]⟩, .string ⟨#[120]⟩, .int .i64 0, .int .i64 1, .int .i64 0, .string ⟨#[]⟩, .string ⟨#[]⟩, .int .i64 0, .int .i64 2, .int .i64 2, .string ⟨#[97]⟩, .string ⟨#[]⟩, .int .i64 0, .int .i64 4, .int .i64 2, .string ⟨#[98]⟩, .string ⟨#[121]⟩, .int .i64 0, .int .i64 7, .int .i64 1, .string ⟨#[]⟩, .string ⟨#[]⟩, .int .i64 0, .int .i64 7, .int .i64 2, .string ⟨#[]⟩, .string ⟨#[]⟩, .int .i64 0, .int .i64 8, .int .i64 0, .string ⟨#[]⟩, .string ⟨#[]⟩, .int .i64 5, .int .i64 1, .int .i64 0, .string ⟨#[]⟩, .string ⟨#[]⟩, .int .i64 0, .int .i64 2, .int .i64 4, .string ⟨#[97]⟩, .string ⟨#[]⟩, .int .i64 0] 30)) :
    Calls Tryz.prog 16 #[.slice (some ⟨b, 0, none⟩) 10 10] w fun e w' => ∃ g cap gd cd : Nat, e = .returned (.slice (some ⟨g, 0, none⟩) 10 cap) ∧ Chg nobody w w' ∧
      w'.cell? ⟨g, 54, none⟩ = some (.slice (some ⟨gd, 0, none⟩) 2 cd) ∧ w'.cell? ⟨g, 57, none⟩ = some (.int .i64 4) ∧ w'.cell? ⟨g, 66, none⟩ = some (.string ⟨#[120]⟩) ∧
      w'.cell? ⟨gd, 0, none⟩ = some (.int .i64 1) ∧ w'.cell? ⟨gd, 1, none⟩ = some (.int .i64 0) ∧ w'.cell? ⟨gd, 2, none⟩ = some (.int .i64 3) ∧ w'.cell? ⟨gd, 3, none⟩ = some (.int .i64 2) ∧ w'.cell? ⟨gd, 4, none⟩ = some (.int .i64 9) ∧ w'.cell? ⟨gd, 5, none⟩ = some (.int .i64 0) := by
  have h := run_any b 0 10 decOps w (opsAt_block hb rfl) (lt_of_block hb) decOk (by decide)
  refine Calls.mono h ?_
  rintro e w2 ⟨g, cap, sl, rfl, hrow, hit, hc⟩
  have hl := hit.1
  have h7 := hit.at 7 (by rw [decAns]; simp)
  have a7 := (ans_cells hl hrow 7 (by rw [decAns]; simp)).2.2.2.2.2
  have a8 := (ans_cells hl hrow 8 (by rw [decAns]; simp)).2.1
  have a9 := (ans_cells hl hrow 9 (by rw [decAns]; simp)).2.2.2.1
  have e7 : (ansP p0 decOps)[7]'(by rw [decAns]; simp) = ⟨0, 0, false, ⟨#[]⟩, [], [⟨1, 0, 3⟩, ⟨2, 9, 0⟩], []⟩ := by simp [decAns]
  have e8 : (ansP p0 decOps)[8]'(by rw [decAns]; simp) = ⟨0, 4, false, ⟨#[]⟩, [], [], []⟩ := by simp [decAns]
  have e9 : (ansP p0 decOps)[9]'(by rw [decAns]; simp) = ⟨0, 0, true, ⟨#[120]⟩, [], [], []⟩ := by simp [decAns]
  rw [e7] at h7
  rw [e8] at a8
  rw [e9] at a9
  obtain ⟨gd, cd, ed, d0, d1, d2, d3, d4, d5⟩ := two_done h7.2.1
  rw [ed] at a7
  exact ⟨g, cap, gd, cd, rfl, hc, a7, a8, a9, d0, d1, d2, d3, d4, d5⟩
set_option maxRecDepth 100000 in
set_option maxHeartbeats 1000000 in
theorem deciding_any (w : World) : Calls Tryz.prog 22 #[] w fun e w' => e = .returned (.bool true) ∧ Chg nobody w w' := by
  go_enter Tryz.func22, Tryz.ntmps22
  go_wp2_with (go_at_call 19; refine (op_any _ _ _ _ _).mono ?_; rintro e w' ⟨rfl, rfl⟩)
  refine (dec_run _ _ ?_).mono ?_
  · exact heap_new (by simp)
  rintro e w2 ⟨g, cap, gd, cd, rfl, hc, a7, a8, a9, d0, d1, d2, d3, d4, d5⟩
  have HCh : Hid (Chg nobody w w2) := (((((((Chg.refl _ _).alloc _).alloc _).alloc _).alloc _).alloc _).alloc _ |>.alloc _).trans hc
  clear hc
  go_wp2
  go_ret
  exact ⟨rfl, HCh.out⟩
end Go.Proofs.YtkfjafndplmdkaaGreat
