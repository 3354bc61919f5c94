import Derived.Test.YtcpjocgpahjcjaaRV
import Derived.Test.YtcpjocgpahjcjaaTL
namespace Go.Proofs.Ytcpjocgpahjcjaa
open Go.RowKit Go.Sort


set_option maxRecDepth 100000 in
set_option maxHeartbeats 1000000 in
theorem lawItems_some (g g' c c' base base' : Nat) (L : List (ByteArray × ByteArray)) (w : World) (hL : L.length ≤ 9223372036854775807) (h : w.ownsRow base 48 2 (.slice (some ⟨g, 0, none⟩) L.length c) L.length (itemCells L)) (h' : w.ownsRow base' 48 2 (.slice (some ⟨g', 0, none⟩) L.length c') L.length (itemCells L)) :
    Calls Try.prog 19 #[.slice (some ⟨g, 0, none⟩) L.length c, .slice (some ⟨g', 0, none⟩) L.length c'] w fun e w' => e = .returned (.bool true) ∧ ∃ n, w' = w.drewN n := by
  have hcell : ∀ j (hj : j < L.length), w.cell? ⟨g, j * 2, none⟩ = some (.string L[j].1) ∧ w.cell? ⟨g, j * 2 + 1, none⟩ = some (.string L[j].2) ∧ w.cell? ⟨g', j * 2, none⟩ = some (.string L[j].1) ∧ w.cell? ⟨g', j * 2 + 1, none⟩ = some (.string L[j].2) := fun j hj => by
    have := itemCells_at L j hj
    exact ⟨(h.cellAt _ (by omega)).trans this.1, (h.cellAt _ (by omega)).trans this.2, (h'.cellAt _ (by omega)).trans this.1, (h'.cellAt _ (by omega)).trans this.2⟩
  have HC : Hid (∀ j (hj : j < L.length), w.cell? ⟨g, j * 2, none⟩ = some (.string L[j].1) ∧ w.cell? ⟨g, j * 2 + 1, none⟩ = some (.string L[j].2) ∧ w.cell? ⟨g', j * 2, none⟩ = some (.string L[j].1) ∧ w.cell? ⟨g', j * 2 + 1, none⟩ = some (.string L[j].2)) := hcell
  clear h h' hcell
  go_enter Try.func19, Try.ntmps19
  go_wp2
  go_loopw [5] (fun i wr => ∃ (j m : Nat), j ≤ L.length ∧ i = .int .i64 j ∧ wr = w.drewN m) (fun i _ => L.length - (intOf i).toNat)
  case atStart => exact ⟨0, 0, Nat.zero_le _, rfl, rfl⟩
  case round =>
    obtain ⟨j, m, hj, rfl, rfl⟩ := hrel
    by_cases hlt : j < L.length
    · obtain ⟨o0, o1, o2, o3⟩ := HC.out j hlt
      generalize L[j].1 = k at *
      generalize L[j].2 = v at *
      have hne := neqItem k v
      go_wp2_with fail
      go_quiet (fail)
      go_wp2
      go_roundw
      case rel => exact ⟨j + 1, _, by omega, by go_num, rfl⟩
      case measure => simp [intOf]; omega
    · go_wp2
      go_ret
      exact ⟨rfl, m, rfl⟩
set_option maxHeartbeats 400000 in
theorem lawItems_zero (a a' : Option Addr) (c c' : Nat) (w : World) :
    Calls Try.prog 19 #[.slice a 0 c, .slice a' 0 c'] w fun e w' => e = .returned (.bool true) ∧ w' = w := by
  go_enter Try.func19, Try.ntmps19
  go_wp2
  refine wp_loop_rounds 1 ?_
  rw [rounds_succ]
  go_wp2
  go_ret
  exact ⟨rfl, rfl⟩
theorem lawItems_any (x y : Sl) (base base' : Nat) (L : List (ByteArray × ByteArray)) (w : World) (h : w.ownsRow base 48 2 (slV x) L.length (itemCells L)) (h' : w.ownsRow base' 48 2 (slV y) L.length (itemCells L)) :
    Calls Try.prog 19 #[slV x, slV y] w fun e w' => e = .returned (.bool true) ∧ ∃ n, w' = w.drewN n := by
  obtain ⟨a, k, c⟩ := x
  obtain ⟨a', k', c'⟩ := y
  have zero : L.length = 0 → k = 0 ∧ k' = 0 := fun h0 => by
    refine ⟨?_, ?_⟩
    · rcases h.2 with ⟨e, _⟩ | ⟨g, cap, cur, e, _⟩
      · simp at e; exact e.2.1
      · simp at e; omega
    · rcases h'.2 with ⟨e, _⟩ | ⟨g, cap, cur, e, _⟩
      · simp at e; exact e.2.1
      · simp at e; omega
  by_cases h0 : L.length = 0
  · obtain ⟨rfl, rfl⟩ := zero h0
    refine (lawItems_zero a a' c c' w).mono ?_
    rintro e w' ⟨rfl, rfl⟩
    exact ⟨rfl, 0, rfl⟩
  · rcases h.2 with ⟨_, e⟩ | ⟨g, cap, cur, e, _, _, hle1, hle2, _⟩
    · omega
    rcases h'.2 with ⟨_, e'⟩ | ⟨g', cap', cur', e', _⟩
    · omega
    rw [e] at h
    rw [e'] at h'
    show Calls Try.prog 19 #[.slice a k c, .slice a' k' c'] w _
    simp only [slV] at e e'
    rw [e, e']
    exact lawItems_some g g' cap cap' base base' L w (by unfold maxLen at hle2; omega) h h'
set_option maxHeartbeats 400000 in
theorem sameDone_nil (w : World) : Calls Try.prog 20 #[.slice none 0 0, .slice none 0 0] w fun e w' => e = .returned (.bool true) ∧ w' = w := by
  go_enter Try.func20, Try.ntmps20
  go_wp2
  refine wp_loop_rounds 1 ?_
  rw [rounds_succ]
  go_wp2
  go_ret
  exact ⟨rfl, rfl⟩
set_option maxHeartbeats 400000 in
theorem sameInts_nil (w : World) : Calls Try.prog 21 #[.slice none 0 0, .slice none 0 0] w fun e w' => e = .returned (.bool true) ∧ w' = w := by
  go_enter Try.func21, Try.ntmps21
  go_wp2
  refine wp_loop_rounds 1 ?_
  rw [rounds_succ]
  go_wp2
  go_ret
  exact ⟨rfl, rfl⟩
set_option maxHeartbeats 400000 in
theorem num_any (c : Int) (w : World) : Calls Try.prog 22 #[.int .i64 c] w fun e w' => e = .returned (.int .i64 c) ∧ w' = w := by
  go_enter Try.func22, Try.ntmps22
  go_wp2
  go_ret
  exact ⟨rfl, rfl⟩
/-- what an answer's cells hold, the last one too. -/
theorem ans_cells6 {w : World} {base g n cap : Nat} {As : List AnsM} {sl : List Sl} (hl : sl.length = As.length) (h : w.ownsRow base 36 7 (.slice (some ⟨g, 0, none⟩) n cap) n (ansCells As sl)) (i : Nat) (hi : i < As.length) : w.cell? ⟨g, i * 7 + 6, none⟩ = some (.slice none 0 0) :=
  row_cells h _ _ (by rw [ansCells_at As sl hl i 6 hi (by omega)]; rfl)
end Go.Proofs.Ytcpjocgpahjcjaa
