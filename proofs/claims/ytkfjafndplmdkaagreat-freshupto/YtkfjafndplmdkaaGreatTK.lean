import Derived.Test.YtkfjafndplmdkaaGreatPM
import Derived.Deep.QuietTactic
import Derived.BigQuiet
import Derived.Laws.StructEq
namespace Go.Proofs.YtkfjafndplmdkaaGreat
open Go.RowKit Go.Sort
set_option maxHeartbeats 400000 in
theorem op_any (k t : Int) (key val : ByteArray) (w : World) :
    Calls Tryz.prog 19 #[.int .i64 k, .int .i64 t, .string key, .string val] w fun e w' => e = .returned (OpM.v ⟨k, t, key, val, 0⟩) ∧ w' = w.alloc (.cells #[.int .i64 k, .int .i64 t, .string key, .string val, .int .i64 0] 30) := by
  go_enter Tryz.func19, Tryz.ntmps19
  go_wp2
  exact bodyPost_ret (v := OpM.v ⟨k, t, key, val, 0⟩) (by simp [results, Tryz.results19, go_sem]) rfl ⟨rfl, rfl⟩
/-- which of n things. -/
def pickM (c : Int) (n : Nat) : Nat := if c < 0 then ((-(c + 1)).toNat) % n else c.toNat % n
theorem pickM_lt (c : Int) (n : Nat) (h : 0 < n) : pickM c n < n := by
  unfold pickM
  split <;> exact Nat.mod_lt _ h
theorem pick_neg (c : Int) (n : Nat) (h : c < 0) : -((c + 1).tmod n) = (pickM c n : Int) := by
  obtain ⟨m, hm⟩ : ∃ m : Nat, c + 1 = -(m : Int) := ⟨(-(c + 1)).toNat, by omega⟩
  unfold pickM
  rw [if_pos h, hm, Int.neg_tmod, Int.neg_neg, Int.neg_neg, Int.toNat_natCast]
  rfl
theorem pick_pos (c : Int) (n : Nat) (h : ¬ c < 0) : c % (n : Int) = (pickM c n : Int) := by
  obtain ⟨m, rfl⟩ : ∃ m : Nat, c = (m : Int) := ⟨c.toNat, by omega⟩
  unfold pickM
  rw [if_neg h, Int.toNat_natCast]
  rfl
theorem ret_int {k : IntKind} {a b : Int} (h : a = b) : Ending.returned (.int k a) = .returned (.int k b) := by rw [h]
set_option maxHeartbeats 400000 in
theorem pick_any (c : Int) (n : Nat) (w : World) (hc : isInt c) (h : 0 < n) (hn : n ≤ 1000000000) :
    Calls Tryz.prog 21 #[.int .i64 c, .int .i64 n] w fun e w' => e = .returned (.int .i64 (pickM c n)) ∧ w' = w := by
  obtain ⟨h1, h2⟩ := hc
  by_cases hneg : c < 0
  · go_enter Tryz.func21, Tryz.ntmps21
    go_wp2
    go_ret
    exact ⟨ret_int (pick_neg c n hneg), rfl⟩
  · go_enter Tryz.func21, Tryz.ntmps21
    go_wp2
    go_ret
    exact ⟨ret_int (pick_pos c n (by omega)), rfl⟩
theorem neqItem (k v : ByteArray) (w : World) : (binOp .neq 66 (.agg #[.string k, .string v]) (.agg #[.string k, .string v])).run Tryz.prog w = .ok (.bool false) w := by
  simp [go_sem]
theorem itemCells_at (L : List (ByteArray × ByteArray)) : ∀ (j : Nat) (h : j < L.length), (itemCells L)[j * 2]? = some (.string L[j].1) ∧ (itemCells L)[j * 2 + 1]? = some (.string L[j].2) := by
  induction L with
  | nil => intro j h; simp at h
  | cons p r ih =>
    intro j h
    have e : itemCells (p :: r) = [.string p.1, .string p.2] ++ itemCells r := by simp [itemCells]
    cases j with
    | zero => simp [e]
    | succ i =>
      have := ih i (by simpa using h)
      rw [e]
      refine ⟨?_, ?_⟩
      · rw [List.getElem?_append_right (by simp; omega)]
        simpa [Nat.succ_mul] using this.1
      · rw [List.getElem?_append_right (by simp; omega)]
        have h2 : (i + 1) * 2 + 1 - 2 = i * 2 + 1 := by omega
        simpa [h2] using this.2
set_option maxRecDepth 100000 in
set_option maxHeartbeats 1000000 in
theorem sameItems_some (g g' c c' base base' : Nat) (L : List (ByteArray × ByteArray)) (w : World) (hL : L.length ≤ 9223372036854775807) (h : w.ownsRow base 66 2 (.slice (some ⟨g, 0, none⟩) L.length c) L.length (itemCells L)) (h' : w.ownsRow base' 66 2 (.slice (some ⟨g', 0, none⟩) L.length c') L.length (itemCells L)) :
    Calls Tryz.prog 20 #[.slice (some ⟨g, 0, none⟩) L.length c, .slice (some ⟨g', 0, none⟩) L.length c'] w fun e w' => e = .returned (.bool true) ∧ ∃ n, w' = w.drewN n := by
  have hcell : ∀ j (hj : j < L.length), w.cell? ⟨g, j * 2, none⟩ = some (.string L[j].1) ∧ w.cell? ⟨g, j * 2 + 1, none⟩ = some (.string L[j].2) ∧ w.cell? ⟨g', j * 2, none⟩ = some (.string L[j].1) ∧ w.cell? ⟨g', j * 2 + 1, none⟩ = some (.string L[j].2) := fun j hj => by
    have := itemCells_at L j hj
    exact ⟨(h.cellAt _ (by omega)).trans this.1, (h.cellAt _ (by omega)).trans this.2, (h'.cellAt _ (by omega)).trans this.1, (h'.cellAt _ (by omega)).trans this.2⟩
  have HC : Hid (∀ j (hj : j < L.length), w.cell? ⟨g, j * 2, none⟩ = some (.string L[j].1) ∧ w.cell? ⟨g, j * 2 + 1, none⟩ = some (.string L[j].2) ∧ w.cell? ⟨g', j * 2, none⟩ = some (.string L[j].1) ∧ w.cell? ⟨g', j * 2 + 1, none⟩ = some (.string L[j].2)) := hcell
  clear h h' hcell
  go_enter Tryz.func20, Tryz.ntmps20
  go_wp2
  go_loopw [5] (fun i wr => ∃ (j m : Nat), j ≤ L.length ∧ i = .int .i64 j ∧ wr = w.drewN m) (fun i _ => L.length - (intOf i).toNat)
  case atStart => exact ⟨0, 0, Nat.zero_le _, rfl, rfl⟩
  case round =>
    obtain ⟨j, m, hj, rfl, rfl⟩ := hrel
    by_cases hlt : j < L.length
    · obtain ⟨o0, o1, o2, o3⟩ := HC.out j hlt
      generalize L[j].1 = k at *
      generalize L[j].2 = v at *
      have hne := neqItem k v
      go_wp2_with fail
      go_quiet (fail)
      go_wp2
      go_roundw
      case rel => exact ⟨j + 1, _, by omega, by go_num, rfl⟩
      case measure => simp [intOf]; omega
    · go_wp2
      go_ret
      exact ⟨rfl, m, rfl⟩
set_option maxHeartbeats 400000 in
theorem sameItems_zero (a a' : Option Addr) (c c' : Nat) (w : World) :
    Calls Tryz.prog 20 #[.slice a 0 c, .slice a' 0 c'] w fun e w' => e = .returned (.bool true) ∧ w' = w := by
  go_enter Tryz.func20, Tryz.ntmps20
  go_wp2
  refine wp_loop_rounds 1 ?_
  rw [rounds_succ]
  go_wp2
  go_ret
  exact ⟨rfl, rfl⟩
theorem sameItems_any (x y : Sl) (base base' : Nat) (L : List (ByteArray × ByteArray)) (w : World) (h : w.ownsRow base 66 2 (slV x) L.length (itemCells L)) (h' : w.ownsRow base' 66 2 (slV y) L.length (itemCells L)) :
    Calls Tryz.prog 20 #[slV x, slV y] w fun e w' => e = .returned (.bool true) ∧ ∃ n, w' = w.drewN n := by
  obtain ⟨a, k, c⟩ := x
  obtain ⟨a', k', c'⟩ := y
  have zero : L.length = 0 → k = 0 ∧ k' = 0 := fun h0 => by
    refine ⟨?_, ?_⟩
    · rcases h.2 with ⟨e, _⟩ | ⟨g, cap, cur, e, _⟩
      · simp at e; exact e.2.1
      · simp at e; omega
    · rcases h'.2 with ⟨e, _⟩ | ⟨g, cap, cur, e, _⟩
      · simp at e; exact e.2.1
      · simp at e; omega
  by_cases h0 : L.length = 0
  · obtain ⟨rfl, rfl⟩ := zero h0
    refine (sameItems_zero a a' c c' w).mono ?_
    rintro e w' ⟨rfl, rfl⟩
    exact ⟨rfl, 0, rfl⟩
  · rcases h.2 with ⟨_, e⟩ | ⟨g, cap, cur, e, _, _, hle1, hle2, _⟩
    · omega
    rcases h'.2 with ⟨_, e'⟩ | ⟨g', cap', cur', e', _⟩
    · omega
    rw [e] at h
    rw [e'] at h'
    show Calls Tryz.prog 20 #[.slice a k c, .slice a' k' c'] w _
    simp only [slV] at e e'
    rw [e, e']
    exact sameItems_some g g' cap cap' base base' L w (by unfold maxLen at hle2; omega) h h'
theorem ansCells_at : ∀ (As : List AnsM) (sl : List Sl3) (h : sl.length = As.length) (i f : Nat) (hi : i < As.length) (_hf : f < 7), (ansCells As sl)[i * 7 + f]? = (ansCell (As[i], sl[i]))[f]?
  | [], _, _, _, _, hi, _ => by simp at hi
  | A :: r, [], h, _, _, _, _ => by simp at h
  | A :: r, x :: xs, h, 0, f, _, hf => by
    have e : ansCells (A :: r) (x :: xs) = ansCell (A, x) ++ ansCells r xs := by simp [ansCells]
    rw [e, List.getElem?_append_left (by simp [ansCell]; omega)]
    simp
  | A :: r, x :: xs, h, i + 1, f, hi, hf => by
    have e : ansCells (A :: r) (x :: xs) = ansCell (A, x) ++ ansCells r xs := by simp [ansCells]
    have hl : (ansCell (A, x)).length = 7 := rfl
    rw [e, List.getElem?_append_right (by omega), hl]
    have h2 : (i + 1) * 7 + f - 7 = i * 7 + f := by omega
    rw [h2, ansCells_at r xs (by simpa using h) i f (by simpa using hi) hf]
    rfl
def readOps : List OpM := [⟨1, 0, ⟨#[]⟩, ⟨#[]⟩, 0⟩, ⟨4, 1, ⟨#[97]⟩, ⟨#[120]⟩, 0⟩, ⟨2, 1, ⟨#[97]⟩, ⟨#[]⟩, 0⟩, ⟨1, 0, ⟨#[]⟩, ⟨#[]⟩, 0⟩, ⟨2, 2, ⟨#[97]⟩, ⟨#[]⟩, 0⟩, ⟨2, 3, ⟨#[97]⟩, ⟨#[]⟩, 0⟩]
theorem readAns : ansP p0 readOps = [⟨0, 1, false, ⟨#[]⟩, [], [], []⟩, errA 0, ⟨0, 0, true, ⟨#[120]⟩, [], [], []⟩, ⟨0, 2, false, ⟨#[]⟩, [], [], []⟩, errA 0, errA 2] := by kernel_rfl
theorem readOk : ∀ o ∈ readOps, o.ok := by
  intro o ho
  simp only [readOps, List.mem_cons, List.not_mem_nil, or_false] at ho
  rcases ho with rfl | rfl | rfl | rfl | rfl | rfl
  all_goals exact ⟨by unfold isInt; simp, by unfold isInt; simp, by simp [ByteArray.size, maxLen], by simp [ByteArray.size, maxLen], by unfold isInt; simp⟩
def opCells (ops : List OpM) : List Value := ops.flatMap OpM.vals
theorem opCells_len (ops : List OpM) : (opCells ops).length = ops.length * 5 := by
  induction ops with
  | nil => rfl
  | cons o r ih => simp [opCells, OpM.vals] at *; omega
theorem opCells_at : ∀ (ops : List OpM) (j i : Nat) (hj : j < ops.length) (_hi : i < 5), (opCells ops)[j * 5 + i]? = (ops[j].vals)[i]?
  | [], _, _, hj, _ => by simp at hj
  | o :: r, 0, i, _, hi => by
    have e : opCells (o :: r) = o.vals ++ opCells r := by simp [opCells]
    rw [e, List.getElem?_append_left (by simp [OpM.vals]; omega)]
    simp
  | o :: r, j + 1, i, hj, hi => by
    have e : opCells (o :: r) = o.vals ++ opCells r := by simp [opCells]
    have hl : o.vals.length = 5 := rfl
    rw [e, List.getElem?_append_right (by omega), hl]
    have h2 : (j + 1) * 5 + i - 5 = j * 5 + i := by omega
    rw [h2, opCells_at r j i (by simpa using hj) hi]
    rfl
theorem opsAt_of {w : World} {b off : Nat} {ops : List OpM} (h : ∀ j, j < ops.length * 5 → w.cell? ⟨b, off + j, none⟩ = (opCells ops)[j]?) : OpsAt w b off ops := fun j hj => by
  have g : ∀ i v, i < 5 → (ops[j].vals)[i]? = some v → w.cell? ⟨b, off + j * 5 + i, none⟩ = some v := fun i v hi hv => by
    have := h (j * 5 + i) (by omega)
    rw [← Nat.add_assoc, opCells_at ops j i hj hi, hv] at this
    exact this
  exact ⟨g 0 _ (by omega) rfl, g 1 _ (by omega) rfl, g 2 _ (by omega) rfl, g 3 _ (by omega) rfl, g 4 _ (by omega) rfl⟩
theorem opsAt_block {w : World} {b : Nat} {c : Array Value} {t : TypeId} {f : Nat × Nat} {ops : List OpM} (hb : w.heap[b]? = some (.cells c t f)) (hc : c.toList = opCells ops) : OpsAt w b 0 ops :=
  opsAt_of fun j _ => by
    rw [← hc]
    simp [World.cell?, hb]
/-- what an answer's cells hold. -/
theorem ans_cells {w : World} {base g n cap : Nat} {As : List AnsM} {sl : List Sl3} (hl : sl.length = As.length) (h : w.ownsRow base 36 7 (.slice (some ⟨g, 0, none⟩) n cap) n (ansCells As sl)) (i : Nat) (hi : i < As.length) :
    w.cell? ⟨g, i * 7, none⟩ = some (.int .i64 As[i].code) ∧ w.cell? ⟨g, i * 7 + 1, none⟩ = some (.int .i64 As[i].number) ∧ w.cell? ⟨g, i * 7 + 2, none⟩ = some (.bool As[i].found) ∧ w.cell? ⟨g, i * 7 + 3, none⟩ = some (.string As[i].value) ∧ w.cell? ⟨g, i * 7 + 4, none⟩ = some (slV sl[i].1) ∧ w.cell? ⟨g, i * 7 + 5, none⟩ = some (slV sl[i].2.1) := by
  have g0 : ∀ f v, f < 7 → (ansCell (As[i], sl[i]))[f]? = some v → w.cell? ⟨g, i * 7 + f, none⟩ = some v := fun f v hf hv => row_cells h _ v (by rw [ansCells_at As sl hl i f hi hf]; exact hv)
  exact ⟨g0 0 _ (by omega) rfl, g0 1 _ (by omega) rfl, g0 2 _ (by omega) rfl, g0 3 _ (by omega) rfl, g0 4 _ (by omega) rfl, g0 5 _ (by omega) rfl⟩
theorem heap_new {w : World} {o : Obj} {b : Nat} (h : b = w.heap.size) : (w.alloc o).heap[b]? = some o := by
  subst h
  exact (MapKept.heap_alloc _ _).1
theorem read_run (b : Nat) (w : World) (hb : w.heap[b]? = some (.cells #[.int .i64 1, .int .i64 0, .string ⟨#[]⟩, .string ⟨#[]⟩, .int .i64 0, .int .i64 4, .int .i64 1, .string ⟨#[97]⟩, .string ⟨#[120]⟩, .int .i64 0, .int .i64 2, .int .i64 1, .string ⟨#[97]⟩, .string ⟨#[]⟩, .int .i64 0, .int .i64 1, .int .i64 0, .string ⟨#[]⟩, .string ⟨#[]⟩, .int .i64 0, .int .i64 2, .int .i64 2, .string ⟨#[97]⟩, .string ⟨#[]⟩, .int .i64 0, .int .i64 2, .int .i64 3, .string ⟨#[97]⟩, .string ⟨#[]⟩, .int .i64 0] 30)) :
    Calls Tryz.prog 16 #[.slice (some ⟨b, 0, none⟩) 6 6] w fun e w' => ∃ g cap : Nat, e = .returned (.slice (some ⟨g, 0, none⟩) 6 cap) ∧ Chg nobody w w' ∧ w'.cell? ⟨g, 1, none⟩ = some (.int .i64 1) ∧ w'.cell? ⟨g, 16, none⟩ = some (.bool true) ∧ w'.cell? ⟨g, 17, none⟩ = some (.string ⟨#[120]⟩) ∧ w'.cell? ⟨g, 22, none⟩ = some (.int .i64 2) ∧ w'.cell? ⟨g, 28, none⟩ = some (.int .i64 0) ∧ w'.cell? ⟨g, 30, none⟩ = some (.bool false) ∧ w'.cell? ⟨g, 35, none⟩ = some (.int .i64 2) := by
  have h := run_any b 0 6 readOps w (opsAt_block hb rfl) (lt_of_block hb) readOk (by decide)
  refine Calls.mono h ?_
  rintro e w2 ⟨g, cap, sl, rfl, hrow, hit, hc⟩
  obtain ⟨hl, _⟩ := hit
  rw [readAns] at hrow hl
  have a0 := (ans_cells hl hrow 0 (by simp)).2.1
  have a2 := (ans_cells hl hrow 2 (by simp)).2.2
  have a3 := (ans_cells hl hrow 3 (by simp)).2.1
  have a4 := (ans_cells hl hrow 4 (by simp))
  have a5 := (ans_cells hl hrow 5 (by simp)).1
  simp at a0 a2 a3 a4 a5
  exact ⟨g, cap, rfl, hc, a0, a2.1, a2.2.1, a3, a4.1, a4.2.2.1, a5⟩
set_option maxRecDepth 100000 in
set_option maxHeartbeats 1000000 in
theorem reading_any (w : World) : Calls Tryz.prog 15 #[] w fun e w' => e = .returned (.bool true) ∧ Chg nobody w w' := by
  go_enter Tryz.func15, Tryz.ntmps15
  go_wp2_with (go_at_call 19; refine (op_any _ _ _ _ _).mono ?_; rintro e w' ⟨rfl, rfl⟩)
  refine (read_run _ _ ?_).mono ?_
  · exact heap_new (by simp)
  rintro e w2 ⟨g, cap, rfl, hc, a0, a1, a2, a3, a4, a5, a6⟩
  have HCh : Hid (Chg nobody w w2) := ((((((Chg.refl _ _).alloc _).alloc _).alloc _).alloc _).alloc _).trans hc
  clear hc
  go_wp2
  go_ret
  exact ⟨rfl, HCh.out⟩
end Go.Proofs.YtkfjafndplmdkaaGreat
