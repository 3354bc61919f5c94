import Derived.Test.YtcpjocgpahjcjaaRE
namespace Go.Proofs.Ytcpjocgpahjcjaa
open Go.RowKit Go.Sort
/-- A transaction of the reference, with where its lists lie. -/
structure RT where
  start : Int
  ws : List Ver
  wa : Option Addr
  wc : Nat
  ks : List ByteArray
  ka : Option Addr
  kc : Nat
  ps : List ByteArray
  pa : Option Addr
  pc : Nat
def RT.cells (T : RT) : List Value := [.int .i64 T.start, .slice T.wa T.ws.length T.wc, .slice T.ka T.ks.length T.kc, .slice T.pa T.ps.length T.pc]
def RT.v (T : RT) : Value := .agg #[.int .i64 T.start, .slice T.wa T.ws.length T.wc, .slice T.ka T.ks.length T.kc, .slice T.pa T.ps.length T.pc]
def RT.zero : RT := ⟨0, [], none, 0, [], none, 0, [], none, 0⟩
def rtCells (l : List RT) : List Value := l.flatMap RT.cells
theorem info66 : (Try.prog.info? 66).map (fun i => (i.zero, i.size, i.bytes)) = some (some RT.zero.v, 4, 80) := by kernel_rfl
theorem rt_one (x : RT) : ∀ u ∈ x.cells, u.oneCell' = true := by
  intro u hu
  simp only [RT.cells, List.mem_cons, List.not_mem_nil, or_false] at hu
  rcases hu with rfl | rfl | rfl | rfl <;> rfl
theorem rtCells_append (a b : List RT) : rtCells (a ++ b) = rtCells a ++ rtCells b := by simp [rtCells]
theorem rtCells_one (x : RT) : rtCells [x] = x.cells := by simp [rtCells]
theorem rt_at {w : World} {base g cap n : Nat} {l : List RT} (h : w.ownsRow base 66 4 (.slice (some ⟨g, 0, none⟩) n cap) n (rtCells l)) (i : Nat) (hi : i < l.length) :
    w.cell? ⟨g, i * 4, none⟩ = some (.int .i64 l[i].start) ∧ w.cell? ⟨g, i * 4 + 1, none⟩ = some (.slice l[i].wa l[i].ws.length l[i].wc) ∧ w.cell? ⟨g, i * 4 + 2, none⟩ = some (.slice l[i].ka l[i].ks.length l[i].kc) ∧ w.cell? ⟨g, i * 4 + 3, none⟩ = some (.slice l[i].pa l[i].ps.length l[i].pc) := by
  have g0 : ∀ r u, r < 4 → (l[i].cells)[r]? = some u → w.cell? ⟨g, i * 4 + r, none⟩ = some u := fun r u hr hu => row_cells h _ u (by unfold rtCells; rw [flat_at RT.cells (fun _ => rfl) l i r hi hr]; exact hu)
  exact ⟨g0 0 _ (by omega) rfl, g0 1 _ (by omega) rfl, g0 2 _ (by omega) rfl, g0 3 _ (by omega) rfl⟩
theorem chg_set1 (w : World) (b i : Nat) (v : Value) : Chg (fun k => k = b) w (w.setCell ⟨b, i, none⟩ v) := Chg.setCell (S := fun k => k = b) (Chg.refl _ _) (p := ⟨b, i, none⟩) (Or.inl rfl) v
/-- without those of a number. -/
def lessT (l : List RT) (n : Int) : List RT := l.filter (fun x => decide (x.start ≠ n))
theorem lessT_take (l : List RT) (n : Int) (j : Nat) (h : j < l.length) : lessT (l.take (j + 1)) n = lessT (l.take j) n ++ (if l[j].start = n then [] else [l[j]]) := by
  unfold lessT
  rw [List.take_succ_eq_append_getElem h, List.filter_append]
  by_cases hk : l[j].start = n <;> simp [hk]
theorem lessT_len (l : List RT) (n : Int) : (lessT l n).length ≤ l.length := List.length_filter_le _ _
set_option maxRecDepth 100000 in
set_option maxHeartbeats 1000000 in
theorem leave_any (wb base oc : Nat) (oa : Option Addr) (ts : List RT) (n : Int) (v0 v1 v3 v4 v5 : Value) (w : World) (hl : ts.length ≤ 2000000)
    (hb : w.heap[wb]? = some (.cells #[v0, v1, .slice oa ts.length oc, v3, v4, v5] 54)) (ho : w.ownsRow base 66 4 (.slice oa ts.length oc) ts.length (rtCells ts)) :
    Calls Try.prog 41 #[.pointer (some ⟨wb, 0, none⟩), .int .i64 n] w fun e w' => e = .returned (.tuple #[]) ∧ ∃ v, w'.heap[wb]? = some (.cells #[v0, v1, v, v3, v4, v5] 54) ∧ w'.ownsRow w.heap.size 66 4 v (lessT ts n).length (rtCells (lessT ts n)) ∧ Chg (fun b => b = wb) w w' := by
  obtain ⟨i0, hi, hz0, hz1, hz2⟩ := info_parts info66
  have HC : Hid (w.heap[wb]? = some (.cells #[v0, v1, .slice oa ts.length oc, v3, v4, v5] 54) ∧ w.ownsRow base 66 4 (.slice oa ts.length oc) ts.length (rtCells ts)) := ⟨hb, ho⟩
  clear hb ho
  go_enter Try.func41, Try.ntmps41
  go_wp2
  go_loopw [4, 5] (fun v i wr => ∃ j : Nat, j ≤ ts.length ∧ i = .int .i64 j ∧ wr.ownsRow w.heap.size 66 4 v (lessT (ts.take j) n).length (rtCells (lessT (ts.take j) n)) ∧ Chg nobody w wr) (fun _ i _ => ts.length - (intOf i).toNat)
  case atStart => exact ⟨0, Nat.zero_le _, rfl, World.ownsRow_nil _ _ _ _, Chg.refl _ _⟩
  case round =>
    obtain ⟨j, hj, rfl, hrow, hc⟩ := hrel
    have hsz : w.heap.size ≤ wr.heap.size := hc.size
    have hwl := lt_of_block HC.out.1
    have hbx : wr.heap[wb]? = some (.cells #[v0, v1, .slice oa ts.length oc, v3, v4, v5] 54) := (hc.block wb hwl (fun h => h)).trans HC.out.1
    have x2 := cell_of hbx (i := 2) rfl
    have hol : (lessT (ts.take j) n).length ≤ j := Nat.le_trans (lessT_len _ _) (List.length_take_le _ _)
    by_cases hlt : j < ts.length
    · have HH : Hid (Chg nobody w wr) := hc
      have HR : Hid (wr.ownsRow base 66 4 (.slice oa ts.length oc) ts.length (rtCells ts)) := ownsRow_chg HC.out.2 hc (fun _ _ h => h)
      clear hc hbx
      obtain ⟨g, rfl, _, _, _, _⟩ := row_open HR.out (by omega)
      obtain ⟨c0, c1, c2, c3⟩ := rt_at HR.out j hlt
      have HT : Hid (lessT (ts.take (j + 1)) n = lessT (ts.take j) n ++ (if ts[j].start = n then [] else [ts[j]])) := lessT_take ts n j hlt
      by_cases he : ts[j].start = n
      · have b1 : (ts[j].start != n) = false := by simp [he]
        have HE : Hid (ts[j].start = n) := he
        clear he
        go_wp2
        go_roundw
        case rel =>
          refine ⟨j + 1, by omega, by go_num, ?_, HH.out⟩
          rw [HT.out, if_pos HE.out]
          simpa using hrow
        case measure => simp [intOf]; omega
      · have b1 : (ts[j].start != n) = true := by simp [he]
        have HE : Hid (ts[j].start ≠ n) := he
        clear he
        generalize ts[j] = y at *
        go_wp2_with (at_builtin; refine wpList_append_own _ rfl _ _ 51 rfl w.heap.size 66 i0 RT.zero.v 4 80 Try.underlying51 hi hz0 hz1 hz2 rfl (by decide) _ _ _ rfl (hrow.alloc _) ⟨wr.heap.size, 0, none⟩ 1 1 y.cells rfl rfl (cells_new wr #[.int .i64 y.start, .slice y.wa y.ws.length y.wc, .slice y.ka y.ks.length y.kc, .slice y.pa y.ps.length y.pc] 66) (rt_one y) (by unfold maxLen; omega) (by omega) (by simp; omega) ?_; intro v' w1 hown1 hg1 _; go_frame)
        go_roundw
        case rel =>
          refine ⟨j + 1, by omega, by go_num, ?_, (HH.out.alloc _).grown hg1 (fun k e => Or.inr (hrow.lt k e).1)⟩
          rw [HT.out, if_neg HE.out, rtCells_append, rtCells_one]
          simpa using hown1
        case measure => simp [intOf]; omega
    · have hjl : j = ts.length := by omega
      subst hjl
      rw [List.take_length] at hrow hol
      have HH : Hid (Chg nobody w wr ∧ wr.heap[wb]? = some (.cells #[v0, v1, .slice oa ts.length oc, v3, v4, v5] 54)) := ⟨hc, hbx⟩
      have hf := unfrozen_of hbx 2
      clear hc hbx
      obtain ⟨av, cv, rfl⟩ := row_form hrow
      go_wp2
      go_end0
      refine ⟨rfl, .slice av (lessT ts n).length cv, ?_, ?_, ?_⟩
      · have := heap_setCell_same wr wb 2 _ 54 (.slice av (lessT ts n).length cv) HH.out.2
        simpa using this
      · have hcs : Chg (fun b => b = wb) wr (wr.setCell ⟨wb, 2, none⟩ (.slice av (lessT ts n).length cv)) := chg_set1 _ _ _ _
        exact ownsRow_chg hrow hcs (fun k hk e => by have := (hrow.lt k hk).1; have := e; omega)
      · exact (HH.out.1.any _).trans (chg_set1 _ _ _ _)
end Go.Proofs.Ytcpjocgpahjcjaa
