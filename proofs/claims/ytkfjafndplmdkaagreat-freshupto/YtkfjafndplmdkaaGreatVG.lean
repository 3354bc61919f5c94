import Derived.Test.YtkfjafndplmdkaaGreatRP
import Derived.Deep.RegionLawGrows
import Derived.Deep.RegionLaw
namespace Go.Proofs.YtkfjafndplmdkaaGreat
open Go.RowKit Go.Sort
/-! ### the oracle's rows, of the reference -/
def rowCell (p : ByteArray × Int) : List Value := [.string p.1, .int .i64 p.2]
def rowCells (l : List (ByteArray × Int)) : List Value := l.flatMap rowCell
theorem rowCells_append (a b : List (ByteArray × Int)) : rowCells (a ++ b) = rowCells a ++ rowCells b := by simp [rowCells]
theorem rowCells_one (p : ByteArray × Int) : rowCells [p] = rowCell p := by simp [rowCells]
theorem row_one (p : ByteArray × Int) : ∀ u ∈ rowCell p, u.oneCell' = true := by
  intro u hu
  simp only [rowCell, List.mem_cons, List.not_mem_nil, or_false] at hu
  rcases hu with rfl | rfl <;> rfl
theorem infoRow : (Tryz.prog.info? 158).map (fun i => (i.zero, i.size, i.bytes)) = some (some (.agg #[.string ⟨#[]⟩, .int .i64 0]), 2, 24) := by kernel_rfl
theorem rrow_at {w : World} {base g cap n : Nat} {l : List (ByteArray × Int)} (h : w.ownsRow base 158 2 (.slice (some ⟨g, 0, none⟩) n cap) n (rowCells l)) (i : Nat) (hi : i < l.length) :
    w.cell? ⟨g, i * 2, none⟩ = some (.string l[i].1) ∧ w.cell? ⟨g, i * 2 + 1, none⟩ = some (.int .i64 l[i].2) := by
  have g0 : ∀ r u, r < 2 → (rowCell l[i])[r]? = some u → w.cell? ⟨g, i * 2 + r, none⟩ = some u := fun r u hr hu => row_cells h _ u (by unfold rowCells; rw [flat_at rowCell (fun _ => rfl) l i r hi hr]; exact hu)
  exact ⟨g0 0 _ (by omega) rfl, g0 1 _ (by omega) rfl⟩
set_option maxHeartbeats 1000000 in
theorem has_any (base c : Nat) (ad : Option Addr) (l : List ByteArray) (s : ByteArray) (w : World) (hl : l.length ≤ 2000000) (hr : w.ownsRow base 9 1 (.slice ad l.length c) l.length (strCells l)) :
    Calls Tryz.prog 112 #[.slice ad l.length c, .string s] w fun e w' => e = .returned (.bool (l.any (fun k => decide (k = s)))) ∧ w' = w := by
  have HC : Hid (w.ownsRow base 9 1 (.slice ad l.length c) l.length (strCells l)) := hr
  clear hr
  go_enter Tryz.func112, Tryz.ntmps112
  go_wp2
  go_loop [5] (fun i => ∃ k : Nat, k ≤ l.length ∧ i = .int .i64 k ∧ Hid (∀ x ∈ l.take k, x ≠ s)) (fun i => l.length - (intOf i).toNat)
  case atStart => exact ⟨0, Nat.zero_le _, rfl, by intro x hx; simp at hx⟩
  case round =>
    obtain ⟨k, hk, rfl, HN⟩ := hrel
    by_cases hlt : k < l.length
    · obtain ⟨g, rfl, _, _, _, _⟩ := row_open HC.out (by omega)
      have ck := str_at HC.out k hlt
      by_cases he : l[k] = s
      · have HA : Hid (l.any (fun k => decide (k = s)) = true) := List.any_eq_true.2 ⟨l[k], List.getElem_mem hlt, by simp [he]⟩
        obtain ⟨b1, b2⟩ := ba_t he
        clear he
        go_wp2
        go_ret
        exact ⟨congrArg (fun x => Ending.returned (Value.bool x)) HA.out.symm, rfl⟩
      · have HT : Hid (∀ x ∈ l.take (k + 1), x ≠ s) := fun x hx => by
          rw [List.take_succ_eq_append_getElem hlt] at hx
          rcases List.mem_append.1 hx with hx | hx
          · exact HN.out x hx
          · rw [List.mem_singleton.1 hx]; exact he
        obtain ⟨b1, b2⟩ := ba_f he
        clear he
        go_wp2
        go_round
        case rel => exact ⟨k + 1, by omega, by go_num, HT.out⟩
        case measure => simp [intOf]; omega
    · have hkl : k = l.length := by omega
      subst hkl
      have HA : Hid (l.any (fun k => decide (k = s)) = false) := by
        show l.any _ = false
        rw [List.any_eq_false]
        intro x hx
        have := HN.out x (by rw [List.take_length]; exact hx)
        simpa using this
      go_wp2
      go_ret
      exact ⟨congrArg (fun x => Ending.returned (Value.bool x)) HA.out.symm, rfl⟩
def lessR (l : List (ByteArray × Int)) (key : ByteArray) : List (ByteArray × Int) := l.filter (fun r => decide (r.1 ≠ key))
theorem lessR_take (l : List (ByteArray × Int)) (key : ByteArray) (j : Nat) (h : j < l.length) : lessR (l.take (j + 1)) key = lessR (l.take j) key ++ (if l[j].1 = key then [] else [l[j]]) := by
  unfold lessR
  rw [List.take_succ_eq_append_getElem h, List.filter_append]
  by_cases hk : l[j].1 = key <;> simp [hk]
theorem lessR_len (l : List (ByteArray × Int)) (key : ByteArray) : (lessR l key).length ≤ l.length := List.length_filter_le _ _
set_option maxRecDepth 100000 in
set_option maxHeartbeats 1000000 in
theorem note_any (wb base rc : Nat) (ra : Option Addr) (rows : List (ByteArray × Int)) (key : ByteArray) (t : Int) (v0 v1 v2 v3 v5 : Value) (w : World) (hl : rows.length ≤ 2000000)
    (hb : w.heap[wb]? = some (.cells #[v0, v1, v2, v3, .slice ra rows.length rc, v5] 79)) (ho : w.ownsRow base 158 2 (.slice ra rows.length rc) rows.length (rowCells rows)) :
    Calls Tryz.prog 99 #[.pointer (some ⟨wb, 0, none⟩), .string key, .int .i64 t] w fun e w' => e = .returned (.tuple #[]) ∧ ∃ v, w'.heap[wb]? = some (.cells #[v0, v1, v2, v3, v, v5] 79) ∧ w'.ownsRow w.heap.size 158 2 v (noteM rows key t).length (rowCells (noteM rows key t)) ∧ Chg (fun b => b = wb) w w' := by
  obtain ⟨i0, hi, hz0, hz1, hz2⟩ := info_parts infoRow
  have HC : Hid (w.heap[wb]? = some (.cells #[v0, v1, v2, v3, .slice ra rows.length rc, v5] 79) ∧ w.ownsRow base 158 2 (.slice ra rows.length rc) rows.length (rowCells rows)) := ⟨hb, ho⟩
  clear hb ho
  go_enter Tryz.func99, Tryz.ntmps99
  go_wp2
  go_loopw [6, 7] (fun v i wr => ∃ j : Nat, j ≤ rows.length ∧ i = .int .i64 j ∧ wr.ownsRow w.heap.size 158 2 v (lessR (rows.take j) key).length (rowCells (lessR (rows.take j) key)) ∧ Chg nobody w wr) (fun _ i _ => rows.length - (intOf i).toNat)
  case atStart => exact ⟨0, Nat.zero_le _, rfl, World.ownsRow_nil _ _ _ _, Chg.refl _ _⟩
  case round =>
    obtain ⟨j, hj, rfl, hrow, hc⟩ := hrel
    have hsz : w.heap.size ≤ wr.heap.size := hc.size
    have hwl := lt_of_block HC.out.1
    have hbx : wr.heap[wb]? = some (.cells #[v0, v1, v2, v3, .slice ra rows.length rc, v5] 79) := (hc.block wb hwl (fun h => h)).trans HC.out.1
    have x2 := cell_of hbx (i := 4) rfl
    have hol : (lessR (rows.take j) key).length ≤ j := Nat.le_trans (lessR_len _ _) (List.length_take_le _ _)
    by_cases hlt : j < rows.length
    · have HH : Hid (Chg nobody w wr) := hc
      have HR : Hid (wr.ownsRow base 158 2 (.slice ra rows.length rc) rows.length (rowCells rows)) := ownsRow_chg HC.out.2 hc (fun _ _ h => h)
      clear hc hbx
      obtain ⟨g, rfl, _, _, _, _⟩ := row_open HR.out (by omega)
      obtain ⟨c0, c1⟩ := rrow_at HR.out j hlt
      have HT : Hid (lessR (rows.take (j + 1)) key = lessR (rows.take j) key ++ (if rows[j].1 = key then [] else [rows[j]])) := lessR_take rows key j hlt
      by_cases he : rows[j].1 = key
      · obtain ⟨b1, b1'⟩ := ba_t he
        have HE : Hid (rows[j].1 = key) := he
        clear he
        go_wp2
        go_roundw
        case rel =>
          refine ⟨j + 1, by omega, by go_num, ?_, HH.out⟩
          rw [HT.out, if_pos HE.out]
          simpa using hrow
        case measure => simp [intOf]; omega
      · obtain ⟨b1, b1'⟩ := ba_f he
        have HE : Hid (rows[j].1 ≠ key) := he
        clear he
        generalize rows[j] = y at *
        go_wp2_with (at_builtin; refine wpList_append_own _ rfl _ _ 77 rfl w.heap.size 158 i0 (.agg #[.string ⟨#[]⟩, .int .i64 0]) 2 24 Tryz.underlying77 hi hz0 hz1 hz2 rfl (by decide) _ _ _ rfl (hrow.alloc _) ⟨wr.heap.size, 0, none⟩ 1 1 (rowCell y) rfl rfl (cells_new wr #[.string y.1, .int .i64 y.2] 158) (row_one y) (by unfold maxLen; omega) (by omega) (by simp; omega) ?_; intro v' w1 hown1 hg1 _; go_frame)
        go_roundw
        case rel =>
          refine ⟨j + 1, by omega, by go_num, ?_, (HH.out.alloc _).grown hg1 (fun k e => Or.inr (hrow.lt k e).1)⟩
          rw [HT.out, if_neg HE.out, rowCells_append, rowCells_one]
          simpa using hown1
        case measure => simp [intOf]; omega
    · have hjl : j = rows.length := by omega
      subst hjl
      rw [List.take_length] at hrow hol
      have HH : Hid (Chg nobody w wr ∧ wr.heap[wb]? = some (.cells #[v0, v1, v2, v3, .slice ra rows.length rc, v5] 79)) := ⟨hc, hbx⟩
      clear hc hbx
      go_wp2_with (at_builtin; refine wpList_append_own _ rfl _ _ 77 rfl w.heap.size 158 i0 (.agg #[.string ⟨#[]⟩, .int .i64 0]) 2 24 Tryz.underlying77 hi hz0 hz1 hz2 rfl (by decide) _ _ _ rfl (hrow.alloc _) ⟨wr.heap.size, 0, none⟩ 1 1 (rowCell (key, t)) rfl rfl (cells_new wr #[.string key, .int .i64 t] 158) (row_one (key, t)) (by unfold maxLen; omega) (by omega) (by simp; omega) ?_; intro v' w1 hown1 hg1 _; have hc1 : Chg nobody w w1 := (HH.out.1.alloc _).grown hg1 (fun k e => Or.inr (hrow.lt k e).1); have hb1 : w1.heap[wb]? = some (.cells #[v0, v1, v2, v3, .slice ra rows.length rc, v5] 79) := (hc1.block wb hwl (fun h => h)).trans HC.out.1; have hf1 := unfrozen_of hb1 4; have x41 := cell_of hb1 (i := 4) rfl; have HB1 : Hid (Chg nobody w w1 ∧ w1.heap[wb]? = some (.cells #[v0, v1, v2, v3, .slice ra rows.length rc, v5] 79)) := ⟨hc1, hb1⟩; clear hc1 hb1; obtain ⟨av, cv, rfl⟩ := row_form hown1)
      go_end0
      have hn : noteM rows key t = lessR rows key ++ [(key, t)] := rfl
      refine ⟨rfl, .slice av ((lessR rows key).length + 1) cv, ?_, ?_, ?_⟩
      · exact heap_set5 HB1.out.2 _
      · have hcs : Chg (fun b => b = wb) w1 (w1.setCell ⟨wb, 4, none⟩ (.slice av ((lessR rows key).length + 1) cv)) := chg_set1 _ _ _ _
        rw [hn, rowCells_append, rowCells_one, List.length_append]
        exact ownsRow_chg hown1 hcs (fun k hk e => by have := (hown1.lt k hk).1; have := e; omega)
      · exact (HB1.out.1.any _).trans (chg_set1 _ _ _ _)
end Go.Proofs.YtkfjafndplmdkaaGreat
namespace Go.Proofs.YtkfjafndplmdkaaGreat
open Go.RowKit Go.Sort
/-- the place of the least row, of the first j. -/
def minI (rows : List (ByteArray × Int)) : Nat → Nat
  | 0 => 0
  | 1 => 0
  | j + 2 => match rows[j + 1]?, rows[minI rows (j + 1)]? with
    | some a, some b => if rowLt a b then j + 1 else minI rows (j + 1)
    | _, _ => minI rows (j + 1)
theorem minI_lt (rows : List (ByteArray × Int)) : ∀ j, 0 < j → j ≤ rows.length → minI rows j < j
  | 0, h, _ => by omega
  | 1, _, _ => by simp [minI]
  | j + 2, _, hl => by
    have ih := minI_lt rows (j + 1) (by omega) (by omega)
    unfold minI
    split
    · split <;> omega
    · omega
theorem minI_succ (rows : List (ByteArray × Int)) (j : Nat) (h0 : 0 < j) (h : j < rows.length) : minI rows (j + 1) = if rowLt rows[j] (rows[minI rows j]'(by have := minI_lt rows j h0 (by omega); omega)) then j else minI rows j := by
  obtain ⟨i, rfl⟩ : ∃ i, j = i + 1 := ⟨j - 1, by omega⟩
  have hm := minI_lt rows (i + 1) h0 (by omega)
  conv => lhs; unfold minI
  rw [List.getElem?_eq_getElem h, List.getElem?_eq_getElem (show minI rows (i + 1) < rows.length by omega)]
theorem minI_fold (rows : List (ByteArray × Int)) : ∀ j (h0 : 0 < j) (h : j ≤ rows.length), leastM (rows.take j) = some (rows[minI rows j]'(by have := minI_lt rows j h0 h; omega))
  | 0, h0, _ => by omega
  | 1, _, h => by
    cases rows with
    | nil => simp at h
    | cons x r => simp [leastM, minI]
  | j + 2, _, h => by
    have ih := minI_fold rows (j + 1) (by omega) (by omega)
    have hs := minI_succ rows (j + 1) (by omega) (by omega)
    have hm := minI_lt rows (j + 1) (by omega) (by omega)
    have ht : rows.take (j + 2) = rows.take (j + 1) ++ [rows[j + 1]] := List.take_succ_eq_append_getElem (by omega)
    have hl : ∀ (l : List (ByteArray × Int)) (m x : ByteArray × Int), leastM l = some m → leastM (l ++ [x]) = some (if rowLt x m then x else m) := fun l m x hl => by
      cases l with
      | nil => simp [leastM] at hl
      | cons y r =>
        simp only [leastM, Option.some.injEq] at hl
        simp only [List.cons_append, leastM, List.foldl_append, List.foldl_cons, List.foldl_nil, hl]
    rw [ht, hl _ _ _ ih]
    by_cases hr : rowLt rows[j + 1] rows[minI rows (j + 1)]
    · rw [if_pos hr] at hs ⊢
      simp only [hs]
    · rw [if_neg hr] at hs ⊢
      simp only [hs]
theorem ltRow_no {a b : ByteArray × Int} (h : ¬ rowLt a b) : ¬ a.2 < b.2 ∧ (a.2 = b.2 → ¬ ltB a.1 b.1) := ⟨fun h1 => h (Or.inl h1), fun h1 h2 => h (Or.inr ⟨h1, h2⟩)⟩
theorem rowCells_len (l : List (ByteArray × Int)) : (rowCells l).length = l.length * 2 := flat_len rowCell (fun _ => rfl) l
theorem rows_one (l : List (ByteArray × Int)) : ∀ u ∈ rowCells l, u.oneCell' = true := fun u hu => by
  obtain ⟨p, _, hp⟩ := List.mem_flatMap.1 hu
  exact row_one p u hp
theorem addr_p (b off j : Nat) : (⟨b, off, none⟩ : Addr).add j = ⟨b, off + j, none⟩ := by
  unfold Addr.add
  split <;> simp [*]
set_option maxRecDepth 100000 in
set_option maxHeartbeats 2000000 in
theorem rforget_any (wb base rc : Nat) (ra : Option Addr) (rows : List (ByteArray × Int)) (v0 v1 v2' v3 : Value) (low : Int) (w : World) (hl : rows.length ≤ 2000000) (h0 : 0 < rows.length)
    (hb : w.heap[wb]? = some (.cells #[v0, v1, v2', v3, .slice ra rows.length rc, .int .i64 low] 79)) (ho : w.ownsRow base 158 2 (.slice ra rows.length rc) rows.length (rowCells rows)) (hbw : ∀ g, (Value.slice ra rows.length rc).ownBlock = some g → g ≠ wb) :
    Calls Tryz.prog 100 #[.pointer (some ⟨wb, 0, none⟩)] w fun e w' => e = .returned (.tuple #[]) ∧ ∃ v k, ∃ hk : k < rows.length, leastM rows = some rows[k] ∧ w'.heap[wb]? = some (.cells #[v0, v1, v2', v3, v, .int .i64 rows[k].2] 79) ∧ w'.ownsRow w.heap.size 158 2 v (rows.take k ++ rows.drop (k + 1)).length (rowCells (rows.take k ++ rows.drop (k + 1))) ∧ Chg (fun b => b = wb) w w' := by
  obtain ⟨i0, hi, hz0, hz1, hz2⟩ := info_parts infoRow
  obtain ⟨g, rfl, _, hgl, hcap, _⟩ := row_open ho h0
  have hgw : g ≠ wb := hbw g rfl
  have HC : Hid (w.heap[wb]? = some (.cells #[v0, v1, v2', v3, .slice (some ⟨g, 0, none⟩) rows.length rc, .int .i64 low] 79) ∧ w.ownsRow base 158 2 (.slice (some ⟨g, 0, none⟩) rows.length rc) rows.length (rowCells rows)) := ⟨hb, ho⟩
  have HRC : Hid (∀ wq, Chg nobody w wq → ∀ i (h : i < rows.length), wq.cell? ⟨g, i * 2, none⟩ = some (.string rows[i].1) ∧ wq.cell? ⟨g, i * 2 + 1, none⟩ = some (.int .i64 rows[i].2)) := fun wq hq i h => rrow_at (row_new ho hq) i h
  clear hb ho hbw
  go_enter Tryz.func100, Tryz.ntmps100
  go_wp2
  go_loopw [2, 3] (fun kv i wr => ∃ j : Nat, 0 < j ∧ j ≤ rows.length ∧ i = .int .i64 j ∧ kv = .int .i64 (minI rows j) ∧ Hid (Chg nobody w wr)) (fun _ i _ => rows.length - (intOf i).toNat)
  case atStart => exact ⟨1, by omega, by omega, rfl, rfl, Chg.refl _ _⟩
  case round =>
    obtain ⟨j, hj0, hj, rfl, rfl, HH⟩ := hrel
    have hwl := lt_of_block HC.out.1
    have hm := minI_lt rows j hj0 hj
    have hmr : minI rows j < rows.length := by omega
    have hbx : wr.heap[wb]? = some (.cells #[v0, v1, v2', v3, .slice (some ⟨g, 0, none⟩) rows.length rc, .int .i64 low] 79) := (HH.out.block wb hwl (fun h => h)).trans HC.out.1
    have hbl : wb < wr.heap.size := lt_of_block hbx
    have x4 := cell_of hbx (i := 4) rfl
    have x4' : ∀ o, (wr.alloc o).cell? ⟨wb, 4, none⟩ = some (.slice (some ⟨g, 0, none⟩) rows.length rc) := fun o => by rw [World.cell?_alloc_past _ _ _ hbl]; exact x4
    by_cases hlt : j < rows.length
    · obtain ⟨a0, a1⟩ := HRC.out wr HH.out j hlt
      obtain ⟨m0, m1⟩ := HRC.out wr HH.out (minI rows j) hmr
      have hgr : g < wr.heap.size := lt_of_cell a0
      have m0' : ∀ o, (wr.alloc o).cell? ⟨g, minI rows j * 2, none⟩ = some (.string rows[minI rows j].1) := fun o => by rw [World.cell?_alloc_past _ _ _ hgr]; exact m0
      have m1' : ∀ o, (wr.alloc o).cell? ⟨g, minI rows j * 2 + 1, none⟩ = some (.int .i64 rows[minI rows j].2) := fun o => by rw [World.cell?_alloc_past _ _ _ hgr]; exact m1
      have HS := minI_succ rows j hj0 hlt
      have HSS : Hid (minI rows (j + 1) = if rowLt rows[j] rows[minI rows j] then j else minI rows j) := HS
      clear HS hbx m0 m1
      generalize rows[minI rows j] = B at *
      generalize rows[j] = A at *
      generalize minI rows j = mj at *
      by_cases hr : rowLt A B
      · have HN : Hid (minI rows (j + 1) = j) := by have := HSS.out; rw [if_pos hr] at this; exact this
        clear HSS
        by_cases h1 : A.2 < B.2
        · clear hr
          go_wp2
          go_roundw
          case rel => exact ⟨j + 1, by omega, by omega, by go_num, by rw [HN.out], (HH.out.alloc _).alloc _⟩
          case measure => simp [intOf]; omega
        · have h2 : A.2 = B.2 ∧ ltB A.1 B.1 := hr.resolve_left h1
          have e2 : (A.2 == B.2) = true := beq_iff_eq.2 h2.1
          have e3 := ltB_t h2.2
          have e1 : decide (A.2 < B.2) = false := decide_eq_false h1
          clear hr h1 h2
          go_wp2
          go_roundw
          case rel => exact ⟨j + 1, by omega, by omega, by go_num, by rw [HN.out], (HH.out.alloc _).alloc _⟩
          case measure => simp [intOf]; omega
      · have HN : Hid (minI rows (j + 1) = mj) := by have := HSS.out; rw [if_neg hr] at this; exact this
        obtain ⟨h1, h2⟩ := ltRow_no hr
        have e1 : decide (A.2 < B.2) = false := decide_eq_false h1
        clear HSS hr h1
        by_cases h3 : A.2 = B.2
        · have e2 : (A.2 == B.2) = true := beq_iff_eq.2 h3
          have e3 := ltB_f (h2 h3)
          clear h2 h3
          go_wp2
          go_roundw
          case rel => exact ⟨j + 1, by omega, by omega, by go_num, by rw [HN.out], (HH.out.alloc _).alloc _⟩
          case measure => simp [intOf]; omega
        · have e2 : (A.2 == B.2) = false := beq_eq_false_iff_ne.2 h3
          clear h2 h3
          go_wp2
          go_roundw
          case rel => exact ⟨j + 1, by omega, by omega, by go_num, by rw [HN.out], (HH.out.alloc _).alloc _⟩
          case measure => simp [intOf]; omega
    · have hjl : j = rows.length := by omega
      subst hjl
      obtain ⟨k, hkm⟩ : ∃ k, minI rows rows.length = k := ⟨_, rfl⟩
      have hk : k < rows.length := by omega
      have HL : Hid (leastM rows = some rows[k]) := by
        have := minI_fold rows rows.length h0 (Nat.le_refl _)
        rw [List.take_length] at this
        rw [this]
        congr 2
      rw [hkm]
      clear hm hmr hlt hj0 hj
      obtain ⟨_, k1⟩ := HRC.out wr HH.out k hk
      have hf5 := unfrozen_of hbx 5
      have x5 := cell_of hbx (i := 5) rfl
      have hkc : (k : Int) ≤ (rc : Int) := by omega
      have hk1 : (k : Int) + 1 ≤ (rows.length : Int) := by omega
      have hk2 : (k : Int) + 1 ≤ (rc : Int) := by omega
      have hk3 : k + 1 ≤ rc := by omega
      have hk4 : k + 1 ≤ rows.length := by omega
      obtain ⟨wc, hwc⟩ : ∃ wc, wr.setCell ⟨wb, 5, none⟩ (.int .i64 rows[k].2) = wc := ⟨_, rfl⟩
      have hcw : Chg (fun b => b = wb) w wc := by rw [← hwc]; exact (HH.out.any _).trans (chg_set1 _ _ _ _)
      have hbc : wc.heap[wb]? = some (.cells #[v0, v1, v2', v3, .slice (some ⟨g, 0, none⟩) rows.length rc, .int .i64 rows[k].2] 79) := by rw [← hwc]; exact heap_set5 hbx _
      have y4 := cell_of hbc (i := 4) rfl
      have hrw : wc.ownsRow base 158 2 (.slice (some ⟨g, 0, none⟩) rows.length rc) rows.length (rowCells rows) := ownsRow_chg HC.out.2 hcw (fun b hb e => by
        have h1 : g = b := by simpa [Value.ownBlock] using hb
        exact hgw (h1.trans e))
      have hszc : w.heap.size ≤ wc.heap.size := hcw.size
      have HW : Hid (Chg (fun b => b = wb) w wc ∧ wc.heap[wb]? = some (.cells #[v0, v1, v2', v3, .slice (some ⟨g, 0, none⟩) rows.length rc, .int .i64 rows[k].2] 79) ∧ wc.ownsRow base 158 2 (.slice (some ⟨g, 0, none⟩) rows.length rc) rows.length (rowCells rows)) := ⟨hcw, hbc, hrw⟩
      subst hwc
      clear hcw hbc hrw hbx x4'
      have lt : (rowCells (rows.take k)).length = k * 2 := by rw [rowCells_len, List.length_take]; congr 1; omega
      have HN1 : Hid (∀ wq, Chg nobody (wr.setCell ⟨wb, 5, none⟩ (.int .i64 rows[k].2)) wq → ∀ (j : Nat) (u : Value), (rowCells (rows.take k))[j]? = some u → wq.cell? ((⟨g, 0, none⟩ : Addr).add j) = some u) := fun wq hq j u hu => by
        rw [addr_p, Nat.zero_add]
        have e : rowCells rows = rowCells (rows.take k) ++ rowCells (rows.drop k) := by rw [← rowCells_append, List.take_append_drop]
        exact row_cells (row_new HW.out.2.2 hq) j u (by rw [e, List.getElem?_append_left (List.getElem?_eq_some_iff.1 hu).1]; exact hu)
      have HNW : Hid (∀ (v : Value) (w1 : World) (n : Nat) (xs : List Value), w1.ownsRow w.heap.size 158 2 v n xs → v.ownBlock ≠ some wb) := fun v w1 n xs h e => by
        have := (h.lt wb e).1
        omega
      by_cases hrc : k + 1 < rc
      · have ld : (rowCells (rows.drop (k + 1))).length = (rows.length - (k + 1)) * 2 := by rw [rowCells_len, List.length_drop]
        have HN2 : Hid (∀ wq, Chg nobody (wr.setCell ⟨wb, 5, none⟩ (.int .i64 rows[k].2)) wq → ∀ (j : Nat) (u : Value), (rowCells (rows.drop (k + 1)))[j]? = some u → wq.cell? ((⟨g, (k + 1) * 2, none⟩ : Addr).add j) = some u) := fun wq hq j u hu => by
          rw [addr_p]
          have e : rowCells rows = rowCells (rows.take (k + 1)) ++ rowCells (rows.drop (k + 1)) := by rw [← rowCells_append, List.take_append_drop]
          have el : (rowCells (rows.take (k + 1))).length = (k + 1) * 2 := by rw [rowCells_len, List.length_take]; congr 1; omega
          exact row_cells (row_new HW.out.2.2 hq) _ u (by rw [e, List.getElem?_append_right (by omega), el, Nat.add_sub_cancel_left]; exact hu)
        have hrcI : (k : Int) + 1 < (rc : Int) := by omega
        go_wp2_with (first
          | (at_builtin; refine wpList_append_own _ rfl _ _ 77 rfl w.heap.size 158 i0 (.agg #[.string ⟨#[]⟩, .int .i64 0]) 2 24 Tryz.underlying77 hi hz0 hz1 hz2 rfl (by decide) _ _ _ rfl hown1 ⟨g, (k + 1) * 2, none⟩ (rows.length - (k + 1)) (rc - (k + 1)) (rowCells (rows.drop (k + 1))) rfl ld (HN2.out _ HCL.out) (rows_one _) (by unfold maxLen; omega) (by omega) hsz1 ?_; intro v2 w2 hown2 hg2 _; obtain ⟨av, cv, rfl⟩ := row_form hown2; have hc2 : Chg (fun b => b = wb) w w2 := HB1.out.1.grown hg2 (fun q e => Or.inr (hown1.lt q e).1); have hb2 : w2.heap[wb]? = some (.cells #[v0, v1, v2', v3, .slice (some ⟨g, 0, none⟩) rows.length rc, .int .i64 rows[k].2] 79) := (hg2.block wb (lt_of_block HB1.out.2) (fun e => HNW.out _ _ _ _ hown1 e.symm)).trans HB1.out.2; have hf2 := unfrozen_of hb2 4; have y42 := cell_of hb2 (i := 4) rfl; have HB2 : Hid (Chg (fun b => b = wb) w w2 ∧ w2.heap[wb]? = some (.cells #[v0, v1, v2', v3, .slice (some ⟨g, 0, none⟩) rows.length rc, .int .i64 rows[k].2] 79)) := ⟨hc2, hb2⟩; clear hc2 hb2)
          | (at_builtin; refine wpList_append_own _ rfl _ _ 77 rfl w.heap.size 158 i0 (.agg #[.string ⟨#[]⟩, .int .i64 0]) 2 24 Tryz.underlying77 hi hz0 hz1 hz2 rfl (by decide) (.slice none 0 0) 0 [] rfl (World.ownsRow_nil _ _ _ _) ⟨g, 0, none⟩ k rc (rowCells (rows.take k)) rfl lt (HN1.out _ (Chg.refl _ _)) (rows_one _) (by unfold maxLen; omega) (by omega) HW.out.1.size ?_; intro v1' w1 hown1 hg1 _; have hcl1 : Chg nobody (wr.setCell ⟨wb, 5, none⟩ (.int .i64 rows[k].2)) w1 := (Chg.refl _ _).grown hg1 (fun q e => by cases e); have hb1 : w1.heap[wb]? = some (.cells #[v0, v1, v2', v3, .slice (some ⟨g, 0, none⟩) rows.length rc, .int .i64 rows[k].2] 79) := (hcl1.block wb (lt_of_block HW.out.2.1) (fun h => h)).trans HW.out.2.1; have y41 := cell_of hb1 (i := 4) rfl; have hsz1 : w.heap.size ≤ w1.heap.size := Nat.le_trans HW.out.1.size hcl1.size; have HB1 : Hid (Chg (fun b => b = wb) w w1 ∧ w1.heap[wb]? = some (.cells #[v0, v1, v2', v3, .slice (some ⟨g, 0, none⟩) rows.length rc, .int .i64 rows[k].2] 79)) := ⟨HW.out.1.trans (hcl1.any _), hb1⟩; have HCL : Hid (Chg nobody (wr.setCell ⟨wb, 5, none⟩ (.int .i64 rows[k].2)) w1) := hcl1; clear hb1 hcl1; go_frame))
        go_end0
        have hfin : ∀ (L : List (ByteArray × Int)), L = rows.take k ++ rows.drop (k + 1) → L.length = k + (rows.length - (k + 1)) ∧ rowCells L = rowCells (rows.take k) ++ rowCells (rows.drop (k + 1)) := fun L hL => by
          subst hL
          exact ⟨by simp; omega, by rw [rowCells_append]⟩
        obtain ⟨f1, f2⟩ := hfin _ rfl
        have hown3 : w2.ownsRow w.heap.size 158 2 (.slice av (k + (rows.length - (k + 1))) cv) (k + (rows.length - (k + 1))) (rowCells (rows.take k) ++ rowCells (rows.drop (k + 1))) := by simpa using hown2
        refine ⟨rfl, .slice av (k + (rows.length - (k + 1))) cv, k, hk, HL.out, heap_set5 HB2.out.2 _, ?_, HB2.out.1.trans (chg_set1 _ _ _ _)⟩
        have f0 : min k rows.length + (rows.length - (k + 1)) = k + (rows.length - (k + 1)) := by omega
        first | rw [f0, f2] | rw [f1, f2]
        exact ownsRow_chg hown3 (chg_set1 _ _ _ _) (fun b hb e => by have := (hown3.lt b hb).1; have : b = wb := e; omega)
      · have hrcE : rc = k + 1 := by omega
        subst hrcE
        go_wp2_with (first
          | (at_builtin; refine wpList_append_own _ rfl _ _ 77 rfl w.heap.size 158 i0 (.agg #[.string ⟨#[]⟩, .int .i64 0]) 2 24 Tryz.underlying77 hi hz0 hz1 hz2 rfl (by decide) _ _ _ rfl hown1 ⟨g, 0, none⟩ 0 0 [] rfl rfl (fun j u hu => by simp at hu) (by simp) (by unfold maxLen; omega) (by omega) hsz1 ?_; intro v2 w2 hown2 hg2 _; obtain ⟨av, cv, rfl⟩ := row_form hown2; have hc2 : Chg (fun b => b = wb) w w2 := HB1.out.1.grown hg2 (fun q e => Or.inr (hown1.lt q e).1); have hb2 : w2.heap[wb]? = some (.cells #[v0, v1, v2', v3, .slice (some ⟨g, 0, none⟩) rows.length (k + 1), .int .i64 rows[k].2] 79) := (hg2.block wb (lt_of_block HB1.out.2) (fun e => HNW.out _ _ _ _ hown1 e.symm)).trans HB1.out.2; have hf2 := unfrozen_of hb2 4; have y42 := cell_of hb2 (i := 4) rfl; have HB2 : Hid (Chg (fun b => b = wb) w w2 ∧ w2.heap[wb]? = some (.cells #[v0, v1, v2', v3, .slice (some ⟨g, 0, none⟩) rows.length (k + 1), .int .i64 rows[k].2] 79)) := ⟨hc2, hb2⟩; clear hc2 hb2)
          | (at_builtin; refine wpList_append_own _ rfl _ _ 77 rfl w.heap.size 158 i0 (.agg #[.string ⟨#[]⟩, .int .i64 0]) 2 24 Tryz.underlying77 hi hz0 hz1 hz2 rfl (by decide) (.slice none 0 0) 0 [] rfl (World.ownsRow_nil _ _ _ _) ⟨g, 0, none⟩ k (k + 1) (rowCells (rows.take k)) rfl lt (HN1.out _ (Chg.refl _ _)) (rows_one _) (by unfold maxLen; omega) (by omega) HW.out.1.size ?_; intro v1' w1 hown1 hg1 _; have hcl1 : Chg nobody (wr.setCell ⟨wb, 5, none⟩ (.int .i64 rows[k].2)) w1 := (Chg.refl _ _).grown hg1 (fun q e => by cases e); have hb1 : w1.heap[wb]? = some (.cells #[v0, v1, v2', v3, .slice (some ⟨g, 0, none⟩) rows.length (k + 1), .int .i64 rows[k].2] 79) := (hcl1.block wb (lt_of_block HW.out.2.1) (fun h => h)).trans HW.out.2.1; have y41 := cell_of hb1 (i := 4) rfl; have hsz1 : w.heap.size ≤ w1.heap.size := Nat.le_trans HW.out.1.size hcl1.size; have HB1 : Hid (Chg (fun b => b = wb) w w1 ∧ w1.heap[wb]? = some (.cells #[v0, v1, v2', v3, .slice (some ⟨g, 0, none⟩) rows.length (k + 1), .int .i64 rows[k].2] 79)) := ⟨HW.out.1.trans (hcl1.any _), hb1⟩; have HCL : Hid (Chg nobody (wr.setCell ⟨wb, 5, none⟩ (.int .i64 rows[k].2)) w1) := hcl1; clear hb1 hcl1; go_frame))
        go_end0
        have hfin : rows.take k ++ rows.drop (k + 1) = rows.take k ∧ (rows.take k).length = k := ⟨by rw [List.drop_eq_nil_of_le (by omega), List.append_nil], by simp; omega⟩
        have hown3 : w2.ownsRow w.heap.size 158 2 (.slice av k cv) k (rowCells (rows.take k)) := by simpa using hown2
        refine ⟨rfl, .slice av k cv, k, hk, HL.out, heap_set5 HB2.out.2 _, ?_, HB2.out.1.trans (chg_set1 _ _ _ _)⟩
        have f0 : min k rows.length + (rows.length - (k + 1)) = k := by omega
        first | rw [f0, hfin.1] | rw [hfin.1, hfin.2]
        exact ownsRow_chg hown3 (chg_set1 _ _ _ _) (fun b hb e => by have := (hown3.lt b hb).1; have : b = wb := e; omega)
end Go.Proofs.YtkfjafndplmdkaaGreat
namespace Go.Proofs.YtkfjafndplmdkaaGreat
open Go.RowKit Go.Sort
/-- what refuses, by what is looked at. -/
def refV (st low : Int) (rows : List (ByteArray × Int)) (ks ps : List ByteArray) (Ln wn : Nat) : Int :=
  if 0 < ks.length + ps.length ∧ st < low then 8
  else if rows.any (fun r => decide (st < r.2) && (ks.any (fun k => decide (k = r.1)) || ps.any (fun p => pk p r.1))) = true then 9
  else if 100 < Ln + wn then 10 else 0
theorem refV_eq (W : PW) (T : PT) : refusedM W T = refV T.start W.low W.rows T.ks T.ps W.L.length T.ws.length := rfl
theorem wrap_small2 {n : Int} (h0 : 0 ≤ n) (h1 : n ≤ 100000000000) : IntKind.i64.wrap n = n := by
  unfold IntKind.wrap
  simp only [IntKind.bits, IntKind.signed]
  have e : n % (2 ^ 64 : Int) = n := by omega
  simp only [e]
  rw [if_neg (by simp; omega)]
def hitL (ks ps : List ByteArray) (k : ByteArray) : Bool := ks.any (fun x => decide (x = k)) || ps.any (fun p => pk p k)
theorem any_take (f : ByteArray → Bool) (l : List ByteArray) (k : Nat) (h : k < l.length) : (l.take (k + 1)).any f = ((l.take k).any f || f l[k]) := by
  rw [List.take_succ_eq_append_getElem h, List.any_append]
  simp
theorem refV_mid {st low : Int} {rows : List (ByteArray × Int)} {ks ps : List ByteArray} {Ln wn : Nat} (hA : ¬ (0 < ks.length + ps.length ∧ st < low)) (r : ByteArray × Int) (hr : r ∈ rows) (h1 : st < r.2) (h2 : hitL ks ps r.1 = true) : refV st low rows ks ps Ln wn = 9 := by
  unfold refV
  rw [if_neg hA, if_pos]
  exact List.any_eq_true.2 ⟨r, hr, by unfold hitL at h2; rw [decide_eq_true h1, h2]; rfl⟩
theorem refV_end {st low : Int} {rows : List (ByteArray × Int)} {ks ps : List ByteArray} {Ln wn : Nat} (hA : ¬ (0 < ks.length + ps.length ∧ st < low)) (h : ∀ r ∈ rows, ¬ (st < r.2 ∧ hitL ks ps r.1 = true)) : refV st low rows ks ps Ln wn = if 100 < Ln + wn then 10 else 0 := by
  unfold refV
  rw [if_neg hA, if_neg]
  intro e
  obtain ⟨r, hr, hx⟩ := List.any_eq_true.1 e
  rw [Bool.and_eq_true] at hx
  exact h r hr ⟨of_decide_eq_true hx.1, hx.2⟩
set_option maxRecDepth 100000 in
set_option maxHeartbeats 2000000 in
theorem refused_any (wb base bk bp lc rc kc pc Ln wn wc : Nat) (la ra wa ka pa : Option Addr) (rows : List (ByteArray × Int)) (ks ps : List ByteArray) (st low : Int) (v0 v2 v3 : Value) (w : World) (hl : rows.length ≤ 400000) (hks : ks.length ≤ 1500000) (hps : ps.length ≤ 1500000) (hLn : Ln ≤ 1500000) (hwn : wn ≤ 1500000)
    (hb : w.heap[wb]? = some (.cells #[v0, .slice la Ln lc, v2, v3, .slice ra rows.length rc, .int .i64 low] 79)) (ho : w.ownsRow base 158 2 (.slice ra rows.length rc) rows.length (rowCells rows))
    (hk : w.ownsRow bk 9 1 (.slice ka ks.length kc) ks.length (strCells ks)) (hp : w.ownsRow bp 9 1 (.slice pa ps.length pc) ps.length (strCells ps)) :
    Calls Tryz.prog 98 #[.pointer (some ⟨wb, 0, none⟩), .agg #[.int .i64 st, .slice wa wn wc, .slice ka ks.length kc, .slice pa ps.length pc]] w fun e w' => e = .returned (.int .i64 (refV st low rows ks ps Ln wn)) ∧ Chg nobody w w' := by
  have HC : Hid (w.heap[wb]? = some (.cells #[v0, .slice la Ln lc, v2, v3, .slice ra rows.length rc, .int .i64 low] 79) ∧ w.ownsRow base 158 2 (.slice ra rows.length rc) rows.length (rowCells rows) ∧ w.ownsRow bk 9 1 (.slice ka ks.length kc) ks.length (strCells ks) ∧ w.ownsRow bp 9 1 (.slice pa ps.length pc) ps.length (strCells ps)) := ⟨hb, ho, hk, hp⟩
  clear hb ho hk hp
  go_enter Tryz.func98, Tryz.ntmps98
  go_wp2
  refine name_worldN ?_
  intro wz hwz
  have hcz : Chg nobody w wz := by rw [hwz]; exact (Chg.refl _ _).alloc _
  have hbz : wz.heap[w.heap.size]? = some (.cells #[.int .i64 st, .slice wa wn wc, .slice ka ks.length kc, .slice pa ps.length pc] 97) := by rw [hwz]; exact (MapKept.heap_alloc w _).1
  have hwb : wz.heap[wb]? = some (.cells #[v0, .slice la Ln lc, v2, v3, .slice ra rows.length rc, .int .i64 low] 79) := (hcz.block _ (lt_of_block HC.out.1) (fun h => h)).trans HC.out.1
  have t0 := cell_of hbz (i := 0) rfl
  have t1 := cell_of hbz (i := 1) rfl
  have t2 := cell_of hbz (i := 2) rfl
  have t3 := cell_of hbz (i := 3) rfl
  have z1 := cell_of hwb (i := 1) rfl
  have z4 := cell_of hwb (i := 4) rfl
  have z5 := cell_of hwb (i := 5) rfl
  have HZ : Hid (Chg nobody w wz ∧ wz.heap[w.heap.size]? = some (.cells #[.int .i64 st, .slice wa wn wc, .slice ka ks.length kc, .slice pa ps.length pc] 97) ∧ wz.heap[wb]? = some (.cells #[v0, .slice la Ln lc, v2, v3, .slice ra rows.length rc, .int .i64 low] 79)) := ⟨hcz, hbz, hwb⟩
  clear hwz hcz hbz hwb
  have q1 : IntKind.i64.wrap ((ks.length : Int) + (ps.length : Int)) = (ks.length : Int) + (ps.length : Int) := wrap_small2 (by omega) (by omega)
  have q2 : IntKind.i64.wrap ((Ln : Int) + (wn : Int)) = (Ln : Int) + (wn : Int) := wrap_small2 (by omega) (by omega)
  by_cases hA : 0 < ks.length + ps.length ∧ st < low
  · have a1 : (0 : Int) < (ks.length : Int) + (ps.length : Int) := by omega
    have a2 : st < low := hA.2
    have HV : Hid (refV st low rows ks ps Ln wn = 8) := by show refV _ _ _ _ _ _ _ = 8; unfold refV; rw [if_pos hA]
    clear hA
    go_quiet (fail)
    go_wp2
    go_ret
    exact ⟨congrArg (fun x => Ending.returned (Value.int .i64 x)) HV.out.symm, HZ.out.1.drewN _⟩
  · have HA : Hid (¬ (0 < ks.length + ps.length ∧ st < low)) := hA
    have HT : Hid (∀ wq, Chg nobody wz wq → wq.heap[w.heap.size]? = some (.cells #[.int .i64 st, .slice wa wn wc, .slice ka ks.length kc, .slice pa ps.length pc] 97) ∧ wq.heap[wb]? = some (.cells #[v0, .slice la Ln lc, v2, v3, .slice ra rows.length rc, .int .i64 low] 79)) := fun wq hq => ⟨(hq.block _ (lt_of_block HZ.out.2.1) (fun h => h)).trans HZ.out.2.1, (hq.block _ (lt_of_block HZ.out.2.2) (fun h => h)).trans HZ.out.2.2⟩
    have a3 : (0 : Int) < (ks.length : Int) + (ps.length : Int) → ¬ st < low := fun h h' => hA ⟨by omega, h'⟩
    clear hA
    by_cases a1 : (0 : Int) < (ks.length : Int) + (ps.length : Int)
    all_goals try have a2 := a3 a1
    all_goals clear a3
    all_goals go_quiet (fail)
    all_goals go_wp2
    all_goals (
      go_loopw [5] (fun iv wr => ∃ i : Nat, i ≤ rows.length ∧ iv = .int .i64 i ∧ Hid (∀ r ∈ rows.take i, ¬ (st < r.2 ∧ hitL ks ps r.1 = true)) ∧ Hid (Chg nobody wz wr)) (fun iv _ => rows.length - (intOf iv).toNat)
      case atStart => exact ⟨0, Nat.zero_le _, rfl, (by intro r hr; simp at hr), (Chg.refl _ _).drewN _⟩
      case round =>
        obtain ⟨i, hi, rfl, HN, HQ⟩ := hrel
        obtain ⟨wo, rfl⟩ : ∃ wo : World, wo = wr := ⟨_, rfl⟩
        obtain ⟨hbt, hbw⟩ := HT.out wo HQ.out
        have x4 := cell_of hbw (i := 4) rfl
        have x1 := cell_of hbw (i := 1) rfl
        have y1 := cell_of hbt (i := 1) rfl
        clear t0 t1 t2 t3 z1 z4 z5
        by_cases hlt : i < rows.length
        · have HO : Hid (wo.ownsRow base 158 2 (.slice ra rows.length rc) rows.length (rowCells rows)) := ownsRow_chg HC.out.2.1 (HZ.out.1.trans HQ.out) (fun _ _ h => h)
          obtain ⟨g, rfl, _, _, _, _⟩ := row_open HO.out (by omega)
          obtain ⟨c0, c1⟩ := rrow_at HO.out i hlt
          have HM : Hid (rows[i] ∈ rows) := List.getElem_mem hlt
          have HX : Hid (¬ (st < rows[i].2 ∧ hitL ks ps rows[i].1 = true) → ∀ r ∈ rows.take (i + 1), ¬ (st < r.2 ∧ hitL ks ps r.1 = true)) := fun h r hr => by
            rw [List.take_succ_eq_append_getElem hlt] at hr
            rcases List.mem_append.1 hr with hr | hr
            · exact HN.out r hr
            · rw [List.mem_singleton.1 hr]; exact h
          have hl1 := lt_of_block hbt
          have t0' : ∀ o, (wo.alloc o).cell? ⟨w.heap.size, 0, none⟩ = some (.int .i64 st) := fun o => by rw [World.cell?_alloc_past _ _ _ hl1]; exact cell_of hbt (i := 0) rfl
          have t2' : ∀ o, (wo.alloc o).cell? ⟨w.heap.size, 2, none⟩ = some (.slice ka ks.length kc) := fun o => by rw [World.cell?_alloc_past _ _ _ hl1]; exact cell_of hbt (i := 2) rfl
          have HR : Hid (∀ wq, Chg nobody wo wq → wq.ownsRow bk 9 1 (.slice ka ks.length kc) ks.length (strCells ks) ∧ wq.ownsRow bp 9 1 (.slice pa ps.length pc) ps.length (strCells ps)) := fun wq hq => ⟨ownsRow_chg HC.out.2.2.1 (HZ.out.1.trans (HQ.out.trans hq)) (fun _ _ h => h), ownsRow_chg HC.out.2.2.2 (HZ.out.1.trans (HQ.out.trans hq)) (fun _ _ h => h)⟩
          clear hbt hbw
          generalize rows[i] = rr at *
          by_cases hs : rr.2 ≤ st
          · have HH := HX.out (fun h => by omega)
            have HHH : Hid (∀ r ∈ rows.take (i + 1), ¬ (st < r.2 ∧ hitL ks ps r.1 = true)) := HH
            clear HH HX
            go_wp2
            go_roundw
            case rel => exact ⟨i + 1, by omega, by go_num, HHH.out, HQ.out.alloc _⟩
            case measure => simp [intOf]; omega
          · go_wp2_with fail
            refine (has_any bk kc ka ks rr.1 _ (by omega) (HR.out _ ((Chg.refl _ _).alloc _)).1).mono ?_
            rintro e w2 ⟨rfl, hw2⟩
            have hbr : w2.heap[wo.heap.size]? = some (.cells #[.string rr.1, .int .i64 rr.2] 158) := by rw [hw2]; exact (MapKept.heap_alloc wo _).1
            have hc2 : Chg nobody wo w2 := by rw [hw2]; exact (Chg.refl _ _).alloc _
            have H2 : Hid (w2.heap[wo.heap.size]? = some (.cells #[.string rr.1, .int .i64 rr.2] 158) ∧ Chg nobody wo w2) := ⟨hbr, hc2⟩
            clear hw2 hbr hc2 t0' t2' c0 c1 x4 x1 y1
            generalize hb0 : ks.any (fun k => decide (k = rr.1)) = b0
            have HB0 : Hid (ks.any (fun k => decide (k = rr.1)) = b0) := hb0
            clear hb0
            go_wp2
            go_loopw [7, 8] (fun hv kv wq => ∃ (k : Nat) (b : Bool), k ≤ ps.length ∧ kv = .int .i64 k ∧ hv = .bool b ∧ Hid (b = (b0 || (ps.take k).any (fun p => pk p rr.1))) ∧ Hid (Chg nobody w2 wq)) (fun _ kv _ => ps.length - (intOf kv).toNat)
            case atStart => exact ⟨0, b0, Nat.zero_le _, rfl, rfl, (show b0 = (b0 || (ps.take 0).any (fun p => pk p rr.1)) by simp), Chg.refl _ _⟩
            case round =>
              obtain ⟨k, b, hk, rfl, rfl, HB, HQ2⟩ := hrel
              have HQ3 : Hid (Chg nobody wo wr) := H2.out.2.trans HQ2.out
              obtain ⟨hbt, hbw⟩ := HT.out wr (HQ.out.trans HQ3.out)
              have hbr : wr.heap[wo.heap.size]? = some (.cells #[.string rr.1, .int .i64 rr.2] 158) := (HQ2.out.block _ (lt_of_block H2.out.1) (fun h => h)).trans H2.out.1
              have r0 := cell_of hbr (i := 0) rfl
              have y3 := cell_of hbt (i := 3) rfl
              have y0 := cell_of hbt (i := 0) rfl
              clear hbt hbw hbr
              by_cases hkl : k < ps.length
              · first
                | (exfalso; omega)
                | (
                  have HP : Hid (wr.ownsRow bp 9 1 (.slice pa ps.length pc) ps.length (strCells ps)) := (HR.out wr HQ3.out).2
                  obtain ⟨gp, rfl, _, _, _, _⟩ := row_open HP.out (by omega)
                  have cp := str_at HP.out k hkl
                  have HAT : Hid ((ps.take (k + 1)).any (fun p => pk p rr.1) = ((ps.take k).any (fun p => pk p rr.1) || pk ps[k] rr.1)) := any_take _ ps k hkl
                  generalize ps[k] = pp at *
                  have HBG : Hid (∀ wx, Calls Tryz.prog 96 #[.string rr.1, .string pp] wx fun e w' => e = .returned (.bool (pk pp rr.1)) ∧ w' = wx) := begins_any rr.1 pp
                  cases b
                  · go_wp2_with fail
                    go_quiet ((go_at_call 96; exact Calls.quiet_of_same (HBG.out _)))
                    go_wp2
                    go_roundw
                    case rel => exact ⟨k + 1, pk pp rr.1, by omega, by go_num, rfl, (by rw [HAT.out, ← Bool.or_assoc, ← HB.out]; rfl), HQ2.out.drewN _⟩
                    case measure => simp [intOf]; omega
                  · go_wp2_with fail
                    go_quiet ((go_at_call 96; exact Calls.quiet_of_same (HBG.out _)))
                    go_wp2
                    go_roundw
                    case rel => exact ⟨k + 1, true, by omega, by go_num, rfl, (by rw [HAT.out, ← Bool.or_assoc, ← HB.out]; rfl), HQ2.out.drewN _⟩
                    case measure => simp [intOf]; omega)
              · have hke : k = ps.length := by omega
                subst hke
                have HBH : Hid (hitL ks ps rr.1 = b) := by
                  show hitL ks ps rr.1 = b
                  have h1 := HB.out
                  rw [List.take_length, ← HB0.out] at h1
                  exact h1.symm
                cases b
                · have HHH : Hid (∀ r ∈ rows.take (i + 1), ¬ (st < r.2 ∧ hitL ks ps r.1 = true)) := HX.out (fun h => by rw [HBH.out] at h; exact absurd h.2 (by simp))
                  clear HX
                  go_wp2
                  go_roundw
                  case rel => exact ⟨i + 1, by omega, by go_num, HHH.out, HQ.out.trans HQ3.out⟩
                  case measure => simp [intOf]; omega
                · have HV : Hid (refV st low rows ks ps Ln wn = 9) := refV_mid HA.out rr HM.out (by omega) HBH.out
                  clear HX
                  go_wp2
                  go_ret
                  exact ⟨congrArg (fun x => Ending.returned (Value.int .i64 x)) HV.out.symm, HZ.out.1.trans (HQ.out.trans HQ3.out)⟩
        · have hie : i = rows.length := by omega
          subst hie
          have HV := refV_end (Ln := Ln) (wn := wn) HA.out (fun r hr => HN.out r (by rw [List.take_length]; exact hr))
          by_cases hB : 100 < Ln + wn
          · rw [if_pos hB] at HV
            have HVV : Hid (refV st low rows ks ps Ln wn = 10) := HV
            have a5 : (100 : Int) < (Ln : Int) + (wn : Int) := by omega
            clear HV
            go_wp2_with fail
            go_quiet (fail)
            go_wp2
            go_ret
            exact ⟨congrArg (fun x => Ending.returned (Value.int .i64 x)) HVV.out.symm, (HZ.out.1.trans HQ.out).drewN _⟩
          · rw [if_neg hB] at HV
            have HVV : Hid (refV st low rows ks ps Ln wn = 0) := HV
            have a5 : ¬ (100 : Int) < (Ln : Int) + (wn : Int) := by omega
            clear HV
            go_wp2_with fail
            go_quiet (fail)
            go_wp2
            go_ret
            exact ⟨congrArg (fun x => Ending.returned (Value.int .i64 x)) HVV.out.symm, (HZ.out.1.trans HQ.out).drewN _⟩)
end Go.Proofs.YtkfjafndplmdkaaGreat
namespace Go.Proofs.YtkfjafndplmdkaaGreat
open Go.RowKit Go.Sort
theorem infoInt : (Tryz.prog.info? 3).map (fun i => (i.zero, i.size, i.bytes)) = some (some (.int .i64 0), 1, 8) := by kernel_rfl
theorem row_not {w : World} {b : Nat} {c : Array Value} {t : TypeId} (hb : w.heap[b]? = some (.cells c t)) {base : Nat} {e : TypeId} {size : Nat} {v : Value} {n : Nat} {xs : List Value} (hr : w.ownsRow base e size v n xs) (he : e ≠ t) : v.ownBlock ≠ some b := by
  intro hg
  rcases hr.2 with ⟨rfl, _⟩ | ⟨g1, c1, cur1, rfl, _, hb1, _⟩
  · cases hg
  have e1 : g1 = b := by simpa [Value.ownBlock] using hg
  subst e1
  rw [hb1] at hb
  cases hb
  exact he rfl
theorem others_nodup {w : World} {S : RSt} (hl : w.ownsRow 0 103 4 S.lv S.L.length (verCells S.L)) (hq : w.ownsRow 0 3 1 S.qv S.q.length (S.q.map (.int .i64 ·))) (hr : w.ownsRow 0 158 2 S.rv S.rows.length (S.rows.flatMap fun p => [.string p.1, .int .i64 p.2])) : S.others.Nodup := by
  unfold RSt.others
  rw [List.nodup_append, List.nodup_append]
  refine ⟨⟨vb_nodup _, vb_nodup _, fun a ha b hb e => ?_⟩, vb_nodup _, fun a ha b hb e => ?_⟩
  · subst e; exact row_apart hl hq (by decide) a (vb_mem.1 ha) (vb_mem.1 hb)
  · subst e
    rcases List.mem_append.1 ha with ha | ha
    · exact row_apart hl hr (by decide) a (vb_mem.1 ha) (vb_mem.1 hb)
    · exact row_apart hq hr (by decide) a (vb_mem.1 ha) (vb_mem.1 hb)
/-- another store, queue, oracle. -/
theorem RInv.remake {w w' : World} {S S' : RSt} (h : RInv w S) (e1 : S'.wb = S.wb) (e2 : S'.ts = S.ts) (e3 : S'.ov = S.ov)
    (hb : w'.heap[S.wb]? = some (.cells #[.int .i64 S'.clock, S'.lv, S.ov, S'.qv, S'.rv, .int .i64 S'.low] 79))
    (hl : w'.ownsRow 0 103 4 S'.lv S'.L.length (verCells S'.L)) (hq : w'.ownsRow 0 3 1 S'.qv S'.q.length (S'.q.map (.int .i64 ·))) (hr : w'.ownsRow 0 158 2 S'.rv S'.rows.length (S'.rows.flatMap fun p => [.string p.1, .int .i64 p.2]))
    (hs : ∀ b ∈ S'.others, b ∈ S.others ∨ w.heap.size ≤ b) (hc : Chg (fun b => b = S.wb ∨ b ∈ S.others) w w') : ROk w S w' S' := by
  have hnd := h.nd
  have e0 : S.blocks = [S.wb] ++ (S.others ++ (vb S.ov ++ S.ts.flatMap RT.blocks)) := by simp [RSt.blocks]
  have e0' : S'.blocks = [S.wb] ++ (S'.others ++ (vb S.ov ++ S.ts.flatMap RT.blocks)) := by
    unfold RSt.blocks
    rw [e1, e2, e3]
    simp
  have hlt := h.lt
  rw [e0] at hnd hlt
  obtain ⟨n1, n2, n3⟩ := List.nodup_append.1 hnd
  obtain ⟨m1, m2, m3⟩ := List.nodup_append.1 n2
  have hB : ∀ b ∈ vb S.ov ++ S.ts.flatMap RT.blocks, b < w.heap.size ∧ ¬ (b = S.wb ∨ b ∈ S.others) := fun b hb' => by
    refine ⟨hlt b (by simp only [List.mem_append] at hb' ⊢; exact Or.inr (Or.inr hb')), ?_⟩
    rintro (e | e)
    · exact n3 S.wb (by simp) b (List.mem_append.2 (Or.inr hb')) e.symm
    · exact m3 b e b hb' rfl
  have hnd' := nodup_swap (n := w.heap.size) hnd (others_nodup hl hq hr) hs (fun b hb' => hlt b (List.mem_append.2 (Or.inl hb'))) (fun b hb' => (hB b hb').1)
  refine ⟨⟨?_, hl, ?_, hq, hr, ?_, ?_⟩, ?_, ?_⟩
  · rw [e1, e3]; exact hb
  · rw [e3, e2]
    exact ownsRow_chg h.or hc (fun g e => (hB g (List.mem_append.2 (Or.inl (vb_mem.2 e)))).2)
  · intro T hT
    rw [e2] at hT
    exact (h.ts T hT).chg hc (fun b hb' => (hB b (List.mem_append.2 (Or.inr (List.mem_flatMap.2 ⟨T, hT, hb'⟩)))).2)
  · rw [e0']; exact hnd'
  · rw [e0', e0]
    intro b hb'
    simp only [List.mem_append] at hb' ⊢
    rcases hb' with hb' | hb' | hb'
    · exact Or.inl (Or.inl hb')
    · exact (hs b hb').imp (fun x => Or.inr (Or.inl x)) id
    · exact Or.inl (Or.inr (Or.inr hb'))
  · refine hc.mono (fun i _ hi => ?_)
    rw [e0]
    simp only [List.mem_append, List.mem_singleton]
    exact hi.imp id Or.inl
theorem ROk.trans {w w1 w2 : World} {S S1 S2 : RSt} (h1 : ROk w S w1 S1) (h2 : ROk w1 S1 w2 S2) : ROk w S w2 S2 := by
  have hz := h1.2.2.size
  refine ⟨h2.1, fun b hb => ?_, h1.2.2.andThen h2.2.2 (fun i hi hb => ?_)⟩
  · rcases h2.2.1 b hb with h | h
    · exact h1.2.1 b h
    · exact Or.inr (by omega)
  · rcases h1.2.1 i hb with h | h
    · exact h
    · omega
theorem ROk.refl {w w' : World} {S : RSt} (h : RInv w S) (hc : Chg nobody w w') : ROk w S w' S := ⟨h.chg hc (fun _ _ h => h), fun _ hb => Or.inl hb, hc.any _⟩
/-- of a greater world than before. -/
theorem ROk.before {w w1 w2 : World} {S S2 : RSt} (hc : Chg nobody w w1) (h : ROk w1 S w2 S2) : ROk w S w2 S2 := ⟨h.1, fun b hb => (h.2.1 b hb).imp id (fun x => by have := hc.size; omega), (hc.any _).trans h.2.2⟩
end Go.Proofs.YtkfjafndplmdkaaGreat
namespace Go.Proofs.YtkfjafndplmdkaaGreat
open Go.RowKit Go.Sort
theorem four_facts (w : World) (o : OpM) (kd st : Int) (wv kv pv : Value) : (four w o kd st wv kv pv).heap[w.heap.size + 1]? = some ans0 ∧ (four w o kd st wv kv pv).heap[w.heap.size + 1 + 1]? = some (txC st wv kv pv) ∧ (four w o kd st wv kv pv).heap[w.heap.size + 1 + 1 + 1]? = some ans0 ∧ (four w o kd st wv kv pv).heap.size = w.heap.size + 1 + 1 + 1 + 1 := by
  refine ⟨?_, ?_, ?_, by simp⟩
  · rw [Below.heap_alloc _ _ _ (by simp <;> omega), Below.heap_alloc _ _ _ (by simp)]
    exact heap_new (by simp)
  · rw [Below.heap_alloc _ _ _ (by simp)]
    exact heap_new (by simp)
  · exact heap_new (by simp)
set_option maxRecDepth 100000 in
set_option maxHeartbeats 2000000 in
theorem of_commit_low {v0 v1 v4 v5 : Value} (wb g k oc qc : Nat) (qa : Option Addr) (q : List Int) (st : Int) (ws : List Ver) (wa : Option Addr) (wc : Nat) (ks : List ByteArray) (ka : Option Addr) (kc : Nat) (pa : Option Addr) (ps : List ByteArray) (pc : Nat) (ts : List RT) (o : OpM) (w : World)
    (hkd : o.kind = 7) (hkn : k < ts.length) (hq3 : q.length ≠ 3) (hql : q.length ≤ 2000000)
    (hT : ts[k]? = some ⟨st, ws, wa, wc, ks, ka, kc, ps, pa, pc⟩)
    (hb : w.heap[wb]? = some (.cells #[v0, v1, .slice (some ⟨g, 0, none⟩) ts.length oc, .slice qa q.length qc, v4, v5] 79))
    (hor : w.ownsRow 0 97 4 (.slice (some ⟨g, 0, none⟩) ts.length oc) ts.length (rtCells ts))
    (hqr : w.ownsRow 0 3 1 (.slice qa q.length qc) q.length (q.map (.int .i64 ·))) :
    Calls Tryz.prog 52 #[.pointer (some ⟨wb, 0, none⟩), .int .i64 k, o.v] w fun e w' => e = .returned (ansV 0 0 false ⟨#[]⟩ (.slice none 0 0)) ∧
      ∃ qa' qc', w'.heap[wb]? = some (.cells #[v0, v1, .slice (some ⟨g, 0, none⟩) ts.length oc, .slice qa' (q.length + 1) qc', v4, v5] 79) ∧ w'.ownsRow 0 97 4 (.slice (some ⟨g, 0, none⟩) ts.length oc) ts.length (rtCells ts) ∧ w'.ownsRow 0 3 1 (.slice qa' (q.length + 1) qc') (q.length + 1) ((q ++ [st]).map (.int .i64 ·)) ∧ Chg (fun b => b = wb ∨ b = g ∨ (Value.slice qa q.length qc).ownBlock = some b) w w' ∧ ((Value.slice qa' (q.length + 1) qc').ownBlock = (Value.slice qa q.length qc).ownBlock ∨ ∀ b, (Value.slice qa' (q.length + 1) qc').ownBlock = some b → w.heap.size ≤ b) := by
  obtain ⟨i0, hi, hz0, hz1, hz2⟩ := info_parts infoInt
  have hgb : ∃ cur, w.heap[g]? = some (.cells cur 97) := by
    rcases hor.2 with ⟨e, _⟩ | ⟨g', cap, cur, e, _, h, _⟩
    · cases e
    · cases e; exact ⟨cur, h⟩
  obtain ⟨cur, hgb⟩ := hgb
  have hgl := lt_of_block hgb
  have hwl := lt_of_block hb
  have hwg : wb ≠ g := fun e => by rw [e, hgb] at hb; cases hb
  have hqb : ∀ b, (Value.slice qa q.length qc).ownBlock = some b → b < w.heap.size ∧ b ≠ wb ∧ b ≠ g := fun b e => ⟨(hqr.lt b e).2, fun e' => row_not hb hqr (by decide) (e' ▸ e), fun e' => row_not hgb hqr (by decide) (e' ▸ e)⟩
  have x2 := cell_of hb (i := 2) (v := .slice (some ⟨g, 0, none⟩) ts.length oc) rfl
  have x3 := cell_of hb (i := 3) (v := .slice qa q.length qc) rfl
  have hTk : ts[k] = ⟨st, ws, wa, wc, ks, ka, kc, ps, pa, pc⟩ := by have := List.getElem?_eq_getElem hkn; rw [hT] at this; exact (Option.some.inj this).symm
  obtain ⟨c0, c1, c2, c3⟩ := rt_at hor k hkn
  rw [hTk] at c0 c1 c2 c3
  simp only at c0 c1 c2 c3
  have b3 : ((q.length : Int) == 3) = false := beq_eq_false_iff_ne.2 (by omega)
  have hkd' : (o.kind == 7) = true := beq_iff_eq.2 hkd
  have hc4 := four_chg w o 7 st (.slice wa ws.length wc) (.slice ka ks.length kc) (.slice pa ps.length pc)
  obtain ⟨f4B, f4C, f4D, f4z⟩ := four_facts w o 7 st (.slice wa ws.length wc) (.slice ka ks.length kc) (.slice pa ps.length pc)
  have hb4 := (hc4.block _ hwl (fun h => h)).trans hb
  have x3' := cell_of hb4 (i := 3) (v := .slice qa q.length qc) rfl
  have hor4 := ownsRow_chg hor hc4 (fun _ _ h => h)
  have hqr4 := ownsRow_chg hqr hc4 (fun _ _ h => h)
  have HC : Hid (Chg nobody w (four w o 7 st (.slice wa ws.length wc) (.slice ka ks.length kc) (.slice pa ps.length pc)) ∧ (four w o 7 st (.slice wa ws.length wc) (.slice ka ks.length kc) (.slice pa ps.length pc)).heap[w.heap.size + 1]? = some ans0 ∧ (four w o 7 st (.slice wa ws.length wc) (.slice ka ks.length kc) (.slice pa ps.length pc)).heap[w.heap.size + 1 + 1]? = some (txC st (.slice wa ws.length wc) (.slice ka ks.length kc) (.slice pa ps.length pc)) ∧ (four w o 7 st (.slice wa ws.length wc) (.slice ka ks.length kc) (.slice pa ps.length pc)).heap[w.heap.size + 1 + 1 + 1]? = some ans0 ∧ (four w o 7 st (.slice wa ws.length wc) (.slice ka ks.length kc) (.slice pa ps.length pc)).heap.size = w.heap.size + 1 + 1 + 1 + 1 ∧ (four w o 7 st (.slice wa ws.length wc) (.slice ka ks.length kc) (.slice pa ps.length pc)).heap[wb]? = some (.cells #[v0, v1, .slice (some ⟨g, 0, none⟩) ts.length oc, .slice qa q.length qc, v4, v5] 79) ∧ (four w o 7 st (.slice wa ws.length wc) (.slice ka ks.length kc) (.slice pa ps.length pc)).ownsRow 0 97 4 (.slice (some ⟨g, 0, none⟩) ts.length oc) ts.length (rtCells ts) ∧ (four w o 7 st (.slice wa ws.length wc) (.slice ka ks.length kc) (.slice pa ps.length pc)).ownsRow 0 3 1 (.slice qa q.length qc) q.length (q.map (.int .i64 ·))) := ⟨hc4, f4B, f4C, f4D, f4z, hb4, hor4, hqr4⟩
  have HQ : Hid ((∀ b, (Value.slice qa q.length qc).ownBlock = some b → b < w.heap.size ∧ b ≠ wb ∧ b ≠ g) ∧ ts[k] = ⟨st, ws, wa, wc, ks, ka, kc, ps, pa, pc⟩) := ⟨hqb, hTk⟩
  clear hor hT hTk hb hgb hc4 f4B f4C f4D f4z hb4 hor4 hqr4 hqr hqb
  have hbs : decide ((o.key.size : Int) < 1) = true ∨ (decide ((o.key.size : Int) < 1) = false ∧ decide ((8 : Int) < (o.key.size : Int)) = true) ∨ (decide ((o.key.size : Int) < 1) = false ∧ decide ((8 : Int) < (o.key.size : Int)) = false) := by
    by_cases h1 : (o.key.size : Int) < 1
    · exact Or.inl (decide_eq_true h1)
    · by_cases h2 : (8 : Int) < (o.key.size : Int)
      · exact Or.inr (Or.inl ⟨decide_eq_false h1, decide_eq_true h2⟩)
      · exact Or.inr (Or.inr ⟨decide_eq_false h1, decide_eq_false h2⟩)
  rcases hbs with b1 | ⟨b1, b2⟩ | ⟨b1, b2⟩
  all_goals
    go_enter Tryz.func52, Tryz.ntmps52
    go_wp2_with fail
    refine name_worldN ?_
    intro w4 hw4
    have hw4' : four w o 7 st (.slice wa ws.length wc) (.slice ka ks.length kc) (.slice pa ps.length pc) = w4 := hw4.symm
    rw [hw4'] at HC
    clear hw4 hw4'
    have hz4 : Hid (w4.heap.size = w.heap.size + 1 + 1 + 1 + 1) := HC.out.2.2.2.2.1
    have y3 := cell_of HC.out.2.2.2.2.2.1 (i := 3) (v := .slice qa q.length qc) rfl
    have t0 := cell_of HC.out.2.2.1 (i := 0) (v := .int .i64 st) rfl
    have hwl4 : wb < w4.heap.size := lt_of_block HC.out.2.2.2.2.2.1
    have y3' : (w4.alloc (.cells #[.int .i64 st] 3)).cell? ⟨wb, 3, none⟩ = some (.slice qa q.length qc) := by rw [World.cell?_alloc_past _ _ _ hwl4]; exact y3
    clear x2 x3 x3' c0 c1 c2 c3
    go_region_law (refine step_append_where rfl (.tmp 132) (.tmp 135) 34 rfl 0 3 i0 (.int .i64 0) 1 8 Tryz.underlying34 hi hz0 hz1 hz2 rfl (by decide) (.slice qa q.length qc) q.length (q.map (.int .i64 ·)) (by simp [Act.eval]) ((row_drew HC.out.2.2.2.2.2.2.2).alloc _) ⟨w4.heap.size, 0, none⟩ 1 1 [.int .i64 st] (by simp [Act.eval]) rfl (cells_new w4.drew #[.int .i64 st] 3) (by simp [Value.oneCell']) (by unfold maxLen; omega) (by omega) (Nat.zero_le _) ?_; intro v' w5 hown5 hg5 hwh; obtain ⟨qa', qc', rfl⟩ := row_form hown5; have hc5 : Chg (fun b => (Value.slice qa q.length qc).ownBlock = some b) w4 w5 := (((Chg.refl _ w4).drew).alloc _).grown hg5 (fun k e => Or.inl e); have hb5 := (hc5.block wb (lt_of_block HC.out.2.2.2.2.2.1) (fun e => (HQ.out.1 _ e).2.1 rfl)).trans HC.out.2.2.2.2.2.1; have s3 := cell_of hb5 (i := 3) (v := .slice qa q.length qc) rfl; have sf := unfrozen_of hb5 3)
    all_goals
      have hwh' : (Value.slice qa' (q.length + 1) qc').ownBlock = (Value.slice qa q.length qc).ownBlock ∨ (Value.slice qa' (q.length + 1) qc').ownBlock = some (w.heap.size + 1 + 1 + 1 + 1 + 1) := by
        rcases hwh with h | h
        · exact Or.inl h
        · refine Or.inr (h.trans ?_)
          have := hz4.out
          simp [this]
      have hob' : ∀ b, (Value.slice qa' (q.length + 1) qc').ownBlock = some b → b < w.heap.size ∧ b ≠ wb ∧ b ≠ g ∨ b = w.heap.size + 1 + 1 + 1 + 1 + 1 := fun b e => by
        rcases hwh' with h | h
        · exact Or.inl (HQ.out.1 b (h ▸ e))
        · rw [h] at e; exact Or.inr (Option.some.inj e).symm
      have hc6 := chg_set1 w5 wb 3 (.slice qa' (q.length + 1) qc')
      have hb6 := heap_setCell_same w5 wb 3 _ 79 (.slice qa' (q.length + 1) qc') hb5
      have hqr6 := ownsRow_chg hown5 hc6 (fun b e (h : b = wb) => by have := hob' b e; omega)
      have hcc6 : Chg (fun b => b = wb ∨ b = g ∨ (Value.slice qa q.length qc).ownBlock = some b) w4 (w5.setCell ⟨wb, 3, none⟩ (.slice qa' (q.length + 1) qc')) := (hc5.mono (fun _ _ h => Or.inr (Or.inr h))).trans (hc6.mono (fun _ _ h => Or.inl h))
      have hnew : ∀ b, w.heap.size ≤ b → ¬ (b = wb ∨ (Value.slice qa q.length qc).ownBlock = some b) := fun b hb h => by
        rcases h with h | h
        · omega
        · have := (HQ.out.1 b h).1; omega
      have hcn6 : Chg (fun b => b = wb ∨ (Value.slice qa q.length qc).ownBlock = some b) w4 (w5.setCell ⟨wb, 3, none⟩ (.slice qa' (q.length + 1) qc')) := (hc5.mono (fun _ _ h => Or.inr h)).trans (hc6.mono (fun _ _ h => Or.inl h))
      have f6B := (hcn6.block _ (lt_of_block HC.out.2.1) (hnew _ (by omega))).trans HC.out.2.1
      have f6C := (hcn6.block _ (lt_of_block HC.out.2.2.1) (hnew _ (by omega))).trans HC.out.2.2.1
      have f6D := (hcn6.block _ (lt_of_block HC.out.2.2.2.1) (hnew _ (by omega))).trans HC.out.2.2.2.1
      have hor6 := ownsRow_chg HC.out.2.2.2.2.2.2.1 hcn6 (fun b e h => by
        have e1 : g = b := by simpa [Value.ownBlock] using e
        rcases h with h | h
        · omega
        · exact (HQ.out.1 b h).2.2 e1.symm)
      have hG6 : Chg (fun b => b = wb ∨ b = g ∨ (Value.slice qa q.length qc).ownBlock = some b) w (w5.setCell ⟨wb, 3, none⟩ (.slice qa' (q.length + 1) qc')) := (HC.out.1.any _).trans hcc6
      have HG : Hid (Chg (fun b => b = wb ∨ b = g ∨ (Value.slice qa q.length qc).ownBlock = some b) w (w5.setCell ⟨wb, 3, none⟩ (.slice qa' (q.length + 1) qc')) ∧ (∀ b, (Value.slice qa' (q.length + 1) qc').ownBlock = some b → b < w.heap.size ∧ b ≠ wb ∧ b ≠ g ∨ b = w.heap.size + 1 + 1 + 1 + 1 + 1) ∧ ((Value.slice qa' (q.length + 1) qc').ownBlock = (Value.slice qa q.length qc).ownBlock ∨ (Value.slice qa' (q.length + 1) qc').ownBlock = some (w.heap.size + 1 + 1 + 1 + 1 + 1))) := ⟨hG6, hob', hwh'⟩
      have HG6 : Hid ((w5.setCell ⟨wb, 3, none⟩ (.slice qa' (q.length + 1) qc')).ownsRow 0 3 1 (.slice qa' (q.length + 1) qc') (q.length + 1) (q.map (.int .i64 ·) ++ [.int .i64 st])) := hqr6
      clear hwh hwh' hob' hc6 hc5 hb5 s3 sf hown5 hg5 y3 y3' t0 hcc6 hcn6 hG6 hqr6 hnew HC hz4 hwl4
      generalize w5.setCell ⟨wb, 3, none⟩ (.slice qa' (q.length + 1) qc') = w8 at *
      have y0 := cell_of f6C (i := 0) (v := .int .i64 st) rfl
      have y1 := cell_of f6C (i := 1) (v := .slice wa ws.length wc) rfl
      have y2 := cell_of f6C (i := 2) (v := .slice ka ks.length kc) rfl
      have y3 := cell_of f6C (i := 3) (v := .slice pa ps.length pc) rfl
      have z2 := cell_of hb6 (i := 2) (v := .slice (some ⟨g, 0, none⟩) ts.length oc) rfl
      have q0 := hor6.frozenAt (k * 4)
      have q1 := hor6.frozenAt (k * 4 + 1)
      have q2 := hor6.frozenAt (k * 4 + 2)
      have q3 := hor6.frozenAt (k * 4 + 3)
      obtain ⟨c0, c1, c2, c3⟩ := rt_at hor6 k hkn
      have HP : Hid (w8.heap[w.heap.size + 1 + 1 + 1]? = some ans0 ∧ w8.heap[w.heap.size + 1]? = some ans0 ∧ w8.ownsRow 0 97 4 (.slice (some ⟨g, 0, none⟩) ts.length oc) ts.length (rtCells ts) ∧ w8.heap[wb]? = some (.cells #[v0, v1, .slice (some ⟨g, 0, none⟩) ts.length oc, .slice qa' (q.length + 1) qc', v4, v5] 79)) := ⟨f6D, f6B, hor6, hb6⟩
      clear f6D f6B hor6 hb6 f6C
      go_wp2_with fail
      go_region
      have hc9 := (chg_set4 w8 g k (.int .i64 st) (.slice wa ws.length wc) (.slice ka ks.length kc) (.slice pa ps.length pc)).drew
      obtain ⟨f8D, f8B, hor8, hb8⟩ := HP.out
      have hor9 := row_drew (row_set4 ⟨st, ws, wa, wc, ks, ka, kc, ps, pa, pc⟩ hor8 hkn)
      rw [← HQ.out.2, List.set_getElem_self] at hor9
      simp only [HQ.out.2, RT.wv, RT.kv, RT.pv] at hor9
      have f9D := (hc9.block _ (lt_of_block f8D) (fun (h : _ = _) => by omega)).trans f8D
      have f9B := (hc9.block _ (lt_of_block f8B) (fun (h : _ = _) => by omega)).trans f8B
      have hb9 := (hc9.block _ (lt_of_block hb8) (fun (h : _ = _) => by omega)).trans hb8
      have hqr9 := ownsRow_chg HG6.out hc9 (fun b e (h : b = _) => by have := HG.out.2.1 b e; omega)
      have hG9 := HG.out.1.andThen hc9 (fun i hi (h : i = _) => Or.inr (Or.inl h))
      have HZ : Hid (((((w8.setCell ⟨g, k * 4, none⟩ (.int .i64 st)).setCell ⟨g, k * 4 + 1, none⟩ (.slice wa ws.length wc)).setCell ⟨g, k * 4 + 2, none⟩ (.slice ka ks.length kc)).setCell ⟨g, k * 4 + 3, none⟩ (.slice pa ps.length pc)).drew.ownsRow 0 97 4 (.slice (some ⟨g, 0, none⟩) ts.length oc) ts.length (rtCells ts) ∧ ((((w8.setCell ⟨g, k * 4, none⟩ (.int .i64 st)).setCell ⟨g, k * 4 + 1, none⟩ (.slice wa ws.length wc)).setCell ⟨g, k * 4 + 2, none⟩ (.slice ka ks.length kc)).setCell ⟨g, k * 4 + 3, none⟩ (.slice pa ps.length pc)).drew.heap[w.heap.size + 1]? = some ans0 ∧ ((((w8.setCell ⟨g, k * 4, none⟩ (.int .i64 st)).setCell ⟨g, k * 4 + 1, none⟩ (.slice wa ws.length wc)).setCell ⟨g, k * 4 + 2, none⟩ (.slice ka ks.length kc)).setCell ⟨g, k * 4 + 3, none⟩ (.slice pa ps.length pc)).drew.heap[wb]? = some (.cells #[v0, v1, .slice (some ⟨g, 0, none⟩) ts.length oc, .slice qa' (q.length + 1) qc', v4, v5] 79) ∧ ((((w8.setCell ⟨g, k * 4, none⟩ (.int .i64 st)).setCell ⟨g, k * 4 + 1, none⟩ (.slice wa ws.length wc)).setCell ⟨g, k * 4 + 2, none⟩ (.slice ka ks.length kc)).setCell ⟨g, k * 4 + 3, none⟩ (.slice pa ps.length pc)).drew.ownsRow 0 3 1 (.slice qa' (q.length + 1) qc') (q.length + 1) (q.map (.int .i64 ·) ++ [.int .i64 st]) ∧ Chg (fun b => b = wb ∨ b = g ∨ (Value.slice qa q.length qc).ownBlock = some b) w ((((w8.setCell ⟨g, k * 4, none⟩ (.int .i64 st)).setCell ⟨g, k * 4 + 1, none⟩ (.slice wa ws.length wc)).setCell ⟨g, k * 4 + 2, none⟩ (.slice ka ks.length kc)).setCell ⟨g, k * 4 + 3, none⟩ (.slice pa ps.length pc)).drew) := ⟨hor9, f9B, hb9, hqr9, hG9⟩
      obtain ⟨d0, d1, d2, d3, d4, d5, d6, _⟩ := cells7 f9D
      obtain ⟨k0, k1, k2, k3, k4, k5, k6, kf⟩ := cells7 f9B
      clear hG9 hc9 f8D f8B hor8 hb8 HP HG6 y0 y1 y2 y3 z2 q0 q1 q2 q3 c0 c1 c2 c3 hor9 f9D f9B hb9 hqr9
      generalize ((((w8.setCell ⟨g, k * 4, none⟩ (.int .i64 st)).setCell ⟨g, k * 4 + 1, none⟩ (.slice wa ws.length wc)).setCell ⟨g, k * 4 + 2, none⟩ (.slice ka ks.length kc)).setCell ⟨g, k * 4 + 3, none⟩ (.slice pa ps.length pc)).drew = w9 at *
      go_wp2
      obtain ⟨hor9, f9B, hb9, hqr9, hG9⟩ := HZ.out
      obtain ⟨r0, r1, r2, r3, r4, r5, r6⟩ := set7 f9B rfl (.int .i64 0) (.int .i64 0) (.bool false) (.string ⟨#[]⟩) (.slice none 0 0) (.slice none 0 0) (.slice none 0 0)
      have hc10 := chg_set7 w9 (w.heap.size + 1) (.int .i64 0) (.int .i64 0) (.bool false) (.string ⟨#[]⟩) (.slice none 0 0) (.slice none 0 0) (.slice none 0 0)
      refine bodyPost_ret (v := ansV 0 0 false ⟨#[]⟩ (.slice none 0 0)) (by simp [results, Tryz.results52, go_sem, r0, r1, r2, r3, r4, r5, r6]) rfl ⟨rfl, qa', qc', (hc10.block _ (lt_of_block hb9) (fun (h : _ = _) => by omega)).trans hb9, ownsRow_chg hor9 hc10 ?_, ?_, hG9.andThen hc10 ?_, ?_⟩
      · exact fun b e (h : b = _) => by have e1 : g = b := (by simpa [Value.ownBlock] using e); omega
      · rw [List.map_append]
        exact ownsRow_chg hqr9 hc10 (fun b e (h : b = _) => by have := HG.out.2.1 b e; omega)
      · exact fun i hi (h : i = _) => by omega
      · rcases HG.out.2.2 with h | h
        · exact Or.inl h
        · exact Or.inr (fun b e => by rw [h] at e; have := Option.some.inj e; omega)
set_option maxRecDepth 100000 in
set_option maxHeartbeats 1000000 in
theorem of_busy_low {v0 v1 v4 v5 : Value} (wb g k oc qc : Nat) (qa : Option Addr) (qn : Nat) (st : Int) (ws : List Ver) (wa : Option Addr) (wc : Nat) (ks : List ByteArray) (ka : Option Addr) (kc : Nat) (pa : Option Addr) (ps : List ByteArray) (pc : Nat) (ts : List RT) (o : OpM) (w : World)
    (hkd : o.kind = 7) (hkn : k < ts.length) (hq3 : qn = 3)
    (hT : ts[k]? = some ⟨st, ws, wa, wc, ks, ka, kc, ps, pa, pc⟩)
    (hb : w.heap[wb]? = some (.cells #[v0, v1, .slice (some ⟨g, 0, none⟩) ts.length oc, .slice qa qn qc, v4, v5] 79))
    (hor : w.ownsRow 0 97 4 (.slice (some ⟨g, 0, none⟩) ts.length oc) ts.length (rtCells ts)) :
    Calls Tryz.prog 52 #[.pointer (some ⟨wb, 0, none⟩), .int .i64 k, o.v] w fun e w' => e = .returned (ansV 7 0 false ⟨#[]⟩ (.slice none 0 0)) ∧ Chg nobody w w' := by
  subst hq3
  have hgb : ∃ cur, w.heap[g]? = some (.cells cur 97) := by
    rcases hor.2 with ⟨e, _⟩ | ⟨g', cap, cur, e, _, h, _⟩
    · cases e
    · cases e; exact ⟨cur, h⟩
  obtain ⟨cur, hgb⟩ := hgb
  have hgl := lt_of_block hgb
  have hwl := lt_of_block hb
  have x2 := cell_of hb (i := 2) (v := .slice (some ⟨g, 0, none⟩) ts.length oc) rfl
  have hTk : ts[k] = ⟨st, ws, wa, wc, ks, ka, kc, ps, pa, pc⟩ := by have := List.getElem?_eq_getElem hkn; rw [hT] at this; exact (Option.some.inj this).symm
  obtain ⟨c0, c1, c2, c3⟩ := rt_at hor k hkn
  rw [hTk] at c0 c1 c2 c3
  simp only at c0 c1 c2 c3
  have hkd' : (o.kind == 7) = true := beq_iff_eq.2 hkd
  have hc4 := four_chg w o 7 st (.slice wa ws.length wc) (.slice ka ks.length kc) (.slice pa ps.length pc)
  have hb4 := (hc4.block _ hwl (fun h => h)).trans hb
  have x3' := cell_of hb4 (i := 3) (v := .slice qa 3 qc) rfl
  obtain ⟨f4B, _, _, _⟩ := four_facts w o 7 st (.slice wa ws.length wc) (.slice ka ks.length kc) (.slice pa ps.length pc)
  have HC : Hid (Chg nobody w (four w o 7 st (.slice wa ws.length wc) (.slice ka ks.length kc) (.slice pa ps.length pc)) ∧ (four w o 7 st (.slice wa ws.length wc) (.slice ka ks.length kc) (.slice pa ps.length pc)).heap[w.heap.size + 1]? = some ans0) := ⟨hc4, f4B⟩
  clear hor hT hTk hb hgb hc4 f4B hb4
  have hbs : decide ((o.key.size : Int) < 1) = true ∨ (decide ((o.key.size : Int) < 1) = false ∧ decide ((8 : Int) < (o.key.size : Int)) = true) ∨ (decide ((o.key.size : Int) < 1) = false ∧ decide ((8 : Int) < (o.key.size : Int)) = false) := by
    by_cases h1 : (o.key.size : Int) < 1
    · exact Or.inl (decide_eq_true h1)
    · by_cases h2 : (8 : Int) < (o.key.size : Int)
      · exact Or.inr (Or.inl ⟨decide_eq_false h1, decide_eq_true h2⟩)
      · exact Or.inr (Or.inr ⟨decide_eq_false h1, decide_eq_false h2⟩)
  rcases hbs with b1 | ⟨b1, b2⟩ | ⟨b1, b2⟩
  all_goals
    go_enter Tryz.func52, Tryz.ntmps52
    go_wp2_with fail
    refine (no_any 7 _).mono ?_
    rintro e w5 ⟨rfl, hch⟩
    have fB : w5.heap[w.heap.size + 1]? = some ans0 := (hch.block _ (lt_of_block HC.out.2) (fun h => h)).trans HC.out.2
    have hc5 : Chg nobody w w5 := HC.out.1.trans hch
    obtain ⟨k0, k1, k2, k3, k4, k5, k6, kf⟩ := cells7 fB
    have HZ : Hid (w5.heap[w.heap.size + 1]? = some ans0 ∧ Chg nobody w w5) := ⟨fB, hc5⟩
    clear fB hch hc5 c0 c1 c2 c3 x2 x3'
    go_wp2
    obtain ⟨f9B, hc5⟩ := HZ.out
    obtain ⟨r0, r1, r2, r3, r4, r5, r6⟩ := set7 f9B rfl (.int .i64 7) (.int .i64 0) (.bool false) (.string ⟨#[]⟩) (.slice none 0 0) (.slice none 0 0) (.slice none 0 0)
    have hc10 := chg_set7 w5 (w.heap.size + 1) (.int .i64 7) (.int .i64 0) (.bool false) (.string ⟨#[]⟩) (.slice none 0 0) (.slice none 0 0) (.slice none 0 0)
    refine bodyPost_ret (v := ansV 7 0 false ⟨#[]⟩ (.slice none 0 0)) (by simp [results, Tryz.results52, go_sem, r0, r1, r2, r3, r4, r5, r6]) rfl ⟨rfl, hc5.andThen hc10 ?_⟩
    exact fun i hi (h : i = _) => by omega
end Go.Proofs.YtkfjafndplmdkaaGreat
namespace Go.Proofs.YtkfjafndplmdkaaGreat
open Go.RowKit Go.Sort
theorem RInv.remake2 {w w' : World} {S S' : RSt} (h : RInv w S) (e1 : S'.wb = S.wb) (e2 : S'.ts = S.ts) (e3 : S'.ov = S.ov)
    (hb : w'.heap[S.wb]? = some (.cells #[.int .i64 S'.clock, S'.lv, S.ov, S'.qv, S'.rv, .int .i64 S'.low] 79)) (ho : w'.ownsRow 0 97 4 S.ov S.ts.length (rtCells S.ts))
    (hl : w'.ownsRow 0 103 4 S'.lv S'.L.length (verCells S'.L)) (hq : w'.ownsRow 0 3 1 S'.qv S'.q.length (S'.q.map (.int .i64 ·))) (hr : w'.ownsRow 0 158 2 S'.rv S'.rows.length (S'.rows.flatMap fun p => [.string p.1, .int .i64 p.2]))
    (hs : ∀ b ∈ S'.others, b ∈ S.others ∨ w.heap.size ≤ b) (hc : Chg (fun b => b = S.wb ∨ b ∈ S.others ∨ b ∈ vb S.ov) w w') : ROk w S w' S' := by
  have hnd := h.nd
  have e0 : S.blocks = [S.wb] ++ (S.others ++ (vb S.ov ++ S.ts.flatMap RT.blocks)) := by simp [RSt.blocks]
  have e0' : S'.blocks = [S.wb] ++ (S'.others ++ (vb S.ov ++ S.ts.flatMap RT.blocks)) := by
    unfold RSt.blocks
    rw [e1, e2, e3]
    simp
  have hlt := h.lt
  rw [e0] at hnd hlt
  obtain ⟨n1, n2, n3⟩ := List.nodup_append.1 hnd
  obtain ⟨m1, m2, m3⟩ := List.nodup_append.1 n2
  obtain ⟨p1, p2, p3⟩ := List.nodup_append.1 m2
  have hB : ∀ b ∈ vb S.ov ++ S.ts.flatMap RT.blocks, b < w.heap.size := fun b hb' => hlt b (by simp only [List.mem_append] at hb' ⊢; exact Or.inr (Or.inr hb'))
  have hT : ∀ b ∈ S.ts.flatMap RT.blocks, ¬ (b = S.wb ∨ b ∈ S.others ∨ b ∈ vb S.ov) := fun b hb' => by
    rintro (e | e | e)
    · exact n3 S.wb (by simp) b (List.mem_append.2 (Or.inr (List.mem_append.2 (Or.inr hb')))) e.symm
    · exact m3 b e b (List.mem_append.2 (Or.inr hb')) rfl
    · exact p3 b e b hb' rfl
  have hnd' := nodup_swap (n := w.heap.size) hnd (others_nodup hl hq hr) hs (fun b hb' => hlt b (List.mem_append.2 (Or.inl hb'))) hB
  refine ⟨⟨?_, hl, ?_, hq, hr, ?_, ?_⟩, ?_, ?_⟩
  · rw [e1, e3]; exact hb
  · rw [e3, e2]; exact ho
  · intro T hT'
    rw [e2] at hT'
    exact (h.ts T hT').chg hc (fun b hb' => hT b (List.mem_flatMap.2 ⟨T, hT', hb'⟩))
  · rw [e0']; exact hnd'
  · rw [e0', e0]
    intro b hb'
    simp only [List.mem_append] at hb' ⊢
    rcases hb' with hb' | hb' | hb'
    · exact Or.inl (Or.inl hb')
    · exact (hs b hb').imp (fun x => Or.inr (Or.inl x)) id
    · exact Or.inl (Or.inr (Or.inr hb'))
  · refine hc.mono (fun i _ hi => ?_)
    rw [e0]
    simp only [List.mem_append, List.mem_singleton]
    rcases hi with hi | hi | hi
    · exact Or.inl hi
    · exact Or.inr (Or.inl hi)
    · exact Or.inr (Or.inr (Or.inl hi))
/-- other rows, in new memory. -/
theorem RInv.setRows {w w' : World} {S : RSt} {rows : List (ByteArray × Int)} {ra : Option Addr} {rc : Nat} {low : Int} (h : RInv w S)
    (hb : w'.heap[S.wb]? = some (.cells #[.int .i64 S.clock, S.lv, S.ov, S.qv, .slice ra rows.length rc, .int .i64 low] 79)) (hr : w'.ownsRow w.heap.size 158 2 (.slice ra rows.length rc) rows.length (rowCells rows)) (hc : Chg (fun b => b = S.wb) w w') :
    ROk w S w' { S with rows := rows, ra := ra, rc := rc, low := low } := by
  refine h.remake (S' := { S with rows := rows, ra := ra, rc := rc, low := low }) rfl rfl rfl hb (ownsRow_chg h.lr hc (fun g e e' => row_not h.wb h.lr (by decide) (e' ▸ e))) (ownsRow_chg h.qr hc (fun g e e' => row_not h.wb h.qr (by decide) (e' ▸ e))) (ownsRow_base hr (Nat.zero_le _)) (fun b hb' => ?_) (hc.mono (fun _ _ h => Or.inl h))
  rcases List.mem_append.1 hb' with hb' | hb'
  · exact Or.inl (List.mem_append.2 (Or.inl hb'))
  · exact Or.inr (hr.lt b (vb_mem.1 hb')).1
/-- another queue, in new memory. -/
theorem RInv.setQ {w w' : World} {S : RSt} {q : List Int} {qa : Option Addr} {qc : Nat} (h : RInv w S)
    (hb : w'.heap[S.wb]? = some (.cells #[.int .i64 S.clock, S.lv, S.ov, .slice qa q.length qc, S.rv, .int .i64 S.low] 79)) (hq : w'.ownsRow w.heap.size 3 1 (.slice qa q.length qc) q.length (q.map (.int .i64 ·))) (hc : Chg (fun b => b = S.wb) w w') :
    ROk w S w' { S with q := q, qa := qa, qc := qc } := by
  refine h.remake (S' := { S with q := q, qa := qa, qc := qc }) rfl rfl rfl hb (ownsRow_chg h.lr hc (fun g e e' => row_not h.wb h.lr (by decide) (e' ▸ e))) (ownsRow_base hq (Nat.zero_le _)) (ownsRow_chg h.rr hc (fun g e e' => row_not h.wb h.rr (by decide) (e' ▸ e))) (fun b hb' => ?_) (hc.mono (fun _ _ h => Or.inl h))
  replace hb' : b ∈ vb S.lv ++ vb (.slice qa q.length qc) ++ vb S.rv := hb'
  simp only [List.mem_append] at hb'
  rcases hb' with (hb' | hb') | hb'
  · exact Or.inl (by simp [RSt.others, hb'])
  · exact Or.inr (hq.lt b (vb_mem.1 hb')).1
  · exact Or.inl (by simp [RSt.others, hb'])
/-- another store, in new memory or where it was. -/
theorem RInv.setL {w w' : World} {S : RSt} {L : List Ver} {la : Option Addr} {lc : Nat} (h : RInv w S)
    (hb : w'.heap[S.wb]? = some (.cells #[.int .i64 S.clock, .slice la L.length lc, S.ov, S.qv, S.rv, .int .i64 S.low] 79)) (hl : w'.ownsRow 0 103 4 (.slice la L.length lc) L.length (verCells L)) (hw : (Value.slice la L.length lc).ownBlock = S.lv.ownBlock ∨ ∀ b, (Value.slice la L.length lc).ownBlock = some b → w.heap.size ≤ b) (hc : Chg (fun b => b = S.wb ∨ S.lv.ownBlock = some b) w w') :
    ROk w S w' { S with L := L, la := la, lc := lc } := by
  have keep : ∀ {e : TypeId} {size : Nat} {v : Value} {n : Nat} {xs : List Value}, w.ownsRow 0 e size v n xs → e ≠ 79 → e ≠ 103 → w'.ownsRow 0 e size v n xs := fun hr h1 h2 => ownsRow_chg hr hc (fun g e => by
    rintro (e' | e')
    · exact row_not h.wb hr h1 (e' ▸ e)
    · exact row_apart hr h.lr h2 g e e')
  refine h.remake (S' := { S with L := L, la := la, lc := lc }) rfl rfl rfl hb hl (keep h.qr (by decide) (by decide)) (keep h.rr (by decide) (by decide)) (fun b hb' => ?_) (hc.mono (fun _ _ h => h.imp id (fun h => by simp [RSt.others, vb_mem, h])))
  replace hb' : b ∈ vb (.slice la L.length lc) ++ vb S.qv ++ vb S.rv := hb'
  simp only [List.mem_append] at hb'
  rcases hb' with (hb' | hb') | hb'
  · rcases hw with hw | hw
    · exact Or.inl (by rw [vb_eq hw] at hb'; simp [RSt.others, hb'])
    · exact Or.inr (hw b (vb_mem.1 hb'))
  · exact Or.inl (by simp [RSt.others, hb'])
  · exact Or.inl (by simp [RSt.others, hb'])
/-- another time. -/
theorem RInv.setClock {w w' : World} {S : RSt} (c : Int) (h : RInv w S) (hb : w'.heap[S.wb]? = some (.cells #[.int .i64 c, S.lv, S.ov, S.qv, S.rv, .int .i64 S.low] 79)) (hc : Chg (fun b => b = S.wb) w w') : ROk w S w' { S with clock := c } :=
  h.remake (S' := { S with clock := c }) rfl rfl rfl hb (ownsRow_chg h.lr hc (fun g e e' => row_not h.wb h.lr (by decide) (e' ▸ e))) (ownsRow_chg h.qr hc (fun g e e' => row_not h.wb h.qr (by decide) (e' ▸ e))) (ownsRow_chg h.rr hc (fun g e e' => row_not h.wb h.rr (by decide) (e' ▸ e))) (fun b hb' => Or.inl hb') (hc.mono (fun _ _ h => Or.inl h))

theorem of_commit (S : RSt) (k : Nat) (o : OpM) (w : World) (h : RInv w S) (hk : k < S.ts.length) (hkd : o.kind = 7) (hql : S.q.length ≤ 2000000) :
    Calls Tryz.prog 52 #[.pointer (some ⟨S.wb, 0, none⟩), .int .i64 k, o.v] w (RPost w S (ofM S.abs k S.ts[k].abs o).1 (ofM S.abs k S.ts[k].abs o).2) := by
  obtain ⟨g, hg, hvg⟩ := h.open hk
  have hwb := h.wb
  have hor := h.or
  have hqr := h.qr
  unfold RSt.ov at hwb hor
  unfold RSt.qv at hwb hqr
  rw [hg] at hwb hor
  by_cases h3 : S.q.length = 3
  · have e : ofM S.abs k S.ts[k].abs o = (errA 7, S.abs) := by
      unfold ofM
      rw [if_neg (by omega), if_neg (by omega), if_neg (by omega), if_neg (by omega), if_neg (by omega), if_neg (by omega), if_pos (show S.abs.q.length = 3 from h3)]
    rw [e]
    refine (of_busy_low S.wb g k S.oc S.qc S.qa S.q.length S.ts[k].start S.ts[k].ws S.ts[k].wa S.ts[k].wc S.ts[k].ks S.ts[k].ka S.ts[k].kc S.ts[k].pa S.ts[k].ps S.ts[k].pc S.ts o w hkd hk h3 (List.getElem?_eq_getElem hk) hwb hor).mono ?_
    rintro en w' ⟨rfl, hc⟩
    exact rpost_err h hc 7
  · have e : ofM S.abs k S.ts[k].abs o = (errA 0, { S.abs with q := S.q ++ [S.ts[k].start] }) := by
      unfold ofM
      rw [if_neg (by omega), if_neg (by omega), if_neg (by omega), if_neg (by omega), if_neg (by omega), if_neg (by omega), if_neg (show ¬ S.abs.q.length = 3 from h3)]
      rfl
    rw [e]
    refine (of_commit_low S.wb g k S.oc S.qc S.qa S.q S.ts[k].start S.ts[k].ws S.ts[k].wa S.ts[k].wc S.ts[k].ks S.ts[k].ka S.ts[k].kc S.ts[k].pa S.ts[k].ps S.ts[k].pc S.ts o w hkd hk h3 hql (List.getElem?_eq_getElem hk) hwb hor hqr).mono ?_
    rintro en w' ⟨rfl, qa', qc', q1, q2, q3, q4, q5⟩
    have hov : S.ov = .slice (some ⟨g, 0, none⟩) S.ts.length S.oc := by unfold RSt.ov; rw [hg]
    have hlen : (S.q ++ [S.ts[k].start]).length = S.q.length + 1 := by simp
    have hqv : ({ S with q := S.q ++ [S.ts[k].start], qa := qa', qc := qc' } : RSt).qv = .slice qa' (S.q.length + 1) qc' := by unfold RSt.qv; rw [hlen]
    have keep : ∀ {e : TypeId} {size : Nat} {v : Value} {n : Nat} {xs : List Value}, w.ownsRow 0 e size v n xs → e ≠ 79 → e ≠ 97 → e ≠ 3 → w'.ownsRow 0 e size v n xs := fun hr h1 h2 h3 => ownsRow_chg hr q4 (fun b e => by
      rintro (e' | e' | e')
      · exact row_not h.wb hr h1 (e' ▸ e)
      · exact row_apart hr h.or h2 b e (by rw [← vb_mem, hvg, e']; simp)
      · exact row_apart hr hqr h3 b e e')
    refine ⟨{ S with q := S.q ++ [S.ts[k].start], qa := qa', qc := qc' }, .slice none 0 0, rfl, World.ownsRow_nil _ _ _ _, rfl, rfl, ?_⟩
    refine h.remake2 (S' := { S with q := S.q ++ [S.ts[k].start], qa := qa', qc := qc' }) rfl rfl rfl ?_ ?_ (keep h.lr (by decide) (by decide) (by decide)) ?_ (keep h.rr (by decide) (by decide) (by decide)) ?_ ?_
    · rw [hqv, hov]; exact q1
    · rw [hov]; exact q2
    · rw [hqv, hlen]; exact q3
    · intro b hb
      unfold RSt.others at hb
      rw [hqv] at hb
      simp only [List.mem_append] at hb
      rcases hb with (hb | hb) | hb
      · exact Or.inl (by replace hb : b ∈ vb S.lv := hb; simp [RSt.others, hb])
      · rcases q5 with q5 | q5
        · exact Or.inl (by rw [vb_eq q5] at hb; replace hb : b ∈ vb S.qv := hb; simp [RSt.others, hb])
        · exact Or.inr (q5 b (vb_mem.1 hb))
      · exact Or.inl (by replace hb : b ∈ vb S.rv := hb; simp [RSt.others, hb])
    · refine q4.mono (fun i _ hi => ?_)
      rcases hi with hi | hi | hi
      · exact Or.inl hi
      · exact Or.inr (Or.inr (by rw [hvg, hi]; simp))
      · exact Or.inr (Or.inl (by have : i ∈ vb S.qv := vb_mem.2 hi; simp [RSt.others, this]))
/-- EVERY STEP OF A TRANSACTION. -/
theorem of_all (S : RSt) (k : Nat) (o : OpM) (w : World) (h : RInv w S) (hf : RFit S) (hk : k < S.ts.length) (hql : S.q.length ≤ 2000000) (hkd : 2 ≤ o.kind ∧ o.kind ≤ 7) :
    Calls Tryz.prog 52 #[.pointer (some ⟨S.wb, 0, none⟩), .int .i64 k, o.v] w (RPost w S (ofM S.abs k S.ts[k].abs o).1 (ofM S.abs k S.ts[k].abs o).2) := by
  by_cases h7 : o.kind = 7
  · exact of_commit S k o w h hk h7 hql
  · exact of_any S k o w h hf hk (by omega)
end Go.Proofs.YtkfjafndplmdkaaGreat
namespace Go.Proofs.YtkfjafndplmdkaaGreat
open Go.RowKit Go.Sort
abbrev decC (a b c : Int) : Obj := .cells #[.int .i64 a, .int .i64 b, .int .i64 c] 44
abbrev rtC (T : RT) : Obj := .cells #[.int .i64 T.start, .slice T.wa T.ws.length T.wc, .slice T.ka T.ks.length T.kc, .slice T.pa T.ps.length T.pc] 97
abbrev three (w : World) (T : RT) : World := ((w.alloc (rtC T)).alloc (decC 0 0 0)).alloc (decC T.start 0 0)
theorem three_facts (w : World) (T : RT) : (three w T).heap[w.heap.size]? = some (rtC T) ∧ (three w T).heap[w.heap.size + 1]? = some (decC 0 0 0) ∧ (three w T).heap[w.heap.size + 1 + 1]? = some (decC T.start 0 0) ∧ (three w T).heap.size = w.heap.size + 1 + 1 + 1 ∧ Chg nobody w (three w T) := by
  refine ⟨?_, ?_, ?_, by simp, (((Chg.refl _ _).alloc _).alloc _).alloc _⟩
  · rw [Below.heap_alloc _ _ _ (by simp <;> omega), Below.heap_alloc _ _ _ (by simp)]
    exact heap_new (by simp)
  · rw [Below.heap_alloc _ _ _ (by simp)]
    exact heap_new (by simp)
  · exact heap_new (by simp)
theorem set3 {w : World} {b : Nat} {c0 c1 c2 : Value} {t : TypeId} (hb : w.heap[b]? = some (.cells #[c0, c1, c2] t)) (v0 v1 v2 : Value) :
    (((w.setCell ⟨b, 0, none⟩ v0).setCell ⟨b, 1, none⟩ v1).setCell ⟨b, 2, none⟩ v2).heap[b]? = some (.cells #[v0, v1, v2] t) := by
  have h0 := heap_setCell_same w b 0 _ t v0 hb
  have h1 := heap_setCell_same _ b 1 _ t v1 h0
  have h2 := heap_setCell_same _ b 2 _ t v2 h1
  simpa using h2
theorem chg_set3 (w : World) (b : Nat) (v0 v1 v2 : Value) : Chg (fun k => k = b) w (((w.setCell ⟨b, 0, none⟩ v0).setCell ⟨b, 1, none⟩ v1).setCell ⟨b, 2, none⟩ v2) := ((chg_set1 _ _ _ _).trans (chg_set1 _ _ _ _)).trans (chg_set1 _ _ _ _)
theorem cell3s {w : World} {b : Nat} {a0 a1 a2 : Value} {t : TypeId} (hb : w.heap[b]? = some (.cells #[a0, a1, a2] t)) : w.cell? ⟨b, 0, none⟩ = some a0 ∧ w.cell? ⟨b, 1, none⟩ = some a1 ∧ w.cell? ⟨b, 2, none⟩ = some a2 := ⟨cell_of hb rfl, cell_of hb rfl, cell_of hb rfl⟩
set_option maxRecDepth 100000 in
set_option maxHeartbeats 1000000 in
theorem rdecide_none (wb : Nat) (T : RT) (w : World) (h0 : T.ws = []) :
    Calls Tryz.prog 72 #[.pointer (some ⟨wb, 0, none⟩), T.v] w fun e w' => e = .returned (decV ⟨T.start, 0, T.start⟩) ∧ Chg nobody w w' := by
  obtain ⟨start, ws, wa, wc, ks, ka, kc, ps, pa, pc⟩ := T
  simp only at h0
  subst h0
  unfold RT.v
  go_enter Tryz.func72, Tryz.ntmps72
  go_wp2
  refine bodyPost_ret (v := decV ⟨start, 0, start⟩) (by simp [results, Tryz.results72, go_sem, decV]) rfl ⟨rfl, ?_⟩
  exact ((((Chg.refl _ _).alloc _).alloc _).alloc _)
set_option maxRecDepth 100000 in
set_option maxHeartbeats 1000000 in
theorem rdecide_no (S : RSt) (T : RT) (w : World) (h : RInv w S) (hT : RTAt w T) (h0 : T.ws ≠ []) (hrl : S.rows.length ≤ 400000) (hks : T.ks.length ≤ 1500000) (hps : T.ps.length ≤ 1500000) (hL : S.L.length ≤ 1500000) (hws : T.ws.length ≤ 1500000) (hr : refusedM S.abs T.abs ≠ 0) :
    Calls Tryz.prog 72 #[.pointer (some ⟨S.wb, 0, none⟩), T.v] w fun e w' => e = .returned (decV ⟨T.start, refusedM S.abs T.abs, 0⟩) ∧ Chg nobody w w' := by
  obtain ⟨f0, f1, f2, fz, fc⟩ := three_facts w T
  have hb3 := (fc.block _ (lt_of_block h.wb) (fun h => h)).trans h.wb
  have HR := refused_any S.wb 0 0 0 S.lc S.rc T.kc T.pc S.L.length T.ws.length T.wc S.la S.ra T.wa T.ka T.pa S.rows T.ks T.ps T.start S.low _ _ _ (three w T) hrl hks hps hL hws hb3 (ownsRow_chg h.rr fc (fun _ _ h => h)) (ownsRow_chg hT.kr fc (fun _ _ h => h)) (ownsRow_chg hT.pr fc (fun _ _ h => h))
  have er : refV T.start S.low S.rows T.ks T.ps S.L.length T.ws.length = refusedM S.abs T.abs := (refV_eq S.abs T.abs).symm
  rw [er] at HR
  generalize refusedM S.abs T.abs = r at *
  have HRR : Hid (Calls Tryz.prog 98 #[.pointer (some ⟨S.wb, 0, none⟩), .agg #[.int .i64 T.start, .slice T.wa T.ws.length T.wc, .slice T.ka T.ks.length T.kc, .slice T.pa T.ps.length T.pc]] (three w T) fun e w' => e = .returned (.int .i64 r) ∧ Chg nobody (three w T) w') := HR
  have HF : Hid ((three w T).heap[w.heap.size]? = some (rtC T) ∧ (three w T).heap[w.heap.size + 1]? = some (decC 0 0 0) ∧ (three w T).heap[w.heap.size + 1 + 1]? = some (decC T.start 0 0) ∧ (three w T).heap.size = w.heap.size + 1 + 1 + 1 ∧ Chg nobody w (three w T)) := ⟨f0, f1, f2, fz, fc⟩
  have hwl : ((T.ws.length : Int) == 0) = false := beq_eq_false_iff_ne.2 (by have := List.length_pos_iff.2 h0; omega)
  have hrb : (r != 0) = true := by simpa using hr
  clear HR er hb3 f0 f1 f2 fz fc
  unfold RT.v
  go_enter Tryz.func72, Tryz.ntmps72
  go_wp2_with fail
  refine HRR.out.mono ?_
  rintro e w2 ⟨rfl, hc2⟩
  have g1 := (hc2.block _ (lt_of_block HF.out.2.1) (fun h => h)).trans HF.out.2.1
  have g2 := (hc2.block _ (lt_of_block HF.out.2.2.1) (fun h => h)).trans HF.out.2.2.1
  have HG : Hid (w2.heap[w.heap.size + 1]? = some (decC 0 0 0) ∧ w2.heap[w.heap.size + 1 + 1]? = some (decC T.start 0 0) ∧ Chg nobody w w2) := ⟨g1, g2, HF.out.2.2.2.2.trans hc2⟩
  obtain ⟨x0, x1, x2⟩ := cell3s g2
  obtain ⟨y0, y1, y2⟩ := cell3s g1
  have xf := unfrozen_of g2 1
  have yf := unfrozen_of g1
  clear g1 g2 hc2
  go_wp2
  obtain ⟨g1, g2, hc2⟩ := HG.out
  have hcs := chg_set1 w2 (w.heap.size + 1 + 1) 1 (.int .i64 r)
  have g1' := (hcs.block _ (lt_of_block g1) (fun (h : _ = _) => by omega)).trans g1
  have hct := chg_set3 (w2.setCell ⟨w.heap.size + 1 + 1, 1, none⟩ (.int .i64 r)) (w.heap.size + 1) (.int .i64 T.start) (.int .i64 r) (.int .i64 0)
  obtain ⟨r0, r1, r2⟩ := cell3s (set3 g1' (.int .i64 T.start) (.int .i64 r) (.int .i64 0))
  refine bodyPost_ret (v := decV ⟨T.start, r, 0⟩) (by simp [results, Tryz.results72, go_sem, r0, r1, r2, decV]) rfl ⟨rfl, (hc2.andThen hcs ?_).andThen hct ?_⟩
  · exact fun i hi (h : i = _) => by omega
  · exact fun i hi (h : i = _) => by omega
end Go.Proofs.YtkfjafndplmdkaaGreat
