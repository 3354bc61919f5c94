import Derived.Test.YtkfjafndplmdkaaGreatFB
import Derived.Test.YtkfjafndplmdkaaGreatTQ
namespace Go.Proofs.YtkfjafndplmdkaaGreat
open Go.RowKit Go.Sort
theorem idx7 {α : Type} (P : List α) (r : List α) (n i : Nat) (hn : P.length = n) : (P ++ r)[n + i]? = r[i]? := by
  subst hn
  rw [List.getElem?_append_right (by omega)]
  congr 1
  omega
theorem one_done {w : World} {base : Nat} {x : Sl} {d : Dec} (h : w.ownsRow base 44 3 (slV x) [d].length (decCells [d])) :
    ∃ g cap : Nat, slV x = .slice (some ⟨g, 0, none⟩) 1 cap ∧ w.cell? ⟨g, 0, none⟩ = some (.int .i64 d.num) ∧ w.cell? ⟨g, 1, none⟩ = some (.int .i64 d.code) ∧ w.cell? ⟨g, 2, none⟩ = some (.int .i64 d.time) := by
  rcases h.2 with ⟨_, h0⟩ | ⟨g, cap, cur, e1, _⟩
  · simp at h0
  · have h1 := h
    rw [e1] at h1
    exact ⟨g, cap, e1, row_cells h1 0 _ rfl, row_cells h1 1 _ rfl, row_cells h1 2 _ rfl⟩
/-- an answer's cells, all seven, told by '[i]?'. -/
theorem ans_at7 {w : World} {base g n cap : Nat} {As : List AnsM} {sl : List Sl3} (hit : ItemsAt w base As sl) (h : w.ownsRow base 36 7 (.slice (some ⟨g, 0, none⟩) n cap) n (ansCells As sl)) (i : Nat) (A : AnsM) (hi : As[i]? = some A) :
    ∃ x : Sl3, w.cell? ⟨g, i * 7, none⟩ = some (.int .i64 A.code) ∧ w.cell? ⟨g, i * 7 + 1, none⟩ = some (.int .i64 A.number) ∧ w.cell? ⟨g, i * 7 + 2, none⟩ = some (.bool A.found) ∧ w.cell? ⟨g, i * 7 + 3, none⟩ = some (.string A.value) ∧ w.cell? ⟨g, i * 7 + 4, none⟩ = some (slV x.1) ∧ w.cell? ⟨g, i * 7 + 5, none⟩ = some (slV x.2.1) ∧ w.cell? ⟨g, i * 7 + 6, none⟩ = some (slV x.2.2) ∧ RowsOf w base A x := by
  have hlt : i < As.length := (List.getElem?_eq_some_iff.1 hi).1
  have he : As[i] = A := (List.getElem?_eq_some_iff.1 hi).2
  have p := ans_cells hit.1 h i hlt
  have s := ans_sums hit.1 h i hlt
  have q := hit.at i hlt
  rw [he] at p q
  exact ⟨_, p.1, p.2.1, p.2.2.1, p.2.2.2.1, p.2.2.2.2.1, p.2.2.2.2.2, s, q⟩
theorem okF : OpM.ok fOp := opOk (by unfold isInt; simp) (by unfold isInt; simp) (by simp [ByteArray.size, maxLen]) (by simp [ByteArray.size, maxLen])
theorem okB : OpM.ok bOp := opOk (by unfold isInt; simp) (by unfold isInt; simp) (by simp [ByteArray.size, maxLen]) (by simp [ByteArray.size, maxLen])
theorem okFl (n : Int) (h : isInt n) : OpM.ok (fluOp n) := ⟨by unfold isInt; simp, by unfold isInt; simp, by simp [ByteArray.size, maxLen], by simp [ByteArray.size, maxLen], h⟩
theorem clock_lo (xs : List OpM) (h : xs.length ≤ 10000000) : 0 ≤ (stP p0 xs).clock ∧ (stP p0 xs).clock ≤ 10000000 := by
  have hl := LowP.run xs low0
  have h1 := hl.lo
  have h2 := hl.hi
  omega
set_option maxRecDepth 100000 in
set_option maxHeartbeats 4000000 in
theorem sure_mid_short {w : World} {ad : Option Addr} {cap : Nat} {xs : List OpM} (hA : SrcOps w (.slice ad xs.length cap) xs) (hxo : ∀ o ∈ xs, o.ok) (hx : xs.length ≤ 1048576) (key : ByteArray) (h1 : 1 ≤ key.size) (h8 : key.size ≤ 8) (val : ByteArray) (hv : val.size ≤ 20) :
    Calls Tryz.prog 10 #[.slice ad xs.length cap, .string key, .string val] w fun e w' => e = .returned (.bool true) ∧ Chg nobody w w' := by
  have HA : Hid (SrcOps w (.slice ad xs.length cap) xs ∧ ∀ o ∈ xs, o.ok) := ⟨hA, hxo⟩
  have hne : key.toList.isEmpty = false := by
    rw [ByteArray.toList_eq]
    exact notEmpty h1
  clear hA hxo
  go_enter Tryz.func10, Tryz.ntmps10
  go_wp2_with (first
    | (go_at_call 22; refine (deciding_any _).mono ?_; rintro e w1 ⟨rfl, hc1⟩)
    | (go_at_call 24; refine (fencing_any _).mono ?_; rintro e w2 ⟨rfl, hc2⟩))
  refine (with_sl (xs := xs) (ys := [fOp, bOp]) (HA.out.1.chg ((hc1.trans hc2).alloc _)) (src_block (heap_new rfl) rfl rfl) (by omega) (by simp) (xs.length + 2) (by simp)).mono ?_
  rintro e w3 ⟨ad3, c3, rfl, hs3, hc3⟩
  have HC3 : Hid (Chg nobody w w3 ∧ SrcOps w3 (.slice ad3 (xs.length + 2) c3) (xs ++ [fOp, bOp])) := ⟨((hc1.trans hc2).alloc _).trans hc3, hs3⟩
  have HO3 : Hid (∀ o ∈ xs ++ [fOp, bOp], o.ok) := fun o ho => by
    rcases List.mem_append.1 ho with ho | ho
    · exact HA.out.2 o ho
    · simp only [List.mem_cons, List.not_mem_nil, or_false] at ho
      rcases ho with rfl | rfl
      · exact okF
      · exact okB
  obtain ⟨a1, a3, t, ht, eA, eB⟩ := sure_ans xs key val h1 h8 hv
  have hcl := clock_lo xs (by omega)
  have HT : Hid (1 ≤ t ∧ t ≤ 10000001) := ⟨by omega, by omega⟩
  have HR := run_sl HC3.out.2 HO3.out (by simp; omega) (xs.length + 2) (by simp)
  clear hc1 hc2 hc3 hs3 ht hcl
  go_wp2_with fail
  refine HR.mono ?_
  rintro e w4 ⟨g, cg, sl, rfl, hr, hit, hc4⟩
  clear HR
  have HC4 : Hid (Chg nobody w w4 ∧ Chg nobody w3 w4) := ⟨HC3.out.1.trans hc4, hc4⟩
  rw [eA] at hr hit
  obtain ⟨_, b0, b1, _, _, _, _, _, _⟩ := ans_at7 hit hr (xs.length + 1) _ (idx7 _ _ xs.length 1 (ansP_len _ _))
  simp only at b0 b1
  have hsub : ((xs.length + 2 : Nat) : Int) - 1 = ((xs.length + 1 : Nat) : Int) := by omega
  clear hr hit hc4
  go_wp2_with (first
    | (go_at_call 19; refine (op_any _ _ _ _ _).mono ?_; rintro e w' ⟨rfl, rfl⟩))
  refine (with_sl (xs := xs ++ [fOp, bOp]) (ys := [sOp t ⟨#[]⟩, putOp t key val, comOp t, fluOp 1, bOp]) (HC3.out.2.chg (((((HC4.out.2).alloc _).alloc _).alloc _).alloc _)) (src_block (heap_new (by simp)) rfl rfl) (by simp; omega) (by simp) (xs.length + 7) (by simp)).mono ?_
  rintro e w5 ⟨ad5, c5, rfl, hs5, hc5⟩
  have HC5 : Hid (Chg nobody w w5 ∧ SrcOps w5 (.slice ad5 (xs.length + 7) c5) ((xs ++ [fOp, bOp]) ++ [sOp t ⟨#[]⟩, putOp t key val, comOp t, fluOp 1, bOp])) := ⟨((((HC4.out.1.alloc _).alloc _).alloc _).alloc _).trans hc5, hs5⟩
  have hti : isInt t := by have := HT.out; unfold isInt; omega
  have HO5 : Hid (∀ o ∈ (xs ++ [fOp, bOp]) ++ [sOp t ⟨#[]⟩, putOp t key val, comOp t, fluOp 1, bOp], o.ok) := fun o ho => by
    rcases List.mem_append.1 ho with ho | ho
    · exact HO3.out o ho
    · simp only [List.mem_cons, List.not_mem_nil, or_false] at ho
      rcases ho with rfl | rfl | rfl | rfl | rfl
      · exact opOk (by unfold isInt; simp) hti (by simp [ByteArray.size, maxLen]) (by simp [ByteArray.size, maxLen])
      · exact opOk (by unfold isInt; simp) hti (by unfold maxLen; omega) (by unfold maxLen; omega)
      · exact opOk (by unfold isInt; simp) hti (by simp [ByteArray.size, maxLen]) (by simp [ByteArray.size, maxLen])
      · exact okFl 1 (by unfold isInt; simp)
      · exact okB
  have HR := run_sl HC5.out.2 HO5.out (by simp; omega) (xs.length + 7) (by simp)
  clear hc5 hs5 b0 b1 eA
  go_wp2_with fail
  refine HR.mono ?_
  rintro e w6 ⟨g6, cg6, sl6, rfl, hr6, hit6, hc6⟩
  clear HR
  have HC6 : Hid (Chg nobody w w6 ∧ Chg nobody w5 w6) := ⟨HC5.out.1.trans hc6, hc6⟩
  have n1 : IntKind.i64.wrap (((xs.length + 2 : Nat) : Int) + 5) = ((xs.length + 7 : Nat) : Int) := by rw [wrap_small (by omega) (by omega)]; omega
  have n2 : IntKind.i64.wrap (((xs.length + 2 : Nat) : Int) + 3) = ((xs.length + 5 : Nat) : Int) := by rw [wrap_small (by omega) (by omega)]; omega
  have n3 : IntKind.i64.wrap (((xs.length + 2 : Nat) : Int) + 4) = ((xs.length + 6 : Nat) : Int) := by rw [wrap_small (by omega) (by omega)]; omega
  have n4 : IntKind.i64.wrap (((xs.length + 2 : Nat) : Int) + 6) = ((xs.length + 8 : Nat) : Int) := by rw [wrap_small (by omega) (by omega)]; omega
  clear hc6 hsub
  rcases eB with ⟨a7, eB⟩ | ⟨eB, eC⟩
  · rw [eB] at hr6 hit6
    obtain ⟨x5, _, _, _, _, _, q5, _, hrows⟩ := ans_at7 hit6 hr6 (xs.length + 5) _ (idx7 _ _ xs.length 5 (ansP_len _ _))
    obtain ⟨gd, cd, ed, d0, d1, d2⟩ := one_done hrows.2.1
    rw [ed] at q5
    simp only at d0 d1 d2
    clear hr6 hit6 hrows eB
    go_wp2
    go_ret
    exact ⟨rfl, HC6.out.1.alloc _⟩
  · rw [eB] at hr6 hit6
    obtain ⟨x5, _, _, _, _, _, q5, _, hrows⟩ := ans_at7 hit6 hr6 (xs.length + 5) _ (idx7 _ _ xs.length 5 (ansP_len _ _))
    obtain ⟨x6, _, q6, _, _, _, _, _, _⟩ := ans_at7 hit6 hr6 (xs.length + 6) _ (idx7 _ _ xs.length 6 (ansP_len _ _))
    obtain ⟨gd, cd, ed, d0, d1, d2⟩ := one_done hrows.2.1
    rw [ed] at q5
    simp only at d0 d1 d2 q6
    clear hr6 hit6 hrows eB
    have k1 : IntKind.i64.wrap (t + 1) = t + 1 := wrap_small (by have := HT.out; omega) (by have := HT.out; omega)
    have k2 : IntKind.i64.wrap (t + 2) = t + 2 := wrap_small (by have := HT.out; omega) (by have := HT.out; omega)
    have hg6 : ∀ o, (w6.alloc o).cell? ⟨g6, (xs.length + 6) * 7 + 1, none⟩ = some (.int .i64 (t + 2)) := fun o => by rw [World.cell?_alloc_past _ _ _ (lt_of_cell q6)]; exact q6
    go_wp2_with (first
      | (go_at_call 19; refine (op_any _ _ _ _ _).mono ?_; rintro e w' ⟨rfl, rfl⟩))
    refine (with_sl (xs := (xs ++ [fOp, bOp]) ++ [sOp t ⟨#[]⟩, putOp t key val, comOp t, fluOp 1, bOp]) (ys := [gOp (t + 2) key]) (HC5.out.2.chg (((HC6.out.2).alloc _).alloc _ |>.alloc _)) (src_block (heap_new (by simp)) rfl rfl) (by simp; omega) (by simp) (xs.length + 8) (by simp)).mono ?_
    rintro e w7 ⟨ad7, c7, rfl, hs7, hc7⟩
    have hu : isInt (t + 2) := by have := HT.out; unfold isInt; omega
    have HR := run_sl hs7 (fun o ho => by
      rcases List.mem_append.1 ho with ho | ho
      · exact HO5.out o ho
      · rw [List.mem_singleton.1 ho]
        exact opOk (by unfold isInt; simp) hu (by unfold maxLen; omega) (by simp [ByteArray.size, maxLen])) (by simp; omega) (xs.length + 8) (by simp)
    have hcd : Chg nobody (w6.alloc (.cells #[.int .i64 t, .int .i64 0, .int .i64 (t + 1)] 44)) w7 := (((Chg.refl _ _).alloc _).alloc _).trans hc7
    clear hs7 hc7 q5 q6 hg6 d0 d1 d2
    go_wp2_with fail
    refine HR.mono ?_
    rintro e w8 ⟨g8, cg8, sl8, rfl, hr8, hit8, hc8⟩
    clear HR
    have hcd8 := hcd.trans hc8
    have HC8 : Hid (Chg nobody w w8) := (HC6.out.1.alloc _).trans hcd8
    have z0 : w8.cell? ⟨w6.heap.size, 0, none⟩ = some (.int .i64 t) := by rw [(bcell hcd8).1 _ _ (by simp)]; simp [go_sem]
    have z1 : w8.cell? ⟨w6.heap.size, 1, none⟩ = some (.int .i64 0) := by rw [(bcell hcd8).1 _ _ (by simp)]; simp [go_sem]
    have z2 : w8.cell? ⟨w6.heap.size, 2, none⟩ = some (.int .i64 (t + 1)) := by rw [(bcell hcd8).1 _ _ (by simp)]; simp [go_sem]
    rw [eC] at hr8 hit8
    obtain ⟨_, _, _, q7, q8, _, _, _, _⟩ := ans_at7 hit8 hr8 (xs.length + 7) _ (idx7 _ _ xs.length 7 (ansP_len _ _))
    simp only at q7 q8
    clear hr8 hit8 hcd hcd8 hc8 eC
    go_wp2
    go_ret
    exact ⟨by simp, HC8.out⟩
end Go.Proofs.YtkfjafndplmdkaaGreat
