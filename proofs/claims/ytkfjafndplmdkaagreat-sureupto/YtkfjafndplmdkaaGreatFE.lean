import Derived.Test.YtkfjafndplmdkaaGreatFC
namespace Go.Proofs.YtkfjafndplmdkaaGreat
open Go.RowKit Go.Sort
set_option maxRecDepth 100000 in
set_option maxHeartbeats 4000000 in
theorem sure_long_big {w : World} {ad : Option Addr} {cap : Nat} {xs : List OpM} (hA : SrcOps w (.slice ad xs.length cap) xs) (hxo : ∀ o ∈ xs, o.ok) (hx : xs.length ≤ 1048576) (key0 : ByteArray) (hl : 8 < key0.size) (val0 : ByteArray) (hvl : 20 < val0.size) :
    Calls Tryz.prog 10 #[.slice ad xs.length cap, .string key0, .string val0] w fun e w' => e = .returned (.bool true) ∧ Chg nobody w w' := by
  have HA : Hid (SrcOps w (.slice ad xs.length cap) xs ∧ ∀ o ∈ xs, o.ok) := ⟨hA, hxo⟩
  have h1 : 1 ≤ (key0.extract 0 8).size := by rw [ByteArray.size_extract]; omega
  have h8 : (key0.extract 0 8).size ≤ 8 := by rw [ByteArray.size_extract]; omega
  have hne : (key0.extract 0 8).toList.isEmpty = false := by
    rw [ByteArray.toList_eq]
    exact notEmpty h1
  have hv : (val0.extract 0 20).size ≤ 20 := by rw [ByteArray.size_extract]; omega
  clear hA hxo
  go_enter Tryz.func10, Tryz.ntmps10
  go_wp2_with (first
    | (go_at_call 22; refine (deciding_any _).mono ?_; rintro e w1 ⟨rfl, hc1⟩)
    | (go_at_call 24; refine (fencing_any _).mono ?_; rintro e w2 ⟨rfl, hc2⟩))
  generalize key0.extract 0 8 = key at *
  generalize val0.extract 0 20 = val at *
  refine (with_sl (xs := xs) (ys := [fOp, bOp]) (HA.out.1.chg ((hc1.trans hc2).alloc _)) (src_block (heap_new rfl) rfl rfl) (by omega) (by simp) (xs.length + 2) (by simp)).mono ?_
  rintro e w3 ⟨ad3, c3, rfl, hs3, hc3⟩
  have HC3 : Hid (Chg nobody w w3 ∧ SrcOps w3 (.slice ad3 (xs.length + 2) c3) (xs ++ [fOp, bOp])) := ⟨((hc1.trans hc2).alloc _).trans hc3, hs3⟩
  have HO3 : Hid (∀ o ∈ xs ++ [fOp, bOp], o.ok) := fun o ho => by
    rcases List.mem_append.1 ho with ho | ho
    · exact HA.out.2 o ho
    · simp only [List.mem_cons, List.not_mem_nil, or_false] at ho
      rcases ho with rfl | rfl
      · exact okF
      · exact okB
  obtain ⟨a1, a3, t, ht, eA, eB⟩ := sure_ans xs key val h1 h8 hv
  have hcl := clock_lo xs (by omega)
  have HT : Hid (1 ≤ t ∧ t ≤ 10000001) := ⟨by omega, by omega⟩
  have HR := run_sl HC3.out.2 HO3.out (by simp; omega) (xs.length + 2) (by simp)
  clear hc1 hc2 hc3 hs3 ht hcl
  go_wp2_with fail
  refine HR.mono ?_
  rintro e w4 ⟨g, cg, sl, rfl, hr, hit, hc4⟩
  clear HR
  have HC4 : Hid (Chg nobody w w4 ∧ Chg nobody w3 w4) := ⟨HC3.out.1.trans hc4, hc4⟩
  rw [eA] at hr hit
  obtain ⟨_, b0, b1, _, _, _, _, _, _⟩ := ans_at7 hit hr (xs.length + 1) _ (idx7 _ _ xs.length 1 (ansP_len _ _))
  simp only at b0 b1
  have hsub : ((xs.length + 2 : Nat) : Int) - 1 = ((xs.length + 1 : Nat) : Int) := by omega
  clear hr hit hc4
  go_wp2_with (first
    | (go_at_call 19; refine (op_any _ _ _ _ _).mono ?_; rintro e w' ⟨rfl, rfl⟩))
  refine (with_sl (xs := xs ++ [fOp, bOp]) (ys := [sOp t ⟨#[]⟩, putOp t key val, comOp t, fluOp 1, bOp]) (HC3.out.2.chg (((((HC4.out.2).alloc _).alloc _).alloc _).alloc _)) (src_block (heap_new (by simp)) rfl rfl) (by simp; omega) (by simp) (xs.length + 7) (by simp)).mono ?_
  rintro e w5 ⟨ad5, c5, rfl, hs5, hc5⟩
  have HC5 : Hid (Chg nobody w w5 ∧ SrcOps w5 (.slice ad5 (xs.length + 7) c5) ((xs ++ [fOp, bOp]) ++ [sOp t ⟨#[]⟩, putOp t key val, comOp t, fluOp 1, bOp])) := ⟨((((HC4.out.1.alloc _).alloc _).alloc _).alloc _).trans hc5, hs5⟩
  have hti : isInt t := by have := HT.out; unfold isInt; omega
  have HO5 : Hid (∀ o ∈ (xs ++ [fOp, bOp]) ++ [sOp t ⟨#[]⟩, putOp t key val, comOp t, fluOp 1, bOp], o.ok) := fun o ho => by
    rcases List.mem_append.1 ho with ho | ho
    · exact HO3.out o ho
    · simp only [List.mem_cons, List.not_mem_nil, or_false] at ho
      rcases ho with rfl | rfl | rfl | rfl | rfl
      · exact opOk (by unfold isInt; simp) hti (by simp [ByteArray.size, maxLen]) (by simp [ByteArray.size, maxLen])
      · exact opOk (by unfold isInt; simp) hti (by unfold maxLen; omega) (by unfold maxLen; omega)
      · exact opOk (by unfold isInt; simp) hti (by simp [ByteArray.size, maxLen]) (by simp [ByteArray.size, maxLen])
      · exact okFl 1 (by unfold isInt; simp)
      · exact okB
  have HR := run_sl HC5.out.2 HO5.out (by simp; omega) (xs.length + 7) (by simp)
  clear hc5 hs5 b0 b1 eA
  go_wp2_with fail
  refine HR.mono ?_
  rintro e w6 ⟨g6, cg6, sl6, rfl, hr6, hit6, hc6⟩
  clear HR
  have HC6 : Hid (Chg nobody w w6 ∧ Chg nobody w5 w6) := ⟨HC5.out.1.trans hc6, hc6⟩
  have n1 : IntKind.i64.wrap (((xs.length + 2 : Nat) : Int) + 5) = ((xs.length + 7 : Nat) : Int) := by rw [wrap_small (by omega) (by omega)]; omega
  have n2 : IntKind.i64.wrap (((xs.length + 2 : Nat) : Int) + 3) = ((xs.length + 5 : Nat) : Int) := by rw [wrap_small (by omega) (by omega)]; omega
  have n3 : IntKind.i64.wrap (((xs.length + 2 : Nat) : Int) + 4) = ((xs.length + 6 : Nat) : Int) := by rw [wrap_small (by omega) (by omega)]; omega
  have n4 : IntKind.i64.wrap (((xs.length + 2 : Nat) : Int) + 6) = ((xs.length + 8 : Nat) : Int) := by rw [wrap_small (by omega) (by omega)]; omega
  clear hc6 hsub
  rcases eB with ⟨a7, eB⟩ | ⟨eB, eC⟩
  · rw [eB] at hr6 hit6
    obtain ⟨x5, _, _, _, _, _, q5, _, hrows⟩ := ans_at7 hit6 hr6 (xs.length + 5) _ (idx7 _ _ xs.length 5 (ansP_len _ _))
    obtain ⟨gd, cd, ed, d0, d1, d2⟩ := one_done hrows.2.1
    rw [ed] at q5
    simp only at d0 d1 d2
    clear hr6 hit6 hrows eB
    go_wp2
    go_ret
    exact ⟨rfl, HC6.out.1.alloc _⟩
  · rw [eB] at hr6 hit6
    obtain ⟨x5, _, _, _, _, _, q5, _, hrows⟩ := ans_at7 hit6 hr6 (xs.length + 5) _ (idx7 _ _ xs.length 5 (ansP_len _ _))
    obtain ⟨x6, _, q6, _, _, _, _, _, _⟩ := ans_at7 hit6 hr6 (xs.length + 6) _ (idx7 _ _ xs.length 6 (ansP_len _ _))
    obtain ⟨gd, cd, ed, d0, d1, d2⟩ := one_done hrows.2.1
    rw [ed] at q5
    simp only at d0 d1 d2 q6
    clear hr6 hit6 hrows eB
    have k1 : IntKind.i64.wrap (t + 1) = t + 1 := wrap_small (by have := HT.out; omega) (by have := HT.out; omega)
    have k2 : IntKind.i64.wrap (t + 2) = t + 2 := wrap_small (by have := HT.out; omega) (by have := HT.out; omega)
    have hg6 : ∀ o, (w6.alloc o).cell? ⟨g6, (xs.length + 6) * 7 + 1, none⟩ = some (.int .i64 (t + 2)) := fun o => by rw [World.cell?_alloc_past _ _ _ (lt_of_cell q6)]; exact q6
    go_wp2_with (first
      | (go_at_call 19; refine (op_any _ _ _ _ _).mono ?_; rintro e w' ⟨rfl, rfl⟩))
    refine (with_sl (xs := (xs ++ [fOp, bOp]) ++ [sOp t ⟨#[]⟩, putOp t key val, comOp t, fluOp 1, bOp]) (ys := [gOp (t + 2) key]) (HC5.out.2.chg (((HC6.out.2).alloc _).alloc _ |>.alloc _)) (src_block (heap_new (by simp)) rfl rfl) (by simp; omega) (by simp) (xs.length + 8) (by simp)).mono ?_
    rintro e w7 ⟨ad7, c7, rfl, hs7, hc7⟩
    have hu : isInt (t + 2) := by have := HT.out; unfold isInt; omega
    have HR := run_sl hs7 (fun o ho => by
      rcases List.mem_append.1 ho with ho | ho
      · exact HO5.out o ho
      · rw [List.mem_singleton.1 ho]
        exact opOk (by unfold isInt; simp) hu (by unfold maxLen; omega) (by simp [ByteArray.size, maxLen])) (by simp; omega) (xs.length + 8) (by simp)
    have hcd : Chg nobody (w6.alloc (.cells #[.int .i64 t, .int .i64 0, .int .i64 (t + 1)] 44)) w7 := (((Chg.refl _ _).alloc _).alloc _).trans hc7
    clear hs7 hc7 q5 q6 hg6 d0 d1 d2
    go_wp2_with fail
    refine HR.mono ?_
    rintro e w8 ⟨g8, cg8, sl8, rfl, hr8, hit8, hc8⟩
    clear HR
    have hcd8 := hcd.trans hc8
    have HC8 : Hid (Chg nobody w w8) := (HC6.out.1.alloc _).trans hcd8
    have z0 : w8.cell? ⟨w6.heap.size, 0, none⟩ = some (.int .i64 t) := by rw [(bcell hcd8).1 _ _ (by simp)]; simp [go_sem]
    have z1 : w8.cell? ⟨w6.heap.size, 1, none⟩ = some (.int .i64 0) := by rw [(bcell hcd8).1 _ _ (by simp)]; simp [go_sem]
    have z2 : w8.cell? ⟨w6.heap.size, 2, none⟩ = some (.int .i64 (t + 1)) := by rw [(bcell hcd8).1 _ _ (by simp)]; simp [go_sem]
    rw [eC] at hr8 hit8
    obtain ⟨_, _, _, q7, q8, _, _, _, _⟩ := ans_at7 hit8 hr8 (xs.length + 7) _ (idx7 _ _ xs.length 7 (ansP_len _ _))
    simp only at q7 q8
    clear hr8 hit8 hcd hcd8 hc8 eC
    go_wp2
    go_ret
    exact ⟨by simp, HC8.out⟩
set_option maxRecDepth 100000 in
set_option maxHeartbeats 4000000 in
theorem sure_empty_short {w : World} {ad : Option Addr} {cap : Nat} {xs : List OpM} (hA : SrcOps w (.slice ad xs.length cap) xs) (hxo : ∀ o ∈ xs, o.ok) (hx : xs.length ≤ 1048576) (val : ByteArray) (hv : val.size ≤ 20) :
    Calls Tryz.prog 10 #[.slice ad xs.length cap, .string ⟨#[]⟩, .string val] w fun e w' => e = .returned (.bool true) ∧ Chg nobody w w' := by
  have HA : Hid (SrcOps w (.slice ad xs.length cap) xs ∧ ∀ o ∈ xs, o.ok) := ⟨hA, hxo⟩
  clear hA hxo
  go_enter Tryz.func10, Tryz.ntmps10
  go_wp2_with (first
    | (go_at_call 22; refine (deciding_any _).mono ?_; rintro e w1 ⟨rfl, hc1⟩)
    | (go_at_call 24; refine (fencing_any _).mono ?_; rintro e w2 ⟨rfl, hc2⟩))
  obtain ⟨key, hkey⟩ : ∃ key : ByteArray, key = ⟨#[107]⟩ := ⟨_, rfl⟩
  have h1 : 1 ≤ key.size := by rw [hkey]; decide
  have h8 : key.size ≤ 8 := by rw [hkey]; decide
  rw [← hkey]
  clear hkey
  refine (with_sl (xs := xs) (ys := [fOp, bOp]) (HA.out.1.chg ((hc1.trans hc2).alloc _)) (src_block (heap_new rfl) rfl rfl) (by omega) (by simp) (xs.length + 2) (by simp)).mono ?_
  rintro e w3 ⟨ad3, c3, rfl, hs3, hc3⟩
  have HC3 : Hid (Chg nobody w w3 ∧ SrcOps w3 (.slice ad3 (xs.length + 2) c3) (xs ++ [fOp, bOp])) := ⟨((hc1.trans hc2).alloc _).trans hc3, hs3⟩
  have HO3 : Hid (∀ o ∈ xs ++ [fOp, bOp], o.ok) := fun o ho => by
    rcases List.mem_append.1 ho with ho | ho
    · exact HA.out.2 o ho
    · simp only [List.mem_cons, List.not_mem_nil, or_false] at ho
      rcases ho with rfl | rfl
      · exact okF
      · exact okB
  obtain ⟨a1, a3, t, ht, eA, eB⟩ := sure_ans xs key val h1 h8 hv
  have hcl := clock_lo xs (by omega)
  have HT : Hid (1 ≤ t ∧ t ≤ 10000001) := ⟨by omega, by omega⟩
  have HR := run_sl HC3.out.2 HO3.out (by simp; omega) (xs.length + 2) (by simp)
  clear hc1 hc2 hc3 hs3 ht hcl
  go_wp2_with fail
  refine HR.mono ?_
  rintro e w4 ⟨g, cg, sl, rfl, hr, hit, hc4⟩
  clear HR
  have HC4 : Hid (Chg nobody w w4 ∧ Chg nobody w3 w4) := ⟨HC3.out.1.trans hc4, hc4⟩
  rw [eA] at hr hit
  obtain ⟨_, b0, b1, _, _, _, _, _, _⟩ := ans_at7 hit hr (xs.length + 1) _ (idx7 _ _ xs.length 1 (ansP_len _ _))
  simp only at b0 b1
  have hsub : ((xs.length + 2 : Nat) : Int) - 1 = ((xs.length + 1 : Nat) : Int) := by omega
  clear hr hit hc4
  go_wp2_with (first
    | (go_at_call 19; refine (op_any _ _ _ _ _).mono ?_; rintro e w' ⟨rfl, rfl⟩))
  refine (with_sl (xs := xs ++ [fOp, bOp]) (ys := [sOp t ⟨#[]⟩, putOp t key val, comOp t, fluOp 1, bOp]) (HC3.out.2.chg (((((HC4.out.2).alloc _).alloc _).alloc _).alloc _)) (src_block (heap_new (by simp)) rfl rfl) (by simp; omega) (by simp) (xs.length + 7) (by simp)).mono ?_
  rintro e w5 ⟨ad5, c5, rfl, hs5, hc5⟩
  have HC5 : Hid (Chg nobody w w5 ∧ SrcOps w5 (.slice ad5 (xs.length + 7) c5) ((xs ++ [fOp, bOp]) ++ [sOp t ⟨#[]⟩, putOp t key val, comOp t, fluOp 1, bOp])) := ⟨((((HC4.out.1.alloc _).alloc _).alloc _).alloc _).trans hc5, hs5⟩
  have hti : isInt t := by have := HT.out; unfold isInt; omega
  have HO5 : Hid (∀ o ∈ (xs ++ [fOp, bOp]) ++ [sOp t ⟨#[]⟩, putOp t key val, comOp t, fluOp 1, bOp], o.ok) := fun o ho => by
    rcases List.mem_append.1 ho with ho | ho
    · exact HO3.out o ho
    · simp only [List.mem_cons, List.not_mem_nil, or_false] at ho
      rcases ho with rfl | rfl | rfl | rfl | rfl
      · exact opOk (by unfold isInt; simp) hti (by simp [ByteArray.size, maxLen]) (by simp [ByteArray.size, maxLen])
      · exact opOk (by unfold isInt; simp) hti (by unfold maxLen; omega) (by unfold maxLen; omega)
      · exact opOk (by unfold isInt; simp) hti (by simp [ByteArray.size, maxLen]) (by simp [ByteArray.size, maxLen])
      · exact okFl 1 (by unfold isInt; simp)
      · exact okB
  have HR := run_sl HC5.out.2 HO5.out (by simp; omega) (xs.length + 7) (by simp)
  clear hc5 hs5 b0 b1 eA
  go_wp2_with fail
  refine HR.mono ?_
  rintro e w6 ⟨g6, cg6, sl6, rfl, hr6, hit6, hc6⟩
  clear HR
  have HC6 : Hid (Chg nobody w w6 ∧ Chg nobody w5 w6) := ⟨HC5.out.1.trans hc6, hc6⟩
  have n1 : IntKind.i64.wrap (((xs.length + 2 : Nat) : Int) + 5) = ((xs.length + 7 : Nat) : Int) := by rw [wrap_small (by omega) (by omega)]; omega
  have n2 : IntKind.i64.wrap (((xs.length + 2 : Nat) : Int) + 3) = ((xs.length + 5 : Nat) : Int) := by rw [wrap_small (by omega) (by omega)]; omega
  have n3 : IntKind.i64.wrap (((xs.length + 2 : Nat) : Int) + 4) = ((xs.length + 6 : Nat) : Int) := by rw [wrap_small (by omega) (by omega)]; omega
  have n4 : IntKind.i64.wrap (((xs.length + 2 : Nat) : Int) + 6) = ((xs.length + 8 : Nat) : Int) := by rw [wrap_small (by omega) (by omega)]; omega
  clear hc6 hsub
  rcases eB with ⟨a7, eB⟩ | ⟨eB, eC⟩
  · rw [eB] at hr6 hit6
    obtain ⟨x5, _, _, _, _, _, q5, _, hrows⟩ := ans_at7 hit6 hr6 (xs.length + 5) _ (idx7 _ _ xs.length 5 (ansP_len _ _))
    obtain ⟨gd, cd, ed, d0, d1, d2⟩ := one_done hrows.2.1
    rw [ed] at q5
    simp only at d0 d1 d2
    clear hr6 hit6 hrows eB
    go_wp2
    go_ret
    exact ⟨rfl, HC6.out.1.alloc _⟩
  · rw [eB] at hr6 hit6
    obtain ⟨x5, _, _, _, _, _, q5, _, hrows⟩ := ans_at7 hit6 hr6 (xs.length + 5) _ (idx7 _ _ xs.length 5 (ansP_len _ _))
    obtain ⟨x6, _, q6, _, _, _, _, _, _⟩ := ans_at7 hit6 hr6 (xs.length + 6) _ (idx7 _ _ xs.length 6 (ansP_len _ _))
    obtain ⟨gd, cd, ed, d0, d1, d2⟩ := one_done hrows.2.1
    rw [ed] at q5
    simp only at d0 d1 d2 q6
    clear hr6 hit6 hrows eB
    have k1 : IntKind.i64.wrap (t + 1) = t + 1 := wrap_small (by have := HT.out; omega) (by have := HT.out; omega)
    have k2 : IntKind.i64.wrap (t + 2) = t + 2 := wrap_small (by have := HT.out; omega) (by have := HT.out; omega)
    have hg6 : ∀ o, (w6.alloc o).cell? ⟨g6, (xs.length + 6) * 7 + 1, none⟩ = some (.int .i64 (t + 2)) := fun o => by rw [World.cell?_alloc_past _ _ _ (lt_of_cell q6)]; exact q6
    go_wp2_with (first
      | (go_at_call 19; refine (op_any _ _ _ _ _).mono ?_; rintro e w' ⟨rfl, rfl⟩))
    refine (with_sl (xs := (xs ++ [fOp, bOp]) ++ [sOp t ⟨#[]⟩, putOp t key val, comOp t, fluOp 1, bOp]) (ys := [gOp (t + 2) key]) (HC5.out.2.chg (((HC6.out.2).alloc _).alloc _ |>.alloc _)) (src_block (heap_new (by simp)) rfl rfl) (by simp; omega) (by simp) (xs.length + 8) (by simp)).mono ?_
    rintro e w7 ⟨ad7, c7, rfl, hs7, hc7⟩
    have hu : isInt (t + 2) := by have := HT.out; unfold isInt; omega
    have HR := run_sl hs7 (fun o ho => by
      rcases List.mem_append.1 ho with ho | ho
      · exact HO5.out o ho
      · rw [List.mem_singleton.1 ho]
        exact opOk (by unfold isInt; simp) hu (by unfold maxLen; omega) (by simp [ByteArray.size, maxLen])) (by simp; omega) (xs.length + 8) (by simp)
    have hcd : Chg nobody (w6.alloc (.cells #[.int .i64 t, .int .i64 0, .int .i64 (t + 1)] 44)) w7 := (((Chg.refl _ _).alloc _).alloc _).trans hc7
    clear hs7 hc7 q5 q6 hg6 d0 d1 d2
    go_wp2_with fail
    refine HR.mono ?_
    rintro e w8 ⟨g8, cg8, sl8, rfl, hr8, hit8, hc8⟩
    clear HR
    have hcd8 := hcd.trans hc8
    have HC8 : Hid (Chg nobody w w8) := (HC6.out.1.alloc _).trans hcd8
    have z0 : w8.cell? ⟨w6.heap.size, 0, none⟩ = some (.int .i64 t) := by rw [(bcell hcd8).1 _ _ (by simp)]; simp [go_sem]
    have z1 : w8.cell? ⟨w6.heap.size, 1, none⟩ = some (.int .i64 0) := by rw [(bcell hcd8).1 _ _ (by simp)]; simp [go_sem]
    have z2 : w8.cell? ⟨w6.heap.size, 2, none⟩ = some (.int .i64 (t + 1)) := by rw [(bcell hcd8).1 _ _ (by simp)]; simp [go_sem]
    rw [eC] at hr8 hit8
    obtain ⟨_, _, _, q7, q8, _, _, _, _⟩ := ans_at7 hit8 hr8 (xs.length + 7) _ (idx7 _ _ xs.length 7 (ansP_len _ _))
    simp only at q7 q8
    clear hr8 hit8 hcd hcd8 hc8 eC
    go_wp2
    go_ret
    exact ⟨by simp, HC8.out⟩
set_option maxRecDepth 100000 in
set_option maxHeartbeats 4000000 in
theorem sure_empty_big {w : World} {ad : Option Addr} {cap : Nat} {xs : List OpM} (hA : SrcOps w (.slice ad xs.length cap) xs) (hxo : ∀ o ∈ xs, o.ok) (hx : xs.length ≤ 1048576) (val0 : ByteArray) (hvl : 20 < val0.size) :
    Calls Tryz.prog 10 #[.slice ad xs.length cap, .string ⟨#[]⟩, .string val0] w fun e w' => e = .returned (.bool true) ∧ Chg nobody w w' := by
  have HA : Hid (SrcOps w (.slice ad xs.length cap) xs ∧ ∀ o ∈ xs, o.ok) := ⟨hA, hxo⟩
  have hv : (val0.extract 0 20).size ≤ 20 := by rw [ByteArray.size_extract]; omega
  clear hA hxo
  go_enter Tryz.func10, Tryz.ntmps10
  go_wp2_with (first
    | (go_at_call 22; refine (deciding_any _).mono ?_; rintro e w1 ⟨rfl, hc1⟩)
    | (go_at_call 24; refine (fencing_any _).mono ?_; rintro e w2 ⟨rfl, hc2⟩))
  obtain ⟨key, hkey⟩ : ∃ key : ByteArray, key = ⟨#[107]⟩ := ⟨_, rfl⟩
  have h1 : 1 ≤ key.size := by rw [hkey]; decide
  have h8 : key.size ≤ 8 := by rw [hkey]; decide
  rw [← hkey]
  clear hkey
  generalize val0.extract 0 20 = val at *
  refine (with_sl (xs := xs) (ys := [fOp, bOp]) (HA.out.1.chg ((hc1.trans hc2).alloc _)) (src_block (heap_new rfl) rfl rfl) (by omega) (by simp) (xs.length + 2) (by simp)).mono ?_
  rintro e w3 ⟨ad3, c3, rfl, hs3, hc3⟩
  have HC3 : Hid (Chg nobody w w3 ∧ SrcOps w3 (.slice ad3 (xs.length + 2) c3) (xs ++ [fOp, bOp])) := ⟨((hc1.trans hc2).alloc _).trans hc3, hs3⟩
  have HO3 : Hid (∀ o ∈ xs ++ [fOp, bOp], o.ok) := fun o ho => by
    rcases List.mem_append.1 ho with ho | ho
    · exact HA.out.2 o ho
    · simp only [List.mem_cons, List.not_mem_nil, or_false] at ho
      rcases ho with rfl | rfl
      · exact okF
      · exact okB
  obtain ⟨a1, a3, t, ht, eA, eB⟩ := sure_ans xs key val h1 h8 hv
  have hcl := clock_lo xs (by omega)
  have HT : Hid (1 ≤ t ∧ t ≤ 10000001) := ⟨by omega, by omega⟩
  have HR := run_sl HC3.out.2 HO3.out (by simp; omega) (xs.length + 2) (by simp)
  clear hc1 hc2 hc3 hs3 ht hcl
  go_wp2_with fail
  refine HR.mono ?_
  rintro e w4 ⟨g, cg, sl, rfl, hr, hit, hc4⟩
  clear HR
  have HC4 : Hid (Chg nobody w w4 ∧ Chg nobody w3 w4) := ⟨HC3.out.1.trans hc4, hc4⟩
  rw [eA] at hr hit
  obtain ⟨_, b0, b1, _, _, _, _, _, _⟩ := ans_at7 hit hr (xs.length + 1) _ (idx7 _ _ xs.length 1 (ansP_len _ _))
  simp only at b0 b1
  have hsub : ((xs.length + 2 : Nat) : Int) - 1 = ((xs.length + 1 : Nat) : Int) := by omega
  clear hr hit hc4
  go_wp2_with (first
    | (go_at_call 19; refine (op_any _ _ _ _ _).mono ?_; rintro e w' ⟨rfl, rfl⟩))
  refine (with_sl (xs := xs ++ [fOp, bOp]) (ys := [sOp t ⟨#[]⟩, putOp t key val, comOp t, fluOp 1, bOp]) (HC3.out.2.chg (((((HC4.out.2).alloc _).alloc _).alloc _).alloc _)) (src_block (heap_new (by simp)) rfl rfl) (by simp; omega) (by simp) (xs.length + 7) (by simp)).mono ?_
  rintro e w5 ⟨ad5, c5, rfl, hs5, hc5⟩
  have HC5 : Hid (Chg nobody w w5 ∧ SrcOps w5 (.slice ad5 (xs.length + 7) c5) ((xs ++ [fOp, bOp]) ++ [sOp t ⟨#[]⟩, putOp t key val, comOp t, fluOp 1, bOp])) := ⟨((((HC4.out.1.alloc _).alloc _).alloc _).alloc _).trans hc5, hs5⟩
  have hti : isInt t := by have := HT.out; unfold isInt; omega
  have HO5 : Hid (∀ o ∈ (xs ++ [fOp, bOp]) ++ [sOp t ⟨#[]⟩, putOp t key val, comOp t, fluOp 1, bOp], o.ok) := fun o ho => by
    rcases List.mem_append.1 ho with ho | ho
    · exact HO3.out o ho
    · simp only [List.mem_cons, List.not_mem_nil, or_false] at ho
      rcases ho with rfl | rfl | rfl | rfl | rfl
      · exact opOk (by unfold isInt; simp) hti (by simp [ByteArray.size, maxLen]) (by simp [ByteArray.size, maxLen])
      · exact opOk (by unfold isInt; simp) hti (by unfold maxLen; omega) (by unfold maxLen; omega)
      · exact opOk (by unfold isInt; simp) hti (by simp [ByteArray.size, maxLen]) (by simp [ByteArray.size, maxLen])
      · exact okFl 1 (by unfold isInt; simp)
      · exact okB
  have HR := run_sl HC5.out.2 HO5.out (by simp; omega) (xs.length + 7) (by simp)
  clear hc5 hs5 b0 b1 eA
  go_wp2_with fail
  refine HR.mono ?_
  rintro e w6 ⟨g6, cg6, sl6, rfl, hr6, hit6, hc6⟩
  clear HR
  have HC6 : Hid (Chg nobody w w6 ∧ Chg nobody w5 w6) := ⟨HC5.out.1.trans hc6, hc6⟩
  have n1 : IntKind.i64.wrap (((xs.length + 2 : Nat) : Int) + 5) = ((xs.length + 7 : Nat) : Int) := by rw [wrap_small (by omega) (by omega)]; omega
  have n2 : IntKind.i64.wrap (((xs.length + 2 : Nat) : Int) + 3) = ((xs.length + 5 : Nat) : Int) := by rw [wrap_small (by omega) (by omega)]; omega
  have n3 : IntKind.i64.wrap (((xs.length + 2 : Nat) : Int) + 4) = ((xs.length + 6 : Nat) : Int) := by rw [wrap_small (by omega) (by omega)]; omega
  have n4 : IntKind.i64.wrap (((xs.length + 2 : Nat) : Int) + 6) = ((xs.length + 8 : Nat) : Int) := by rw [wrap_small (by omega) (by omega)]; omega
  clear hc6 hsub
  rcases eB with ⟨a7, eB⟩ | ⟨eB, eC⟩
  · rw [eB] at hr6 hit6
    obtain ⟨x5, _, _, _, _, _, q5, _, hrows⟩ := ans_at7 hit6 hr6 (xs.length + 5) _ (idx7 _ _ xs.length 5 (ansP_len _ _))
    obtain ⟨gd, cd, ed, d0, d1, d2⟩ := one_done hrows.2.1
    rw [ed] at q5
    simp only at d0 d1 d2
    clear hr6 hit6 hrows eB
    go_wp2
    go_ret
    exact ⟨rfl, HC6.out.1.alloc _⟩
  · rw [eB] at hr6 hit6
    obtain ⟨x5, _, _, _, _, _, q5, _, hrows⟩ := ans_at7 hit6 hr6 (xs.length + 5) _ (idx7 _ _ xs.length 5 (ansP_len _ _))
    obtain ⟨x6, _, q6, _, _, _, _, _, _⟩ := ans_at7 hit6 hr6 (xs.length + 6) _ (idx7 _ _ xs.length 6 (ansP_len _ _))
    obtain ⟨gd, cd, ed, d0, d1, d2⟩ := one_done hrows.2.1
    rw [ed] at q5
    simp only at d0 d1 d2 q6
    clear hr6 hit6 hrows eB
    have k1 : IntKind.i64.wrap (t + 1) = t + 1 := wrap_small (by have := HT.out; omega) (by have := HT.out; omega)
    have k2 : IntKind.i64.wrap (t + 2) = t + 2 := wrap_small (by have := HT.out; omega) (by have := HT.out; omega)
    have hg6 : ∀ o, (w6.alloc o).cell? ⟨g6, (xs.length + 6) * 7 + 1, none⟩ = some (.int .i64 (t + 2)) := fun o => by rw [World.cell?_alloc_past _ _ _ (lt_of_cell q6)]; exact q6
    go_wp2_with (first
      | (go_at_call 19; refine (op_any _ _ _ _ _).mono ?_; rintro e w' ⟨rfl, rfl⟩))
    refine (with_sl (xs := (xs ++ [fOp, bOp]) ++ [sOp t ⟨#[]⟩, putOp t key val, comOp t, fluOp 1, bOp]) (ys := [gOp (t + 2) key]) (HC5.out.2.chg (((HC6.out.2).alloc _).alloc _ |>.alloc _)) (src_block (heap_new (by simp)) rfl rfl) (by simp; omega) (by simp) (xs.length + 8) (by simp)).mono ?_
    rintro e w7 ⟨ad7, c7, rfl, hs7, hc7⟩
    have hu : isInt (t + 2) := by have := HT.out; unfold isInt; omega
    have HR := run_sl hs7 (fun o ho => by
      rcases List.mem_append.1 ho with ho | ho
      · exact HO5.out o ho
      · rw [List.mem_singleton.1 ho]
        exact opOk (by unfold isInt; simp) hu (by unfold maxLen; omega) (by simp [ByteArray.size, maxLen])) (by simp; omega) (xs.length + 8) (by simp)
    have hcd : Chg nobody (w6.alloc (.cells #[.int .i64 t, .int .i64 0, .int .i64 (t + 1)] 44)) w7 := (((Chg.refl _ _).alloc _).alloc _).trans hc7
    clear hs7 hc7 q5 q6 hg6 d0 d1 d2
    go_wp2_with fail
    refine HR.mono ?_
    rintro e w8 ⟨g8, cg8, sl8, rfl, hr8, hit8, hc8⟩
    clear HR
    have hcd8 := hcd.trans hc8
    have HC8 : Hid (Chg nobody w w8) := (HC6.out.1.alloc _).trans hcd8
    have z0 : w8.cell? ⟨w6.heap.size, 0, none⟩ = some (.int .i64 t) := by rw [(bcell hcd8).1 _ _ (by simp)]; simp [go_sem]
    have z1 : w8.cell? ⟨w6.heap.size, 1, none⟩ = some (.int .i64 0) := by rw [(bcell hcd8).1 _ _ (by simp)]; simp [go_sem]
    have z2 : w8.cell? ⟨w6.heap.size, 2, none⟩ = some (.int .i64 (t + 1)) := by rw [(bcell hcd8).1 _ _ (by simp)]; simp [go_sem]
    rw [eC] at hr8 hit8
    obtain ⟨_, _, _, q7, q8, _, _, _, _⟩ := ans_at7 hit8 hr8 (xs.length + 7) _ (idx7 _ _ xs.length 7 (ansP_len _ _))
    simp only at q7 q8
    clear hr8 hit8 hcd hcd8 hc8 eC
    go_wp2
    go_ret
    exact ⟨by simp, HC8.out⟩
end Go.Proofs.YtkfjafndplmdkaaGreat
