import Derived.Test.YtkfjafndplmdkaaGreatTQ
namespace Go.Proofs.YtkfjafndplmdkaaGreat
open Go.RowKit Go.Sort
set_option maxRecDepth 100000 in
set_option maxHeartbeats 2000000 in
theorem still_long (ada adb : Option Addr) (ca cb : Nat) (xs ys : List OpM) (key0 pre : ByteArray) (w : World) (hA : SrcOps w (.slice ada xs.length ca) xs) (hB : SrcOps w (.slice adb ys.length cb) ys)
    (hxo : ∀ o ∈ xs, o.ok) (hyo : ∀ o ∈ ys, o.ok) (hx : xs.length ≤ 2000000) (hy : ys.length ≤ 2000000) (hl : 8 < key0.size) (hp : pre.size ≤ maxLen) :
    Calls Tryz.prog 4 #[.slice ada xs.length ca, .slice adb ys.length cb, .string key0, .string pre] w fun e w' => e = .returned (.bool true) ∧ Chg nobody w w' := by
  have HA : Hid (SrcOps w (.slice ada xs.length ca) xs ∧ SrcOps w (.slice adb ys.length cb) ys ∧ (∀ o ∈ xs, o.ok) ∧ (∀ o ∈ ys, o.ok)) := ⟨hA, hB, hxo, hyo⟩
  have hsz : (key0.extract 0 8).size = 8 := by rw [ByteArray.size_extract]; omega
  have h1 : 1 ≤ (key0.extract 0 8).size := by omega
  have h8 : (key0.extract 0 8).size ≤ 8 := by omega
  have hne : (key0.extract 0 8).toList.isEmpty = false := by
    rw [ByteArray.toList_eq]
    exact notEmpty h1
  clear hsz
  clear hA hB hxo hyo
  go_enter Tryz.func4, Tryz.ntmps4
  go_wp2_with (go_at_call 15; refine (reading_any _).mono ?_; rintro e w1 ⟨rfl, hc1⟩)
  generalize key0.extract 0 8 = key at *
  refine (with_sl (xs := xs) (ys := [bOp]) (HA.out.1.chg (hc1.alloc _)) (src_block (heap_new rfl) rfl rfl) (by omega) (by simp) (xs.length + 1) (by simp)).mono ?_
  rintro e w2 ⟨ad1, c1, rfl, hs1, hc2⟩
  have HC2 : Hid (Chg nobody w w2) := (hc1.alloc _).trans hc2
  have hb1 : OpM.ok bOp := opOk (by unfold isInt; simp) (by unfold isInt; simp) (by simp [ByteArray.size, maxLen]) (by simp [ByteArray.size, maxLen])
  have HR := run_sl hs1 (fun o ho => by rcases List.mem_append.1 ho with ho | ho; exact HA.out.2.2.1 o ho; rw [List.mem_singleton.1 ho]; exact hb1) (by simp; omega) (xs.length + 1) (by simp)
  clear hc1 hc2 hs1
  go_wp2_with fail
  refine HR.mono ?_
  rintro e w3 ⟨g, cg, sl, rfl, hr, hit, hc3⟩
  clear HR
  have HC3 : Hid (Chg nobody w w3) := HC2.out.trans hc3
  have hal : xs.length < (ansP p0 (xs ++ [bOp])).length := by rw [ansP_len]; simp
  have hac := ans_cells hit.1 hr xs.length hal
  have hgl : (ansP p0 (xs ++ [bOp]))[xs.length] = (stepP (stP p0 xs) bOp).1 := by
    simp only [ansP_snoc]
    rw [List.getElem_append_right (by rw [ansP_len]; exact Nat.le_refl _)]
    simp [ansP_len]
  rw [hgl] at hac
  have a0 := hac.1
  have a1 := hac.2.1
  clear hac
  have HB := begin_ans xs (by omega)
  clear hr hit hc3 hgl hal HC2
  rcases HB with hbe | ⟨t, hti, hbe, V, hhas⟩
  · rw [hbe] at a0 a1
    clear hbe
    go_wp2
    go_ret
    exact ⟨rfl, HC3.out⟩
  · rw [hbe] at a0 a1
    have HH : Hid ((stepP (stP p0 xs) bOp).1 = ⟨0, t, false, ⟨#[]⟩, [], [], []⟩ ∧ HasP t [] V (stepP (stP p0 xs) bOp).2) := ⟨hbe, hhas⟩
    clear hbe hhas
    have HI : Hid (isInt t) := hti
    clear hti
    go_wp2_with fail
    refine (others_sl t (HA.out.2.1.chg HC3.out) (by omega)).mono ?_
    rintro e w4 ⟨ad2, c2, rfl, hs2, hc4⟩
    have hml := othersM_len ys t
    have HM : Hid (∀ o ∈ othersM ys t, (o.t ≠ t ∧ o.kind ≠ 9) ∧ o.ok) := fun o ho => by
      obtain ⟨h5, h6⟩ := List.mem_filter.1 ho
      refine ⟨?_, HA.out.2.2.2 o h5⟩
      simp [keepB] at h6
      exact ⟨h6.2, h6.1⟩
    generalize othersM ys t = m at *
    have HC4 : Hid (Chg nobody w w4 ∧ SrcOps w4 (.slice ad2 m.length c2) m) := ⟨HC3.out.trans hc4, hs2⟩
    clear hs2 hc4 HC3 a0 a1
    go_wp2_with (go_at_call 19; refine (op_any _ _ _ _ _).mono ?_; rintro e w' ⟨rfl, rfl⟩)
    refine (with_sl (xs := xs) (ys := [bOp, gOp t key, sOp t pre]) (HA.out.1.chg (((HC4.out.1.alloc _).alloc _).alloc _)) (src_block (heap_new (by simp)) rfl rfl) (by omega) (by simp) (xs.length + 3) (by simp)).mono ?_
    rintro e w5 ⟨ad3, c3, rfl, hs3, hc5⟩
    have hc45 : Chg nobody w4 w5 := ((((Chg.refl _ _).alloc _).alloc _).alloc _).trans hc5
    have HC5 : Hid (Chg nobody w w5 ∧ SrcOps w5 (.slice ad3 (xs.length + 3) c3) (xs ++ [bOp, gOp t key, sOp t pre]) ∧ SrcOps w5 (.slice ad2 m.length c2) m) := ⟨HC4.out.1.trans hc45, hs3, HC4.out.2.chg hc45⟩
    clear hs3 hc5 hc45 HC4
    go_wp2_with fail
    refine (with_sl HC5.out.2.1 HC5.out.2.2 (by simp; omega) (by omega) (xs.length + 3 + m.length) (by simp; omega)).mono ?_
    rintro e w6 ⟨ad4, c4, rfl, hs4, hc6⟩
    have HC6 : Hid (Chg nobody w w6 ∧ SrcOps w6 (.slice ad4 (xs.length + 3 + m.length) c4) ((xs ++ [bOp, gOp t key, sOp t pre]) ++ m)) := ⟨HC5.out.1.trans hc6, hs4⟩
    clear hs4 hc6 HC5
    go_wp2_with (go_at_call 19; refine (op_any _ _ _ _ _).mono ?_; rintro e w' ⟨rfl, rfl⟩)
    refine (with_sl (ys := [gOp t key, sOp t pre, pOp t key, gOp t key, dOp t key, gOp t key]) (HC6.out.2.chg (((((((Chg.refl _ _).alloc _).alloc _).alloc _).alloc _).alloc _).alloc _ |>.alloc _)) (src_block (heap_new (by simp)) rfl rfl) (by simp; omega) (by simp) (xs.length + 3 + m.length + 6) (by simp; omega)).mono ?_
    rintro e w7 ⟨ad5, c5, rfl, hs5, hc7⟩
    have HC7 : Hid (Chg nobody w w7) := (((((((HC6.out.1.alloc _).alloc _).alloc _).alloc _).alloc _).alloc _).alloc _).trans hc7
    have hti := HI.out
    have hks : key.size ≤ maxLen := by unfold maxLen; omega
    have he : (⟨#[]⟩ : ByteArray).size ≤ maxLen := by simp [ByteArray.size, maxLen]
    have hov : ownV.size ≤ maxLen := by simp [ByteArray.size, maxLen]
    have k1 : ∀ k : Int, 1 ≤ k → k ≤ 6 → isInt k := fun k h h' => by unfold isInt; omega
    have HR := run_sl hs5 (fun o ho => by
      rcases List.mem_append.1 ho with ho | ho
      · rcases List.mem_append.1 ho with ho | ho
        · rcases List.mem_append.1 ho with ho | ho
          · exact HA.out.2.2.1 o ho
          · simp only [List.mem_cons, List.not_mem_nil, or_false] at ho
            rcases ho with rfl | rfl | rfl
            · exact hb1
            · exact opOk (k1 2 (by omega) (by omega)) hti hks he
            · exact opOk (k1 3 (by omega) (by omega)) hti hp he
        · exact (HM.out o ho).2
      · simp only [List.mem_cons, List.not_mem_nil, or_false] at ho
        rcases ho with rfl | rfl | rfl | rfl | rfl | rfl
        · exact opOk (k1 2 (by omega) (by omega)) hti hks he
        · exact opOk (k1 3 (by omega) (by omega)) hti hp he
        · exact opOk (k1 4 (by omega) (by omega)) hti hks hov
        · exact opOk (k1 2 (by omega) (by omega)) hti hks he
        · exact opOk (k1 5 (by omega) (by omega)) hti hks he
        · exact opOk (k1 2 (by omega) (by omega)) hti hks he) (by simp; omega) (xs.length + 3 + m.length + 6) (by simp; omega)
    clear hs5 hc7 HC6 hti hks he hov k1 hb1
    go_wp2_with fail
    refine HR.mono ?_
    rintro e w8 ⟨g2, cg2, sl2, rfl, hr2, hit2, hc8⟩
    clear HR
    have HF : Hid (Chg nobody w w8) := HC7.out.trans hc8
    obtain ⟨A2, fb, fv, fI, hA2, hans⟩ := still_ans xs m t V key pre h1 h8 (fun o ho => (HM.out o ho).1) HH.out.2
    rw [hans] at hr2 hit2
    obtain ⟨j1, j2, j3, j4, j5, j6⟩ := idx (ansP p0 xs) A2 _ _ _ _ _ _ _ _ _ xs.length m.length (ansP_len _ _) hA2 _ rfl
    obtain ⟨x1, a0, _, a2, a3, _, _, _⟩ := ans_at hit2 hr2 _ _ j1
    obtain ⟨x2, _, _, _, _, b4, _, bx⟩ := ans_at hit2 hr2 _ _ j2
    obtain ⟨x3, d0, _, d2, d3, _, _, _⟩ := ans_at hit2 hr2 _ _ j3
    obtain ⟨x4, _, _, _, _, e4, _, ex⟩ := ans_at hit2 hr2 _ _ j4
    obtain ⟨x5, _, _, f2, f3, _, _, _⟩ := ans_at hit2 hr2 _ _ j5
    obtain ⟨x6, g0, _, g2', _, _, _, _⟩ := ans_at hit2 hr2 _ _ j6
    have HS : Hid (∀ l, Calls Tryz.prog 20 #[slV x2, slV x4] (w8.drewN l) fun e w' => e = .returned (.bool true) ∧ ∃ n, w' = (w8.drewN l).drewN n) := fun l => sameItems_any x2 x4 _ _ _ (w8.drewN l) bx ex
    obtain ⟨y1, y2, y3⟩ := x2
    obtain ⟨z1, z2, z3⟩ := x4
    simp only [slV] at b4 e4
    simp only at a0 a2 a3 d0 d2 d3 f2 f3 g0 g2'
    clear hr2 hit2 hc8 HC7 hA2 hans HH HM HI bx ex j1 j2 j3 j4 j5 j6 HA
    have q1 : IntKind.i64.wrap ((xs.length : Int) + 1) = (xs.length : Int) + 1 := wrap_small (by omega) (by omega)
    have q3 : IntKind.i64.wrap ((xs.length : Int) + 3 + (m.length : Int) + 3) = (xs.length : Int) + 3 + (m.length : Int) + 3 := wrap_small (by omega) (by omega)
    have q5 : IntKind.i64.wrap ((xs.length : Int) + 3 + (m.length : Int) + 5) = (xs.length : Int) + 3 + (m.length : Int) + 5 := wrap_small (by omega) (by omega)
    have z1 : (0 : Int) ≤ (xs.length : Int) + 1 := by omega
    have z2 : (0 : Int) ≤ (xs.length : Int) + 3 + (m.length : Int) := by omega
    have z3 : (0 : Int) ≤ (xs.length : Int) + 3 + (m.length : Int) + 3 := by omega
    have z5 : (0 : Int) ≤ (xs.length : Int) + 3 + (m.length : Int) + 5 := by omega
    have t1 : ((xs.length : Int) + 1).toNat = xs.length + 1 := by omega
    have t2 : ((xs.length : Int) + 3 + (m.length : Int)).toNat = xs.length + 3 + m.length := by omega
    have t3 : ((xs.length : Int) + 3 + (m.length : Int) + 3).toNat = xs.length + 3 + m.length + 3 := by omega
    have t5 : ((xs.length : Int) + 3 + (m.length : Int) + 5).toNat = xs.length + 3 + m.length + 5 := by omega
    have i1 : (xs.length : Int) + 1 < (xs.length : Int) + 3 + (m.length : Int) + 6 := by omega
    have i2 : (xs.length : Int) + 3 + (m.length : Int) < (xs.length : Int) + 3 + (m.length : Int) + 6 := by omega
    have i3 : (xs.length : Int) + 3 + (m.length : Int) + 3 < (xs.length : Int) + 3 + (m.length : Int) + 6 := by omega
    have i5 : (xs.length : Int) + 3 + (m.length : Int) + 5 < (xs.length : Int) + 3 + (m.length : Int) + 6 := by omega
    go_wp2_with fail
    go_quiet ((go_at_call 20; exact Calls.quiet_of (HS.out _)))
    go_wp2
    go_quiet (fail)
    go_wp2
    go_ret
    exact ⟨rfl, (HF.out.drewN _).drewN _⟩
end Go.Proofs.YtkfjafndplmdkaaGreat
