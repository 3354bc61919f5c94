import Derived.Test.YtkfjafndplmdkaaGreatTP
namespace Go.Proofs.YtkfjafndplmdkaaGreat
open Go.RowKit Go.Sort
theorem row_shape {w : World} {base : Nat} {e : TypeId} {size n : Nat} {v : Value} {xs : List Value} (h : w.ownsRow base e size v n xs) : ∃ ad c, v = .slice ad n c := by
  rcases h.2 with ⟨rfl, rfl⟩ | ⟨g, cap, cur, rfl, _⟩
  · exact ⟨_, _, rfl⟩
  · exact ⟨_, _, rfl⟩
/-- 'with', its result's shape written out. -/
theorem with_sl {w : World} {A B : Value} {xs ys : List OpM} (hA : SrcOps w A xs) (hB : SrcOps w B ys) (hx : xs.length ≤ 10000000) (hy : ys.length ≤ 10000000) (n : Nat) (hn : n = (xs ++ ys).length) :
    Calls Tryz.prog 17 #[A, B] w fun e w' => ∃ ad c, e = .returned (.slice ad n c) ∧ SrcOps w' (.slice ad n c) (xs ++ ys) ∧ Chg nobody w w' := by
  subst hn
  refine (with_any hA hB hx hy).mono ?_
  rintro e w' ⟨v, rfl, hr, hc⟩
  obtain ⟨ad, c, rfl⟩ := row_shape hr
  exact ⟨ad, c, rfl, src_of_row hr, hc⟩
theorem others_sl {w : World} {B : Value} {ys : List OpM} (t : Int) (hB : SrcOps w B ys) (hy : ys.length ≤ 10000000) :
    Calls Tryz.prog 18 #[B, .int .i64 t] w fun e w' => ∃ ad c, e = .returned (.slice ad (othersM ys t).length c) ∧ SrcOps w' (.slice ad (othersM ys t).length c) (othersM ys t) ∧ Chg nobody w w' := by
  refine (others_any t hB hy).mono ?_
  rintro e w' ⟨v, rfl, hr, hc⟩
  obtain ⟨ad, c, rfl⟩ := row_shape hr
  exact ⟨ad, c, rfl, src_of_row hr, hc⟩
/-- 'Run', at a list of that length. -/
theorem run_sl {w : World} {v : Value} {ops : List OpM} (h : SrcOps w v ops) (hok : ∀ o ∈ ops, o.ok) (hn : ops.length ≤ 10000000) (n : Nat) (hl : n = ops.length) :
    Calls Tryz.prog 16 #[v] w fun e w' => ∃ (g c : Nat) (sl : List Sl3), e = .returned (.slice (some ⟨g, 0, none⟩) n c) ∧ w'.ownsRow w.heap.size 36 7 (.slice (some ⟨g, 0, none⟩) n c) n (ansCells (ansP p0 ops) sl) ∧ ItemsAt w' w.heap.size (ansP p0 ops) sl ∧ Chg nobody w w' := by
  subst hl
  exact run_src h hok hn
theorem opOk {k t : Int} {key val : ByteArray} (hk : isInt k) (ht : isInt t) (h1 : key.size ≤ maxLen) (h2 : val.size ≤ maxLen) : OpM.ok ⟨k, t, key, val, 0⟩ := ⟨hk, ht, h1, h2, by unfold isInt; simp⟩
theorem wrap_small {n : Int} (h0 : 0 ≤ n) (h1 : n ≤ 100000000000) : IntKind.i64.wrap n = n := by
  unfold IntKind.wrap
  simp only [IntKind.bits, IntKind.signed]
  have e : n % (2 ^ 64 : Int) = n := by omega
  simp only [e]
  rw [if_neg (by simp; omega)]
theorem notEmpty {key : ByteArray} (h1 : 1 ≤ key.size) : key.data.toList.isEmpty = false := by
  have h : key.data.toList.length = key.size := Array.length_toList
  cases hl : key.data.toList with
  | nil =>
    rw [hl] at h
    have h2 : 0 = key.size := h
    omega
  | cons _ _ => rfl
theorem idx {α : Type} (P A2 : List α) (b x y o1 o2 o3 o4 o5 o6 : α) (n q : Nat) (hn : P.length = n) (hq : A2.length = q) (L : List α) (hL : L = P ++ (b :: x :: y :: (A2 ++ [o1, o2, o3, o4, o5, o6]))) :
    L[n + 1]? = some x ∧ L[n + 2]? = some y ∧ L[n + 3 + q]? = some o1 ∧ L[n + 3 + q + 1]? = some o2 ∧ L[n + 3 + q + 3]? = some o4 ∧ L[n + 3 + q + 5]? = some o6 := by
  subst hn hq hL
  have r : ∀ i, (P ++ (b :: x :: y :: (A2 ++ [o1, o2, o3, o4, o5, o6])))[P.length + i]? = (b :: x :: y :: (A2 ++ [o1, o2, o3, o4, o5, o6]))[i]? := fun i => by
    rw [List.getElem?_append_right (by omega)]
    congr 1
    omega
  have r2 : ∀ i, (b :: x :: y :: (A2 ++ [o1, o2, o3, o4, o5, o6]))[3 + A2.length + i]? = [o1, o2, o3, o4, o5, o6][i]? := fun i => by
    have e : b :: x :: y :: (A2 ++ [o1, o2, o3, o4, o5, o6]) = (b :: x :: y :: A2) ++ [o1, o2, o3, o4, o5, o6] := rfl
    rw [e, List.getElem?_append_right (by simp; omega)]
    congr 1
    simp
    omega
  refine ⟨by rw [r]; rfl, by rw [r]; rfl, ?_, ?_, ?_, ?_⟩
  · rw [Nat.add_assoc, r]; exact r2 0
  · rw [Nat.add_assoc, Nat.add_assoc, r, ← Nat.add_assoc]; exact r2 1
  · rw [Nat.add_assoc, Nat.add_assoc, r, ← Nat.add_assoc]; exact r2 3
  · rw [Nat.add_assoc, Nat.add_assoc, r, ← Nat.add_assoc]; exact r2 5
/-- an answer's cells, told by '[i]?'. -/
theorem ans_at {w : World} {base g n cap : Nat} {As : List AnsM} {sl : List Sl3} (hit : ItemsAt w base As sl) (h : w.ownsRow base 36 7 (.slice (some ⟨g, 0, none⟩) n cap) n (ansCells As sl)) (i : Nat) (A : AnsM) (hi : As[i]? = some A) :
    ∃ x : Sl, w.cell? ⟨g, i * 7, none⟩ = some (.int .i64 A.code) ∧ w.cell? ⟨g, i * 7 + 1, none⟩ = some (.int .i64 A.number) ∧ w.cell? ⟨g, i * 7 + 2, none⟩ = some (.bool A.found) ∧ w.cell? ⟨g, i * 7 + 3, none⟩ = some (.string A.value) ∧ w.cell? ⟨g, i * 7 + 4, none⟩ = some (slV x) ∧ (∃ y : Sl, w.cell? ⟨g, i * 7 + 5, none⟩ = some (slV y)) ∧ w.ownsRow base 66 2 (slV x) A.items.length (itemCells A.items) := by
  have hlt : i < As.length := (List.getElem?_eq_some_iff.1 hi).1
  have he : As[i] = A := (List.getElem?_eq_some_iff.1 hi).2
  have p := ans_cells hit.1 h i hlt
  have q := hit.at i hlt
  rw [he] at p q
  exact ⟨_, p.1, p.2.1, p.2.2.1, p.2.2.2.1, p.2.2.2.2.1, ⟨_, p.2.2.2.2.2⟩, q.1⟩
set_option maxRecDepth 100000 in
set_option maxHeartbeats 2000000 in
theorem still_mid (ada adb : Option Addr) (ca cb : Nat) (xs ys : List OpM) (key pre : ByteArray) (w : World) (hA : SrcOps w (.slice ada xs.length ca) xs) (hB : SrcOps w (.slice adb ys.length cb) ys)
    (hxo : ∀ o ∈ xs, o.ok) (hyo : ∀ o ∈ ys, o.ok) (hx : xs.length ≤ 2000000) (hy : ys.length ≤ 2000000) (h1 : 1 ≤ key.size) (h8 : key.size ≤ 8) (hp : pre.size ≤ maxLen) :
    Calls Tryz.prog 4 #[.slice ada xs.length ca, .slice adb ys.length cb, .string key, .string pre] w fun e w' => e = .returned (.bool true) ∧ Chg nobody w w' := by
  have HA : Hid (SrcOps w (.slice ada xs.length ca) xs ∧ SrcOps w (.slice adb ys.length cb) ys ∧ (∀ o ∈ xs, o.ok) ∧ (∀ o ∈ ys, o.ok)) := ⟨hA, hB, hxo, hyo⟩
  have hne : key.toList.isEmpty = false := by
    rw [ByteArray.toList_eq]
    exact notEmpty h1
  clear hA hB hxo hyo
  go_enter Tryz.func4, Tryz.ntmps4
  go_wp2_with (go_at_call 15; refine (reading_any _).mono ?_; rintro e w1 ⟨rfl, hc1⟩)
  refine (with_sl (xs := xs) (ys := [bOp]) (HA.out.1.chg (hc1.alloc _)) (src_block (heap_new rfl) rfl rfl) (by omega) (by simp) (xs.length + 1) (by simp)).mono ?_
  rintro e w2 ⟨ad1, c1, rfl, hs1, hc2⟩
  have HC2 : Hid (Chg nobody w w2) := (hc1.alloc _).trans hc2
  have hb1 : OpM.ok bOp := opOk (by unfold isInt; simp) (by unfold isInt; simp) (by simp [ByteArray.size, maxLen]) (by simp [ByteArray.size, maxLen])
  have HR := run_sl hs1 (fun o ho => by rcases List.mem_append.1 ho with ho | ho; exact HA.out.2.2.1 o ho; rw [List.mem_singleton.1 ho]; exact hb1) (by simp; omega) (xs.length + 1) (by simp)
  clear hc1 hc2 hs1
  go_wp2_with fail
  refine HR.mono ?_
  rintro e w3 ⟨g, cg, sl, rfl, hr, hit, hc3⟩
  clear HR
  have HC3 : Hid (Chg nobody w w3) := HC2.out.trans hc3
  have hal : xs.length < (ansP p0 (xs ++ [bOp])).length := by rw [ansP_len]; simp
  have hac := ans_cells hit.1 hr xs.length hal
  have hgl : (ansP p0 (xs ++ [bOp]))[xs.length] = (stepP (stP p0 xs) bOp).1 := by
    simp only [ansP_snoc]
    rw [List.getElem_append_right (by rw [ansP_len]; exact Nat.le_refl _)]
    simp [ansP_len]
  rw [hgl] at hac
  have a0 := hac.1
  have a1 := hac.2.1
  clear hac
  have HB := begin_ans xs (by omega)
  clear hr hit hc3 hgl hal HC2
  rcases HB with hbe | ⟨t, hti, hbe, V, hhas⟩
  · rw [hbe] at a0 a1
    clear hbe
    go_wp2
    go_ret
    exact ⟨rfl, HC3.out⟩
  · rw [hbe] at a0 a1
    have HH : Hid ((stepP (stP p0 xs) bOp).1 = ⟨0, t, false, ⟨#[]⟩, [], [], []⟩ ∧ HasP t [] V (stepP (stP p0 xs) bOp).2) := ⟨hbe, hhas⟩
    clear hbe hhas
    have HI : Hid (isInt t) := hti
    clear hti
    go_wp2_with fail
    refine (others_sl t (HA.out.2.1.chg HC3.out) (by omega)).mono ?_
    rintro e w4 ⟨ad2, c2, rfl, hs2, hc4⟩
    have hml := othersM_len ys t
    have HM : Hid (∀ o ∈ othersM ys t, (o.t ≠ t ∧ o.kind ≠ 9) ∧ o.ok) := fun o ho => by
      obtain ⟨h5, h6⟩ := List.mem_filter.1 ho
      refine ⟨?_, HA.out.2.2.2 o h5⟩
      simp [keepB] at h6
      exact ⟨h6.2, h6.1⟩
    generalize othersM ys t = m at *
    have HC4 : Hid (Chg nobody w w4 ∧ SrcOps w4 (.slice ad2 m.length c2) m) := ⟨HC3.out.trans hc4, hs2⟩
    clear hs2 hc4 HC3 a0 a1
    go_wp2_with (go_at_call 19; refine (op_any _ _ _ _ _).mono ?_; rintro e w' ⟨rfl, rfl⟩)
    refine (with_sl (xs := xs) (ys := [bOp, gOp t key, sOp t pre]) (HA.out.1.chg (((HC4.out.1.alloc _).alloc _).alloc _)) (src_block (heap_new (by simp)) rfl rfl) (by omega) (by simp) (xs.length + 3) (by simp)).mono ?_
    rintro e w5 ⟨ad3, c3, rfl, hs3, hc5⟩
    have hc45 : Chg nobody w4 w5 := ((((Chg.refl _ _).alloc _).alloc _).alloc _).trans hc5
    have HC5 : Hid (Chg nobody w w5 ∧ SrcOps w5 (.slice ad3 (xs.length + 3) c3) (xs ++ [bOp, gOp t key, sOp t pre]) ∧ SrcOps w5 (.slice ad2 m.length c2) m) := ⟨HC4.out.1.trans hc45, hs3, HC4.out.2.chg hc45⟩
    clear hs3 hc5 hc45 HC4
    go_wp2_with fail
    refine (with_sl HC5.out.2.1 HC5.out.2.2 (by simp; omega) (by omega) (xs.length + 3 + m.length) (by simp; omega)).mono ?_
    rintro e w6 ⟨ad4, c4, rfl, hs4, hc6⟩
    have HC6 : Hid (Chg nobody w w6 ∧ SrcOps w6 (.slice ad4 (xs.length + 3 + m.length) c4) ((xs ++ [bOp, gOp t key, sOp t pre]) ++ m)) := ⟨HC5.out.1.trans hc6, hs4⟩
    clear hs4 hc6 HC5
    go_wp2_with (go_at_call 19; refine (op_any _ _ _ _ _).mono ?_; rintro e w' ⟨rfl, rfl⟩)
    refine (with_sl (ys := [gOp t key, sOp t pre, pOp t key, gOp t key, dOp t key, gOp t key]) (HC6.out.2.chg (((((((Chg.refl _ _).alloc _).alloc _).alloc _).alloc _).alloc _).alloc _ |>.alloc _)) (src_block (heap_new (by simp)) rfl rfl) (by simp; omega) (by simp) (xs.length + 3 + m.length + 6) (by simp; omega)).mono ?_
    rintro e w7 ⟨ad5, c5, rfl, hs5, hc7⟩
    have HC7 : Hid (Chg nobody w w7) := (((((((HC6.out.1.alloc _).alloc _).alloc _).alloc _).alloc _).alloc _).alloc _).trans hc7
    have hti := HI.out
    have hks : key.size ≤ maxLen := by unfold maxLen; omega
    have he : (⟨#[]⟩ : ByteArray).size ≤ maxLen := by simp [ByteArray.size, maxLen]
    have hov : ownV.size ≤ maxLen := by simp [ByteArray.size, maxLen]
    have k1 : ∀ k : Int, 1 ≤ k → k ≤ 6 → isInt k := fun k h h' => by unfold isInt; omega
    have HR := run_sl hs5 (fun o ho => by
      rcases List.mem_append.1 ho with ho | ho
      · rcases List.mem_append.1 ho with ho | ho
        · rcases List.mem_append.1 ho with ho | ho
          · exact HA.out.2.2.1 o ho
          · simp only [List.mem_cons, List.not_mem_nil, or_false] at ho
            rcases ho with rfl | rfl | rfl
            · exact hb1
            · exact opOk (k1 2 (by omega) (by omega)) hti hks he
            · exact opOk (k1 3 (by omega) (by omega)) hti hp he
        · exact (HM.out o ho).2
      · simp only [List.mem_cons, List.not_mem_nil, or_false] at ho
        rcases ho with rfl | rfl | rfl | rfl | rfl | rfl
        · exact opOk (k1 2 (by omega) (by omega)) hti hks he
        · exact opOk (k1 3 (by omega) (by omega)) hti hp he
        · exact opOk (k1 4 (by omega) (by omega)) hti hks hov
        · exact opOk (k1 2 (by omega) (by omega)) hti hks he
        · exact opOk (k1 5 (by omega) (by omega)) hti hks he
        · exact opOk (k1 2 (by omega) (by omega)) hti hks he) (by simp; omega) (xs.length + 3 + m.length + 6) (by simp; omega)
    clear hs5 hc7 HC6 hti hks he hov k1 hb1
    go_wp2_with fail
    refine HR.mono ?_
    rintro e w8 ⟨g2, cg2, sl2, rfl, hr2, hit2, hc8⟩
    clear HR
    have HF : Hid (Chg nobody w w8) := HC7.out.trans hc8
    obtain ⟨A2, fb, fv, fI, hA2, hans⟩ := still_ans xs m t V key pre h1 h8 (fun o ho => (HM.out o ho).1) HH.out.2
    rw [hans] at hr2 hit2
    obtain ⟨j1, j2, j3, j4, j5, j6⟩ := idx (ansP p0 xs) A2 _ _ _ _ _ _ _ _ _ xs.length m.length (ansP_len _ _) hA2 _ rfl
    obtain ⟨x1, a0, _, a2, a3, _, _, _⟩ := ans_at hit2 hr2 _ _ j1
    obtain ⟨x2, _, _, _, _, b4, _, bx⟩ := ans_at hit2 hr2 _ _ j2
    obtain ⟨x3, d0, _, d2, d3, _, _, _⟩ := ans_at hit2 hr2 _ _ j3
    obtain ⟨x4, _, _, _, _, e4, _, ex⟩ := ans_at hit2 hr2 _ _ j4
    obtain ⟨x5, _, _, f2, f3, _, _, _⟩ := ans_at hit2 hr2 _ _ j5
    obtain ⟨x6, g0, _, g2', _, _, _, _⟩ := ans_at hit2 hr2 _ _ j6
    have HS : Hid (∀ l, Calls Tryz.prog 20 #[slV x2, slV x4] (w8.drewN l) fun e w' => e = .returned (.bool true) ∧ ∃ n, w' = (w8.drewN l).drewN n) := fun l => sameItems_any x2 x4 _ _ _ (w8.drewN l) bx ex
    obtain ⟨y1, y2, y3⟩ := x2
    obtain ⟨z1, z2, z3⟩ := x4
    simp only [slV] at b4 e4
    simp only at a0 a2 a3 d0 d2 d3 f2 f3 g0 g2'
    clear hr2 hit2 hc8 HC7 hA2 hans HH HM HI bx ex j1 j2 j3 j4 j5 j6 HA
    have q1 : IntKind.i64.wrap ((xs.length : Int) + 1) = (xs.length : Int) + 1 := wrap_small (by omega) (by omega)
    have q3 : IntKind.i64.wrap ((xs.length : Int) + 3 + (m.length : Int) + 3) = (xs.length : Int) + 3 + (m.length : Int) + 3 := wrap_small (by omega) (by omega)
    have q5 : IntKind.i64.wrap ((xs.length : Int) + 3 + (m.length : Int) + 5) = (xs.length : Int) + 3 + (m.length : Int) + 5 := wrap_small (by omega) (by omega)
    have z1 : (0 : Int) ≤ (xs.length : Int) + 1 := by omega
    have z2 : (0 : Int) ≤ (xs.length : Int) + 3 + (m.length : Int) := by omega
    have z3 : (0 : Int) ≤ (xs.length : Int) + 3 + (m.length : Int) + 3 := by omega
    have z5 : (0 : Int) ≤ (xs.length : Int) + 3 + (m.length : Int) + 5 := by omega
    have t1 : ((xs.length : Int) + 1).toNat = xs.length + 1 := by omega
    have t2 : ((xs.length : Int) + 3 + (m.length : Int)).toNat = xs.length + 3 + m.length := by omega
    have t3 : ((xs.length : Int) + 3 + (m.length : Int) + 3).toNat = xs.length + 3 + m.length + 3 := by omega
    have t5 : ((xs.length : Int) + 3 + (m.length : Int) + 5).toNat = xs.length + 3 + m.length + 5 := by omega
    have i1 : (xs.length : Int) + 1 < (xs.length : Int) + 3 + (m.length : Int) + 6 := by omega
    have i2 : (xs.length : Int) + 3 + (m.length : Int) < (xs.length : Int) + 3 + (m.length : Int) + 6 := by omega
    have i3 : (xs.length : Int) + 3 + (m.length : Int) + 3 < (xs.length : Int) + 3 + (m.length : Int) + 6 := by omega
    have i5 : (xs.length : Int) + 3 + (m.length : Int) + 5 < (xs.length : Int) + 3 + (m.length : Int) + 6 := by omega
    go_wp2_with fail
    go_quiet ((go_at_call 20; exact Calls.quiet_of (HS.out _)))
    go_wp2
    go_quiet (fail)
    go_wp2
    go_ret
    exact ⟨rfl, (HF.out.drewN _).drewN _⟩
end Go.Proofs.YtkfjafndplmdkaaGreat
