import Derived.Test.YtkfjafndplmdkaaGreatCC
namespace Go.Proofs.YtkfjafndplmdkaaGreat
open Go.RowKit Go.Sort
set_option maxRecDepth 100000 in
set_option maxHeartbeats 8000000 in
theorem cleaned_some {w : World} {b off cap : Nat} {xs : List OpM} (hops : OpsAt w b off xs) (hbl : b < w.heap.size) (hxo : ∀ o ∈ xs, o.ok) (hx : xs.length ≤ 1048576) (n : Int) (hni : isInt n) (hck : pickM n (xs.length + 1) < cap) :
    Calls Tryz.prog 12 #[.slice (some ⟨b, off, none⟩) xs.length cap, .int .i64 n] w fun e w' => e = .returned (.bool true) ∧ Chg nobody w w' := by
  obtain ⟨i0, hi, hz0, hz1, hz2⟩ := info_parts info30
  have HP := fun w => pick_any n (xs.length + 1) w hni (by omega) (by omega)
  have hkl := pickM_lt n (xs.length + 1) (by omega)
  generalize pickM n (xs.length + 1) = k at *
  have HA : Hid (OpsAt w b off xs ∧ b < w.heap.size ∧ ∀ o ∈ xs, o.ok) := ⟨hops, hbl, hxo⟩
  have hkc : (k : Int) ≤ (cap : Int) := by omega
  have hkx : (k : Int) ≤ (xs.length : Int) := by omega
  have lt : (opCells (xs.take k)).length = k * 5 := by rw [opCells_len, List.length_take]; congr 1; omega
  have ld : (opCells (xs.drop k)).length = (xs.length - k) * 5 := by rw [opCells_len, List.length_drop]
  have HCT : Hid (∀ wq, Chg nobody w wq → ∀ j u, (opCells (xs.take k))[j]? = some u → wq.cell? ((⟨b, off, none⟩ : Addr).add j) = some u) := fun wq hq j u hu => by
    rw [addr_plain, (bcell hq).1 _ _ hbl]
    exact ops_cells hops j u (opCells_take xs k j u hu)
  have HCD : Hid (∀ wq, Chg nobody w wq → ∀ j u, (opCells (xs.drop k))[j]? = some u → wq.cell? ((⟨b, off + k * 5, none⟩ : Addr).add j) = some u) := fun wq hq j u hu => by
    rw [addr_plain, (bcell hq).1 _ _ hbl, Nat.add_assoc]
    exact ops_cells hops _ u (opCells_drop xs k (by omega) j u hu)
  clear hops hbl hxo hni
  go_enter Tryz.func12, Tryz.ntmps12
  go_wp2_with (first
    | (go_at_call 24; refine (fencing_any _).mono ?_; rintro e w1 ⟨rfl, hc1⟩))
  refine Calls.mono (HP _) ?_
  rintro e w1 ⟨rfl, rfl⟩
  clear HP
  go_wp2_with (first
    | (at_builtin; refine wpList_append_own _ rfl _ _ 22 rfl w.heap.size 30 i0 (OpM.v ⟨0, 0, ⟨#[]⟩, ⟨#[]⟩, 0⟩) 5 56 Tryz.underlying22 hi hz0 hz1 hz2 rfl (by decide) _ _ _ rfl hown2 ⟨b, off + k * 5, none⟩ (xs.length - k) (cap - k) (opCells (xs.drop k)) rfl ld (HCD.out _ hc3) (opCells_one _) (by unfold maxLen; omega) (by omega) hc3.size ?_; intro v3 w4 hown3 hg4 _; have hc4 : Chg nobody w w4 := hc3.grown hg4 (fun q e => Or.inr (hown2.lt q e).1); go_frame)
    | (at_builtin; refine wpList_append_own _ rfl _ _ 22 rfl w.heap.size 30 i0 (OpM.v ⟨0, 0, ⟨#[]⟩, ⟨#[]⟩, 0⟩) 5 56 Tryz.underlying22 hi hz0 hz1 hz2 rfl (by decide) _ _ _ rfl (hown1.alloc _) ⟨w2.heap.size, 0, none⟩ 1 1 cOp.vals rfl rfl (cells_new w2 #[.int .i64 10, .int .i64 0, .string ⟨#[]⟩, .string ⟨#[]⟩, .int .i64 0] 30) (vals_one cOp) (by unfold maxLen; omega) (by omega) (by have := hc2.size; simp; omega) ?_; intro v2 w3 hown2 hg3 _; have hc3 : Chg nobody w w3 := (hc2.alloc _).grown hg3 (fun q e => Or.inr (hown1.lt q e).1); go_frame)
    | (at_builtin; refine wpList_append_own _ rfl _ _ 22 rfl w.heap.size 30 i0 (OpM.v ⟨0, 0, ⟨#[]⟩, ⟨#[]⟩, 0⟩) 5 56 Tryz.underlying22 hi hz0 hz1 hz2 rfl (by decide) (.slice none 0 0) 0 [] rfl (World.ownsRow_nil _ _ _ _) ⟨b, off, none⟩ k cap (opCells (xs.take k)) rfl lt (HCT.out _ hc1) (opCells_one _) (by unfold maxLen; omega) (by omega) hc1.size ?_; intro v1 w2 hown1 hg2 _; have hc2 : Chg nobody w w2 := hc1.grown hg2 (fun q e => by cases e); go_frame))
  have hs4 : w4.ownsRow w.heap.size 30 5 v3 (xs.take k ++ cOp :: xs.drop k).length (opCells (xs.take k ++ cOp :: xs.drop k)) := by
    have e1 : (xs.take k ++ cOp :: xs.drop k).length = 0 + k + 1 + (xs.length - k) := by simp; omega
    have e2 : opCells (xs.take k ++ cOp :: xs.drop k) = [] ++ opCells (xs.take k) ++ cOp.vals ++ opCells (xs.drop k) := by simp [opCells]
    rw [e1, e2]
    exact hown3
  have hlen1 : (xs.take k ++ cOp :: xs.drop k).length = xs.length + 1 := by simp; omega
  obtain ⟨ad4, c4, rfl⟩ := row_form hs4
  rw [hlen1] at hs4 ⊢
  have HS4 : Hid (SrcOps w4 (.slice ad4 (xs.length + 1) c4) (xs.take k ++ cOp :: xs.drop k) ∧ Chg nobody w w4) := ⟨src_of_row (by rw [hlen1]; exact hs4), hc4⟩
  have HOK : Hid (∀ o ∈ xs.take k ++ cOp :: xs.drop k, o.ok) := fun o ho => by
    rcases List.mem_append.1 ho with ho | ho
    · exact HA.out.2.2 o (List.mem_of_mem_take ho)
    · rcases List.mem_cons.1 ho with e | ho
      · rw [e]
        exact opOk (by unfold isInt; simp) (by unfold isInt; simp) (by simp [ByteArray.size, maxLen]) (by simp [ByteArray.size, maxLen])
      · exact HA.out.2.2 o (List.mem_of_mem_drop ho)
  clear hown1 hown2 hown3 hg2 hg3 hg4 hc1 hc2 hc3 hc4 hs4 lt ld HCT HCD
  obtain ⟨hops, hbl, hok⟩ := HA.out
  refine (run_any b off cap xs w4 (hops.chg HS4.out.2 hbl) (by have := HS4.out.2.size; omega) hok (by omega)).mono ?_
  rintro e w6 ⟨g, ca, sla, rfl, hra, hia, hc6⟩
  have HR := run_sl (HS4.out.1.chg hc6) HOK.out (by rw [hlen1]; omega) (xs.length + 1) hlen1.symm
  have H6 : Hid (w6.ownsRow w4.heap.size 36 7 (.slice (some ⟨g, 0, none⟩) xs.length ca) xs.length (ansCells (ansP p0 xs) sla) ∧ ItemsAt w6 w4.heap.size (ansP p0 xs) sla ∧ Chg nobody w w6) := ⟨hra, hia, HS4.out.2.trans hc6⟩
  clear hra hia hc6 hops hok
  obtain ⟨As, hAs⟩ : ∃ As, ansP p0 xs = As := ⟨_, rfl⟩
  have hAl : As.length = xs.length := by rw [← hAs]; exact ansP_len _ _
  rw [hAs] at H6
  have HAs : Hid (ansP p0 xs = As) := hAs
  clear hAs
  go_wp2_with fail
  refine HR.mono ?_
  rintro e w8 ⟨g', cb, slb, rfl, hrb, hib, hc8⟩
  clear HR
  have hra8 := row_new H6.out.1 hc8
  have hia8 : ItemsAt w8 w4.heap.size As sla := H6.out.2.1.keep hc8 (fun _ _ _ _ _ _ h => h)
  have HF : Hid (Chg nobody w w8) := H6.out.2.2.trans hc8
  have HXS : Hid (OpsAt w8 b off xs) := HA.out.1.chg HF.out hbl
  -- the answers of the one
  have HD1 : Hid (∀ i (h : i < xs.length), ∃ dx cx, w8.cell? ⟨g, i * 7 + 5, none⟩ = some (.slice dx (As[i]'(by omega)).done.length cx) ∧ w8.ownsRow w4.heap.size 44 3 (.slice dx (As[i]'(by omega)).done.length cx) (As[i]'(by omega)).done.length (decCells (As[i]'(by omega)).done)) := fun i h => by
    have l1 : i < As.length := by omega
    have p1 := ans_cells hia8.1 hra8 i l1
    have i1 := (hia8.at i l1).2.1
    obtain ⟨dx, cx, hdx⟩ := row_form i1
    rw [hdx] at p1 i1
    exact ⟨dx, cx, p1.2.2.2.2.2, i1⟩
  have HDB : Hid (∀ i (h : i < xs.length), (As[i]'(by omega)).done.length ≤ 9223372036854775807) := fun i h => by
    have := row_small (hia8.at i (by omega)).2.1
    unfold maxLen at this
    omega
  -- both
  have HC : Hid (∀ i jj (h : i < xs.length), (ansP p0 (xs.take k ++ cOp :: xs.drop k))[jj]? = As[i]? → ∀ W : World, (∃ m, W = w8.drewN m) → ∃ (A : AnsM) (x y : Sl) (dx dy : Option Addr) (cx cy : Nat), A = As[i]'(by omega) ∧
      (W.cell? ⟨g, i * 7, none⟩ = some (.int .i64 A.code) ∧ W.cell? ⟨g, i * 7 + 1, none⟩ = some (.int .i64 A.number) ∧ W.cell? ⟨g, i * 7 + 2, none⟩ = some (.bool A.found) ∧ W.cell? ⟨g, i * 7 + 3, none⟩ = some (.string A.value) ∧ W.cell? ⟨g, i * 7 + 4, none⟩ = some (slV x) ∧ W.cell? ⟨g, i * 7 + 5, none⟩ = some (.slice dx A.done.length cx)) ∧
      (W.cell? ⟨g', jj * 7, none⟩ = some (.int .i64 A.code) ∧ W.cell? ⟨g', jj * 7 + 1, none⟩ = some (.int .i64 A.number) ∧ W.cell? ⟨g', jj * 7 + 2, none⟩ = some (.bool A.found) ∧ W.cell? ⟨g', jj * 7 + 3, none⟩ = some (.string A.value) ∧ W.cell? ⟨g', jj * 7 + 4, none⟩ = some (slV y) ∧ W.cell? ⟨g', jj * 7 + 5, none⟩ = some (.slice dy A.done.length cy)) ∧
      (∀ l, Calls Tryz.prog 20 #[slV x, slV y] (W.drewN l) fun e w' => e = .returned (.bool true) ∧ ∃ n, w' = (W.drewN l).drewN n) ∧
      w8.ownsRow w4.heap.size 44 3 (.slice dx A.done.length cx) A.done.length (decCells A.done) ∧ w8.ownsRow w6.heap.size 44 3 (.slice dy A.done.length cy) A.done.length (decCells A.done)) := fun i jj h he W hW => by
    obtain ⟨m, rfl⟩ := hW
    have l1 : i < As.length := by omega
    obtain ⟨x, p0', p1, p2, p3, p4, p5, _, pr⟩ := ans_at7 hia8 hra8 i As[i] (List.getElem?_eq_getElem l1)
    obtain ⟨y, q0', q1, q2, q3, q4, q5, _, qr⟩ := ans_at7 hib hrb jj As[i] (he.trans (List.getElem?_eq_getElem l1))
    obtain ⟨dx, cx, hdx⟩ := row_form pr.2.1
    obtain ⟨dy, cy, hdy⟩ := row_form qr.2.1
    have r1 := pr.2.1
    have r2 := qr.2.1
    rw [hdx] at p5 r1
    rw [hdy] at q5 r2
    exact ⟨As[i], x.1, y.1, dx, dy, cx, cy, rfl, ⟨p0', p1, p2, p3, p4, p5⟩, ⟨q0', q1, q2, q3, q4, q5⟩, fun l => sameItems_any _ _ _ _ _ ((w8.drewN m).drewN l) pr.1 qr.1, r1, r2⟩
  have HANS : Hid (noRoom As → (∀ i, i < k → (ansP p0 (xs.take k ++ cOp :: xs.drop k))[i]? = As[i]?) ∧ ∀ i (h : i < xs.length), k ≤ i → xs[i].kind ≠ 10 → xs[i].kind ≠ 11 → (ansP p0 (xs.take k ++ cOp :: xs.drop k))[i + 1]? = As[i]?) := fun hn => by
    rw [← HAs.out] at hn ⊢
    have htk : (xs.take k).length = k := by simp; omega
    have h1 := cleaned_ans (xs.take k) (xs.drop k) (by rw [List.take_append_drop]; exact hn)
    rw [List.take_append_drop, htk] at h1
    refine ⟨h1.1, fun i h hki h10 h11 => ?_⟩
    have h2 := h1.2 (i - k) (by simp; omega) (by simpa [show k + (i - k) = i by omega] using h10) (by simpa [show k + (i - k) = i by omega] using h11)
    rw [show k + 1 + (i - k) = i + 1 by omega, show k + (i - k) = i by omega] at h2
    exact h2
  clear hrb hib hc8 hra8 hia8 H6 HS4 HOK HA
  go_wp2
  go_loopw [10] (fun iv wq => ∃ i : Nat, i ≤ xs.length ∧ iv = .int .i64 i ∧ Hid (noRoom (As.take i)) ∧ wq = w8) (fun iv _ => xs.length - (intOf iv).toNat)
  case atStart => exact ⟨0, Nat.zero_le _, rfl, by intro A hA; simp at hA, rfl⟩
  case round =>
    obtain ⟨i, hiL, rfl, HN, hwr⟩ := hrel
    replace hwr := hwr.symm
    subst hwr
    by_cases hil : i < xs.length
    · obtain ⟨dx, cx, a5, hdx⟩ := HD1.out i hil
      have hiA : i < As.length := by omega
      have HT : Hid (As.take (i + 1) = As.take i ++ [As[i]]) := List.take_succ_eq_append_getElem hiA
      have hd100 := HDB.out i hil
      have HDX : Hid (w8.ownsRow w4.heap.size 44 3 (.slice dx As[i].done.length cx) As[i].done.length (decCells As[i].done)) := hdx
      clear hdx
      generalize hAi : As[i] = A at *
      clear hAi
      go_wp2
      go_loopw [11] (fun jv wq => ∃ r : Nat, r ≤ A.done.length ∧ jv = .int .i64 r ∧ Hid (∀ d ∈ A.done.take r, d.code ≠ 10) ∧ wq = w8) (fun jv _ => A.done.length - (intOf jv).toNat)
      case atStart => exact ⟨0, Nat.zero_le _, rfl, by intro d hd; simp at hd, rfl⟩
      case round =>
        obtain ⟨r, hrL, rfl, HM, hwr2⟩ := hrel
        replace hwr2 := hwr2.symm
        subst hwr2
        by_cases hrl : r < A.done.length
        · obtain ⟨gd, rfl, _, _, _, _⟩ := row_open HDX.out (by omega)
          obtain ⟨_, d1, _⟩ := dec_at2 HDX.out r hrl
          have HTr : Hid (A.done.take (r + 1) = A.done.take r ++ [A.done[r]]) := List.take_succ_eq_append_getElem hrl
          by_cases hc10 : A.done[r].code = 10
          · have hcb : (A.done[r].code == 10) = true := beq_iff_eq.2 hc10
            go_wp2
            go_ret
            exact ⟨rfl, HF.out⟩
          · have hcb : (A.done[r].code == 10) = false := beq_eq_false_iff_ne.2 hc10
            have HM2 : Hid (∀ d ∈ A.done.take (r + 1), d.code ≠ 10) := fun d hd => by
              rw [HTr.out] at hd
              rcases List.mem_append.1 hd with hd | hd
              · exact HM.out d hd
              · rw [List.mem_singleton.1 hd]; exact hc10
            clear hc10
            go_wp2
            go_roundw
            case rel => exact ⟨r + 1, by omega, by go_num, HM2.out, trivial⟩
            case measure => simp [intOf]; omega
        · have hre : r = A.done.length := by omega
          subst hre
          have HN2 : Hid (noRoom (As.take (i + 1))) := fun X hX d hd => by
            rw [HT.out] at hX
            rcases List.mem_append.1 hX with hX | hX
            · exact HN.out X hX d hd
            · rw [List.mem_singleton.1 hX] at hd
              exact HM.out d (by rw [List.take_length]; exact hd)
          go_wp2
          go_roundw
          case rel => exact ⟨i + 1, by omega, by go_num, HN2.out, trivial⟩
          case measure => simp [intOf]; omega
    · have hie : i = xs.length := by omega
      subst hie
      have hnr : noRoom As := by
        have := HN.out
        rw [← hAl, List.take_length] at this
        exact this
      obtain ⟨hans1, hans2⟩ := HANS.out hnr
      have HANS2 : Hid ((∀ i, i < k → (ansP p0 (xs.take k ++ cOp :: xs.drop k))[i]? = As[i]?) ∧ ∀ i (h : i < xs.length), k ≤ i → xs[i].kind ≠ 10 → xs[i].kind ≠ 11 → (ansP p0 (xs.take k ++ cOp :: xs.drop k))[i + 1]? = As[i]?) := ⟨hans1, hans2⟩
      clear hans1 hans2 hnr HN HANS
      go_wp2
      go_loopw [12] (fun iv wq => ∃ i : Nat, i ≤ xs.length ∧ iv = .int .i64 i ∧ Hid (∃ q, wq = w8.drewN q)) (fun iv _ => xs.length - (intOf iv).toNat)
      case atStart => exact ⟨0, Nat.zero_le _, rfl, ⟨0, rfl⟩⟩
      case round =>
        obtain ⟨i, hiL2, rfl, HW⟩ := hrel
        by_cases hil : i < xs.length
        · have o0 : wr.cell? ⟨b, off + i * 5, none⟩ = some (.int .i64 xs[i].kind) := by
            obtain ⟨m, hm⟩ := HW.out
            rw [hm]
            exact (HXS.out i hil).1
          have hjo : (i : Int) < (xs.length : Int) + 1 := by omega
          by_cases hik : k ≤ i
          · have HEQ0 : Hid (xs[i].kind ≠ 10 → xs[i].kind ≠ 11 → (ansP p0 (xs.take k ++ cOp :: xs.drop k))[i + 1]? = As[i]?) := fun h1 h2 => HANS2.out.2 i hil hik h1 h2
            have hge : (k : Int) ≤ (i : Int) := by omega
            have w1' : IntKind.i64.wrap ((i : Int) + 1) = (i : Int) + 1 := wrap_small (by omega) (by omega)
            have w2' : (0 : Int) ≤ (i : Int) + 1 := by omega
            have w3' : (i : Int) + 1 < (xs.length : Int) + 1 := by omega
            have w4' : ((i : Int) + 1).toNat = i + 1 := by omega
            by_cases h11 : xs[i].kind = 11
            · have hb11 : (xs[i].kind == 11) = true := beq_iff_eq.2 h11
              generalize xs[i].kind = kd at *
              go_wp2
              go_roundw
              case rel => exact ⟨i + 1, by omega, by go_num, HW.out⟩
              case measure => simp [intOf]; omega
            by_cases h10 : xs[i].kind = 10
            · have hb11 : (xs[i].kind == 11) = false := beq_eq_false_iff_ne.2 h11
              have hb10 : (xs[i].kind == 10) = true := beq_iff_eq.2 h10
              generalize xs[i].kind = kd at *
              go_wp2
              go_roundw
              case rel => exact ⟨i + 1, by omega, by go_num, HW.out⟩
              case measure => simp [intOf]; omega
            · as_aux_lemma =>
                have hb11 : (xs[i].kind == 11) = false := beq_eq_false_iff_ne.2 h11
                have hb10 : (xs[i].kind == 10) = false := beq_eq_false_iff_ne.2 h10
                have HEQ := HEQ0.out h10 h11
                clear HEQ0 h10 h11
                generalize xs[i].kind = kd at *
                obtain ⟨A, x, y, dx, dy, cx, cy, hAi, ⟨a0, a1, a2, a3, a4, a5⟩, ⟨b0, b1, b2, b3, b4, b5⟩, hs, hdx, hdy⟩ := HC.out i (i + 1) hil HEQ wr HW.out
                have hdb := HDB.out i hil
                rw [← hAi] at hdb
                have HS : Hid (∀ l, Calls Tryz.prog 20 #[slV x, slV y] (wr.drewN l) fun e w' => e = .returned (.bool true) ∧ ∃ n, w' = (wr.drewN l).drewN n) := hs
                have HDX : Hid (w8.ownsRow w4.heap.size 44 3 (.slice dx A.done.length cx) A.done.length (decCells A.done) ∧ w8.ownsRow w6.heap.size 44 3 (.slice dy A.done.length cy) A.done.length (decCells A.done)) := ⟨hdx, hdy⟩
                have HA5 : Hid (∀ W, (∃ m, W = w8.drewN m) → W.cell? ⟨g, i * 7 + 5, none⟩ = some (.slice dx A.done.length cx) ∧ W.cell? ⟨g', (i + 1) * 7 + 5, none⟩ = some (.slice dy A.done.length cy)) := fun W hW => by
                  obtain ⟨m, hm⟩ := hW
                  obtain ⟨m', hm'⟩ := HW.out
                  rw [hm'] at a5 b5
                  rw [hm]
                  exact ⟨a5, b5⟩
                clear hs hdx hdy hAi
                obtain ⟨code, number, found, value, items, done, sums⟩ := A
                simp only at a0 a1 a2 a3 a5 b0 b1 b2 b3 b5 HDX HA5 hdb
                obtain ⟨x1, x2, x3⟩ := x
                obtain ⟨y1, y2, y3⟩ := y
                simp only [slV] at a4 b4 HS
                go_wp2_with fail
                go_quiet ((go_at_call 20; exact Calls.quiet_of (HS.out _)))
                go_wp2
                go_quiet (fail)
                have HW1 : Hid (∀ n, ∃ m, wr.drewN n = w8.drewN m) := fun n => drew_ex HW.out n
                have HW3 : Hid (∀ n n', ∃ m, (wr.drewN n).drewN n' = w8.drewN m) := fun n n' => drew_ex (drew_ex HW.out n) n'
                go_wp2
                go_loopw [15] (fun nv wq => ∃ r : Nat, r ≤ done.length ∧ nv = .int .i64 r ∧ Hid (∃ q, wq = w8.drewN q)) (fun nv _ => done.length - (intOf nv).toNat)
                case atStart => exact ⟨0, Nat.zero_le _, rfl, by first | exact HW3.out _ _ | exact HW1.out _⟩
                case round =>
                  obtain ⟨r, hrL, rfl, HW2⟩ := hrel
                  obtain ⟨f5x, f5y⟩ := HA5.out wr HW2.out
                  by_cases hrl : r < done.length
                  · obtain ⟨gx, rfl, _, _, _, _⟩ := row_open HDX.out.1 (by omega)
                    obtain ⟨gy, rfl, _, _, _, _⟩ := row_open HDX.out.2 (by omega)
                    obtain ⟨u0, u1, u2⟩ := dec_at2 HDX.out.1 r hrl
                    obtain ⟨s0, s1, s2⟩ := dec_at2 HDX.out.2 r hrl
                    have hdr : ∀ gg ii, wr.cell? ⟨gg, ii, none⟩ = w8.cell? ⟨gg, ii, none⟩ := fun gg ii => by obtain ⟨m, hm⟩ := HW2.out; rw [hm]; rfl
                    rw [← hdr] at u0 u1 u2 s0 s1 s2
                    clear hdr
                    generalize done[r] = d at *
                    go_wp2
                    go_quiet (fail)
                    have HW4 : Hid (∀ n, ∃ m, wr.drewN n = w8.drewN m) := fun n => drew_ex HW2.out n
                    go_wp2
                    go_roundw
                    case rel => exact ⟨r + 1, by omega, by go_num, HW4.out _⟩
                    case measure => simp [intOf]; omega
                  · have hre : r = done.length := by omega
                    subst hre
                    go_wp2
                    go_roundw
                    case rel => exact ⟨i + 1, by omega, by go_num, HW2.out⟩
                    case measure => simp [intOf]; omega
          · have HEQ0 : Hid (xs[i].kind ≠ 10 → xs[i].kind ≠ 11 → (ansP p0 (xs.take k ++ cOp :: xs.drop k))[i]? = As[i]?) := fun _ _ => HANS2.out.1 i (by omega)
            have hge : ¬ ((k : Int) ≤ (i : Int)) := by omega
            have hgd : decide ((k : Int) ≤ (i : Int)) = false := decide_eq_false hge
            clear hge
            by_cases h11 : xs[i].kind = 11
            · have hb11 : (xs[i].kind == 11) = true := beq_iff_eq.2 h11
              generalize xs[i].kind = kd at *
              go_wp2
              go_roundw
              case rel => exact ⟨i + 1, by omega, by go_num, HW.out⟩
              case measure => simp [intOf]; omega
            by_cases h10 : xs[i].kind = 10
            · have hb11 : (xs[i].kind == 11) = false := beq_eq_false_iff_ne.2 h11
              have hb10 : (xs[i].kind == 10) = true := beq_iff_eq.2 h10
              generalize xs[i].kind = kd at *
              go_wp2
              go_roundw
              case rel => exact ⟨i + 1, by omega, by go_num, HW.out⟩
              case measure => simp [intOf]; omega
            · as_aux_lemma =>
                have hb11 : (xs[i].kind == 11) = false := beq_eq_false_iff_ne.2 h11
                have hb10 : (xs[i].kind == 10) = false := beq_eq_false_iff_ne.2 h10
                have HEQ := HEQ0.out h10 h11
                clear HEQ0 h10 h11
                generalize xs[i].kind = kd at *
                obtain ⟨A, x, y, dx, dy, cx, cy, hAi, ⟨a0, a1, a2, a3, a4, a5⟩, ⟨b0, b1, b2, b3, b4, b5⟩, hs, hdx, hdy⟩ := HC.out i (i) hil HEQ wr HW.out
                have hdb := HDB.out i hil
                rw [← hAi] at hdb
                have HS : Hid (∀ l, Calls Tryz.prog 20 #[slV x, slV y] (wr.drewN l) fun e w' => e = .returned (.bool true) ∧ ∃ n, w' = (wr.drewN l).drewN n) := hs
                have HDX : Hid (w8.ownsRow w4.heap.size 44 3 (.slice dx A.done.length cx) A.done.length (decCells A.done) ∧ w8.ownsRow w6.heap.size 44 3 (.slice dy A.done.length cy) A.done.length (decCells A.done)) := ⟨hdx, hdy⟩
                have HA5 : Hid (∀ W, (∃ m, W = w8.drewN m) → W.cell? ⟨g, i * 7 + 5, none⟩ = some (.slice dx A.done.length cx) ∧ W.cell? ⟨g', (i) * 7 + 5, none⟩ = some (.slice dy A.done.length cy)) := fun W hW => by
                  obtain ⟨m, hm⟩ := hW
                  obtain ⟨m', hm'⟩ := HW.out
                  rw [hm'] at a5 b5
                  rw [hm]
                  exact ⟨a5, b5⟩
                clear hs hdx hdy hAi
                obtain ⟨code, number, found, value, items, done, sums⟩ := A
                simp only at a0 a1 a2 a3 a5 b0 b1 b2 b3 b5 HDX HA5 hdb
                obtain ⟨x1, x2, x3⟩ := x
                obtain ⟨y1, y2, y3⟩ := y
                simp only [slV] at a4 b4 HS
                go_wp2_with fail
                go_quiet ((go_at_call 20; exact Calls.quiet_of (HS.out _)))
                go_wp2
                go_quiet (fail)
                have HW1 : Hid (∀ n, ∃ m, wr.drewN n = w8.drewN m) := fun n => drew_ex HW.out n
                have HW3 : Hid (∀ n n', ∃ m, (wr.drewN n).drewN n' = w8.drewN m) := fun n n' => drew_ex (drew_ex HW.out n) n'
                go_wp2
                go_loopw [15] (fun nv wq => ∃ r : Nat, r ≤ done.length ∧ nv = .int .i64 r ∧ Hid (∃ q, wq = w8.drewN q)) (fun nv _ => done.length - (intOf nv).toNat)
                case atStart => exact ⟨0, Nat.zero_le _, rfl, by first | exact HW3.out _ _ | exact HW1.out _⟩
                case round =>
                  obtain ⟨r, hrL, rfl, HW2⟩ := hrel
                  obtain ⟨f5x, f5y⟩ := HA5.out wr HW2.out
                  by_cases hrl : r < done.length
                  · obtain ⟨gx, rfl, _, _, _, _⟩ := row_open HDX.out.1 (by omega)
                    obtain ⟨gy, rfl, _, _, _, _⟩ := row_open HDX.out.2 (by omega)
                    obtain ⟨u0, u1, u2⟩ := dec_at2 HDX.out.1 r hrl
                    obtain ⟨s0, s1, s2⟩ := dec_at2 HDX.out.2 r hrl
                    have hdr : ∀ gg ii, wr.cell? ⟨gg, ii, none⟩ = w8.cell? ⟨gg, ii, none⟩ := fun gg ii => by obtain ⟨m, hm⟩ := HW2.out; rw [hm]; rfl
                    rw [← hdr] at u0 u1 u2 s0 s1 s2
                    clear hdr
                    generalize done[r] = d at *
                    go_wp2
                    go_quiet (fail)
                    have HW4 : Hid (∀ n, ∃ m, wr.drewN n = w8.drewN m) := fun n => drew_ex HW2.out n
                    go_wp2
                    go_roundw
                    case rel => exact ⟨r + 1, by omega, by go_num, HW4.out _⟩
                    case measure => simp [intOf]; omega
                  · have hre : r = done.length := by omega
                    subst hre
                    go_wp2
                    go_roundw
                    case rel => exact ⟨i + 1, by omega, by go_num, HW2.out⟩
                    case measure => simp [intOf]; omega
        · have hie2 : i = xs.length := by omega
          subst hie2
          go_wp2
          go_ret
          obtain ⟨m, hm⟩ := HW.out
          refine ⟨rfl, ?_⟩
          rw [hm]
          exact HF.out.drewN m
end Go.Proofs.YtkfjafndplmdkaaGreat
