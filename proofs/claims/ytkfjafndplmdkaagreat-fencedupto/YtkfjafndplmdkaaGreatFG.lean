import Derived.Test.YtkfjafndplmdkaaGreatFC
import Derived.Test.YtkfjafndplmdkaaGreatFF
namespace Go.Proofs.YtkfjafndplmdkaaGreat
open Go.RowKit Go.Sort
/-- the PUTs that Fenced makes: one for each number that a BEGIN was told. -/
def putB (p : OpM × AnsM) : Bool := p.2.code == 0 && p.1.kind == 1
def putsM (l : List (OpM × AnsM)) : List OpM := (l.filter putB).map (fun p => putOp p.2.number ⟨#[97]⟩ ⟨#[]⟩)
theorem putsM_take (l : List (OpM × AnsM)) (j : Nat) (h : j < l.length) : putsM (l.take (j + 1)) = putsM (l.take j) ++ (if putB l[j] then [putOp l[j].2.number ⟨#[97]⟩ ⟨#[]⟩] else []) := by
  unfold putsM
  rw [List.take_succ_eq_append_getElem h, List.filter_append, List.map_append]
  congr 1
  cases hb : putB l[j] <;> simp [hb]
theorem putsM_len (l : List (OpM × AnsM)) : (putsM l).length ≤ l.length := by
  unfold putsM
  rw [List.length_map]
  exact List.length_filter_le _ _
theorem puts_of {xs : List OpM} : ∀ o ∈ putsM (xs.zip (ansP p0 xs)), ∃ n, o = putOp n ⟨#[97]⟩ ⟨#[]⟩ ∧ 1 ≤ n ∧ n ≤ (stP p0 xs).clock := fun o ho => by
  obtain ⟨p, hp, rfl⟩ := List.mem_map.1 ho
  obtain ⟨hp, hb⟩ := List.mem_filter.1 hp
  obtain ⟨i, hi, rfl⟩ := List.getElem_of_mem hp
  have hix : i < xs.length := by simp at hi; omega
  simp only [List.getElem_zip] at hb ⊢
  simp [putB] at hb
  exact ⟨_, rfl, nums_le xs p0 (by simp [p0]) i hix hb.2 hb.1⟩
theorem puts_sub {l : List (OpM × AnsM)} {j : Nat} : ∀ o ∈ putsM (l.take j), o ∈ putsM l := fun o ho => by
  obtain ⟨p, hp, rfl⟩ := List.mem_map.1 ho
  obtain ⟨hp, hb⟩ := List.mem_filter.1 hp
  exact List.mem_map.2 ⟨p, List.mem_filter.2 ⟨List.mem_of_mem_take hp, hb⟩, rfl⟩
theorem okPut {n : Int} (h1 : 1 ≤ n) (h2 : n ≤ 10000001) : OpM.ok (putOp n ⟨#[97]⟩ ⟨#[]⟩) := opOk (by unfold isInt; simp) (by unfold isInt; omega) (by simp [ByteArray.size, maxLen]) (by simp [ByteArray.size, maxLen])
theorem okS : OpM.ok sumOp := opOk (by unfold isInt; simp) (by unfold isInt; simp) (by simp [ByteArray.size, maxLen]) (by simp [ByteArray.size, maxLen])
set_option maxRecDepth 100000 in
set_option maxHeartbeats 8000000 in
theorem fenced_walk {w : World} {ad : Option Addr} {cap : Nat} {xs : List OpM} (hA : SrcOps w (.slice ad xs.length cap) xs) (hxo : ∀ o ∈ xs, o.ok) (hx : xs.length ≤ 1048576) :
    Calls Tryz.prog 11 #[.slice ad xs.length cap] w fun e w' => e = .returned (.bool true) ∧ Chg nobody w w' := by
  have HA : Hid (SrcOps w (.slice ad xs.length cap) xs ∧ ∀ o ∈ xs, o.ok) := ⟨hA, hxo⟩
  clear hA hxo
  go_enter Tryz.func11, Tryz.ntmps11
  go_wp2_with (first
    | (go_at_call 24; refine (fencing_any _).mono ?_; rintro e w2 ⟨rfl, hc2⟩))
  refine (with_sl (xs := xs) (ys := [fOp, sumOp, bOp]) (HA.out.1.chg (hc2.alloc _)) (src_block (heap_new rfl) rfl rfl) (by omega) (by simp) (xs.length + 3) (by simp)).mono ?_
  rintro e w3 ⟨ad3, c3, rfl, hs3, hc3⟩
  have HO3 : Hid (∀ o ∈ xs ++ [fOp, sumOp, bOp], o.ok) := fun o ho => by
    rcases List.mem_append.1 ho with ho | ho
    · exact HA.out.2 o ho
    · simp only [List.mem_cons, List.not_mem_nil, or_false] at ho
      rcases ho with rfl | rfl | rfl
      · exact okF
      · exact okS
      · exact okB
  obtain ⟨a1, t, Ln, ht, eA, Am, I, a3, hAm, hAe, eB⟩ := fenced_ans xs (putsM (xs.zip (ansP p0 xs))) (fun o ho => by
    obtain ⟨n, h1, _, h3⟩ := puts_of o ho
    exact ⟨n, h1, h3⟩)
  have hcl := clock_lo xs (by omega)
  have HP : Hid (∀ o ∈ putsM (xs.zip (ansP p0 xs)), o.ok) := fun o ho => by
    obtain ⟨n, rfl, h2, h3⟩ := puts_of o ho
    exact okPut h2 (by omega)
  have HT : Hid (1 ≤ t ∧ t ≤ 10000001) := ⟨by omega, by omega⟩
  have HR := run_sl hs3 HO3.out (by simp; omega) (xs.length + 3) (by simp)
  have HC3 : Hid (Chg nobody w w3) := (hc2.alloc _).trans hc3
  have HEB : Hid (Am.length = (putsM (xs.zip (ansP p0 xs))).length ∧ (∀ A ∈ Am, A = errA 2) ∧ ansP p0 (((xs ++ [fOp, sumOp, bOp]) ++ putsM (xs.zip (ansP p0 xs))) ++ [sOp t ⟨#[]⟩, fluOp 9, fOp, bOp, sOp (t + 1) ⟨#[]⟩]) =
      (ansP p0 xs ++ [a1, ⟨0, 0, false, ⟨#[]⟩, [], [], [Ln, 0, 0, 0, (stP p0 xs).clock, (stP p0 xs).clock]⟩, ⟨0, t, false, ⟨#[]⟩, [], [], []⟩]) ++ (Am ++ [⟨0, 0, false, ⟨#[]⟩, I, [], []⟩, errA 0, a3, ⟨0, t + 1, false, ⟨#[]⟩, [], [], []⟩, ⟨0, 0, false, ⟨#[]⟩, I, [], []⟩])) := ⟨hAm, hAe, eB⟩
  clear hc2 hc3 ht hcl hAm hAe eB hs3
  go_wp2_with fail
  refine HR.mono ?_
  rintro e w4 ⟨g, cg, sl, rfl, hr, hit, hc4⟩
  clear HR
  have HC4 : Hid (Chg nobody w w4) := HC3.out.trans hc4
  rw [eA] at hr hit
  obtain ⟨x1, _, _, _, _, _, _, b1, hro⟩ := ans_at7 hit hr (xs.length + 1) _ (idx7 _ _ xs.length 1 (ansP_len _ _))
  obtain ⟨_, b2, b3, _, _, _, _, _, _⟩ := ans_at7 hit hr (xs.length + 2) _ (idx7 _ _ xs.length 2 (ansP_len _ _))
  obtain ⟨gs, cs, es, hgs, k1, k2, k3, k4, k5⟩ := six_sums hro.2.2
  rw [es] at b1
  simp only at b2 b3
  have HK : Hid (gs < w4.heap.size ∧ w4.cell? ⟨gs, 1, none⟩ = some (.int .i64 0) ∧ w4.cell? ⟨gs, 2, none⟩ = some (.int .i64 0) ∧ w4.cell? ⟨gs, 3, none⟩ = some (.int .i64 0) ∧ w4.cell? ⟨gs, 4, none⟩ = some (.int .i64 (stP p0 xs).clock) ∧ w4.cell? ⟨gs, 5, none⟩ = some (.int .i64 (stP p0 xs).clock)) := ⟨hgs, k1, k2, k3, k4, k5⟩
  have HAN : Hid (∀ wq, Chg nobody w4 wq → ∀ i (h : i < xs.length), wq.cell? ⟨g, i * 7, none⟩ = some (.int .i64 ((ansP p0 xs)[i]'(by rw [ansP_len]; exact h)).code) ∧ wq.cell? ⟨g, i * 7 + 1, none⟩ = some (.int .i64 ((ansP p0 xs)[i]'(by rw [ansP_len]; exact h)).number)) := fun wq hq i h => by
    have hi : i < (ansP p0 xs).length := by rw [ansP_len]; exact h
    obtain ⟨_, c0, c1, _, _, _, _, _, _⟩ := ans_at7 hit hr i (ansP p0 xs)[i] (by rw [List.getElem?_append_left hi]; exact List.getElem?_eq_getElem hi)
    have hg := lt_of_cell c0
    exact ⟨((bcell hq).1 _ _ hg).trans c0, ((bcell hq).1 _ _ hg).trans c1⟩
  clear hr hit hc4 hro es hgs k1 k2 k3 k4 k5 eA
  go_wp2_with fail
  refine (with_sl (xs := xs) (ys := [fOp, sumOp, bOp]) (HA.out.1.chg (HC4.out.alloc _)) (src_block (heap_new rfl) rfl rfl) (by omega) (by simp) (xs.length + 3) (by simp)).mono ?_
  rintro e w5 ⟨ad5, c5, rfl, hs5, hc5⟩
  have HS5 : Hid (SrcOps w5 (.slice ad5 (xs.length + 3) c5) (xs ++ [fOp, sumOp, bOp])) := hs5
  have HC5 : Hid (Chg nobody w4 w5) := ((Chg.refl _ _).alloc _).trans hc5
  clear hs5 hc5 b1 b2 b3
  go_wp2
  go_loopw [8, 9] (fun sv iv wq => ∃ (j : Nat) (ad' : Option Addr) (c' : Nat), j ≤ xs.length ∧ iv = .int .i64 j ∧ sv = .slice ad' (xs.length + 3 + (putsM ((xs.zip (ansP p0 xs)).take j)).length) c' ∧ Hid (SrcOps wq (.slice ad' (xs.length + 3 + (putsM ((xs.zip (ansP p0 xs)).take j)).length) c') ((xs ++ [fOp, sumOp, bOp]) ++ putsM ((xs.zip (ansP p0 xs)).take j)) ∧ Chg nobody w4 wq)) (fun _ iv _ => xs.length - (intOf iv).toNat)
  case atStart => exact ⟨0, ad5, c5, Nat.zero_le _, rfl, rfl, ⟨by simpa [putsM] using HS5.out, HC5.out⟩⟩
  case round =>
    obtain ⟨j, ad', c', hj, rfl, rfl, HL⟩ := hrel
    by_cases hlt : j < xs.length
    · rcases HA.out.1.at with e | ⟨b, off, cap', e, hcap, hops, hbl⟩
      · rw [e] at hlt
        simp at hlt
      · cases e
        obtain ⟨o0, _, _, _, _⟩ := hops j hlt
        replace o0 := ((bcell (HC4.out.trans HL.out.2)).1 _ _ hbl).trans o0
        obtain ⟨c0, c1⟩ := HAN.out wr HL.out.2 j hlt
        have hz : j < (xs.zip (ansP p0 xs)).length := by rw [List.length_zip, ansP_len]; omega
        have HPT := putsM_take (xs.zip (ansP p0 xs)) j hz
        rw [List.getElem_zip] at HPT
        have hpl := putsM_len ((xs.zip (ansP p0 xs)).take j)
        have hpl2 : ((xs.zip (ansP p0 xs)).take j).length ≤ j := List.length_take_le _ _
        have HOK : Hid (∀ o ∈ putsM ((xs.zip (ansP p0 xs)).take (j + 1)), o.ok) := fun o ho => HP.out o (puts_sub o ho)
        clear hops hcap
        generalize (ansP p0 xs)[j]'(by rw [ansP_len]; exact hlt) = A at *
        generalize xs[j] = o at *
        have HPTT : Hid (putsM ((xs.zip (ansP p0 xs)).take (j + 1)) = putsM ((xs.zip (ansP p0 xs)).take j) ++ (if putB (o, A) = true then [putOp A.number ⟨#[97]⟩ ⟨#[]⟩] else [])) := HPT
        clear HPT
        generalize hps : putsM ((xs.zip (ansP p0 xs)).take j) = ps at *
        have HPS : Hid (putsM ((xs.zip (ansP p0 xs)).take j) = ps) := hps
        clear hps
        by_cases hc : A.code = 0
        · have hcb : (A.code == 0) = true := beq_iff_eq.2 hc
          by_cases hk : o.kind = 1
          · have hkb : (o.kind == 1) = true := beq_iff_eq.2 hk
            have HN : Hid (putsM ((xs.zip (ansP p0 xs)).take (j + 1)) = ps ++ [putOp A.number ⟨#[97]⟩ ⟨#[]⟩]) := by
              have h1 := HPTT.out
              rw [if_pos (by simp [putB, hc, hk])] at h1
              exact h1
            clear hc hk HPTT
            go_wp2_with (first
              | (go_at_call 19; refine (op_any _ _ _ _ _).mono ?_; rintro e w' ⟨rfl, rfl⟩)
              | (go_at_call 17; refine (with_sl (xs := (xs ++ [fOp, sumOp, bOp]) ++ ps) (ys := [putOp A.number ⟨#[97]⟩ ⟨#[]⟩]) (HL.out.1.chg (((Chg.refl _ _).alloc _).alloc _)) (src_block (heap_new (by simp)) rfl rfl) (by simp; omega) (by simp) (xs.length + 3 + (ps.length + 1)) (by simp; omega)).mono ?_; rintro e w7 ⟨ad7, c7, rfl, hs7, hc7⟩; have H7 : Hid (SrcOps w7 (.slice ad7 (xs.length + 3 + (ps.length + 1)) c7) (((xs ++ [fOp, sumOp, bOp]) ++ ps) ++ [putOp A.number ⟨#[97]⟩ ⟨#[]⟩]) ∧ Chg nobody w4 w7) := ⟨hs7, ((HL.out.2.alloc _).alloc _).trans hc7⟩; clear hs7 hc7))
            go_roundw
            case rel =>
              refine ⟨j + 1, ad7, c7, by omega, by go_num, by rw [HN.out]; simp, ?_⟩
              have h1 := H7.out
              rw [HN.out]
              refine ⟨?_, h1.2⟩
              rw [← List.append_assoc]
              simpa using h1.1
            case measure => simp [intOf]; omega
          · have hkb : (o.kind == 1) = false := beq_eq_false_iff_ne.2 hk
            have HN : Hid (putsM ((xs.zip (ansP p0 xs)).take (j + 1)) = ps) := by
              have h1 := HPTT.out
              rw [if_neg (by simp [putB, hk]), List.append_nil] at h1
              exact h1
            clear hk HPTT
            go_wp2
            go_roundw
            case rel => exact ⟨j + 1, ad', c', by omega, by go_num, by rw [HN.out], by rw [HN.out]; exact HL.out⟩
            case measure => simp [intOf]; omega
        · have hcb : (A.code == 0) = false := beq_eq_false_iff_ne.2 hc
          have HN : Hid (putsM ((xs.zip (ansP p0 xs)).take (j + 1)) = ps) := by
            have h1 := HPTT.out
            rw [if_neg (by simp [putB, hc]), List.append_nil] at h1
            exact h1
          clear hc HPTT
          go_wp2
          go_roundw
          case rel => exact ⟨j + 1, ad', c', by omega, by go_num, by rw [HN.out], by rw [HN.out]; exact HL.out⟩
          case measure => simp [intOf]; omega
    · have hjl : j = xs.length := by omega
      subst hjl
      have hzl : (xs.zip (ansP p0 xs)).take xs.length = xs.zip (ansP p0 xs) := List.take_of_length_le (by rw [List.length_zip, ansP_len]; omega)
      rw [hzl] at HL ⊢
      have hml : (putsM (xs.zip (ansP p0 xs))).length ≤ 1048576 := by
        have h1 := putsM_len (xs.zip (ansP p0 xs))
        rw [List.length_zip] at h1
        omega
      clear hzl
      generalize putsM (xs.zip (ansP p0 xs)) = ps at *
      have hti : isInt t := by have := HT.out; unfold isInt; omega
      have htu : isInt (t + 1) := by have := HT.out; unfold isInt; omega
      have k1 : IntKind.i64.wrap (t + 1) = t + 1 := wrap_small (by have := HT.out; omega) (by have := HT.out; omega)
      go_wp2_with (first
        | (go_at_call 19; refine (op_any _ _ _ _ _).mono ?_; rintro e w' ⟨rfl, rfl⟩))
      refine (with_sl (xs := (xs ++ [fOp, sumOp, bOp]) ++ ps) (ys := [sOp t ⟨#[]⟩, fluOp 9, fOp, bOp, sOp (t + 1) ⟨#[]⟩]) (HL.out.1.chg (((Chg.refl _ _).alloc _).alloc _ |>.alloc _)) (src_block (heap_new (by simp)) rfl rfl) (by simp; omega) (by simp) (xs.length + 3 + ps.length + 5) (by simp; omega)).mono ?_
      rintro e w7 ⟨ad7, c7, rfl, hs7, hc7⟩
      have HC7 : Hid (Chg nobody w4 w7) := ((HL.out.2.alloc _).alloc _ |>.alloc _).trans hc7
      have HR := run_sl hs7 (fun o ho => by
        rcases List.mem_append.1 ho with ho | ho
        · rcases List.mem_append.1 ho with ho | ho
          · exact HO3.out o ho
          · exact HP.out o ho
        · simp only [List.mem_cons, List.not_mem_nil, or_false] at ho
          rcases ho with rfl | rfl | rfl | rfl | rfl
          · exact opOk (by unfold isInt; simp) hti (by simp [ByteArray.size, maxLen]) (by simp [ByteArray.size, maxLen])
          · exact okFl 9 (by unfold isInt; simp)
          · exact okF
          · exact okB
          · exact opOk (by unfold isInt; simp) htu (by simp [ByteArray.size, maxLen]) (by simp [ByteArray.size, maxLen])) (by simp; omega) (xs.length + 3 + ps.length + 5) (by simp; omega)
      clear hs7 hc7 HL
      go_wp2_with fail
      refine HR.mono ?_
      rintro e w8 ⟨g8, cg8, sl8, rfl, hr8, hit8, hc8⟩
      clear HR
      have hc48 : Chg nobody w4 w8 := HC7.out.trans hc8
      have HF : Hid (Chg nobody w w8) := HC4.out.trans hc48
      obtain ⟨hAm, hAe, eB⟩ := HEB.out
      rw [eB] at hr8 hit8
      have hPl : (ansP p0 xs ++ [a1, ⟨0, 0, false, ⟨#[]⟩, [], [], [Ln, 0, 0, 0, (stP p0 xs).clock, (stP p0 xs).clock]⟩, ⟨0, t, false, ⟨#[]⟩, [], [], []⟩]).length = xs.length + 3 := by simp [ansP_len]
      generalize ansP p0 xs ++ [a1, ⟨0, 0, false, ⟨#[]⟩, [], [], [Ln, 0, 0, 0, (stP p0 xs).clock, (stP p0 xs).clock]⟩, ⟨0, t, false, ⟨#[]⟩, [], [], []⟩] = PP at *
      have ix : ∀ r, (PP ++ (Am ++ [⟨0, 0, false, ⟨#[]⟩, I, [], []⟩, errA 0, a3, ⟨0, t + 1, false, ⟨#[]⟩, [], [], []⟩, ⟨0, 0, false, ⟨#[]⟩, I, [], []⟩]))[xs.length + 3 + ps.length + r]? = [⟨0, 0, false, ⟨#[]⟩, I, [], []⟩, errA 0, a3, ⟨0, t + 1, false, ⟨#[]⟩, [], [], []⟩, ⟨0, 0, false, ⟨#[]⟩, I, [], []⟩][r]? := fun r => by
        rw [Nat.add_assoc, idx7 _ _ (xs.length + 3) _ hPl]
        exact idx7 _ _ ps.length r hAm
      obtain ⟨x0, _, _, _, _, u4, _, _, ur⟩ := ans_at7 hit8 hr8 (xs.length + 3 + ps.length) _ (ix 0)
      obtain ⟨x1, _, _, _, _, _, v5, _, vr⟩ := ans_at7 hit8 hr8 (xs.length + 3 + ps.length + 1) _ (ix 1)
      obtain ⟨x4, y0, _, _, _, y4, _, _, yr⟩ := ans_at7 hit8 hr8 (xs.length + 3 + ps.length + 4) _ (ix 4)
      obtain ⟨da, dc, hdv⟩ := row_form vr.2.1
      rw [hdv] at v5
      simp only at y0
      have HM : Hid (∀ i, i < ps.length → w8.cell? ⟨g8, (xs.length + 3 + i) * 7, none⟩ = some (.int .i64 2)) := fun i hi => by
        have hi' : i < Am.length := by rw [hAm]; exact hi
        obtain ⟨_, m0, _, _, _, _, _, _, _⟩ := ans_at7 hit8 hr8 (xs.length + 3 + i) Am[i] (by rw [idx7 _ _ (xs.length + 3) _ hPl, List.getElem?_append_left hi']; exact List.getElem?_eq_getElem hi')
        rw [hAe Am[i] (List.getElem_mem hi')] at m0
        exact m0
      obtain ⟨hgs, K1, K2, K3, K4, K5⟩ := HK.out
      have s1 : w8.cell? ⟨gs, 1, none⟩ = some (.int .i64 0) := ((bcell hc48).1 _ _ hgs).trans K1
      have s2 : w8.cell? ⟨gs, 2, none⟩ = some (.int .i64 0) := ((bcell hc48).1 _ _ hgs).trans K2
      have s3 : w8.cell? ⟨gs, 3, none⟩ = some (.int .i64 0) := ((bcell hc48).1 _ _ hgs).trans K3
      have s4 : w8.cell? ⟨gs, 4, none⟩ = some (.int .i64 (stP p0 xs).clock) := ((bcell hc48).1 _ _ hgs).trans K4
      have s5 : w8.cell? ⟨gs, 5, none⟩ = some (.int .i64 (stP p0 xs).clock) := ((bcell hc48).1 _ _ hgs).trans K5
      generalize (stP p0 xs).clock = ck at *
      have HS : Hid (∀ l, Calls Tryz.prog 20 #[slV x0.1, slV x4.1] (w8.drewN l) fun e w' => e = .returned (.bool true) ∧ ∃ n, w' = (w8.drewN l).drewN n) := fun l => sameItems_any x0.1 x4.1 _ _ _ (w8.drewN l) ur.1 yr.1
      obtain ⟨⟨p1, p2, p3⟩, x02⟩ := x0
      obtain ⟨⟨q1, q2, q3⟩, x42⟩ := x4
      simp only [slV] at u4 y4 HS
      simp only [List.length_nil] at v5
      clear hr8 hit8 hc8 HC7 hAm hAe eB ix ur vr yr hdv hPl HK HEB HP HO3 HAN HA hgs K1 K2 K3 K4 K5 hc48 hti htu
      generalize ps.length = m at *
      have z1 : IntKind.i64.wrap ((xs.length : Int) + 3 + (m : Int) + 5) = (xs.length : Int) + 3 + (m : Int) + 5 := wrap_small (by omega) (by omega)
      have z2 : IntKind.i64.wrap ((xs.length : Int) + 3 + (m : Int) + 1) = (xs.length : Int) + 3 + (m : Int) + 1 := wrap_small (by omega) (by omega)
      have z4 : IntKind.i64.wrap ((xs.length : Int) + 3 + (m : Int) + 4) = (xs.length : Int) + 3 + (m : Int) + 4 := wrap_small (by omega) (by omega)
      have z3 : IntKind.i64.wrap ((xs.length : Int) + 3) = (xs.length : Int) + 3 := wrap_small (by omega) (by omega)
      have t0 : ((xs.length : Int) + 3 + (m : Int)).toNat = xs.length + 3 + m := by omega
      have t1 : ((xs.length : Int) + 3 + (m : Int) + 1).toNat = xs.length + 3 + m + 1 := by omega
      have t4 : ((xs.length : Int) + 3 + (m : Int) + 4).toNat = xs.length + 3 + m + 4 := by omega
      have b0 : (0 : Int) ≤ (xs.length : Int) + 3 + (m : Int) := by omega
      have b1 : (0 : Int) ≤ (xs.length : Int) + 3 + (m : Int) + 1 := by omega
      have b4 : (0 : Int) ≤ (xs.length : Int) + 3 + (m : Int) + 4 := by omega
      have i0 : (xs.length : Int) + 3 + (m : Int) < (xs.length : Int) + 3 + (m : Int) + 5 := by omega
      have i1 : (xs.length : Int) + 3 + (m : Int) + 1 < (xs.length : Int) + 3 + (m : Int) + 5 := by omega
      have i4 : (xs.length : Int) + 3 + (m : Int) + 4 < (xs.length : Int) + 3 + (m : Int) + 5 := by omega
      go_wp2
      go_loop [12] (fun iv => ∃ i : Nat, i ≤ m ∧ iv = .int .i64 ((xs.length : Int) + 3 + i)) (fun iv => (xs.length + 3 + m) - (intOf iv).toNat)
      case atStart => exact ⟨0, Nat.zero_le _, by simp⟩
      case round =>
        obtain ⟨i, hi, rfl⟩ := hrel
        by_cases him : i < m
        · have m0 := HM.out i him
          have r0 : ((xs.length : Int) + 3 + (i : Int)).toNat = xs.length + 3 + i := by omega
          have r1 : (0 : Int) ≤ (xs.length : Int) + 3 + (i : Int) := by omega
          have r2 : (xs.length : Int) + 3 + (i : Int) < (xs.length : Int) + 3 + (m : Int) + 5 := by omega
          have r3 : (xs.length : Int) + 3 + (i : Int) < (xs.length : Int) + 3 + (m : Int) := by omega
          have r4 : IntKind.i64.wrap ((xs.length : Int) + 3 + (i : Int) + 1) = (xs.length : Int) + 3 + (i : Int) + 1 := wrap_small (by omega) (by omega)
          go_wp2
          go_round
          case rel => exact ⟨i + 1, by omega, by (first | (go_num; done) | (congr 1; omega))⟩
          case measure => simp [intOf]; omega
        · have hie : i = m := by omega
          subst hie
          go_wp2
          go_quiet ((go_at_call 20; exact Calls.quiet_of (HS.out _)))
          go_wp2
          go_quiet (fail)
          go_wp2
          go_ret
          exact ⟨rfl, (HF.out.drewN _).drewN _⟩
end Go.Proofs.YtkfjafndplmdkaaGreat
