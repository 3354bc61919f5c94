import Derived.Test.YtkfjafndplmdkaaGreatCC
import Derived.Test.YtkfjafndplmdkaaGreatCB
import Derived.Test.YtkfjafndplmdkaaGreatCX
namespace Go.Proofs.YtkfjafndplmdkaaGreat
open Go.RowKit Go.Sort
theorem okC : OpM.ok cOp := opOk (by unfold isInt; simp) (by unfold isInt; simp) (by simp [ByteArray.size, maxLen]) (by simp [ByteArray.size, maxLen])
set_option maxRecDepth 100000 in
set_option maxHeartbeats 4000000 in
theorem cleaned_nil (n : Int) (w : World) (hni : isInt n) :
    Calls Tryz.prog 12 #[.slice none 0 0, .int .i64 n] w fun e w' => e = .returned (.bool true) ∧ Chg nobody w w' := by
  obtain ⟨i0, hi, hz0, hz1, hz2⟩ := info_parts info30
  have HP := fun w => pick_any n 1 w hni (by omega) (by omega)
  have hz : pickM n 1 = 0 := by have := pickM_lt n 1 (by omega); omega
  rw [hz] at HP
  have HQ : Hid (∀ w, Calls Tryz.prog 21 #[.int .i64 n, .int .i64 (1 : Nat)] w fun e w' => e = .returned (.int .i64 (0 : Nat)) ∧ w' = w) := HP
  clear HP hz hni
  go_enter Tryz.func12, Tryz.ntmps12
  go_wp2_with (first
    | (go_at_call 24; refine (fencing_any _).mono ?_; rintro e w1 ⟨rfl, hc1⟩))
  refine Calls.mono (HQ.out _) ?_
  rintro e w1 ⟨rfl, rfl⟩
  go_wp2_with (first
    | (at_builtin; refine wpList_append_own_none rfl _ _ 22 rfl w.heap.size 30 i0 5 Tryz.underlying22 hi v2 _ _ rfl hown2 rfl ?_)
    | (at_builtin; refine wpList_append_own _ rfl _ _ 22 rfl w.heap.size 30 i0 (OpM.v ⟨0, 0, ⟨#[]⟩, ⟨#[]⟩, 0⟩) 5 56 Tryz.underlying22 hi hz0 hz1 hz2 rfl (by decide) (.slice none 0 0) 0 [] rfl (World.ownsRow_nil _ _ _ _) ⟨w1.heap.size, 0, none⟩ 1 1 cOp.vals rfl rfl (cells_new w1 #[.int .i64 10, .int .i64 0, .string ⟨#[]⟩, .string ⟨#[]⟩, .int .i64 0] 30) (vals_one cOp) (by unfold maxLen; omega) (by omega) (by have := hc1.size; simp; omega) ?_; intro v2 w3 hown2 hg3 _; have hc3 : Chg nobody w w3 := (hc1.alloc _).grown hg3 (fun q e => by cases e); go_frame)
    | (at_builtin; refine wpList_append_own_none rfl _ _ 22 rfl w.heap.size 30 i0 5 Tryz.underlying22 hi (.slice none 0 0) 0 [] rfl (World.ownsRow_nil _ _ _ _) rfl ?_))
  have hs4 : w3.ownsRow w.heap.size 30 5 v2 [cOp].length (opCells [cOp]) := hown2
  obtain ⟨ad4, c4, rfl⟩ := row_form hs4
  have HS4 : Hid (SrcOps w3 (.slice ad4 1 c4) [cOp] ∧ Chg nobody w w3) := ⟨src_of_row hs4, hc3⟩
  clear hown2 hg3 hs4 hc3 hc1
  simp only [List.length_singleton]
  refine (run_zero _ _ _).mono ?_
  rintro e w6 ⟨g, ca, sla, rfl, hra, hia, hc6⟩
  have HR := run_sl (HS4.out.1.chg hc6) (fun o ho => by rw [List.mem_singleton.1 ho]; exact okC) (by simp) 1 rfl
  have H6 : Hid (Chg nobody w w6) := HS4.out.2.trans hc6
  clear hra hia hc6
  go_wp2_with fail
  refine HR.mono ?_
  rintro e w8 ⟨g', cb, slb, rfl, hrb, hib, hc8⟩
  have HF : Hid (Chg nobody w w8) := H6.out.trans hc8
  clear HR hrb hib hc8
  go_wp2
  refine wp_loop_rounds 1 ?_
  rw [rounds_succ]
  go_wp2
  refine wp_loop_rounds 1 ?_
  rw [rounds_succ]
  go_wp2
  go_ret
  exact ⟨rfl, HF.out⟩
set_option maxRecDepth 100000 in
set_option maxHeartbeats 4000000 in
theorem cleaned_emp0 (a : Addr) (n : Int) (w : World) (hni : isInt n) :
    Calls Tryz.prog 12 #[.slice (some a) 0 0, .int .i64 n] w fun e w' => e = .returned (.bool true) ∧ Chg nobody w w' := by
  obtain ⟨i0, hi, hz0, hz1, hz2⟩ := info_parts info30
  have HP := fun w => pick_any n 1 w hni (by omega) (by omega)
  have hz : pickM n 1 = 0 := by have := pickM_lt n 1 (by omega); omega
  rw [hz] at HP
  have HQ : Hid (∀ w, Calls Tryz.prog 21 #[.int .i64 n, .int .i64 (1 : Nat)] w fun e w' => e = .returned (.int .i64 (0 : Nat)) ∧ w' = w) := HP
  clear HP hz hni
  go_enter Tryz.func12, Tryz.ntmps12
  go_wp2_with (first
    | (go_at_call 24; refine (fencing_any _).mono ?_; rintro e w1 ⟨rfl, hc1⟩))
  refine Calls.mono (HQ.out _) ?_
  rintro e w1 ⟨rfl, rfl⟩
  go_wp2_with (first
    | (at_builtin; refine wpList_append_own _ rfl _ _ 22 rfl w.heap.size 30 i0 (OpM.v ⟨0, 0, ⟨#[]⟩, ⟨#[]⟩, 0⟩) 5 56 Tryz.underlying22 hi hz0 hz1 hz2 rfl (by decide) _ _ _ rfl hown2 a 0 0 [] rfl rfl (fun j u hu => by simp at hu) (by simp) (by unfold maxLen; omega) (by omega) hc3.size ?_; intro v3 w4 hown3 hg4 _; have hc4 : Chg nobody w w4 := hc3.grown hg4 (fun q e => Or.inr (hown2.lt q e).1); go_frame)
    | (at_builtin; refine wpList_append_own _ rfl _ _ 22 rfl w.heap.size 30 i0 (OpM.v ⟨0, 0, ⟨#[]⟩, ⟨#[]⟩, 0⟩) 5 56 Tryz.underlying22 hi hz0 hz1 hz2 rfl (by decide) _ _ _ rfl (hown1.alloc _) ⟨w2.heap.size, 0, none⟩ 1 1 cOp.vals rfl rfl (cells_new w2 #[.int .i64 10, .int .i64 0, .string ⟨#[]⟩, .string ⟨#[]⟩, .int .i64 0] 30) (vals_one cOp) (by unfold maxLen; omega) (by omega) (by have := hc2.size; simp; omega) ?_; intro v2 w3 hown2 hg3 _; have hc3 : Chg nobody w w3 := (hc2.alloc _).grown hg3 (fun q e => Or.inr (hown1.lt q e).1); go_frame)
    | (at_builtin; refine wpList_append_own _ rfl _ _ 22 rfl w.heap.size 30 i0 (OpM.v ⟨0, 0, ⟨#[]⟩, ⟨#[]⟩, 0⟩) 5 56 Tryz.underlying22 hi hz0 hz1 hz2 rfl (by decide) (.slice none 0 0) 0 [] rfl (World.ownsRow_nil _ _ _ _) a 0 0 [] rfl rfl (fun j u hu => by simp at hu) (by simp) (by unfold maxLen; omega) (by omega) hc1.size ?_; intro v1 w2 hown1 hg2 _; have hc2 : Chg nobody w w2 := hc1.grown hg2 (fun q e => by cases e); go_frame))
  have hs4 : w4.ownsRow w.heap.size 30 5 v3 [cOp].length (opCells [cOp]) := hown3
  obtain ⟨ad4, c4, rfl⟩ := row_form hs4
  have HS4 : Hid (SrcOps w4 (.slice ad4 1 c4) [cOp] ∧ Chg nobody w w4) := ⟨src_of_row hs4, hc4⟩
  clear hown1 hown2 hown3 hg2 hg3 hg4 hs4 hc1 hc2 hc3 hc4
  simp only [List.length_singleton]
  refine (run_zero _ _ _).mono ?_
  rintro e w6 ⟨g, ca, sla, rfl, hra, hia, hc6⟩
  have HR := run_sl (HS4.out.1.chg hc6) (fun o ho => by rw [List.mem_singleton.1 ho]; exact okC) (by simp) 1 rfl
  have H6 : Hid (Chg nobody w w6) := HS4.out.2.trans hc6
  clear hra hia hc6
  go_wp2_with fail
  refine HR.mono ?_
  rintro e w8 ⟨g', cb, slb, rfl, hrb, hib, hc8⟩
  have HF : Hid (Chg nobody w w8) := H6.out.trans hc8
  clear HR hrb hib hc8
  go_wp2
  refine wp_loop_rounds 1 ?_
  rw [rounds_succ]
  go_wp2
  refine wp_loop_rounds 1 ?_
  rw [rounds_succ]
  go_wp2
  go_ret
  exact ⟨rfl, HF.out⟩
set_option maxRecDepth 100000 in
set_option maxHeartbeats 4000000 in
theorem cleaned_emp1 (a : Addr) (cap : Nat) (n : Int) (w : World) (hni : isInt n) (hcap : 0 < cap) :
    Calls Tryz.prog 12 #[.slice (some a) 0 cap, .int .i64 n] w fun e w' => e = .returned (.bool true) ∧ Chg nobody w w' := by
  obtain ⟨i0, hi, hz0, hz1, hz2⟩ := info_parts info30
  have HP := fun w => pick_any n 1 w hni (by omega) (by omega)
  have hz : pickM n 1 = 0 := by have := pickM_lt n 1 (by omega); omega
  rw [hz] at HP
  have HQ : Hid (∀ w, Calls Tryz.prog 21 #[.int .i64 n, .int .i64 (1 : Nat)] w fun e w' => e = .returned (.int .i64 (0 : Nat)) ∧ w' = w) := HP
  clear HP hz hni
  go_enter Tryz.func12, Tryz.ntmps12
  go_wp2_with (first
    | (go_at_call 24; refine (fencing_any _).mono ?_; rintro e w1 ⟨rfl, hc1⟩))
  refine Calls.mono (HQ.out _) ?_
  rintro e w1 ⟨rfl, rfl⟩
  go_wp2_with (first
    | (at_builtin; refine wpList_append_own _ rfl _ _ 22 rfl w.heap.size 30 i0 (OpM.v ⟨0, 0, ⟨#[]⟩, ⟨#[]⟩, 0⟩) 5 56 Tryz.underlying22 hi hz0 hz1 hz2 rfl (by decide) _ _ _ rfl hown2 (a.add 0) 0 cap [] rfl rfl (fun j u hu => by simp at hu) (by simp) (by unfold maxLen; omega) (by omega) hc3.size ?_; intro v3 w4 hown3 hg4 _; have hc4 : Chg nobody w w4 := hc3.grown hg4 (fun q e => Or.inr (hown2.lt q e).1); go_frame)
    | (at_builtin; refine wpList_append_own _ rfl _ _ 22 rfl w.heap.size 30 i0 (OpM.v ⟨0, 0, ⟨#[]⟩, ⟨#[]⟩, 0⟩) 5 56 Tryz.underlying22 hi hz0 hz1 hz2 rfl (by decide) _ _ _ rfl (hown1.alloc _) ⟨w2.heap.size, 0, none⟩ 1 1 cOp.vals rfl rfl (cells_new w2 #[.int .i64 10, .int .i64 0, .string ⟨#[]⟩, .string ⟨#[]⟩, .int .i64 0] 30) (vals_one cOp) (by unfold maxLen; omega) (by omega) (by have := hc2.size; simp; omega) ?_; intro v2 w3 hown2 hg3 _; have hc3 : Chg nobody w w3 := (hc2.alloc _).grown hg3 (fun q e => Or.inr (hown1.lt q e).1); go_frame)
    | (at_builtin; refine wpList_append_own _ rfl _ _ 22 rfl w.heap.size 30 i0 (OpM.v ⟨0, 0, ⟨#[]⟩, ⟨#[]⟩, 0⟩) 5 56 Tryz.underlying22 hi hz0 hz1 hz2 rfl (by decide) (.slice none 0 0) 0 [] rfl (World.ownsRow_nil _ _ _ _) a 0 cap [] rfl rfl (fun j u hu => by simp at hu) (by simp) (by unfold maxLen; omega) (by omega) hc1.size ?_; intro v1 w2 hown1 hg2 _; have hc2 : Chg nobody w w2 := hc1.grown hg2 (fun q e => by cases e); go_frame))
  have hs4 : w4.ownsRow w.heap.size 30 5 v3 [cOp].length (opCells [cOp]) := hown3
  obtain ⟨ad4, c4, rfl⟩ := row_form hs4
  have HS4 : Hid (SrcOps w4 (.slice ad4 1 c4) [cOp] ∧ Chg nobody w w4) := ⟨src_of_row hs4, hc4⟩
  clear hown1 hown2 hown3 hg2 hg3 hg4 hs4 hc1 hc2 hc3 hc4
  simp only [List.length_singleton]
  refine (run_zero _ _ _).mono ?_
  rintro e w6 ⟨g, ca, sla, rfl, hra, hia, hc6⟩
  have HR := run_sl (HS4.out.1.chg hc6) (fun o ho => by rw [List.mem_singleton.1 ho]; exact okC) (by simp) 1 rfl
  have H6 : Hid (Chg nobody w w6) := HS4.out.2.trans hc6
  clear hra hia hc6
  go_wp2_with fail
  refine HR.mono ?_
  rintro e w8 ⟨g', cb, slb, rfl, hrb, hib, hc8⟩
  have HF : Hid (Chg nobody w w8) := H6.out.trans hc8
  clear HR hrb hib hc8
  go_wp2
  refine wp_loop_rounds 1 ?_
  rw [rounds_succ]
  go_wp2
  refine wp_loop_rounds 1 ?_
  rw [rounds_succ]
  go_wp2
  go_ret
  exact ⟨rfl, HF.out⟩
end Go.Proofs.YtkfjafndplmdkaaGreat
namespace Go.Proofs.YtkfjafndplmdkaaGreat
open Go.RowKit Go.Sort
theorem cleaned_walk {w : World} {A : Value} {xs : List OpM} (hA : SrcOps w A xs) (hxo : ∀ o ∈ xs, o.ok) (hx : xs.length ≤ 1048576) (n : Int) (hni : isInt n) :
    Calls Tryz.prog 12 #[A, .int .i64 n] w fun e w' => e = .returned (.bool true) ∧ Chg nobody w w' := by
  by_cases h0 : xs = []
  · subst h0
    rcases hA with ⟨rfl, _⟩ | ⟨a, cap, rfl, _, _⟩
    · exact cleaned_nil n w hni
    · by_cases hc : cap = 0
      · subst hc
        exact cleaned_emp0 a n w hni
      · exact cleaned_emp1 a cap n w hni (by omega)
  · rcases hA.at with e | ⟨b, off, cap, rfl, hcap, hops, hbl⟩
    · exact absurd e h0
    · have hk := pickM_lt n (xs.length + 1) (by omega)
      by_cases hc : pickM n (xs.length + 1) < cap
      · exact cleaned_some hops hbl hxo hx n hni hc
      · have e1 : cap = xs.length := by omega
        have e2 : pickM n (xs.length + 1) = xs.length := by omega
        subst e1
        exact cleaned_full hops hbl hxo hx n hni e2
end Go.Proofs.YtkfjafndplmdkaaGreat
namespace Go.Proofs.YtkfjafndplmdkaaGreat.cleanedLaw
open Go.ChangeShapes Go.WideShapes Go.ChangeAt Go.RowKit
theorem own : ownKnob Tryz.prog.godebug = none := by kernel_rfl
theorem laidOut : laidOutB Tryz.prog = true := by kernel_rfl
set_option maxRecDepth 100000 in
theorem bound {H : Type} {l : List (DataW H)} (hk : Rows.uptoSmall H l = true) : Rows.uptoBulkAll l ≤ 1048576 := of_decide_eq_true hk
set_option maxRecDepth 100000 in
theorem contract (H : Type) (enc : TypeId × Value → H) (W : World) (base : Nat) (args : Array Value) (ds gs : List (DataW H)) (before : List MemPlace)
    (hval : ∀ (j : Nat) t v, Tryz.f12.params[j]? = some t → args[j]? = some v → Value.okWide Tryz.prog W .any base t v)
    (hW : DataW.Whole enc Tryz.prog Tryz.f12.params.toList Rows.cleanedSpec.vars false W args.toList ds gs before) (hk : Rows.uptoSmall H (ds ++ gs) = true) :
    Calls Tryz.prog 12 args W fun e W' => ∃ v, e = .returned v ∧ Rows.cleanedSpec.post enc Tryz.prog Tryz.f12 false true false false W args v W' := by
  have hW' := hW
  obtain ⟨p, q, hA0, hV, rfl, hfz, hnd⟩ := hW
  have hA : DataW.TrodAll enc Tryz.prog W 0 (fun _ => true) true Tryz.f12.params.toList args.toList ds p := hA0
  rw [Tryz.params12] at hA hval
  obtain ⟨v0, vs0, d0, ds0, p0, q0, hargs, rfl, rfl, h0, r0⟩ := trodAll_cons hA
  obtain ⟨v1, vs1, d1, ds1, p1, q1, rfl, rfl, rfl, h1, r1⟩ := trodAll_cons r0
  obtain ⟨rfl, rfl, rfl⟩ := trodAll_nil r1
  obtain rfl : args = #[v0, v1] := by cases args; simp_all
  obtain ⟨rfl, rfl⟩ := trodVars_none hV
  have h0k := h0
  have h1k := h1
  clear hA0
  simp only [List.append_nil] at hW' hk
  have hlt : ∀ x ∈ p0 ++ p1, x.block < W.heap.size := fun x hx => by simpa using hW'.lt x hx
  have hargs : ∀ (W' : World), Below W.heap.size W W' → DataW.TrodAll enc Tryz.prog W' 0 (fun b => decide (b < W.heap.size)) true [22, 3] [v0, v1] [d0, d1] (p0 ++ p1) := fun W' hn => by
    have a0 := Below.trod laidOut (by kernel_rfl) (of_decide_eq_true (by kernel_rfl)) h0k hn (fun x hx => hlt x (by simp [hx]))
    have a1 := Below.trod laidOut (by kernel_rfl) (of_decide_eq_true (by kernel_rfl)) h1k hn (fun x hx => hlt x (by simp [hx]))
    simpa using trodAll_cons_mk a0 (trodAll_cons_mk a1 trodAll_mk0)
  have hb : Rows.uptoBulk d0 ≤ 1048576 := by
    have h := bound hk
    simp only [Rows.uptoBulkAll] at h
    omega
  obtain ⟨n, rfl, rfl, rfl, wn⟩ := open_int Tryz.underlying3 (hval 1 3 v1 rfl rfl) h1
  obtain ⟨a0, len, cap, rfl⟩ := okWide_slice Tryz.underlying22 (hval 0 22 v0 rfl rfl)
  obtain ⟨fuel, hf⟩ := h0
  obtain ⟨A, xs, hcp0, hA1, hxo, hxl⟩ := open_src hf
  simp [Value.cells] at hcp0
  subst hcp0
  simp only at hxl
  have fin : ∀ e W', e = Ending.returned (.bool true) ∧ Chg nobody W W' → ∃ v, e = .returned v ∧ Rows.cleanedSpec.post enc Tryz.prog Tryz.f12 false true false false W #[.slice a0 len cap, .int .i64 n] v W' := fun e W' h => by
    obtain ⟨rfl, hc⟩ := h
    have hnx := hc.below
    exact ⟨_, rfl, ⟨_, _, _, [], p0 ++ [], [], hW', trodAll_cons_mk (shut_bool Tryz.underlying4 _) trodAll_mk0, hargs _ hnx, rfl, hnx.frame _, fun h => by cases h⟩⟩
  have hni := int_of_wf wn
  exact (cleaned_walk hA1 hxo (by omega) n hni).mono fin
set_option maxRecDepth 100000 in
theorem lifted (os : Os) (started : os.Started) (H : Type) (enc : TypeId × Value → H) (F : Stop.Interp) :
    ReturnsInHanded {} Tryz.checked os 12 .any ((Rows.OpenSpec.upto Rows.cleanedSpec).pre6 enc Tryz.prog Tryz.f12 Rows.cleanedUptoRow.domain false) (((Rows.OpenSpec.upto Rows.cleanedSpec).at F).post enc Tryz.prog Tryz.f12 false true false false) := by
  refine returnsInHanded_of_cond (C := Tryz.checked) (s := Rows.OpenSpec.upto Rows.cleanedSpec) (k := Rows.uptoSmall) rfl own started (by kernel_rfl) Tryz.func12
    (OpenSpec.witness (enc := enc) (C := Tryz.checked) (s := Rows.OpenSpec.upto Rows.cleanedSpec) (k := Rows.uptoSmall) rfl false ⟨#[], #[.slice none 0 0, .int .i64 0], []⟩ 8 (by kernel_rfl) (by kernel_rfl) (by kernel_rfl)
      (x := ([.nil, .lit (.int .i64 0)], [], [])) (by kernel_rfl) rfl (by kernel_rfl)) ?_
  intro W base args ds gs before hval hW _ hk _
  exact contract H enc W base args ds gs before hval hW hk
theorem proved : Rows.CleanedUptoSaid :=
  OpenClaim.holds_of_cond 12 Tryz.f12 rfl rfl rfl rfl rfl rfl rfl ⟨rfl, rfl, rfl, rfl, rfl⟩ rfl rfl rfl rfl rfl (by kernel_rfl) Tryz.func12 (by kernel_rfl)
    (of_decide_eq_true (by kernel_rfl)) (by unfold Func.isWrapper; first | (rw [if_pos (by decide +kernel)]; kernel_rfl) | (rw [if_neg (by decide +kernel)]; exact ⟨rfl, rfl⟩))
    (fun os started H enc _ F => lifted os started H enc F)
end Go.Proofs.YtkfjafndplmdkaaGreat.cleanedLaw
namespace Go.Proofs.YtkfjafndplmdkaaGreat
theorem cleaned_holds : Rows.CleanedUptoSaid := cleanedLaw.proved
#print axioms cleaned_holds
end Go.Proofs.YtkfjafndplmdkaaGreat
