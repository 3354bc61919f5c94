import Derived.Test.YtkfjafndplmdkaaGreatTM
namespace Go.Proofs.YtkfjafndplmdkaaGreat
open Go.RowKit Go.Sort
open Go.ChangeShapes Go.WideShapes Go.ChangeAt
set_option maxRecDepth 100000 in
set_option maxHeartbeats 2000000 in
theorem prefix_zero (ad : Option Addr) (cap : Nat) (n : Int) (w : World) (hni : isInt n) :
    Calls Tryz.prog 5 #[.slice ad 0 cap, .int .i64 n] w fun e w' => e = .returned (.bool true) ∧ Chg nobody w w' := by
  have HP := fun w => pick_any n 1 w hni (by omega) (by omega)
  have hz : pickM n 1 = 0 := by have := pickM_lt n 1 (by omega); omega
  rw [hz] at HP
  have HQ : Hid (∀ w, Calls Tryz.prog 21 #[.int .i64 n, .int .i64 (1 : Nat)] w fun e w' => e = .returned (.int .i64 (0 : Nat)) ∧ w' = w) := HP
  clear HP hz hni
  cases ad
  all_goals
    go_enter Tryz.func5, Tryz.ntmps5
    go_wp2_with (go_at_call 15; refine (reading_any _).mono ?_; rintro e w1 ⟨rfl, hc1⟩)
    refine Calls.mono (HQ.out _) ?_
    rintro e w' ⟨rfl, rfl⟩
    go_wp2_with fail
    refine (run_zero _ _ _).mono ?_
    rintro e w2 ⟨g, ca, sla, rfl, hra, hia, hc2⟩
    have HC2 : Hid (Chg nobody w w2) := hc1.trans hc2
    clear hra hia hc2 hc1
    go_wp2_with fail
    refine (run_zero _ _ _).mono ?_
    rintro e w3 ⟨g', cb, slb, rfl, hrb, hib, hc3⟩
    have HC3 : Hid (Chg nobody w w3) := HC2.out.trans hc3
    clear hrb hib hc3 HC2
    go_wp2
    refine wp_loop_rounds 1 ?_
    rw [rounds_succ]
    go_wp2
    go_ret
    exact ⟨rfl, HC3.out⟩
end Go.Proofs.YtkfjafndplmdkaaGreat
namespace Go.Proofs.YtkfjafndplmdkaaGreat.prefixLaw
open Go.ChangeShapes Go.WideShapes Go.ChangeAt Go.RowKit
theorem own : ownKnob Tryz.prog.godebug = none := by kernel_rfl
theorem laidOut : laidOutB Tryz.prog = true := by kernel_rfl
set_option maxRecDepth 100000 in
theorem bound {H : Type} {l : List (DataW H)} (hk : Rows.uptoSmall H l = true) : Rows.uptoBulkAll l ≤ 1048576 := of_decide_eq_true hk
set_option maxRecDepth 100000 in
theorem contract (H : Type) (enc : TypeId × Value → H) (W : World) (base : Nat) (args : Array Value) (ds gs : List (DataW H)) (before : List MemPlace)
    (hval : ∀ (j : Nat) t v, Tryz.f5.params[j]? = some t → args[j]? = some v → Value.okWide Tryz.prog W .any base t v)
    (hW : DataW.Whole enc Tryz.prog Tryz.f5.params.toList Rows.prefixSpec.vars false W args.toList ds gs before) (hk : Rows.uptoSmall H (ds ++ gs) = true) :
    Calls Tryz.prog 5 args W fun e W' => ∃ v, e = .returned v ∧ Rows.prefixSpec.post enc Tryz.prog Tryz.f5 false true false false W args v W' := by
  have hW' := hW
  obtain ⟨p, q, hA0, hV, rfl, hfz, hnd⟩ := hW
  have hA : DataW.TrodAll enc Tryz.prog W 0 (fun _ => true) true Tryz.f5.params.toList args.toList ds p := hA0
  rw [Tryz.params5] at hA hval
  obtain ⟨v0, vs0, d0, ds0, p0, q0, hargs, rfl, rfl, h0, r0⟩ := trodAll_cons hA
  obtain ⟨v1, vs1, d1, ds1, p1, q1, rfl, rfl, rfl, h1, r1⟩ := trodAll_cons r0
  obtain ⟨rfl, rfl, rfl⟩ := trodAll_nil r1
  obtain rfl : args = #[v0, v1] := by cases args; simp_all
  obtain ⟨rfl, rfl⟩ := trodVars_none hV
  have h0k := h0
  have h1k := h1
  clear hA0
  simp only [List.append_nil] at hW' hk
  have hlt : ∀ x ∈ p0 ++ p1, x.block < W.heap.size := fun x hx => by simpa using hW'.lt x hx
  have hargs : ∀ (W' : World), Below W.heap.size W W' → DataW.TrodAll enc Tryz.prog W' 0 (fun b => decide (b < W.heap.size)) true [22, 3] [v0, v1] [d0, d1] (p0 ++ p1) := fun W' hn => by
    have a0 := Below.trod laidOut (by kernel_rfl) (of_decide_eq_true (by kernel_rfl)) h0k hn (fun x hx => hlt x (by simp [hx]))
    have a1 := Below.trod laidOut (by kernel_rfl) (of_decide_eq_true (by kernel_rfl)) h1k hn (fun x hx => hlt x (by simp [hx]))
    simpa using trodAll_cons_mk a0 (trodAll_cons_mk a1 trodAll_mk0)
  have hb : Rows.uptoBulk d0 ≤ 1048576 := by
    have h := bound hk
    simp only [Rows.uptoBulkAll] at h
    omega
  obtain ⟨n, rfl, rfl, rfl, wn⟩ := open_int Tryz.underlying3 (hval 1 3 v1 rfl rfl) h1
  obtain ⟨a0, len, cap, rfl⟩ := okWide_slice Tryz.underlying22 (hval 0 22 v0 rfl rfl)
  obtain ⟨fuel, hf⟩ := h0
  obtain ⟨ad, len', cap', hcs, hbl, hops⟩ := open_ops hf
  simp [Value.cells] at hcs
  obtain ⟨rfl, rfl, rfl⟩ := hcs
  have fin : ∀ e W', e = Ending.returned (.bool true) ∧ Chg nobody W W' → ∃ v, e = .returned v ∧ Rows.prefixSpec.post enc Tryz.prog Tryz.f5 false true false false W #[.slice a0 len cap, .int .i64 n] v W' := fun e W' h => by
    obtain ⟨rfl, hc⟩ := h
    have hnx := hc.below
    exact ⟨_, rfl, ⟨_, _, _, [], p0 ++ [], [], hW', trodAll_cons_mk (shut_bool Tryz.underlying4 _) trodAll_mk0, hargs _ hnx, rfl, hnx.frame _, fun h => by cases h⟩⟩
  have hni := int_of_wf wn
  simp only at hbl
  rcases hops with rfl | ⟨b, off, ops, rfl, rfl, hcp, hops, hbl', hok⟩
  · exact (prefix_zero a0 cap n W hni).mono fin
  · exact (prefix_some b off cap ops n W hops hbl' hok (by omega) hcp hni).mono fin
set_option maxRecDepth 100000 in
theorem lifted (os : Os) (started : os.Started) (H : Type) (enc : TypeId × Value → H) (F : Stop.Interp) :
    ReturnsInHanded {} Tryz.checked os 5 .any ((Rows.OpenSpec.upto Rows.prefixSpec).pre6 enc Tryz.prog Tryz.f5 Rows.prefixUptoRow.domain false) (((Rows.OpenSpec.upto Rows.prefixSpec).at F).post enc Tryz.prog Tryz.f5 false true false false) := by
  refine returnsInHanded_of_cond (C := Tryz.checked) (s := Rows.OpenSpec.upto Rows.prefixSpec) (k := Rows.uptoSmall) rfl own started (by kernel_rfl) Tryz.func5
    (OpenSpec.witness (enc := enc) (C := Tryz.checked) (s := Rows.OpenSpec.upto Rows.prefixSpec) (k := Rows.uptoSmall) rfl false ⟨#[], #[.slice none 0 0, .int .i64 0], []⟩ 8 (by kernel_rfl) (by kernel_rfl) (by kernel_rfl)
      (x := ([.nil, .lit (.int .i64 0)], [], [])) (by kernel_rfl) rfl (by kernel_rfl)) ?_
  intro W base args ds gs before hval hW _ hk _
  exact contract H enc W base args ds gs before hval hW hk
theorem proved : Rows.PrefixUptoSaid :=
  OpenClaim.holds_of_cond 5 Tryz.f5 rfl rfl rfl rfl rfl rfl rfl ⟨rfl, rfl, rfl, rfl, rfl⟩ rfl rfl rfl rfl rfl (by kernel_rfl) Tryz.func5 (by kernel_rfl)
    (of_decide_eq_true (by kernel_rfl)) (by unfold Func.isWrapper; first | (rw [if_pos (by decide +kernel)]; kernel_rfl) | (rw [if_neg (by decide +kernel)]; exact ⟨rfl, rfl⟩))
    (fun os started H enc _ F => lifted os started H enc F)
end Go.Proofs.YtkfjafndplmdkaaGreat.prefixLaw
namespace Go.Proofs.YtkfjafndplmdkaaGreat
theorem prefix_holds : Rows.PrefixUptoSaid := prefixLaw.proved
#print axioms prefix_holds
end Go.Proofs.YtkfjafndplmdkaaGreat
