import Derived.Test.YtcpjocgpahjcjaaRZ
namespace Go.Proofs.Ytcpjocgpahjcjaa
open Go.RowKit Go.Sort
open Go.ChangeShapes Go.WideShapes Go.ChangeAt
set_option maxRecDepth 100000 in
set_option maxHeartbeats 1000000 in
theorem runs_zero (ad : Option Addr) (cap : Nat) (w : World) :
    Calls Try.prog 6 #[.slice ad 0 cap, .int .i64 7, .int .i64 11] w fun e w' => e = .returned (.bool true) ∧ Chg nobody w w' := by
  go_enter Try.func6, Try.ntmps6
  go_wp2_with fail
  refine wp_loop_rounds 1 ?_
  rw [rounds_succ]
  go_wp2_with fail
  refine (run_zero none 0 w).mono ?_
  rintro e w2 ⟨g, ca, sla, rfl, hra, hia, hc2⟩
  clear hra hia
  go_wp2_with fail
  refine (refRun_zero none 0 w2).mono ?_
  rintro e w3 ⟨rfl, hc3⟩
  have HF : Hid (Chg nobody w w3) := hc2.trans hc3
  clear hc2 hc3
  go_wp2_with fail
  refine (same_zero _ _ _ _ w3).mono ?_
  rintro e w4 ⟨rfl, hw4⟩
  replace hw4 := hw4.symm
  subst hw4
  go_wp2
  go_ret
  exact ⟨rfl, HF.out⟩
theorem runs_any {w : World} {v : Value} {ops : List OpM} (h : SrcOps w v ops) (hok : ∀ o ∈ ops, o.ok) (hn : ops.length ≤ 1048576) :
    Calls Try.prog 6 #[v, .int .i64 7, .int .i64 11] w fun e w' => e = .returned (.bool true) ∧ Chg nobody w w' := by
  rcases h.at with rfl | ⟨b, off, cap, rfl, hcap, hops, hbl⟩
  · obtain ⟨ad, cap, rfl⟩ := h.len
    exact runs_zero ad cap w
  · exact runs_some b off cap ops w hops hbl hok hn
set_option maxRecDepth 100000 in
set_option maxHeartbeats 1000000 in
theorem reads_any {w : World} {v : Value} {ops : List OpM} (h : SrcOps w v ops) (hok : ∀ o ∈ ops, o.ok) (hn : ops.length ≤ 1048576) :
    Calls Try.prog 3 #[v] w fun e w' => e = .returned (.bool true) ∧ Chg nobody w w' := by
  have HR : Hid (Calls Try.prog 6 #[v, .int .i64 7, .int .i64 11] w fun e w' => e = .returned (.bool true) ∧ Chg nobody w w') := runs_any h hok hn
  clear h hok
  go_enter Try.func3, Try.ntmps3
  go_wp2_with fail
  refine HR.out.mono ?_
  rintro e w4 ⟨rfl, hc4⟩
  go_wp2
  go_ret
  exact ⟨rfl, hc4⟩
end Go.Proofs.Ytcpjocgpahjcjaa
namespace Go.Proofs.Ytcpjocgpahjcjaa.readsLaw
open Go.ChangeShapes Go.WideShapes Go.ChangeAt Go.RowKit
theorem own : ownKnob Try.prog.godebug = none := by kernel_rfl
theorem laidOut : laidOutB Try.prog = true := by kernel_rfl
set_option maxRecDepth 100000 in
theorem bound {H : Type} {l : List (DataW H)} (hk : Rows.uptoSmall H l = true) : Rows.uptoBulkAll l ≤ 1048576 := of_decide_eq_true hk
set_option maxRecDepth 100000 in
theorem contract (H : Type) (enc : TypeId × Value → H) (W : World) (base : Nat) (args : Array Value) (ds gs : List (DataW H)) (before : List MemPlace)
    (hval : ∀ (j : Nat) t v, Try.f3.params[j]? = some t → args[j]? = some v → Value.okWide Try.prog W .any base t v)
    (hW : DataW.Whole enc Try.prog Try.f3.params.toList Rows.readsSpec.vars false W args.toList ds gs before) (hk : Rows.uptoSmall H (ds ++ gs) = true) :
    Calls Try.prog 3 args W fun e W' => ∃ v, e = .returned v ∧ Rows.readsSpec.post enc Try.prog Try.f3 false true false false W args v W' := by
  have hW' := hW
  obtain ⟨p, q, hA0, hV, rfl, hfz, hnd⟩ := hW
  have hA : DataW.TrodAll enc Try.prog W 0 (fun _ => true) true Try.f3.params.toList args.toList ds p := hA0
  rw [Try.params3] at hA hval
  obtain ⟨v0, vs0, d0, ds0, p0, q0, hargs, rfl, rfl, h0, r0⟩ := trodAll_cons hA
  obtain ⟨rfl, rfl, rfl⟩ := trodAll_nil r0
  obtain rfl : args = #[v0] := by cases args; simp_all
  obtain ⟨rfl, rfl⟩ := trodVars_none hV
  have h0k := h0
  clear hA0
  simp only [List.append_nil] at hW' hk
  have hlt : ∀ x ∈ p0, x.block < W.heap.size := fun x hx => by simpa using hW'.lt x (by simp [hx])
  have hargs : ∀ (W' : World), Below W.heap.size W W' → DataW.TrodAll enc Try.prog W' 0 (fun b => decide (b < W.heap.size)) true [22] [v0] [d0] (p0 ++ []) := fun W' hn => by
    have a0 := Below.trod laidOut (by kernel_rfl) (of_decide_eq_true (by kernel_rfl)) h0k hn hlt
    exact trodAll_cons_mk a0 trodAll_mk0
  have hb : Rows.uptoBulk d0 ≤ 1048576 := by
    have h := bound hk
    simp only [Rows.uptoBulkAll] at h
    omega
  obtain ⟨a0, len, cap, rfl⟩ := okWide_slice Try.underlying22 (hval 0 22 v0 rfl rfl)
  obtain ⟨fuel, hf⟩ := h0
  obtain ⟨v, ops, hcs, hsrc, hok, hbl⟩ := open_src hf
  simp [Value.cells] at hcs
  subst hcs
  have fin : ∀ e W', e = Ending.returned (.bool true) ∧ Chg nobody W W' → ∃ v, e = .returned v ∧ Rows.readsSpec.post enc Try.prog Try.f3 false true false false W #[.slice a0 len cap] v W' := fun e W' h => by
    obtain ⟨rfl, hc⟩ := h
    have hnx := hc.below
    exact ⟨_, rfl, ⟨_, _, _, [], p0 ++ [], [], hW', trodAll_cons_mk (shut_bool Try.underlying4 _) trodAll_mk0, hargs _ hnx, rfl, hnx.frame _, fun h => by cases h⟩⟩
  simp only at hbl
  exact (reads_any hsrc hok (by omega)).mono fin
set_option maxRecDepth 100000 in
theorem lifted (os : Os) (started : os.Started) (H : Type) (enc : TypeId × Value → H) (F : Stop.Interp) :
    ReturnsInHanded {} Try.checked os 3 .any ((Rows.OpenSpec.upto Rows.readsSpec).pre6 enc Try.prog Try.f3 Rows.readsUptoRow.domain false) (((Rows.OpenSpec.upto Rows.readsSpec).at F).post enc Try.prog Try.f3 false true false false) := by
  refine returnsInHanded_of_cond (C := Try.checked) (s := Rows.OpenSpec.upto Rows.readsSpec) (k := Rows.uptoSmall) rfl own started (by kernel_rfl) Try.func3
    (OpenSpec.witness (enc := enc) (C := Try.checked) (s := Rows.OpenSpec.upto Rows.readsSpec) (k := Rows.uptoSmall) rfl false ⟨#[], #[.slice none 0 0], []⟩ 8 (by kernel_rfl) (by kernel_rfl) (by kernel_rfl)
      (x := ([.nil], [], [])) (by kernel_rfl) rfl (by kernel_rfl)) ?_
  intro W base args ds gs before hval hW _ hk _
  exact contract H enc W base args ds gs before hval hW hk
theorem proved : Rows.ReadsUptoSaid :=
  OpenClaim.holds_of_cond 3 Try.f3 rfl rfl rfl rfl rfl rfl rfl ⟨rfl, rfl, rfl, rfl, rfl⟩ rfl rfl rfl rfl rfl (by kernel_rfl) Try.func3 (by kernel_rfl)
    (of_decide_eq_true (by kernel_rfl)) (by unfold Func.isWrapper; first | (rw [if_pos (by decide +kernel)]; kernel_rfl) | (rw [if_neg (by decide +kernel)]; exact ⟨rfl, rfl⟩))
    (fun os started H enc _ F => lifted os started H enc F)
end Go.Proofs.Ytcpjocgpahjcjaa.readsLaw
namespace Go.Proofs.Ytcpjocgpahjcjaa
theorem reads_holds : Rows.ReadsUptoSaid := readsLaw.proved
#print axioms reads_holds
end Go.Proofs.Ytcpjocgpahjcjaa
