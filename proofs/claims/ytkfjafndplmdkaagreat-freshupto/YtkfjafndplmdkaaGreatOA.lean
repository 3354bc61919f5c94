import Derived.Test.YtkfjafndplmdkaaGreatO9
namespace Go.Proofs.YtkfjafndplmdkaaGreat
open Go.RowKit Go.Sort
open Go.Maps (Keyed)
theorem assertE (c : Int) (w : World) : (Instr.typeAssert (.iface 31 (.int .i64 c)) 20 31 false).run Tryz.prog w = .ok (.int .i64 c) w := by kernel_rfl
theorem heap_set3 {w : World} {b : Nat} {u0 u1 u2 : Value} {t : TypeId} (hb : w.heap[b]? = some (.cells #[u0, u1, u2] t)) (v0 v1 v2 : Value) :
    (((w.setCell ⟨b, 0, none⟩ v0).setCell ⟨b, 1, none⟩ v1).setCell ⟨b, 2, none⟩ v2).heap[b]? = some (.cells #[v0, v1, v2] t) := by
  have h1 : (w.setCell ⟨b, 0, none⟩ v0).heap[b]? = some (.cells #[v0, u1, u2] t) := by simp [World.setCell, Array.getElem?_modify, hb]
  have h2 : ((w.setCell ⟨b, 0, none⟩ v0).setCell ⟨b, 1, none⟩ v1).heap[b]? = some (.cells #[v0, v1, u2] t) := by
    generalize w.setCell ⟨b, 0, none⟩ v0 = w1 at *
    simp [World.setCell, Array.getElem?_modify, h1]
  generalize (w.setCell ⟨b, 0, none⟩ v0).setCell ⟨b, 1, none⟩ v1 = w2 at *
  simp [World.setCell, Array.getElem?_modify, h2]
set_option maxRecDepth 100000 in
set_option maxHeartbeats 400000 in
theorem dcatch_panicking (bx rs tb : Nat) (st c : Int) (older : List PanicEntry) (w : World) (hb : w.heap[rs]? = some (.cells #[.int .i64 0, .int .i64 0, .int .i64 0] 44)) (hx : w.cell? ⟨bx, 0, none⟩ = some (.pointer (some ⟨tb, 0, none⟩))) (h1 : w.cell? ⟨tb, 1, none⟩ = some (.int .i64 st)) :
    CallsD Tryz.prog 106 #[.pointer (some ⟨bx, 0, none⟩), .pointer (some ⟨rs, 0, none⟩)] (.panicking ({ v := .iface 31 (.int .i64 c), recovered := false } :: older)) w fun e u' w' =>
      e = .returned (.tuple #[]) ∧ u' = .panicking ({ v := .iface 31 (.int .i64 c), recovered := true } :: older) ∧ w'.heap[rs]? = some (.cells #[.int .i64 st, .int .i64 c, .int .i64 0] 44) ∧ Chg (fun b => b = rs) w w' := by
  have k0 := cell_of hb (i := 0) (v := .int .i64 0) rfl
  have k1 := cell_of hb (i := 1) (v := .int .i64 0) rfl
  have k2 := cell_of hb (i := 2) (v := .int .i64 0) rfl
  have f0 := unfrozen_of hb 0
  have f1 := unfrozen_of hb 1
  have f2 := unfrozen_of hb 2
  have HB : Hid (w.heap[rs]? = some (.cells #[.int .i64 0, .int .i64 0, .int .i64 0] 44)) := hb
  have hs := start_any tb st w.drew h1
  refine callsD_of_wpS Tryz.func106 rfl fun c₀ cs hu => ?_
  apply wpS_seq
  apply wpS_region
  simp [wpOpsS, go_sem, recoverD, hu, Tryz.ntmps106, Exit.thenS]
  refine wpS_of_wp ?_
  clear hu hb
  have hta := assertE c
  go_wp2
  go_region_with (go_at_call 86; refine hs.mono ?_; rintro e w' ⟨rfl, hw'⟩; replace hw' := hw'.symm; subst hw')
  all_goals go_wp2
  all_goals simp [bodyPostS, results, Tryz.results106]
  all_goals
    refine ⟨?_, ((((chg_set w rs 0 _).trans (chg_set _ rs 1 _)).trans (chg_set _ rs 2 _))).drew⟩
    have e0 := heap_set3 HB.out (.int .i64 st) (.int .i64 c) (.int .i64 0)
    exact e0
set_option maxRecDepth 100000 in
theorem dcatch_idle (bx rs : Nat) (w : World) :
    CallsD Tryz.prog 106 #[.pointer (some ⟨bx, 0, none⟩), .pointer (some ⟨rs, 0, none⟩)] .returning w fun e u' w' => e = .returned (.tuple #[]) ∧ u' = .returning ∧ w' = w := by
  refine callsD_of_wpS Tryz.func106 rfl fun c₀ cs hu => ?_
  apply wpS_seq
  apply wpS_region
  simp [wpOpsS, go_sem, recoverD, hu, Tryz.ntmps106, Exit.thenS]
  refine wpS_of_wp ?_
  go_wp2
  cases c₀
  simp_all [bodyPostS, results, Tryz.results106]
abbrev dw (w : World) (tb : Nat) : World := (w.alloc (.cells #[.pointer (some ⟨tb, 0, none⟩)] 122)).alloc (.cells #[.int .i64 0, .int .i64 0, .int .i64 0] 44)
theorem dw_chg (w : World) (tb : Nat) : Chg nobody w (dw w tb) := ((Chg.refl _ _).alloc _).alloc _
theorem dw_size (w : World) (tb : Nat) : (dw w tb).heap.size = w.heap.size + 2 := by simp [dw]
theorem dw_res (w : World) (tb : Nat) : (dw w tb).heap[w.heap.size + 1]? = some (.cells #[.int .i64 0, .int .i64 0, .int .i64 0] 44) ∧ (dw w tb).cell? ⟨w.heap.size, 0, none⟩ = some (.pointer (some ⟨tb, 0, none⟩)) := by
  refine ⟨?_, ?_⟩
  · have := (MapKept.heap_alloc (w.alloc (.cells #[.pointer (some ⟨tb, 0, none⟩)] 122)) (.cells #[.int .i64 0, .int .i64 0, .int .i64 0] 44)).1
    simpa using this
  · simp [dw, go_sem]
set_option maxRecDepth 100000 in
set_option maxHeartbeats 1000000 in
theorem decide_err (T : Tx) (ob sb : Nat) (c : Int) (w : World) (hT : TxAt w sb T) (H : ∀ wq, Chg nobody w wq → Calls Tryz.prog 107 #[.pointer (some ⟨ob, 0, none⟩), .pointer (some ⟨T.tb, 0, none⟩)] wq fun e w' => e = errE c ∧ Chg nobody wq w') :
    Calls Tryz.prog 87 #[.pointer (some ⟨ob, 0, none⟩), .pointer (some ⟨T.tb, 0, none⟩)] w fun e w' => e = .returned (.agg #[.int .i64 T.start, .int .i64 c, .int .i64 0]) ∧ Chg nobody w w' := by
  have hmf : ∀ (fn : Fn) (first cap : Array Value) (w : World), (Instr.makeFunc fn first cap).run Tryz.prog w = .ok (.func fn first cap) w := fun _ _ _ _ => rfl
  have htl := lt_of_block hT.tx
  have h1 := hT.cells.2.1
  have HX : Hid (∀ w', Chg nobody w w' → w'.cell? ⟨T.tb, 1, none⟩ = some (.int .i64 T.start)) := fun w' hc => (hc.below.cell (p := ⟨T.tb, 1, none⟩) htl).trans h1
  have hs := start_any T.tb T.start (dw w T.tb).drew (HX.out _ (dw_chg w T.tb).drew)
  have HH := H (dw w T.tb).drew (dw_chg w T.tb).drew
  clear H hT h1
  go_enter_defers Tryz.func87, Tryz.ntmps87
  go_wp2
  refine wp_mono (Q := fun e a w' => e = .panic [{ v := .iface 31 (.int .i64 c), recovered := false }] ∧ a.defers = [{ target := Target.fn (Fn.func 106) #[.pointer (some ⟨w.heap.size, 0, none⟩), .pointer (some ⟨w.heap.size + 1, 0, none⟩)], args := #[] }] ∧ a.tmps[4]?.getD undef = .pointer (some ⟨w.heap.size + 1, 0, none⟩) ∧ Chg nobody (dw w T.tb) w') ?_ ?_
  · refine wp_region_any (by kernel_rfl) ?_
    change wpAny _ _ _ _ _ _ _ (World.drew _)
    refine wpAny_take (i := 2) (v := .pointer (some ⟨ob, 0, none⟩)) rfl (by kernel_rfl) (by kernel_rfl) (by kernel_rfl) (fun _ _ _ h => ⟨h.1, h.2.1, by simpa [Act.put] using h.2.2.1, h.2.2.2⟩) (Or.inl ⟨by rfl, by intro w; go_simp⟩) ?_
    refine wpAny_ready (rs := [0, 3]) (by kernel_rfl) (by simp) ?_
    refine AllReady.cons rfl (fun K hK => ?_) (AllReady.cons rfl (fun K hK => ?_) AllReady.nil)
    · go_simp
      refine hK _ _ ?_
      clear hK K
      refine wpAny_ready (rs := [1, 3]) (by kernel_rfl) (by simp) ?_
      refine AllReady.cons rfl (fun K hK => ?_) (AllReady.cons rfl (fun K hK => ?_) AllReady.nil)
      · go_simp
        refine hs.mono ?_
        rintro e w' ⟨rfl, hw'⟩
        replace hw' := hw'.symm
        subst hw'
        refine hK _ _ ?_
        clear hK K
        refine wpAny_ready (rs := [3]) (by kernel_rfl) (by simp) ?_
        refine AllReady.cons rfl (fun K hK => ?_) AllReady.nil
        go_simp
        refine hK _ _ ?_
        clear hK K
        refine wpAny_ready (rs := [4]) (by kernel_rfl) (by simp) ?_
        refine AllReady.cons rfl (fun K hK => ?_) AllReady.nil
        go_simp
        refine HH.mono ?_
        rintro e w' ⟨rfl, hch⟩
        go_simp
        exact ((Chg.refl _ _).drew).trans hch
      · go_simp
        refine hK _ _ ?_
        clear hK K
        refine wpAny_ready (rs := [1]) (by kernel_rfl) (by simp) ?_
        refine AllReady.cons rfl (fun K hK => ?_) AllReady.nil
        go_simp
        refine hs.mono ?_
        rintro e w' ⟨rfl, hw'⟩
        replace hw' := hw'.symm
        subst hw'
        refine hK _ _ ?_
        clear hK K
        refine wpAny_ready (rs := [4]) (by kernel_rfl) (by simp) ?_
        refine AllReady.cons rfl (fun K hK => ?_) AllReady.nil
        go_simp
        refine HH.mono ?_
        rintro e w' ⟨rfl, hch⟩
        go_simp
        exact ((Chg.refl _ _).drew).trans hch
    · go_simp
      refine hK _ _ ?_
      clear hK K
      refine wpAny_ready (rs := [0]) (by kernel_rfl) (by simp) ?_
      refine AllReady.cons rfl (fun K hK => ?_) AllReady.nil
      go_simp
      refine hK _ _ ?_
      clear hK K
      refine wpAny_ready (rs := [1]) (by kernel_rfl) (by simp) ?_
      refine AllReady.cons rfl (fun K hK => ?_) AllReady.nil
      go_simp
      refine hs.mono ?_
      rintro e w' ⟨rfl, hw'⟩
      replace hw' := hw'.symm
      subst hw'
      refine hK _ _ ?_
      clear hK K
      refine wpAny_ready (rs := [4]) (by kernel_rfl) (by simp) ?_
      refine AllReady.cons rfl (fun K hK => ?_) AllReady.nil
      go_simp
      refine HH.mono ?_
      rintro e w' ⟨rfl, hch⟩
      go_simp
      exact ((Chg.refl _ _).drew).trans hch
  · rintro e a w' ⟨rfl, hd, ht, hch⟩
    obtain ⟨tmps, defers⟩ := a
    simp only at hd ht
    subst hd
    clear hs HH
    go_wp2
    obtain ⟨d1, d2⟩ := dw_res w T.tb
    have hz := dw_size w T.tb
    have hres : w'.heap[w.heap.size + 1]? = some (.cells #[.int .i64 0, .int .i64 0, .int .i64 0] 44) := (hch.block _ (lt_of_block d1) (fun h => h)).trans d1
    have hbx : w'.cell? ⟨w.heap.size, 0, none⟩ = some (.pointer (some ⟨T.tb, 0, none⟩)) := ((bcell hch).1 _ _ (by omega)).trans d2
    refine leaves_cons (f := 106) (args := #[.pointer (some ⟨w.heap.size, 0, none⟩), .pointer (some ⟨w.heap.size + 1, 0, none⟩)]) (by simp) (by simp [go_sem]) ?_
    refine (dcatch_panicking w.heap.size (w.heap.size + 1) T.tb T.start c [] w' hres hbx (HX.out _ ((dw_chg w T.tb).trans hch))).mono ?_
    rintro e u' w'' ⟨rfl, rfl, hr, hc2⟩
    have r0 := cell_of hr (i := 0) (v := .int .i64 T.start) rfl
    have r1 := cell_of hr (i := 1) (v := .int .i64 c) rfl
    have r2 := cell_of hr (i := 2) (v := .int .i64 0) rfl
    have hfin : Chg nobody w w'' := ((dw_chg w T.tb).trans hch).andThen hc2 (fun i hi (e : i = _) => by omega)
    clear hres hbx hch hr hc2 d1 d2 hz HX htl
    simp [Leaves, settle, results, Tryz.results87, go_sem, ht, r0, r1, r2]
    exact hfin
def DecPost (S : Nat → Prop) (Q : World → World → Prop) (w w' : World) : Prop := ∃ wq w1 rs, Chg nobody w wq ∧ w.heap.size ≤ rs ∧ rs < wq.heap.size ∧ Chg S wq w1 ∧ Q wq w1 ∧ Chg (fun b => b = rs) w1 w'
set_option maxRecDepth 100000 in
set_option maxHeartbeats 1000000 in
theorem decide_ret (T : Tx) (ob sb : Nat) (t : Int) (w : World) (hT : TxAt w sb T) (S : Nat → Prop) (Q : World → World → Prop) (hS : ∀ b, S b → b < w.heap.size)
    (H : ∀ wq, Chg nobody w wq → Calls Tryz.prog 107 #[.pointer (some ⟨ob, 0, none⟩), .pointer (some ⟨T.tb, 0, none⟩)] wq fun e w' => e = .returned (.int .i64 t) ∧ Chg S wq w' ∧ Q wq w') :
    Calls Tryz.prog 87 #[.pointer (some ⟨ob, 0, none⟩), .pointer (some ⟨T.tb, 0, none⟩)] w fun e w' => e = .returned (.agg #[.int .i64 T.start, .int .i64 0, .int .i64 t]) ∧ DecPost S Q w w' := by
  have hmf : ∀ (fn : Fn) (first cap : Array Value) (w : World), (Instr.makeFunc fn first cap).run Tryz.prog w = .ok (.func fn first cap) w := fun _ _ _ _ => rfl
  have htl := lt_of_block hT.tx
  have h1 := hT.cells.2.1
  have HX : Hid (∀ w', Chg nobody w w' → w'.cell? ⟨T.tb, 1, none⟩ = some (.int .i64 T.start)) := fun w' hc => (hc.below.cell (p := ⟨T.tb, 1, none⟩) htl).trans h1
  have hs := start_any T.tb T.start (dw w T.tb).drew (HX.out _ (dw_chg w T.tb).drew)
  have HH := H (dw w T.tb).drew (dw_chg w T.tb).drew
  have HS : Hid (∀ b, S b → b < w.heap.size) := hS
  clear H hT h1 hS
  go_enter_defers Tryz.func87, Tryz.ntmps87
  go_wp2
  refine wp_mono (Q := fun e a w' => match e with | .normal => a.defers = [{ target := Target.fn (Fn.func 106) #[.pointer (some ⟨w.heap.size, 0, none⟩), .pointer (some ⟨w.heap.size + 1, 0, none⟩)], args := #[] }] ∧ a.tmps[4]?.getD undef = .pointer (some ⟨w.heap.size + 1, 0, none⟩) ∧ ∃ w1, Chg S (dw w T.tb).drew w1 ∧ Q (dw w T.tb).drew w1 ∧ w'.heap[w.heap.size + 1]? = some (.cells #[.int .i64 T.start, .int .i64 0, .int .i64 t] 44) ∧ Chg (fun b => b = w.heap.size + 1) w1 w' | _ => False) ?_ ?_
  · have HR : Hid (∀ w1, Chg S (dw w T.tb).drew w1 → w1.heap[w.heap.size + 1]? = some (.cells #[.int .i64 0, .int .i64 0, .int .i64 0] 44) ∧ w1.cell? ⟨w.heap.size, 0, none⟩ = some (.pointer (some ⟨T.tb, 0, none⟩))) := fun w1 hc => by
      obtain ⟨d1, d2⟩ := dw_res w T.tb
      have hz := dw_size w T.tb
      have e0 : (dw w T.tb).heap[w.heap.size]? = some (.cells #[.pointer (some ⟨T.tb, 0, none⟩)] 122) := by
        rw [Below.heap_alloc _ _ _ (by simp)]
        exact (MapKept.heap_alloc w _).1
      refine ⟨(hc.block _ (show _ < (dw w T.tb).heap.size by omega) (fun h => by have := HS.out _ h; omega)).trans d1, ?_⟩
      exact cell_of ((hc.block _ (show _ < (dw w T.tb).heap.size by omega) (fun h => by have := HS.out _ h; omega)).trans e0) (i := 0) rfl
    go_region_with (first | (go_at_call 86; refine hs.mono ?_; rintro e w' ⟨rfl, hw'⟩; replace hw' := hw'.symm; subst hw') | (go_at_call 107; refine HH.mono ?_; rintro e w1 ⟨rfl, hch, hq⟩; obtain ⟨hr1, hb1⟩ := HR.out w1 hch; have k0 := cell_of hr1 (i := 0) (v := .int .i64 0) rfl; have k1 := cell_of hr1 (i := 1) (v := .int .i64 0) rfl; have k2 := cell_of hr1 (i := 2) (v := .int .i64 0) rfl; have f0 := unfrozen_of hr1 0; have f1 := unfrozen_of hr1 1; have f2 := unfrozen_of hr1 2; have HY : Hid (w1.heap[w.heap.size + 1]? = some (.cells #[.int .i64 0, .int .i64 0, .int .i64 0] 44)) := hr1; clear hr1))
    all_goals
      refine ⟨rfl, rfl, w1, hch, hq, heap_set3 HY.out _ _ _, ((chg_set w1 _ 0 _).trans (chg_set _ _ 1 _)).trans (chg_set _ _ 2 _)⟩
  · intro e a w' hx
    cases e <;> (try exact hx.elim)
    obtain ⟨hd, ht, w1, hch, hq, hr, hc2⟩ := hx
    obtain ⟨tmps, defers⟩ := a
    simp only at hd ht
    subst hd
    clear hs HH
    go_wp2
    refine leaves_cons (f := 106) (args := #[.pointer (some ⟨w.heap.size, 0, none⟩), .pointer (some ⟨w.heap.size + 1, 0, none⟩)]) (by simp) (by simp [go_sem]) ?_
    refine (dcatch_idle w.heap.size (w.heap.size + 1) w').mono ?_
    rintro e u' w'' ⟨rfl, rfl, hw''⟩
    replace hw'' := hw''.symm
    subst hw''
    have r0 := cell_of hr (i := 0) (v := .int .i64 T.start) rfl
    have r1 := cell_of hr (i := 1) (v := .int .i64 0) rfl
    have r2 := cell_of hr (i := 2) (v := .int .i64 t) rfl
    have hfin : DecPost S Q w w' := ⟨(dw w T.tb).drew, w1, w.heap.size + 1, (dw_chg w T.tb).drew, by omega, by show _ < (dw w T.tb).heap.size; rw [dw_size]; omega, hch, hq, hc2⟩
    clear hch hq hr hc2 HX htl HS
    simp [Leaves, settle, results, Tryz.results87, go_sem, ht, r0, r1, r2]
    exact hfin
end Go.Proofs.YtkfjafndplmdkaaGreat
