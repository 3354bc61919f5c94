import Derived.Test.YtkfjafndplmdkaaGreatT8
namespace Go.Proofs.YtkfjafndplmdkaaGreat
open Go.RowKit Go.Sort
open Go.Maps (Keyed)
theorem cells7 {w : World} {b : Nat} (hb : w.heap[b]? = some ans0) : w.cell? ⟨b, 0, none⟩ = some (.int .i64 0) ∧ w.cell? ⟨b, 1, none⟩ = some (.int .i64 0) ∧ w.cell? ⟨b, 2, none⟩ = some (.bool false) ∧ w.cell? ⟨b, 3, none⟩ = some (.string ⟨#[]⟩) ∧ w.cell? ⟨b, 4, none⟩ = some (.slice none 0 0) ∧ w.cell? ⟨b, 5, none⟩ = some (.slice none 0 0) ∧ w.cell? ⟨b, 6, none⟩ = some (.slice none 0 0) ∧ ∀ i, w.frozen? ⟨b, i, none⟩ = false :=
  ⟨cell_of hb rfl, cell_of hb rfl, cell_of hb rfl, cell_of hb rfl, cell_of hb rfl, cell_of hb rfl, cell_of hb rfl, fun i => unfrozen_of hb i⟩
set_option maxHeartbeats 400000 in
theorem begin_no (p om : Nat) (l : List (Int × Nat)) (w : World) (hc : w.cell? ⟨p, 4, none⟩ = some (.map (some om))) (hm : mapAt w Tryz.prog 3 mkI mkP om l) (hl : 6 ≤ l.length) :
    Calls Tryz.prog 57 #[.pointer (some ⟨p, 0, none⟩)] w fun e w' => e = errE 6 ∧ Chg nobody w w' := by
  have hpl := lt_of_cell hc
  have hlen : ∀ o ty, (Builtin.len_ #[91] ty #[.map (some om)]).run Tryz.prog (w.alloc o) = .ok (.int .i64 l.length) (w.alloc o) := fun o ty => (hm.of_block (Below.heap_alloc w o om hm.lt)).len Tryz.underlying91 ty
  have hc' : ∀ o, (w.alloc o).cell? ⟨p, 4, none⟩ = some (.map (some om)) := fun o => by rw [World.cell?_alloc_past _ _ _ hpl]; exact hc
  clear hm hc
  go_enter Tryz.func57, Tryz.ntmps57
  go_wp2
  exact ⟨rfl, rfl, (Chg.refl _ _).alloc _⟩
set_option maxHeartbeats 1000000 in
theorem begin_yes (p cb sb ob qb om : Nat) (c : Int) (l : List (Int × Nat)) (w : World) (h0 : 0 ≤ c) (h1 : c < 1000000000) (hb : w.heap[p]? = some (.cells #[.pointer (some ⟨cb, 0, none⟩), .pointer (some ⟨sb, 0, none⟩), .pointer (some ⟨ob, 0, none⟩), .pointer (some ⟨qb, 0, none⟩), .map (some om)] 93)) (hcb : w.heap[cb]? = some (.cells #[.int .i64 c] 86)) (hm : mapAt w Tryz.prog 3 mkI mkP om l) (hl : l.length < 6) :
    Calls Tryz.prog 57 #[.pointer (some ⟨p, 0, none⟩)] w fun e w' => ∃ tb wb kb pb : Nat, e = .returned (ansV 0 (c + 1) false ⟨#[]⟩ (.slice none 0 0)) ∧ TxAt w' sb ⟨tb, wb, kb, pb, false, c + 1, [], [], []⟩ ∧
      w'.heap[cb]? = some (.cells #[.int .i64 (c + 1)] 86) ∧ mapAt w' Tryz.prog 3 mkI mkP om (putA (c + 1) tb l) ∧
      Chg (fun b => b = cb ∨ b = om) w w' ∧ w.heap.size ≤ wb ∧ kb = wb + 1 ∧ pb = wb + 2 ∧ tb = wb + 3 := by
  have hpl := lt_of_block hb
  have hpo : cb ≠ om := fun e => by
    obtain ⟨es, ck, hx, _⟩ := hm
    rw [← e, hcb] at hx; cases hx
  have hpc : p ≠ cb := fun e => by rw [e, hcb] at hb; cases hb
  have hpm : p ≠ om := fun e => by
    obtain ⟨es, ck, hx, _⟩ := hm
    rw [← e, hb] at hx; cases hx
  have hlen : ∀ o ty, (Builtin.len_ #[91] ty #[.map (some om)]).run Tryz.prog (w.alloc o) = .ok (.int .i64 l.length) (w.alloc o) := fun o ty => (hm.of_block (Below.heap_alloc w o om hm.lt)).len Tryz.underlying91 ty
  have hc' : ∀ o, (w.alloc o).cell? ⟨p, 4, none⟩ = some (.map (some om)) := fun o => by rw [World.cell?_alloc_past _ _ _ hpl]; exact cell_of hb rfl
  have hc0' : ∀ o, (w.alloc o).cell? ⟨p, 0, none⟩ = some (.pointer (some ⟨cb, 0, none⟩)) := fun o => by rw [World.cell?_alloc_past _ _ _ hpl]; exact cell_of hb rfl
  have HB : Hid (w.heap[p]? = some (.cells #[.pointer (some ⟨cb, 0, none⟩), .pointer (some ⟨sb, 0, none⟩), .pointer (some ⟨ob, 0, none⟩), .pointer (some ⟨qb, 0, none⟩), .map (some om)] 93) ∧ mapAt w Tryz.prog 3 mkI mkP om l ∧ cb ≠ om ∧ w.heap[cb]? = some (.cells #[.int .i64 c] 86) ∧ p ≠ cb ∧ p ≠ om) := ⟨hb, hm, hpo, hcb, hpc, hpm⟩
  clear hb hm hpo hcb hpc hpm
  go_enter Tryz.func57, Tryz.ntmps57
  go_wp2_with fail
  obtain ⟨hb, hm, hpo, hcb, hpc, hpm⟩ := HB.out
  refine (takeTime_spec cb c _ h0 h1 (by rw [Below.heap_alloc _ _ _ (lt_of_block hcb)]; exact hcb)).mono ?_
  rintro e w2 ⟨rfl, hb2, hcg2⟩
  have hw2 : w.heap.size < w2.heap.size := by have := hcg2.size; simp at this; omega
  have hcl := lt_of_block hcb
  have hres : w2.heap[w.heap.size]? = some ans0 := by
    rw [hcg2.block _ (by simp) (by omega)]
    exact (MapKept.heap_alloc w _).1
  have hm2 : mapAt w2 Tryz.prog 3 mkI mkP om l := hm.of_block ((hcg2.block _ (by have := hm.lt; simp; omega) (Ne.symm hpo)).trans (Below.heap_alloc _ _ _ hm.lt))
  have hp2 : w2.heap[p]? = some (.cells #[.pointer (some ⟨cb, 0, none⟩), .pointer (some ⟨sb, 0, none⟩), .pointer (some ⟨ob, 0, none⟩), .pointer (some ⟨qb, 0, none⟩), .map (some om)] 93) := ((hcg2.block _ (by simp; omega) hpc).trans (Below.heap_alloc _ _ _ hpl)).trans hb
  have c1 : w2.cell? ⟨p, 1, none⟩ = some (.pointer (some ⟨sb, 0, none⟩)) := cell_of hp2 rfl
  have c2 : w2.cell? ⟨p, 4, none⟩ = some (.map (some om)) := cell_of hp2 rfl
  have HC : Hid (w2.heap[cb]? = some (.cells #[.int .i64 (c + 1)] 86) ∧ w2.heap[w.heap.size]? = some ans0 ∧ mapAt w2 Tryz.prog 3 mkI mkP om l ∧ Chg (fun b => b = cb ∨ b = om) w w2 ∧ cb ≠ om ∧ om < w.heap.size ∧ w.heap.size < w2.heap.size ∧ cb < w.heap.size) := ⟨hb2, hres, hm2, ((Chg.refl _ _).alloc _).andThen hcg2 (fun _ _ h => Or.inl h), hpo, hm.lt, hw2, hcl⟩
  have HST : Hid (∀ (w3 : World) (tb : Nat), Chg nobody w2 w3 → ∃ w4, (Instr.mapUpdate 91 (.map (some om)) (.int .i64 (c + 1)) (.pointer (some ⟨tb, 0, none⟩))).run Tryz.prog w3 = .ok () w4 ∧ mapAt w4 Tryz.prog 3 mkI mkP om (putA (c + 1) tb l) ∧ Chg (fun b => b = om) w3 w4) := fun w3 tb hch => by
    obtain ⟨w4, q1, q2, q3, _⟩ := (hm2.of_block (hch.block om hm2.lt (fun h => h))).store keyI mkI_inj Tryz.underlying91 (a := c + 1) (keyOfI (by unfold isInt; omega)) tb
    exact ⟨w4, q1, q2, (Chg.refl _ _).grown q3 (fun k e => Or.inl (by cases e; rfl))⟩
  clear hb2 hres hm2 hcg2 hb hm hpo hc' hlen hcb hpc hpm hp2 hc0' hcl
  go_wp2
  go_region_with (go_at_call 75; refine (txNew_spec (c + 1) sb _).mono ?_; rintro e w3 ⟨tb, wb, kb, pb, rfl, hT, hch, e1, e2, e3, e4⟩; have d1 : w3.cell? ⟨p, 1, none⟩ = some (.pointer (some ⟨sb, 0, none⟩)) := (hch.below.cell (p := ⟨p, 1, none⟩) (lt_of_cell c1)).trans c1; have d2 : w3.cell? ⟨p, 4, none⟩ = some (.map (some om)) := (hch.below.cell (p := ⟨p, 4, none⟩) (lt_of_cell c2)).trans c2; obtain ⟨w4, hrun4, hm4, hcg4⟩ := HST.out w3 tb hch.undrew; have HE : Hid (wb = w2.heap.size ∧ kb = w2.heap.size + 1 ∧ pb = w2.heap.size + 2 ∧ tb = w2.heap.size + 3) := ⟨e1, e2, e3, e4⟩; clear e1 e2 e3 e4)
  all_goals
    obtain ⟨hb2, hres, hm2, hcg2, hpo, homl, hw2, hcl⟩ := HC.out
    have hres4 : w4.heap[w.heap.size]? = some ans0 := by
      rw [hcg4.block _ (by have := hch.size; simp at this; omega) (by omega), hch.undrew.block _ hw2 (fun h => h)]
      exact hres
    have hb4 : w4.heap[cb]? = some (.cells #[.int .i64 (c + 1)] 86) := by
      rw [hcg4.block _ (by have := hch.size; simp at this; omega) hpo, hch.undrew.block _ (by omega) (fun h => h)]
      exact hb2
    have HD : Hid (w4.heap[w.heap.size]? = some ans0 ∧ w4.heap[cb]? = some (.cells #[.int .i64 (c + 1)] 86) ∧ Chg (fun b => b = cb ∨ b = om) w w4 ∧ TxAt w4 sb ⟨tb, wb, kb, pb, false, c + 1, [], [], []⟩ ∧ om < w.heap.size ∧ w.heap.size < w2.heap.size ∧ w2.heap.size ≤ w3.heap.size ∧ cb < w.heap.size) := by
      obtain ⟨e1, e2, e3, e4⟩ := HE.out
      refine ⟨hres4, hb4, (hcg2.andThen (hch.undrew.any (fun b => b = cb ∨ b = om)) (fun _ _ h => h)).andThen hcg4 (fun _ _ h => Or.inr h), hT.chg hcg4 ?_ ?_ ?_ ?_, homl, hw2, hch.undrew.size, hcl⟩ <;> simp only <;> omega
    obtain ⟨k0, k1, k2, k3, k4, k5, k6, kf⟩ := cells7 hres4
    have hom4 : Hid (mapAt w4 Tryz.prog 3 mkI mkP om (putA (c + 1) tb l)) := hm4
    clear hb2 hres hm2 hcg2 hpo hcg4 hres4 hb4 hch hT hm4 c1 c2 d1 d2 hrun4 HC homl hcl
    go_wp2
    obtain ⟨hres4, hb4, hcg, hT4, homl, hw2', hw3, hcl⟩ := HD.out
    obtain ⟨e1, e2, e3, e4⟩ := HE.out
    obtain ⟨r0, r1, r2, r3, r4, r5, r6⟩ := set7 hres4 rfl (.int .i64 0) (.int .i64 (c + 1)) (.bool false) (.string ⟨#[]⟩) (.slice none 0 0) (.slice none 0 0) (.slice none 0 0)
    have hc7 := chg_set7 w4 w.heap.size (.int .i64 0) (.int .i64 (c + 1)) (.bool false) (.string ⟨#[]⟩) (.slice none 0 0) (.slice none 0 0) (.slice none 0 0)
    refine bodyPost_ret (v := ansV 0 (c + 1) false ⟨#[]⟩ (.slice none 0 0)) (by simp [results, Tryz.results57, go_sem, r0, r1, r2, r3, r4, r5, r6]) rfl ⟨tb, wb, kb, pb, rfl, hT4.chg hc7 ?_ ?_ ?_ ?_, (hc7.block _ (lt_of_block hb4) (by omega)).trans hb4, hom4.out.of_block (hc7.block _ hom4.out.lt (by omega)), hcg.andThen hc7 (fun i hi h => by omega), by omega, by omega, by omega, by omega⟩
    all_goals simp only
    all_goals omega
end Go.Proofs.YtkfjafndplmdkaaGreat
