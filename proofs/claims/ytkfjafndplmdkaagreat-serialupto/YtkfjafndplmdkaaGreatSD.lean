import Derived.Test.YtkfjafndplmdkaaGreatSC
namespace Go.Proofs.YtkfjafndplmdkaaGreat
open Go.RowKit Go.Sort
set_option maxRecDepth 100000 in
set_option maxHeartbeats 1000000 in
theorem tset_zero (tb c : Nat) (a : Option Addr) (key val : ByteArray) (gone : Bool) (w : World) (hc : w.cell? ⟨tb, 0, none⟩ = some (.slice a 0 c)) (hf : w.frozen? ⟨tb, 0, none⟩ = false) (hb : tb < w.heap.size) :
    Calls Tryz.prog 35 #[.pointer (some ⟨tb, 0, none⟩), .string key, .string val, .bool gone] w fun e w' => e = .returned (.tuple #[]) ∧ ∃ x, TblAt w' tb w.heap.size x (setT [] key val gone) ∧ Chg (fun b => b = tb) w w' := by
  obtain ⟨i0, hi, hz0, hz1, hz2⟩ := info_parts infoItem
  have HFIN : Hid (∀ (w1 : World) (l' : Tbl) (ad : Option Addr) (n c2 : Nat), Chg nobody w w1 → w1.cell? ⟨tb, 0, none⟩ = some (.slice a 0 c) → w1.frozen? ⟨tb, 0, none⟩ = false → w1.ownsRow w.heap.size 66 2 (.slice ad n c2) l'.length (itemCells l') → ∃ x, TblAt (w1.setCell ⟨tb, 0, none⟩ (.slice ad n c2)) tb w.heap.size x l' ∧ Chg (fun b => b = tb) w (w1.setCell ⟨tb, 0, none⟩ (.slice ad n c2))) := fun w1 l' ad n c2 h1 h2 hz h3 => by
    refine ⟨(ad, n, c2), ⟨World.cell?_setCell_same _ _ _ h2, by simp [hz], ownsRow_chg h3 (chg_set w1 tb 0 _) (fun g e hg => ?_)⟩, Chg.setCell (S := fun b => b = tb) (h1.any _) (p := ⟨tb, 0, none⟩) (Or.inl rfl) _⟩
    have := (h3.lt g e).1
    omega
  have hr0 := World.ownsRow_nil w w.heap.size 66 2
  cases gone
  · go_enter Tryz.func35, Tryz.ntmps35
    go_wp2
    refine wp_loop_rounds 1 ?_
    rw [rounds_succ]
    go_wp2_with (at_builtin; refine wpList_append_own _ rfl _ _ 32 rfl w.heap.size 66 i0 (.agg #[.string ⟨#[]⟩, .string ⟨#[]⟩]) 2 32 Tryz.underlying32 hi hz0 hz1 hz2 rfl (by decide) _ _ _ rfl (hr0.alloc _) ⟨w.heap.size, 0, none⟩ 1 1 [.string key, .string val] rfl rfl (cells_new w #[.string key, .string val] 66) (item_one key val) (by unfold maxLen; omega) (by omega) (by simp) ?_; intro v' w1 hown1 hg1 _; obtain ⟨ad, c2, rfl⟩ := row_sl hown1; have hcw : Chg nobody w w1 := ((Chg.refl _ _).alloc _).grown hg1 (fun k e => by cases e); have hc2 : w1.cell? ⟨tb, 0, none⟩ = some (.slice a 0 c) := (hcw.below.cell (p := ⟨tb, 0, none⟩) hb).trans hc; have hf2 : w1.frozen? ⟨tb, 0, none⟩ = false := ((bcell hcw).2 _ _ hb).trans hf)
    go_end0
    refine ⟨rfl, HFIN.out w1 (setT [] key val false) _ _ _ hcw hc2 hf2 ?_⟩
    simpa [itemCells, setT] using hown1
  · go_enter Tryz.func35, Tryz.ntmps35
    go_wp2
    refine wp_loop_rounds 1 ?_
    rw [rounds_succ]
    go_wp2
    go_end0
    exact ⟨rfl, HFIN.out w (setT [] key val true) _ _ _ (Chg.refl _ _) hc hf hr0⟩
theorem tset_any {tb base : Nat} {x : Sl} {l : Tbl} (key val : ByteArray) (gone : Bool) {w : World} (h : TblAt w tb base x l) (hl : l.length ≤ 10000000) (hb : tb < w.heap.size) :
    Calls Tryz.prog 35 #[.pointer (some ⟨tb, 0, none⟩), .string key, .string val, .bool gone] w fun e w' => e = .returned (.tuple #[]) ∧ ∃ x, TblAt w' tb w.heap.size x (setT l key val gone) ∧ Chg (fun b => b = tb) w w' := by
  obtain ⟨a, k, c⟩ := x
  rcases h.r.2 with ⟨e, h0⟩ | ⟨g, cap, cur, e, _⟩
  · have hc := h.c
    rw [e] at hc
    have hl0 : l = [] := List.eq_nil_of_length_eq_zero h0
    subst hl0
    exact tset_zero tb 0 none key val gone w hc h.f hb
  · simp only [slV, Value.slice.injEq] at e
    obtain ⟨rfl, rfl, rfl⟩ := e
    exact tset_some _ _ _ _ _ key val gone w h hl hb
end Go.Proofs.YtkfjafndplmdkaaGreat
