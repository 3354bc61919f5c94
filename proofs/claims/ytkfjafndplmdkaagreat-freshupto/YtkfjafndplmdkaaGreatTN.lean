import Derived.Test.YtkfjafndplmdkaaGreatTM
import Derived.Laws.AppendOwnNone
namespace Go.Proofs.YtkfjafndplmdkaaGreat
open Go.RowKit Go.Sort
/-- A LIST OF STEPS THAT CAN BE READ. -/
def SrcOps (w : World) (v : Value) (ops : List OpM) : Prop := (v = .slice none 0 0 ∧ ops = []) ∨ ∃ a cap, v = .slice (some a) ops.length cap ∧ ops.length ≤ cap ∧ ∀ j u, (opCells ops)[j]? = some u → w.cell? (a.add j) = some u
theorem SrcOps.chg {w w' : World} {v : Value} {ops : List OpM} (h : SrcOps w v ops) (hc : Chg nobody w w') : SrcOps w' v ops := by
  rcases h with h | ⟨a, cap, hv, hcap, hx⟩
  · exact Or.inl h
  · refine Or.inr ⟨a, cap, hv, hcap, fun j u hu => ?_⟩
    have := hx j u hu
    rw [hc.below.cell (lt_of_cell this)]
    exact this
theorem SrcOps.len {w : World} {v : Value} {ops : List OpM} (h : SrcOps w v ops) : ∃ ad cap, v = .slice ad ops.length cap := by
  rcases h with ⟨rfl, rfl⟩ | ⟨a, cap, hv, _⟩
  · exact ⟨none, 0, rfl⟩
  · exact ⟨some a, cap, hv⟩
theorem src_of_row {w : World} {base : Nat} {v : Value} {ops : List OpM} (h : w.ownsRow base 30 5 v ops.length (opCells ops)) : SrcOps w v ops := by
  rcases h.2 with ⟨rfl, h0⟩ | ⟨g, cap, cur, rfl, _, _, hcap, _⟩
  · exact Or.inl ⟨rfl, List.eq_nil_of_length_eq_zero h0⟩
  · refine Or.inr ⟨⟨g, 0, none⟩, cap, rfl, hcap, fun j u hu => ?_⟩
    have h2 : (⟨g, 0, none⟩ : Addr).add j = ⟨g, j, none⟩ := by
      unfold Addr.add
      split <;> simp [*]
    rw [h2]
    exact row_cells h j u hu
theorem src_block {w : World} {b n : Nat} {c : Array Value} {ops : List OpM} (hb : w.heap[b]? = some (.cells c 30)) (hc : c.toList = opCells ops) (hn : n = ops.length) : SrcOps w (.slice (some ⟨b, 0, none⟩) n n) ops := by
  subst hn
  refine Or.inr ⟨⟨b, 0, none⟩, ops.length, rfl, Nat.le_refl _, fun j u hu => ?_⟩
  have h2 : (⟨b, 0, none⟩ : Addr).add j = ⟨b, j, none⟩ := by
    unfold Addr.add
    split <;> simp [*]
  rw [h2]
  refine cell_of hb ?_
  rw [← hc] at hu
  simpa using hu
theorem OpM.vals_len (o : OpM) : o.vals.length = 5 := rfl
theorem SrcOps.at {w : World} {v : Value} {ops : List OpM} (h : SrcOps w v ops) : ops = [] ∨ ∃ b off cap, v = .slice (some ⟨b, off, none⟩) ops.length cap ∧ ops.length ≤ cap ∧ OpsAt w b off ops ∧ b < w.heap.size := by
  rcases h with ⟨_, h0⟩ | ⟨a, cap, hv, hcap, hx⟩
  · exact Or.inl h0
  · by_cases h0 : ops = []
    · exact Or.inl h0
    · right
      obtain ⟨b, off, spot⟩ := a
      have hpos : 0 < ops.length := by cases ops with | nil => exact absurd rfl h0 | cons _ _ => simp
      have h1 := hx 0 (.int .i64 (ops[0]).kind) (by have := opCells_at ops 0 0 hpos (by omega); simpa [OpM.vals] using this)
      have hsp : spot = none := by
        cases spot with
        | none => rfl
        | some s => simp [Addr.add, World.cell?] at h1; split at h1 <;> simp at h1
      subst hsp
      refine ⟨b, off, cap, hv, hcap, opsAt_of fun j hj => ?_, lt_of_cell h1⟩
      have hl := opCells_len ops
      have hg : (opCells ops)[j]? = some ((opCells ops)[j]'(by omega)) := List.getElem?_eq_getElem _
      rw [hg]
      have h3 := hx j _ hg
      have h2 : (⟨b, off, none⟩ : Addr).add j = ⟨b, off + j, none⟩ := by
        unfold Addr.add
        split <;> simp [*]
      rw [h2] at h3
      exact h3
theorem run_src {w : World} {v : Value} {ops : List OpM} (h : SrcOps w v ops) (hok : ∀ o ∈ ops, o.ok) (hn : ops.length ≤ 10000000) :
    Calls Tryz.prog 16 #[v] w fun e w' => ∃ (g c : Nat) (sl : List Sl3), e = .returned (.slice (some ⟨g, 0, none⟩) ops.length c) ∧ w'.ownsRow w.heap.size 36 7 (.slice (some ⟨g, 0, none⟩) ops.length c) ops.length (ansCells (ansP p0 ops) sl) ∧ ItemsAt w' w.heap.size (ansP p0 ops) sl ∧ Chg nobody w w' := by
  rcases h.at with rfl | ⟨b, off, cap, rfl, hcap, hops, hbl⟩
  · obtain ⟨ad, cap, rfl⟩ := h.len
    exact run_zero ad cap w
  · exact run_any b off cap ops w hops hbl hok hn
theorem info30 : (Tryz.prog.info? 30).map (fun i => (i.zero, i.size, i.bytes)) = some (some (OpM.v ⟨0, 0, ⟨#[]⟩, ⟨#[]⟩, 0⟩), 5, 56) := by kernel_rfl
theorem vals_one (o : OpM) : ∀ u ∈ o.vals, u.oneCell' = true := by
  intro u hu
  simp only [OpM.vals, List.mem_cons, List.not_mem_nil, or_false] at hu
  rcases hu with rfl | rfl | rfl | rfl | rfl <;> rfl
theorem opCells_one (ops : List OpM) : ∀ u ∈ opCells ops, u.oneCell' = true := by
  intro u hu
  obtain ⟨o, _, ho⟩ := List.mem_flatMap.1 hu
  exact vals_one o u ho
theorem opCells_append (a b : List OpM) : opCells (a ++ b) = opCells a ++ opCells b := by simp [opCells]
set_option maxHeartbeats 1000000 in
theorem with_any {w : World} {A B : Value} {xs ys : List OpM} (hA : SrcOps w A xs) (hB : SrcOps w B ys) (hx : xs.length ≤ 10000000) (hy : ys.length ≤ 10000000) :
    Calls Tryz.prog 17 #[A, B] w fun e w' => ∃ v, e = .returned v ∧ w'.ownsRow w.heap.size 30 5 v (xs ++ ys).length (opCells (xs ++ ys)) ∧ Chg nobody w w' := by
  obtain ⟨i0, hi, hz0, hz1, hz2⟩ := info_parts info30
  have hlx := opCells_len xs
  have hly := opCells_len ys
  rcases hA with ⟨rfl, rfl⟩ | ⟨a, ca, rfl, hca, hxa⟩
  · rcases hB with ⟨rfl, rfl⟩ | ⟨b, cb, rfl, hcb, hxb⟩
    · go_enter Tryz.func17, Tryz.ntmps17
      go_wp2_with (at_builtin; refine wpList_append_own_none rfl _ _ 22 rfl w.heap.size 30 i0 5 Tryz.underlying22 hi (.slice none 0 0) 0 [] rfl (World.ownsRow_nil _ _ _ _) rfl ?_)
      go_ret
      exact ⟨_, rfl, World.ownsRow_nil _ _ _ _, Chg.refl _ _⟩
    · have HX : Hid (∀ j u, (opCells ys)[j]? = some u → w.cell? (b.add j) = some u) := hxb
      clear hxb
      go_enter Tryz.func17, Tryz.ntmps17
      go_wp2_with (first | (at_builtin; refine wpList_append_own _ rfl _ _ 22 rfl w.heap.size 30 i0 (OpM.v ⟨0, 0, ⟨#[]⟩, ⟨#[]⟩, 0⟩) 5 56 Tryz.underlying22 hi hz0 hz1 hz2 rfl (by decide) _ 0 [] rfl (World.ownsRow_nil _ _ _ _) b ys.length cb (opCells ys) rfl hly HX.out (opCells_one ys) (by unfold maxLen; omega) (by omega) (Nat.le_refl _) ?_; intro v' w1 hown1 hg1 _) | (at_builtin; refine wpList_append_own_none rfl _ _ 22 rfl w.heap.size 30 i0 5 Tryz.underlying22 hi (.slice none 0 0) 0 [] rfl (World.ownsRow_nil _ _ _ _) rfl ?_))
      go_ret
      refine ⟨_, rfl, by simpa using hown1, (Chg.refl _ _).grown hg1 (fun k e => by cases e)⟩
  · have HX : Hid (∀ j u, (opCells xs)[j]? = some u → w.cell? (a.add j) = some u) := hxa
    clear hxa
    rcases hB with ⟨rfl, rfl⟩ | ⟨b, cb, rfl, hcb, hxb⟩
    · go_enter Tryz.func17, Tryz.ntmps17
      go_wp2_with (first | (at_builtin; refine wpList_append_own_none rfl _ _ 22 rfl w.heap.size 30 i0 5 Tryz.underlying22 hi v' _ _ rfl hown1 rfl ?_) | (at_builtin; refine wpList_append_own _ rfl _ _ 22 rfl w.heap.size 30 i0 (OpM.v ⟨0, 0, ⟨#[]⟩, ⟨#[]⟩, 0⟩) 5 56 Tryz.underlying22 hi hz0 hz1 hz2 rfl (by decide) _ 0 [] rfl (World.ownsRow_nil _ _ _ _) a xs.length ca (opCells xs) rfl hlx HX.out (opCells_one xs) (by unfold maxLen; omega) (by omega) (Nat.le_refl _) ?_; intro v' w1 hown1 hg1 _))
      go_ret
      refine ⟨_, rfl, by simpa using hown1, (Chg.refl _ _).grown hg1 (fun k e => by cases e)⟩
    · have HY : Hid (∀ j u, (opCells ys)[j]? = some u → w.cell? (b.add j) = some u) := hxb
      clear hxb
      go_enter Tryz.func17, Tryz.ntmps17
      go_wp2_with (first | (at_builtin; refine wpList_append_own _ rfl _ _ 22 rfl w.heap.size 30 i0 (OpM.v ⟨0, 0, ⟨#[]⟩, ⟨#[]⟩, 0⟩) 5 56 Tryz.underlying22 hi hz0 hz1 hz2 rfl (by decide) v' _ _ rfl hown1 b ys.length cb (opCells ys) rfl hly HY1.out (opCells_one ys) (by unfold maxLen; omega) (by omega) hz ?_; intro v'' w2 hown2 hg2 _) | (at_builtin; refine wpList_append_own _ rfl _ _ 22 rfl w.heap.size 30 i0 (OpM.v ⟨0, 0, ⟨#[]⟩, ⟨#[]⟩, 0⟩) 5 56 Tryz.underlying22 hi hz0 hz1 hz2 rfl (by decide) _ 0 [] rfl (World.ownsRow_nil _ _ _ _) a xs.length ca (opCells xs) rfl hlx HX.out (opCells_one xs) (by unfold maxLen; omega) (by omega) (Nat.le_refl _) ?_; intro v' w1 hown1 hg1 _; have hc1 : Chg nobody w w1 := (Chg.refl _ _).grown hg1 (fun k e => by cases e); have hz : w.heap.size ≤ w1.heap.size := hc1.size; have HY1 : Hid (∀ j u, (opCells ys)[j]? = some u → w1.cell? (b.add j) = some u) := (fun j u hu => by have := HY.out j u hu; rw [hc1.below.cell (lt_of_cell this)]; exact this)))
      go_ret
      refine ⟨_, rfl, ?_, hc1.grown hg2 (fun k e => Or.inr (hown1.lt k e).1)⟩
      rw [opCells_append]
      simpa using hown2
end Go.Proofs.YtkfjafndplmdkaaGreat
