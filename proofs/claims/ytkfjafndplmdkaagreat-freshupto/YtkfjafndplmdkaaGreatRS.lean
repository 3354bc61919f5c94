import Derived.Test.YtkfjafndplmdkaaGreatRP
import Derived.Deep.RegionLawGrows
import Derived.Deep.RegionLaw
namespace Go.Proofs.YtkfjafndplmdkaaGreat
open Go.RowKit Go.Sort
set_option maxRecDepth 100000 in
set_option maxHeartbeats 1000000 in
theorem rstep_many {v0 v1 v3 v4 v5 : Value} (wb n oc : Nat) (oa : Option Addr) (o : OpM) (w : World) (hkd : o.kind = 1) (hn : 6 ≤ n)
    (hb : w.heap[wb]? = some (.cells #[v0, v1, .slice oa n oc, v3, v4, v5] 79)) :
    Calls Tryz.prog 40 #[.pointer (some ⟨wb, 0, none⟩), o.v] w fun e w' => e = .returned (ansV 6 0 false ⟨#[]⟩ (.slice none 0 0)) ∧ Chg nobody w w' := by
  have hwl := lt_of_block hb
  have x2 := cell_of hb (i := 2) (v := .slice oa n oc) rfl
  have hkd' : (o.kind == 1) = true := beq_iff_eq.2 hkd
  have b1 : decide ((6 : Int) ≤ (n : Int)) = true := decide_eq_true (by omega)
  clear hb
  go_enter Tryz.func40, Tryz.ntmps40
  go_wp2_with fail
  refine (no_any 6 _).mono ?_
  rintro e w5 ⟨rfl, hch⟩
  have fB : w5.heap[w.heap.size + 1]? = some ans0 := by
    rw [hch.block _ (by simp <;> omega) (fun h => h)]
    exact heap_new (by simp)
  have hc5 : Chg nobody w w5 := (((Chg.refl nobody w).alloc _).alloc _).trans hch
  obtain ⟨k0, k1, k2, k3, k4, k5, k6, kf⟩ := cells7 fB
  have HZ : Hid (w5.heap[w.heap.size + 1]? = some ans0 ∧ Chg nobody w w5) := ⟨fB, hc5⟩
  clear fB hch hc5 x2
  go_wp2
  obtain ⟨f9B, hc5⟩ := HZ.out
  obtain ⟨r0, r1, r2, r3, r4, r5, r6⟩ := set7 f9B rfl (.int .i64 6) (.int .i64 0) (.bool false) (.string ⟨#[]⟩) (.slice none 0 0) (.slice none 0 0) (.slice none 0 0)
  have hc10 := chg_set7 w5 (w.heap.size + 1) (.int .i64 6) (.int .i64 0) (.bool false) (.string ⟨#[]⟩) (.slice none 0 0) (.slice none 0 0) (.slice none 0 0)
  refine bodyPost_ret (v := ansV 6 0 false ⟨#[]⟩ (.slice none 0 0)) (by simp [results, Tryz.results40, go_sem, r0, r1, r2, r3, r4, r5, r6]) rfl ⟨rfl, hc5.andThen hc10 ?_⟩
  exact fun i hi (h : i = _) => by omega
abbrev newT (c : Int) : RT := ⟨c, [], none, 0, [], none, 0, [], none, 0⟩
set_option maxRecDepth 100000 in
set_option maxHeartbeats 2000000 in
theorem rstep_begin {v1 v3 v4 v5 : Value} (wb oc : Nat) (c : Int) (oa : Option Addr) (ts : List RT) (o : OpM) (w : World) (hkd : o.kind = 1) (hn : ts.length < 6) (h0 : 0 ≤ c) (h1 : c < 1000000000)
    (hb : w.heap[wb]? = some (.cells #[.int .i64 c, v1, .slice oa ts.length oc, v3, v4, v5] 79)) (hor : w.ownsRow 0 97 4 (.slice oa ts.length oc) ts.length (rtCells ts)) :
    Calls Tryz.prog 40 #[.pointer (some ⟨wb, 0, none⟩), o.v] w fun e w' => e = .returned (ansV 0 (c + 1) false ⟨#[]⟩ (.slice none 0 0)) ∧
      ∃ oa' oc', w'.heap[wb]? = some (.cells #[.int .i64 (c + 1), v1, .slice oa' (ts.length + 1) oc', v3, v4, v5] 79) ∧ w'.ownsRow 0 97 4 (.slice oa' (ts.length + 1) oc') (ts.length + 1) (rtCells (ts ++ [newT (c + 1)])) ∧ Chg (fun b => b = wb ∨ (Value.slice oa ts.length oc).ownBlock = some b) w w' ∧ ((Value.slice oa' (ts.length + 1) oc').ownBlock = (Value.slice oa ts.length oc).ownBlock ∨ ∀ b, (Value.slice oa' (ts.length + 1) oc').ownBlock = some b → w.heap.size ≤ b) := by
  obtain ⟨i0, hi, hz0, hz1, hz2⟩ := info_parts info66
  have hwl := lt_of_block hb
  have x0 := cell_of hb (i := 0) (v := .int .i64 c) rfl
  have x2 := cell_of hb (i := 2) (v := .slice oa ts.length oc) rfl
  have xf := unfrozen_of hb 0
  have hkd' : (o.kind == 1) = true := beq_iff_eq.2 hkd
  have b1 : decide ((6 : Int) ≤ (ts.length : Int)) = false := decide_eq_false (by omega)
  have hob : ∀ b, (Value.slice oa ts.length oc).ownBlock = some b → b < w.heap.size ∧ b ≠ wb := fun b e => by
    rcases hor.2 with ⟨e0, _⟩ | ⟨g', cap, cu, e0, _, h, _⟩
    · rw [e0] at e; cases e
    · rw [e0] at e
      have e1 : g' = b := by simpa [Value.ownBlock] using e
      subst e1
      refine ⟨lt_of_block h, fun e2 => ?_⟩
      subst e2
      rw [hb] at h
      cases h
  have HR : Hid (w.heap[wb]? = some (.cells #[.int .i64 c, v1, .slice oa ts.length oc, v3, v4, v5] 79) ∧ w.ownsRow 0 97 4 (.slice oa ts.length oc) ts.length (rtCells ts) ∧ ∀ b, (Value.slice oa ts.length oc).ownBlock = some b → b < w.heap.size ∧ b ≠ wb) := ⟨hb, hor, hob⟩
  clear hb hor hob
  go_enter Tryz.func40, Tryz.ntmps40
  go_wp2_with fail
  have hs1 : (w.setCell ⟨wb, 0, none⟩ (.int .i64 (c + 1))).heap.size = w.heap.size := by simp [World.setCell]
  have hc1 : Chg (fun b => b = wb) w (w.setCell ⟨wb, 0, none⟩ (.int .i64 (c + 1))) := chg_set1 _ _ _ _
  have hb1 : (w.setCell ⟨wb, 0, none⟩ (.int .i64 (c + 1))).heap[wb]? = some (.cells #[.int .i64 (c + 1), v1, .slice oa ts.length oc, v3, v4, v5] 79) := heap_setCell_same w wb 0 _ 79 (.int .i64 (c + 1)) HR.out.1
  have hc2 : Chg nobody (w.setCell ⟨wb, 0, none⟩ (.int .i64 (c + 1))) (((w.setCell ⟨wb, 0, none⟩ (.int .i64 (c + 1))).alloc (opC o 1)).alloc ans0) := ((Chg.refl _ _).alloc _).alloc _
  have hb2 := (hc2.block _ (lt_of_block hb1) (fun h => h)).trans hb1
  have hor2 := ownsRow_chg (ownsRow_chg HR.out.2.1 hc1 (fun b e (h : b = wb) => (HR.out.2.2 b e).2 h)) hc2 (fun _ _ h => h)
  have fB : (((w.setCell ⟨wb, 0, none⟩ (.int .i64 (c + 1))).alloc (opC o 1)).alloc ans0).heap[w.heap.size + 1]? = some ans0 := heap_new (by simp [hs1])
  have hz2 : (((w.setCell ⟨wb, 0, none⟩ (.int .i64 (c + 1))).alloc (opC o 1)).alloc ans0).heap.size = w.heap.size + 1 + 1 := by simp [hs1]
  have hcc : Chg (fun b => b = wb ∨ (Value.slice oa ts.length oc).ownBlock = some b) w (((w.setCell ⟨wb, 0, none⟩ (.int .i64 (c + 1))).alloc (opC o 1)).alloc ans0) := (hc1.andThen hc2 (fun _ _ h => h.elim)).mono (fun _ _ h => Or.inl h)
  have y0 := cell_of hb2 (i := 0) (v := .int .i64 (c + 1)) rfl
  have y2 := cell_of hb2 (i := 2) (v := .slice oa ts.length oc) rfl
  have yf := unfrozen_of hb2 2
  have HW : Hid ((((w.setCell ⟨wb, 0, none⟩ (.int .i64 (c + 1))).alloc (opC o 1)).alloc ans0).heap[wb]? = some (.cells #[.int .i64 (c + 1), v1, .slice oa ts.length oc, v3, v4, v5] 79) ∧ (((w.setCell ⟨wb, 0, none⟩ (.int .i64 (c + 1))).alloc (opC o 1)).alloc ans0).ownsRow 0 97 4 (.slice oa ts.length oc) ts.length (rtCells ts) ∧ (((w.setCell ⟨wb, 0, none⟩ (.int .i64 (c + 1))).alloc (opC o 1)).alloc ans0).heap[w.heap.size + 1]? = some ans0 ∧ Chg (fun b => b = wb ∨ (Value.slice oa ts.length oc).ownBlock = some b) w (((w.setCell ⟨wb, 0, none⟩ (.int .i64 (c + 1))).alloc (opC o 1)).alloc ans0)) := ⟨hb2, hor2, fB, hcc⟩
  have hz2' : Hid ((((w.setCell ⟨wb, 0, none⟩ (.int .i64 (c + 1))).alloc (opC o 1)).alloc ans0).heap.size = w.heap.size + 1 + 1) := hz2
  clear hs1 hc1 hb1 hc2 hb2 hor2 fB hcc hz2 x0 x2 xf
  generalize (((w.setCell ⟨wb, 0, none⟩ (.int .i64 (c + 1))).alloc (opC o 1)).alloc ans0) = w3 at *
  have hwl3 : wb < w3.heap.size := lt_of_block HW.out.1
  have y2' : (w3.alloc (.cells #[.int .i64 (c + 1), .slice none 0 0, .slice none 0 0, .slice none 0 0] 97)).cell? ⟨wb, 2, none⟩ = some (.slice oa ts.length oc) := by rw [World.cell?_alloc_past _ _ _ hwl3]; exact y2
  go_region_law (refine step_append_where rfl (.tmp 34) (.tmp 40) 76 rfl 0 97 i0 RT.zero.v 4 80 Tryz.underlying76 hi hz0 hz1 hz2 rfl (by decide) (.slice oa ts.length oc) ts.length (rtCells ts) (by simp [Act.eval]) ((row_drew HW.out.2.1).alloc _) ⟨w3.heap.size, 0, none⟩ 1 1 (newT (c + 1)).cells (by simp [Act.eval]) rfl (cells_new w3.drew #[.int .i64 (c + 1), .slice none 0 0, .slice none 0 0, .slice none 0 0] 97) (rt_one _) (by unfold maxLen; omega) (by omega) (Nat.zero_le _) ?_; intro v' w5 hown5 hg5 hwh; obtain ⟨oa', oc', rfl⟩ := row_form hown5; have hc5 : Chg (fun b => (Value.slice oa ts.length oc).ownBlock = some b) w3 w5 := (((Chg.refl _ w3).drew).alloc _).grown hg5 (fun k e => Or.inl e); have hb5 := (hc5.block wb (lt_of_block HW.out.1) (fun e => (HR.out.2.2 _ e).2 rfl)).trans HW.out.1; have s2 := cell_of hb5 (i := 2) (v := .slice oa ts.length oc) rfl; have sf := unfrozen_of hb5 2)
  all_goals
    have hl3 := lt_of_block HW.out.2.2.1
    have hwh' : (Value.slice oa' (ts.length + 1) oc').ownBlock = (Value.slice oa ts.length oc).ownBlock ∨ (Value.slice oa' (ts.length + 1) oc').ownBlock = some (w.heap.size + 1 + 1 + 1) := by
      rcases hwh with h | h
      · exact Or.inl h
      · refine Or.inr (h.trans ?_)
        have := hz2'.out
        simp [this]
    have hob' : ∀ b, (Value.slice oa' (ts.length + 1) oc').ownBlock = some b → b < w.heap.size ∧ b ≠ wb ∨ b = w.heap.size + 1 + 1 + 1 := fun b e => by
      rcases hwh' with h | h
      · exact Or.inl (HR.out.2.2 b (h ▸ e))
      · rw [h] at e; exact Or.inr (Option.some.inj e).symm
    have hc6 := chg_set1 w5 wb 2 (.slice oa' (ts.length + 1) oc')
    have hb6 := heap_setCell_same w5 wb 2 _ 79 (.slice oa' (ts.length + 1) oc') hb5
    have hor6 := ownsRow_chg hown5 hc6 (fun b e (h : b = wb) => by have := hob' b e; omega)
    have f5B := (hc5.block _ hl3 (fun e => by have := (HR.out.2.2 _ e).1; omega)).trans HW.out.2.2.1
    have f6B := (hc6.block _ (lt_of_block f5B) (fun (h : _ = _) => by omega)).trans f5B
    have hcc6 : Chg (fun b => b = wb ∨ (Value.slice oa ts.length oc).ownBlock = some b) w (w5.setCell ⟨wb, 2, none⟩ (.slice oa' (ts.length + 1) oc')) := (HW.out.2.2.2.trans (hc5.mono (fun _ _ h => Or.inr h))).trans (hc6.mono (fun _ _ h => Or.inl h))
    have HF : Hid ((w5.setCell ⟨wb, 2, none⟩ (.slice oa' (ts.length + 1) oc')).heap[wb]? = some (.cells #[.int .i64 (c + 1), v1, .slice oa' (ts.length + 1) oc', v3, v4, v5] 79) ∧ (w5.setCell ⟨wb, 2, none⟩ (.slice oa' (ts.length + 1) oc')).ownsRow 0 97 4 (.slice oa' (ts.length + 1) oc') (ts.length + 1) (rtCells ts ++ (newT (c + 1)).cells) ∧ (w5.setCell ⟨wb, 2, none⟩ (.slice oa' (ts.length + 1) oc')).heap[w.heap.size + 1]? = some ans0 ∧ Chg (fun b => b = wb ∨ (Value.slice oa ts.length oc).ownBlock = some b) w (w5.setCell ⟨wb, 2, none⟩ (.slice oa' (ts.length + 1) oc')) ∧ (∀ b, (Value.slice oa' (ts.length + 1) oc').ownBlock = some b → b < w.heap.size ∧ b ≠ wb ∨ b = w.heap.size + 1 + 1 + 1) ∧ ((Value.slice oa' (ts.length + 1) oc').ownBlock = (Value.slice oa ts.length oc).ownBlock ∨ (Value.slice oa' (ts.length + 1) oc').ownBlock = some (w.heap.size + 1 + 1 + 1))) := ⟨hb6, hor6, f6B, hcc6, hob', hwh'⟩
    have z0 := cell_of hb6 (i := 0) (v := .int .i64 (c + 1)) rfl
    obtain ⟨k0, k1, k2, k3, k4, k5, k6, kf⟩ := cells7 f6B
    clear hwh hwh' hob' hc6 hb6 hor6 f5B f6B hcc6 hc5 hb5 s2 sf hown5 hg5 y0 y2 yf hl3 HW hz2'
    generalize w5.setCell ⟨wb, 2, none⟩ (.slice oa' (ts.length + 1) oc') = w6 at *
    go_wp2
    obtain ⟨hb6, hor6, f9B, hcc6, hob', hwh'⟩ := HF.out
    obtain ⟨r0, r1, r2, r3, r4, r5, r6⟩ := set7 f9B rfl (.int .i64 0) (.int .i64 (c + 1)) (.bool false) (.string ⟨#[]⟩) (.slice none 0 0) (.slice none 0 0) (.slice none 0 0)
    have hc10 := chg_set7 w6 (w.heap.size + 1) (.int .i64 0) (.int .i64 (c + 1)) (.bool false) (.string ⟨#[]⟩) (.slice none 0 0) (.slice none 0 0) (.slice none 0 0)
    refine bodyPost_ret (v := ansV 0 (c + 1) false ⟨#[]⟩ (.slice none 0 0)) (by simp [results, Tryz.results40, go_sem, r0, r1, r2, r3, r4, r5, r6]) rfl ⟨rfl, oa', oc', (hc10.block _ (lt_of_block hb6) (fun (h : _ = _) => by omega)).trans hb6, ?_, hcc6.andThen hc10 ?_, ?_⟩
    · rw [rtCells_append, rtCells_one]
      exact ownsRow_chg hor6 hc10 (fun b e (h : b = _) => by have := hob' b e; omega)
    · exact fun i hi (h : i = _) => by omega
    · rcases hwh' with h | h
      · exact Or.inl h
      · exact Or.inr (fun b e => by rw [h] at e; have := Option.some.inj e; omega)
end Go.Proofs.YtkfjafndplmdkaaGreat
namespace Go.Proofs.YtkfjafndplmdkaaGreat
open Go.RowKit Go.Sort
theorem find_at {w : World} {S : RSt} (h : RInv w S) (hf : S.ts.length ≤ 2000000) (n : Int) :
    Calls Tryz.prog 50 #[.pointer (some ⟨S.wb, 0, none⟩), .int .i64 n] w fun e w' => e = .returned (.int .i64 (findI (S.ts.map RT.start) n)) ∧ w' = w := by
  have hl : (S.ts.map RT.start).length = S.ts.length := List.length_map ..
  refine find_any S.wb S.oc S.oa (S.ts.map RT.start) n w (by rw [hl]; exact hf) (by rw [hl]; exact cell_of h.wb rfl) (fun hp => ?_)
  rw [hl] at hp
  have hor : w.ownsRow 0 97 4 (.slice S.oa S.ts.length S.oc) S.ts.length (rtCells S.ts) := h.or
  obtain ⟨g, hg, _⟩ := row_open hor hp
  rw [hg] at hor
  exact ⟨g, hg, fun j hj => by rw [(rt_at hor j (by rw [hl] at hj; exact hj)).1]; simp⟩
theorem queued_at {w : World} {S : RSt} (h : RInv w S) (hf : S.q.length ≤ 2000000) (n : Int) :
    Calls Tryz.prog 51 #[.pointer (some ⟨S.wb, 0, none⟩), .int .i64 n] w fun e w' => e = .returned (.bool (decide (n ∈ S.q))) ∧ w' = w := by
  refine queued_any S.wb S.qc S.qa S.q n w hf (cell_of h.wb rfl) (fun hp => ?_)
  have hqr : w.ownsRow 0 3 1 (.slice S.qa S.q.length S.qc) S.q.length (S.q.map (.int .i64 ·)) := h.qr
  obtain ⟨g, hg, _, _, _, hx⟩ := row_open hqr hp
  exact ⟨g, hg, fun j hj => hx j _ (by simp [List.getElem?_eq_getElem hj])⟩
set_option maxRecDepth 100000 in
set_option maxHeartbeats 1000000 in
theorem rstep_none (S : RSt) (o : OpM) (w : World) (h : RInv w S) (hf : S.ts.length ≤ 2000000) (hq : S.q.length ≤ 2000000) (hkd : o.kind = 2 ∨ o.kind = 3 ∨ o.kind = 4 ∨ o.kind = 5 ∨ o.kind = 6 ∨ o.kind = 7) (hno : findI (S.ts.map RT.start) o.t = -1) :
    Calls Tryz.prog 40 #[.pointer (some ⟨S.wb, 0, none⟩), o.v] w fun e w' => e = .returned (ansV 2 0 false ⟨#[]⟩ (.slice none 0 0)) ∧ Chg nobody w w' := by
  have hwl := lt_of_block h.wb
  have HH : Hid ((∀ w2, Chg nobody w w2 → Calls Tryz.prog 50 #[.pointer (some ⟨S.wb, 0, none⟩), .int .i64 o.t] w2 fun e w' => e = .returned (.int .i64 (-1)) ∧ w' = w2) ∧ ∀ w2, Chg nobody w w2 → Calls Tryz.prog 51 #[.pointer (some ⟨S.wb, 0, none⟩), .int .i64 o.t] w2 fun e w' => e = .returned (.bool (decide (o.t ∈ S.q))) ∧ w' = w2) := ⟨fun w2 hc => by have := find_at (h.chg hc (fun _ _ h => h)) hf o.t; rw [hno] at this; exact this, fun w2 hc => queued_at (h.chg hc (fun _ _ h => h)) hq o.t⟩
  clear h
  generalize decide (o.t ∈ S.q) = qb at *
  rcases hkd with hkd | hkd | hkd | hkd | hkd | hkd
  all_goals
    go_enter Tryz.func40, Tryz.ntmps40
    go_wp2_with fail
    refine (HH.out.1 _ (((Chg.refl _ _).alloc _).alloc _)).mono ?_
    rintro e w' ⟨rfl, hw'⟩
    replace hw' := hw'.symm
    subst hw'
    go_wp2_with fail
    refine (HH.out.2 _ (((Chg.refl _ _).alloc _).alloc _)).mono ?_
    rintro e w' ⟨rfl, hw'⟩
    replace hw' := hw'.symm
    subst hw'
    go_wp2_with fail
    refine (no_any 2 _).mono ?_
    rintro e w5 ⟨rfl, hch⟩
    have fB : w5.heap[w.heap.size + 1]? = some ans0 := by
      rw [hch.block _ (by simp <;> omega) (fun h => h)]
      exact heap_new (by simp)
    have hc5 : Chg nobody w w5 := (((Chg.refl nobody w).alloc _).alloc _).trans hch
    obtain ⟨k0, k1, k2, k3, k4, k5, k6, kf⟩ := cells7 fB
    have HZ : Hid (w5.heap[w.heap.size + 1]? = some ans0 ∧ Chg nobody w w5) := ⟨fB, hc5⟩
    clear fB hch hc5
    go_wp2
    obtain ⟨f9B, hc5⟩ := HZ.out
    obtain ⟨r0, r1, r2, r3, r4, r5, r6⟩ := set7 f9B rfl (.int .i64 2) (.int .i64 0) (.bool false) (.string ⟨#[]⟩) (.slice none 0 0) (.slice none 0 0) (.slice none 0 0)
    have hc10 := chg_set7 w5 (w.heap.size + 1) (.int .i64 2) (.int .i64 0) (.bool false) (.string ⟨#[]⟩) (.slice none 0 0) (.slice none 0 0) (.slice none 0 0)
    refine bodyPost_ret (v := ansV 2 0 false ⟨#[]⟩ (.slice none 0 0)) (by simp [results, Tryz.results40, go_sem, r0, r1, r2, r3, r4, r5, r6]) rfl ⟨rfl, hc5.andThen hc10 ?_⟩
    exact fun i hi (h : i = _) => by omega
end Go.Proofs.YtkfjafndplmdkaaGreat
namespace Go.Proofs.YtkfjafndplmdkaaGreat
open Go.RowKit Go.Sort
set_option maxRecDepth 100000 in
set_option maxHeartbeats 1000000 in
theorem rstep_queued (S : RSt) (o : OpM) (w : World) (h : RInv w S) (hf : S.ts.length ≤ 2000000) (hq : S.q.length ≤ 2000000) (hkd : o.kind = 2 ∨ o.kind = 3 ∨ o.kind = 4 ∨ o.kind = 5 ∨ o.kind = 6 ∨ o.kind = 7) (k : Nat) (hno : findI (S.ts.map RT.start) o.t = k) (hin : o.t ∈ S.q) :
    Calls Tryz.prog 40 #[.pointer (some ⟨S.wb, 0, none⟩), o.v] w fun e w' => e = .returned (ansV 3 0 false ⟨#[]⟩ (.slice none 0 0)) ∧ Chg nobody w w' := by
  have hwl := lt_of_block h.wb
  have HH : Hid ((∀ w2, Chg nobody w w2 → Calls Tryz.prog 50 #[.pointer (some ⟨S.wb, 0, none⟩), .int .i64 o.t] w2 fun e w' => e = .returned (.int .i64 k) ∧ w' = w2) ∧ ∀ w2, Chg nobody w w2 → Calls Tryz.prog 51 #[.pointer (some ⟨S.wb, 0, none⟩), .int .i64 o.t] w2 fun e w' => e = .returned (.bool (decide (o.t ∈ S.q))) ∧ w' = w2) := ⟨fun w2 hc => by have := find_at (h.chg hc (fun _ _ h => h)) hf o.t; rw [hno] at this; exact this, fun w2 hc => queued_at (h.chg hc (fun _ _ h => h)) hq o.t⟩
  clear h
  rw [decide_eq_true hin] at HH
  have hk0 : decide ((k : Int) < 0) = false := decide_eq_false (by omega)
  rcases hkd with hkd | hkd | hkd | hkd | hkd | hkd
  all_goals
    go_enter Tryz.func40, Tryz.ntmps40
    go_wp2_with fail
    refine (HH.out.1 _ (((Chg.refl _ _).alloc _).alloc _)).mono ?_
    rintro e w' ⟨rfl, hw'⟩
    replace hw' := hw'.symm
    subst hw'
    go_wp2_with fail
    refine (HH.out.2 _ (((Chg.refl _ _).alloc _).alloc _)).mono ?_
    rintro e w' ⟨rfl, hw'⟩
    replace hw' := hw'.symm
    subst hw'
    go_wp2_with fail
    refine (no_any 3 _).mono ?_
    rintro e w5 ⟨rfl, hch⟩
    have fB : w5.heap[w.heap.size + 1]? = some ans0 := by
      rw [hch.block _ (by simp <;> omega) (fun h => h)]
      exact heap_new (by simp)
    have hc5 : Chg nobody w w5 := (((Chg.refl nobody w).alloc _).alloc _).trans hch
    obtain ⟨k0, k1, k2, k3, k4, k5, k6, kf⟩ := cells7 fB
    have HZ : Hid (w5.heap[w.heap.size + 1]? = some ans0 ∧ Chg nobody w w5) := ⟨fB, hc5⟩
    clear fB hch hc5
    go_wp2
    obtain ⟨f9B, hc5⟩ := HZ.out
    obtain ⟨r0, r1, r2, r3, r4, r5, r6⟩ := set7 f9B rfl (.int .i64 3) (.int .i64 0) (.bool false) (.string ⟨#[]⟩) (.slice none 0 0) (.slice none 0 0) (.slice none 0 0)
    have hc10 := chg_set7 w5 (w.heap.size + 1) (.int .i64 3) (.int .i64 0) (.bool false) (.string ⟨#[]⟩) (.slice none 0 0) (.slice none 0 0) (.slice none 0 0)
    refine bodyPost_ret (v := ansV 3 0 false ⟨#[]⟩ (.slice none 0 0)) (by simp [results, Tryz.results40, go_sem, r0, r1, r2, r3, r4, r5, r6]) rfl ⟨rfl, hc5.andThen hc10 ?_⟩
    exact fun i hi (h : i = _) => by omega
set_option maxRecDepth 100000 in
set_option maxHeartbeats 1000000 in
theorem rstep_of (S : RSt) (o : OpM) (w : World) (h : RInv w S) (hf : RFit S) (hq : S.q.length ≤ 2000000) (hkd : o.kind = 2 ∨ o.kind = 3 ∨ o.kind = 4 ∨ o.kind = 5 ∨ o.kind = 6 ∨ o.kind = 7) (k : Nat) (hk : k < S.ts.length) (hno : findI (S.ts.map RT.start) o.t = k) (hin : o.t ∉ S.q) (hof : ∀ w2, Chg nobody w w2 → Calls Tryz.prog 52 #[.pointer (some ⟨S.wb, 0, none⟩), .int .i64 k, o.v] w2 (RPost w2 S (ofM S.abs k S.ts[k].abs o).1 (ofM S.abs k S.ts[k].abs o).2)) :
    Calls Tryz.prog 40 #[.pointer (some ⟨S.wb, 0, none⟩), o.v] w (RPost w S (ofM S.abs k S.ts[k].abs o).1 (ofM S.abs k S.ts[k].abs o).2) := by
  have hwl := lt_of_block h.wb
  have HH : Hid ((∀ w2, Chg nobody w w2 → Calls Tryz.prog 50 #[.pointer (some ⟨S.wb, 0, none⟩), .int .i64 o.t] w2 fun e w' => e = .returned (.int .i64 k) ∧ w' = w2) ∧ ∀ w2, Chg nobody w w2 → Calls Tryz.prog 51 #[.pointer (some ⟨S.wb, 0, none⟩), .int .i64 o.t] w2 fun e w' => e = .returned (.bool (decide (o.t ∈ S.q))) ∧ w' = w2) := ⟨fun w2 hc => by have := find_at (h.chg hc (fun _ _ h => h)) hf.ts o.t; rw [hno] at this; exact this, fun w2 hc => queued_at (h.chg hc (fun _ _ h => h)) hq o.t⟩
  have HO : Hid (∀ w2, Chg nobody w w2 → Calls Tryz.prog 52 #[.pointer (some ⟨S.wb, 0, none⟩), .int .i64 k, o.v] w2 (RPost w2 S (ofM S.abs k S.ts[k].abs o).1 (ofM S.abs k S.ts[k].abs o).2)) := hof
  clear hof
  have hbl : Hid (∀ b ∈ S.blocks, b < w.heap.size) := h.lt
  generalize (ofM S.abs k S.ts[k].abs o).1 = A at *
  generalize (ofM S.abs k S.ts[k].abs o).2 = W at *
  clear h
  rw [decide_eq_false hin] at HH
  have hk0 : decide ((k : Int) < 0) = false := decide_eq_false (by omega)
  rcases hkd with hkd | hkd | hkd | hkd | hkd | hkd
  all_goals
    go_enter Tryz.func40, Tryz.ntmps40
    go_wp2_with fail
    refine (HH.out.1 _ (((Chg.refl _ _).alloc _).alloc _)).mono ?_
    rintro e w' ⟨rfl, hw'⟩
    replace hw' := hw'.symm
    subst hw'
    go_wp2_with fail
    refine (HH.out.2 _ (((Chg.refl _ _).alloc _).alloc _)).mono ?_
    rintro e w' ⟨rfl, hw'⟩
    replace hw' := hw'.symm
    subst hw'
    go_wp2_with fail
    have HO2 := HO.out _ (((Chg.refl nobody w).alloc (opC o o.kind)).alloc ans0)
    unfold OpM.v at HO2
    simp only [hkd] at HO2
    refine HO2.mono ?_
    rintro e w5 ⟨S', it, rfl, hit, habs, hwb, hI, hbs, hc⟩
    obtain ⟨ia, ic, rfl⟩ := row_form hit
    have hs2 : ((w.alloc (opC o o.kind)).alloc ans0).heap.size = w.heap.size + 1 + 1 := by simp
    rw [hkd] at hs2
    have fB : w5.heap[w.heap.size + 1]? = some ans0 := by
      rw [hc.block _ (by rw [hs2]; omega) (fun hm => by have := hbl.out _ hm; omega)]
      exact heap_new (by simp)
    have hc5 : Chg (fun b => b ∈ S.blocks) w w5 := ((((Chg.refl nobody w).alloc _).alloc _).any _).trans hc
    rw [hs2] at hit hbs
    obtain ⟨k0, k1, k2, k3, k4, k5, k6, kf⟩ := cells7 fB
    have HZ : Hid (w5.heap[w.heap.size + 1]? = some ans0 ∧ Chg (fun b => b ∈ S.blocks) w w5 ∧ w5.ownsRow (w.heap.size + 1 + 1) 66 2 (.slice ia A.items.length ic) A.items.length (itemCells A.items) ∧ S'.abs = W ∧ S'.wb = S.wb ∧ RInv w5 S' ∧ ∀ b ∈ S'.blocks, b ∈ S.blocks ∨ w.heap.size + 1 + 1 ≤ b) := ⟨fB, hc5, hit, habs, hwb, hI, hbs⟩
    clear fB hc hc5 hit habs hwb hI hbs hs2 HO2
    go_wp2
    obtain ⟨f9B, hc5, hit, habs, hwb, hI, hbs⟩ := HZ.out
    obtain ⟨r0, r1, r2, r3, r4, r5, r6⟩ := set7 f9B rfl (.int .i64 A.code) (.int .i64 A.number) (.bool A.found) (.string A.value) (.slice ia A.items.length ic) (.slice none 0 0) (.slice none 0 0)
    have hc10 := chg_set7 w5 (w.heap.size + 1) (.int .i64 A.code) (.int .i64 A.number) (.bool A.found) (.string A.value) (.slice ia A.items.length ic) (.slice none 0 0) (.slice none 0 0)
    refine bodyPost_ret (v := ansV A.code A.number A.found A.value (.slice ia A.items.length ic)) (by simp [results, Tryz.results40, go_sem, r0, r1, r2, r3, r4, r5, r6]) rfl ⟨S', _, rfl, ?_, habs, hwb, hI.chg hc10 ?_, ?_, hc5.andThen hc10 ?_⟩
    · exact ownsRow_base (ownsRow_chg hit hc10 (fun b e (h : b = _) => by have := (hit.lt b e).1; omega)) (by omega)
    · exact fun b hb (h : b = _) => by
        rcases hbs b hb with h1 | h1
        · have := hbl.out b h1; omega
        · omega
    · exact fun b hb => (hbs b hb).imp id (fun h => by omega)
    · exact fun i hi (h : i = _) => by omega
set_option maxRecDepth 100000 in
set_option maxHeartbeats 1000000 in
theorem rstep_kind (wb : Nat) (o : OpM) (w : World) (hkd : o.kind < 1 ∨ 11 < o.kind) :
    Calls Tryz.prog 40 #[.pointer (some ⟨wb, 0, none⟩), o.v] w fun e w' => e = .returned (ansV 1 0 false ⟨#[]⟩ (.slice none 0 0)) ∧ Chg nobody w w' := by
  have e1 : (o.kind == 1) = false := by simp; omega
  have e2 : (o.kind == 2) = false := by simp; omega
  have e3 : (o.kind == 3) = false := by simp; omega
  have e4 : (o.kind == 4) = false := by simp; omega
  have e5 : (o.kind == 5) = false := by simp; omega
  have e6 : (o.kind == 6) = false := by simp; omega
  have e7 : (o.kind == 7) = false := by simp; omega
  have e8 : (o.kind == 8) = false := by simp; omega
  have e9 : (o.kind == 9) = false := by simp; omega
  have e10 : (o.kind == 10) = false := by simp; omega
  have e11 : (o.kind == 11) = false := by simp; omega
  clear hkd
  all_goals
    go_enter Tryz.func40, Tryz.ntmps40
    go_wp2_with fail
    refine (no_any 1 _).mono ?_
    rintro e w5 ⟨rfl, hch⟩
    have fB : w5.heap[w.heap.size + 1]? = some ans0 := by
      rw [hch.block _ (by simp <;> omega) (fun h => h)]
      exact heap_new (by simp)
    have hc5 : Chg nobody w w5 := (((Chg.refl nobody w).alloc _).alloc _).trans hch
    obtain ⟨k0, k1, k2, k3, k4, k5, k6, kf⟩ := cells7 fB
    have HZ : Hid (w5.heap[w.heap.size + 1]? = some ans0 ∧ Chg nobody w w5) := ⟨fB, hc5⟩
    clear fB hch hc5
    go_wp2
    obtain ⟨f9B, hc5⟩ := HZ.out
    obtain ⟨r0, r1, r2, r3, r4, r5, r6⟩ := set7 f9B rfl (.int .i64 1) (.int .i64 0) (.bool false) (.string ⟨#[]⟩) (.slice none 0 0) (.slice none 0 0) (.slice none 0 0)
    have hc10 := chg_set7 w5 (w.heap.size + 1) (.int .i64 1) (.int .i64 0) (.bool false) (.string ⟨#[]⟩) (.slice none 0 0) (.slice none 0 0) (.slice none 0 0)
    refine bodyPost_ret (v := ansV 1 0 false ⟨#[]⟩ (.slice none 0 0)) (by simp [results, Tryz.results40, go_sem, r0, r1, r2, r3, r4, r5, r6]) rfl ⟨rfl, hc5.andThen hc10 ?_⟩
    exact fun i hi (h : i = _) => by omega
end Go.Proofs.YtkfjafndplmdkaaGreat
