import Derived.Test.YtkfjafndplmdkaaGreatO2
namespace Go.Proofs.YtkfjafndplmdkaaGreat
open Go.RowKit Go.Sort
open Go.Maps (Keyed)
theorem row_drew {w : World} {base : Nat} {e : TypeId} {size : Nat} {v : Value} {n : Nat} {xs : List Value} (h : w.ownsRow base e size v n xs) : w.drew.ownsRow base e size v n xs := h
theorem infoVer : (Tryz.prog.info? 167).map (fun i => (i.zero, i.size, i.bytes)) = some (some (.agg #[.int .i64 0, .bool false, .string ⟨#[]⟩]), 3, 32) := by kernel_rfl
theorem v_one (x : Int × (Bool × ByteArray)) : ∀ u ∈ vCell x, u.oneCell' = true := by
  intro u hu
  simp only [vCell, List.mem_cons, List.not_mem_nil, or_false] at hu
  rcases hu with rfl | rfl | rfl <;> rfl
theorem vCells_append (a b : List (Int × (Bool × ByteArray))) : vCells (a ++ b) = vCells a ++ vCells b := by simp [vCells]
theorem vCells_one (x : Int × (Bool × ByteArray)) : vCells [x] = vCell x := by simp [vCells]
set_option maxRecDepth 100000 in
set_option maxHeartbeats 2000000 in
theorem add_raw (sb vm : Nat) (V : List (ByteArray × VEnt)) (key : ByteArray) (t : Int) (f : Bool) (u : ByteArray) (w : World) (hk : key.size ≤ maxLen) (h : StoreAt w sb vm V) (hl : (versOf key V).length ≤ 2000000) (hsv : sb ≠ vm)
    (hne : ∀ e, getA key V = some e → e.vb ≠ sb ∧ e.vb ≠ vm) :
    Calls Tryz.prog 122 #[.pointer (some ⟨sb, 0, none⟩), .string key, .int .i64 t, .agg #[.bool f, .string u]] w fun e w' => e = .returned (.tuple #[]) ∧ ∃ E : VEnt, E.vs = versOf key V ++ [(t, (f, u))] ∧
      mapAt w' Tryz.prog 9 mkS mkV vm (putA key E V) ∧ w'.ownsRow 0 167 3 (mkV E) E.vs.length (vCells E.vs) ∧ ((∃ e0, getA key V = some e0 ∧ E.vb = e0.vb) ∨ w.heap.size ≤ E.vb) ∧ Chg (fun b => b = vm ∨ ∃ e0, getA key V = some e0 ∧ b = e0.vb) w w' := by
  obtain ⟨i0, hi, hz0, hz1, hz2⟩ := info_parts infoVer
  have hlt := h.vs.lt
  have hsl := lt_of_block h.st
  obtain ⟨ad, cap, hlook, hrow, hadS, hadE, hadN⟩ := h.looks key
  have hcs := cell_of h.st (i := 0) rfl
  have hown : ∀ b, (Value.slice ad (versOf key V).length cap).ownBlock = some b → ∃ e0, getA key V = some e0 ∧ b = e0.vb := fun b hb => by
    cases hg : getA key V with
    | none => obtain ⟨e1, _⟩ := hadN hg; rw [e1] at hb; cases hb
    | some e0 => obtain ⟨e1, _⟩ := hadE e0 hg; rw [e1] at hb; exact ⟨e0, rfl, (by simpa [Value.ownBlock] using hb : e0.vb = b).symm⟩
  have HM : Hid (∀ (w' : World) (g c : Nat), Chg (fun b => ∃ e0, getA key V = some e0 ∧ b = e0.vb) w w' → ∃ w2, (Instr.mapUpdate 104 (.map (some vm)) (.string key) (.slice (some ⟨g, 0, none⟩) ((versOf key V).length + 1) c)).run Tryz.prog w' = .ok () w2 ∧ mapAt w2 Tryz.prog 9 mkS mkV vm (putA key ⟨g, c, versOf key V ++ [(t, (f, u))]⟩ V) ∧ Chg (fun b => b = vm) w' w2) := fun w' g c hc => by
    obtain ⟨w2, r1, r2, r3, _⟩ := (h.vs.of_block (hc.block vm hlt (fun ⟨e0, he, hv⟩ => (hne e0 he).2 hv.symm))).store keyS mkS_inj Tryz.underlying104 (a := key) (keyOfS hk) ⟨g, c, versOf key V ++ [(t, (f, u))]⟩
    have e1 : mkV ⟨g, c, versOf key V ++ [(t, (f, u))]⟩ = .slice (some ⟨g, 0, none⟩) ((versOf key V).length + 1) c := by simp [mkV]
    rw [e1] at r1
    exact ⟨w2, r1, r2, (Chg.refl _ _).grown r3 (fun k e => Or.inl (by cases e; rfl))⟩
  have HA : Hid ((∀ b, (Value.slice ad (versOf key V).length cap).ownBlock = some b → ∃ e0, getA key V = some e0 ∧ b = e0.vb) ∧ (∀ e, getA key V = some e → e.vb ≠ sb ∧ e.vb ≠ vm) ∧ sb ≠ vm ∧ w.cell? ⟨sb, 0, none⟩ = some (.map (some vm)) ∧ w.ownsRow 0 167 3 (.slice ad (versOf key V).length cap) (versOf key V).length (vCells (versOf key V)) ∧ sb < w.heap.size) := ⟨hown, hne, hsv, hcs, hrow, hsl⟩
  have HST : Hid (w.heap[sb]? = some (.cells #[.map (some vm)] 106)) := h.st
  obtain ⟨L, hL⟩ : ∃ L, versOf key V = L := ⟨_, rfl⟩
  rw [hL] at hl HA hlook hrow hown HM ⊢
  have HLL : Hid (versOf key V = L) := hL
  have g1 : ∀ o o', ((w.alloc o).alloc o').drew.cell? ⟨sb, 0, none⟩ = some (.map (some vm)) := fun o o' => by
    show ((w.alloc o).alloc o').cell? ⟨sb, 0, none⟩ = _
    rw [World.cell?_alloc_past _ _ _ (by simp; omega), World.cell?_alloc_past _ _ _ hsl]; exact hcs
  have g2 : ∀ o, (w.alloc o).cell? ⟨sb, 0, none⟩ = some (.map (some vm)) := fun o => by rw [World.cell?_alloc_past _ _ _ hsl]; exact hcs
  have g3 : ∀ o o', ((w.alloc o).alloc o').cell? ⟨sb, 0, none⟩ = some (.map (some vm)) := fun o o' => g1 o o'
  have k1 : ∀ o, (Instr.lookup 104 (.map (some vm)) (.string key) false).run Tryz.prog (w.alloc o).drew = .ok (.slice ad L.length cap) (w.alloc o).drew := fun o => hlook _ (Below.heap_alloc _ _ _ hlt) hk
  have k2 : ∀ o o', (Instr.lookup 104 (.map (some vm)) (.string key) false).run Tryz.prog ((w.alloc o).alloc o').drew = .ok (.slice ad L.length cap) ((w.alloc o).alloc o').drew := fun o o' => hlook _ ((Below.heap_alloc (w.alloc o) o' vm (by simp; omega)).trans (Below.heap_alloc _ _ _ hlt)) hk
  have HN : Hid (∀ j u', (vCell (t, (f, u)))[j]? = some u' → ((w.alloc (.cells #[.bool f, .string u] 127)).drew.alloc (.cells #[.int .i64 t, .bool f, .string u] 167)).cell? ((⟨w.heap.size + 1, 0, none⟩ : Addr).add j) = some u') := fun j u' hj => by
    have h1 := cells_new (w.alloc (.cells #[.bool f, .string u] 127)).drew #[.int .i64 t, .bool f, .string u] 167 j u' hj
    have e1 : (w.alloc (.cells #[.bool f, .string u] 127)).drew.heap.size = w.heap.size + 1 := by simp
    rw [e1] at h1
    exact h1
  clear hlook h hadS hadE hadN hown hne hcs hrow hL hsv
  go_enter Tryz.func122, Tryz.ntmps122
  go_wp2
  go_region_law (refine step_append_where rfl (.tmp 18) (.tmp 22) 155 rfl 0 167 i0 (.agg #[.int .i64 0, .bool false, .string ⟨#[]⟩]) 3 32 Tryz.underlying155 hi hz0 hz1 hz2 rfl (by decide) (.slice ad L.length cap) L.length (vCells L) (by simp [Act.eval]) ((row_drew (HA.out.2.2.2.2.1.alloc _)).alloc _) ⟨w.heap.size + 1, 0, none⟩ 1 1 (vCell (t, (f, u))) (by simp [Act.eval]) rfl (HN.out) (v_one _) (by unfold maxLen; omega) (by omega) (Nat.zero_le _) ?_; intro v' w5 hown5 hg5 hwh; obtain ⟨oa', oc', rfl⟩ := row_form hown5; obtain ⟨g, rfl, hgb, hgl, _, _⟩ := row_open hown5 (by omega); have hc5 : Chg (fun b => ∃ e0, getA key V = some e0 ∧ b = e0.vb) w w5 := ((((Chg.refl _ w).alloc _).drew).alloc _).grown hg5 (fun k e => Or.inl (HA.out.1 k e)); have g5 : w5.cell? ⟨sb, 0, none⟩ = some (.map (some vm)) := cell_of ((hc5.block sb hsl (fun ⟨e0, he, hv⟩ => (HA.out.2.1 e0 he).1 hv.symm)).trans HST.out) (i := 0) rfl; obtain ⟨w6, hrun6, hm6, hc6⟩ := HM.out w5 g oc' hc5)
  all_goals go_wp2
  all_goals go_end0
  all_goals
    have hgv : (∃ e0, getA key V = some e0 ∧ g = e0.vb) ∨ w.heap.size ≤ g := by
      rcases hwh with e1 | e1
      · exact Or.inl (HA.out.1 g (by rw [← e1]; rfl))
      · refine Or.inr ?_
        have : g = _ := Option.some.inj e1
        rw [this]; simp; omega
    refine ⟨rfl, ⟨g, oc', L ++ [(t, (f, u))]⟩, rfl, hm6, ?_, hgv, ?_⟩
    · have e2 : vCells (L ++ [(t, (f, u))]) = vCells L ++ vCell (t, (f, u)) := by rw [vCells_append, vCells_one]
      show w6.ownsRow 0 167 3 (.slice (some ⟨g, 0, none⟩) (L ++ [(t, (f, u))]).length oc') (L ++ [(t, (f, u))]).length (vCells (L ++ [(t, (f, u))]))
      rw [e2, List.length_append]
      refine ownsRow_chg hown5 hc6 (fun b hb (e : b = vm) => ?_)
      have hgb' : g = b := by simpa [Value.ownBlock] using hb
      rcases hgv with ⟨e0, he0, hv⟩ | hge
      · exact (HA.out.2.1 e0 he0).2 (by rw [← hv, hgb', e])
      · omega
    · exact (hc5.mono (fun _ _ h => Or.inr h)).andThen hc6 (fun _ _ h => Or.inl h)
theorem putA_mem_ne {α β : Type} [DecidableEq α] {a : α} {b : β} {l : List (α × β)} {p : α × β} (nd : (l.map Prod.fst).Nodup) (h : p ∈ putA a b l) : p = (a, b) ∨ (p ∈ l ∧ p.1 ≠ a) := by
  obtain ⟨k, v⟩ := p
  have h1 := getA_of_mem (putA_nodup a b l nd) h
  rw [getA_put] at h1
  by_cases e : k = a
  · rw [if_pos e] at h1
    left
    rw [e]
    simp at h1
    rw [h1]
  · rw [if_neg e] at h1
    exact Or.inr ⟨getA_mem h1, e⟩
theorem vBlocks_inj {V : List (ByteArray × VEnt)} (h : (vBlocks V).Nodup) {p q : ByteArray × VEnt} (hp : p ∈ V) (hq : q ∈ V) (e : p.2.vb = q.2.vb) : p = q := by
  unfold vBlocks at h
  refine Classical.byContradiction fun hne => ?_
  obtain ⟨i, hi, rfl⟩ := List.getElem_of_mem hp
  obtain ⟨j, hj, rfl⟩ := List.getElem_of_mem hq
  have hij : i ≠ j := fun e => hne (by subst e; rfl)
  have h2 := (List.pairwise_iff_getElem.1 h)
  rcases Nat.lt_or_gt_of_ne hij with h3 | h3
  · have := h2 i j (by simpa using hi) (by simpa using hj) h3
    simp at this; exact this e
  · have := h2 j i (by simpa using hj) (by simpa using hi) h3
    simp at this; exact this e.symm
/-- 'Add', at the level of the store. -/
theorem add_any (sb vm : Nat) (V : List (ByteArray × VEnt)) (key : ByteArray) (t : Int) (f : Bool) (u : ByteArray) (w : World) (hk : key.size ≤ maxLen) (h : StoreAt w sb vm V) (hl : (versOf key V).length ≤ 2000000) (hnd : (sb :: vm :: vBlocks V).Nodup) :
    Calls Tryz.prog 122 #[.pointer (some ⟨sb, 0, none⟩), .string key, .int .i64 t, .agg #[.bool f, .string u]] w fun e w' => e = .returned (.tuple #[]) ∧ ∃ E : VEnt, E.vs = versOf key V ++ [(t, (f, u))] ∧
      StoreAt w' sb vm (putA key E V) ∧ ((∃ e0, getA key V = some e0 ∧ E.vb = e0.vb) ∨ w.heap.size ≤ E.vb) ∧ Chg (fun b => b = vm ∨ b ∈ vBlocks V) w w' := by
  obtain ⟨n1, n2⟩ := List.nodup_cons.1 hnd
  obtain ⟨n3, n4⟩ := List.nodup_cons.1 n2
  have hsv : sb ≠ vm := fun e => n1 (by simp [e])
  have hb : ∀ e, getA key V = some e → e.vb ∈ vBlocks V := fun e he => List.mem_map.2 ⟨(key, e), getA_mem he, rfl⟩
  have hne : ∀ e, getA key V = some e → e.vb ≠ sb ∧ e.vb ≠ vm := fun e he => ⟨fun e1 => n1 (by rw [← e1]; exact List.mem_cons_of_mem _ (hb e he)), fun e1 => n3 (by rw [← e1]; exact hb e he)⟩
  have hlts := h.lts
  refine (add_raw sb vm V key t f u w hk h hl hsv hne).mono ?_
  rintro e w' ⟨rfl, E, hE, hm, hr, hw, hc⟩
  refine ⟨rfl, E, hE, ⟨(hc.block sb (lt_of_block h.st) ?_).trans h.st, hm, fun p hp => ?_⟩, hw, hc.mono ?_⟩
  · rintro (e1 | ⟨e0, he, hv⟩)
    · exact hsv e1
    · exact (hne e0 he).1 hv.symm
  · rcases putA_mem_ne h.vs.nodup hp with rfl | ⟨hpV, hpk⟩
    · exact hr
    · refine ownsRow_chg (h.rows p hpV) hc (fun g hg => ?_)
      have hg' : p.2.vb = g := by simpa [Value.ownBlock] using hg
      have hgm : g ∈ vBlocks V := List.mem_map.2 ⟨p, hpV, hg'⟩
      rintro (e1 | ⟨e0, he, hv⟩)
      · exact n3 (e1 ▸ hgm)
      · exact hpk (congrArg Prod.fst (vBlocks_inj n4 hpV (getA_mem he) (hg'.trans hv)))
  · rintro i _ (e1 | ⟨e0, he, hv⟩)
    · exact Or.inl e1
    · exact Or.inr (hv ▸ hb e0 he)
end Go.Proofs.YtkfjafndplmdkaaGreat
