import Derived.Test.YtcpjocgpahjcjaaRP
import Derived.Deep.RegionLawGrows
import Derived.Deep.RegionLaw
namespace Go.Proofs.Ytcpjocgpahjcjaa
open Go.RowKit Go.Sort
theorem step_append_where {P : Program} {ops : Array Oper} {o : Oper} {a : Act} {w : World} {K : Act → World → Prop} {Q : Exit → Act → World → Prop} {E : Prop}
    (hg : o.guard = none) (s x : Operand) (t : TypeId) (hop : o.op = Op.call { callee := Callee.builtin Builtin.append, args := #[s, x], argTypes := #[t, t] })
    (base : Nat) (e : TypeId) (i : TypeInfo) (z : Value) (size bytes : Nat) (ht : P.underlying t = some (.slice e)) (hi : P.info? e = some i) (hz : i.zero = some z)
    (hsize : i.size = size) (hby : i.bytes = bytes) (hzs : z.cells.size = size) (hsz : 0 < size)
    (v : Value) (n : Nat) (xs : List Value) (hs : a.eval s = v) (hown : w.ownsRow base e size v n xs)
    (ad : Addr) (m c : Nat) (news : List Value) (hx : a.eval x = .slice (some ad) m c) (hl : news.length = m * size) (hnews : ∀ j u, news[j]? = some u → w.cell? (ad.add j) = some u) (h1 : ∀ u ∈ news, u.oneCell' = true)
    (h63 : n + m ≤ maxLen) (hbytes : (n + m) * bytes ≤ 140737488355328) (hbase : base ≤ w.heap.size)
    (hK : ∀ v' w', w'.ownsRow base e size v' (n + m) (xs ++ news) → w.grownBy w' v.ownBlock → (v'.ownBlock = v.ownBlock ∨ v'.ownBlock = some w.heap.size) → K (a.put o.dst v') w') :
    if Region.wanted o (yielded ops a.tmps) = true then Oper.wp P o a w K Q else E := by
  have hw : Region.wanted o (yielded ops a.tmps) = true := by simp [Region.wanted, hg]
  rw [if_pos hw]
  obtain ⟨v', w', hr, h2, h3, _, h5⟩ := append_where (P := P) w base t o.type e i z size bytes ht hi hz hsize hby hzs hsz v n xs hown ad m c news hl hnews h1 h63 hbytes hbase
  unfold Oper.wp
  simp [execOp, hop, resolve, invoke, builtin, hs, hx, hr, Result.andThen]
  exact hK _ _ h2 h3 h5
set_option maxRecDepth 100000 in
set_option maxHeartbeats 1000000 in
theorem rstep_many {v0 v1 v3 v4 v5 : Value} (wb n oc : Nat) (oa : Option Addr) (o : OpM) (w : World) (hkd : o.kind = 1) (hn : 6 ≤ n)
    (hb : w.heap[wb]? = some (.cells #[v0, v1, .slice oa n oc, v3, v4, v5] 54)) :
    Calls Try.prog 18 #[.pointer (some ⟨wb, 0, none⟩), o.v] w fun e w' => e = .returned (ansV 6 0 false ⟨#[]⟩ (.slice none 0 0)) ∧ Chg nobody w w' := by
  have hwl := lt_of_block hb
  have x2 := cell_of hb (i := 2) (v := .slice oa n oc) rfl
  have hkd' : (o.kind == 1) = true := beq_iff_eq.2 hkd
  have b1 : decide ((6 : Int) ≤ (n : Int)) = true := decide_eq_true (by omega)
  clear hb
  go_enter Try.func18, Try.ntmps18
  go_wp2_with fail
  refine (no_any 6 _).mono ?_
  rintro e w5 ⟨rfl, hch⟩
  have fB : w5.heap[w.heap.size + 1]? = some ans0 := by
    rw [hch.block _ (by simp <;> omega) (fun h => h)]
    exact heap_new (by simp)
  have hc5 : Chg nobody w w5 := (((Chg.refl nobody w).alloc _).alloc _).trans hch
  obtain ⟨k0, k1, k2, k3, k4, k5, k6, kf⟩ := cells7 fB
  have HZ : Hid (w5.heap[w.heap.size + 1]? = some ans0 ∧ Chg nobody w w5) := ⟨fB, hc5⟩
  clear fB hch hc5 x2
  go_wp2
  obtain ⟨f9B, hc5⟩ := HZ.out
  obtain ⟨r0, r1, r2, r3, r4, r5, r6⟩ := set7 f9B rfl (.int .i64 6) (.int .i64 0) (.bool false) (.string ⟨#[]⟩) (.slice none 0 0) (.slice none 0 0) (.slice none 0 0)
  have hc10 := chg_set7 w5 (w.heap.size + 1) (.int .i64 6) (.int .i64 0) (.bool false) (.string ⟨#[]⟩) (.slice none 0 0) (.slice none 0 0) (.slice none 0 0)
  refine bodyPost_ret (v := ansV 6 0 false ⟨#[]⟩ (.slice none 0 0)) (by simp [results, Try.results18, go_sem, r0, r1, r2, r3, r4, r5, r6]) rfl ⟨rfl, hc5.andThen hc10 ?_⟩
  exact fun i hi (h : i = _) => by omega
abbrev newT (c : Int) : RT := ⟨c, [], none, 0, [], none, 0, [], none, 0⟩
set_option maxRecDepth 100000 in
set_option maxHeartbeats 2000000 in
theorem rstep_begin {v1 v3 v4 v5 : Value} (wb oc : Nat) (c : Int) (oa : Option Addr) (ts : List RT) (o : OpM) (w : World) (hkd : o.kind = 1) (hn : ts.length < 6) (h0 : 0 ≤ c) (h1 : c < 1000000000)
    (hb : w.heap[wb]? = some (.cells #[.int .i64 c, v1, .slice oa ts.length oc, v3, v4, v5] 54)) (hor : w.ownsRow 0 66 4 (.slice oa ts.length oc) ts.length (rtCells ts)) :
    Calls Try.prog 18 #[.pointer (some ⟨wb, 0, none⟩), o.v] w fun e w' => e = .returned (ansV 0 (c + 1) false ⟨#[]⟩ (.slice none 0 0)) ∧
      ∃ oa' oc', w'.heap[wb]? = some (.cells #[.int .i64 (c + 1), v1, .slice oa' (ts.length + 1) oc', v3, v4, v5] 54) ∧ w'.ownsRow 0 66 4 (.slice oa' (ts.length + 1) oc') (ts.length + 1) (rtCells (ts ++ [newT (c + 1)])) ∧ Chg (fun b => b = wb ∨ (Value.slice oa ts.length oc).ownBlock = some b) w w' ∧ ((Value.slice oa' (ts.length + 1) oc').ownBlock = (Value.slice oa ts.length oc).ownBlock ∨ ∀ b, (Value.slice oa' (ts.length + 1) oc').ownBlock = some b → w.heap.size ≤ b) := by
  obtain ⟨i0, hi, hz0, hz1, hz2⟩ := info_parts info66
  have hwl := lt_of_block hb
  have x0 := cell_of hb (i := 0) (v := .int .i64 c) rfl
  have x2 := cell_of hb (i := 2) (v := .slice oa ts.length oc) rfl
  have xf := unfrozen_of hb 0
  have hkd' : (o.kind == 1) = true := beq_iff_eq.2 hkd
  have b1 : decide ((6 : Int) ≤ (ts.length : Int)) = false := decide_eq_false (by omega)
  have hob : ∀ b, (Value.slice oa ts.length oc).ownBlock = some b → b < w.heap.size ∧ b ≠ wb := fun b e => by
    rcases hor.2 with ⟨e0, _⟩ | ⟨g', cap, cu, e0, _, h, _⟩
    · rw [e0] at e; cases e
    · rw [e0] at e
      have e1 : g' = b := by simpa [Value.ownBlock] using e
      subst e1
      refine ⟨lt_of_block h, fun e2 => ?_⟩
      subst e2
      rw [hb] at h
      cases h
  have HR : Hid (w.heap[wb]? = some (.cells #[.int .i64 c, v1, .slice oa ts.length oc, v3, v4, v5] 54) ∧ w.ownsRow 0 66 4 (.slice oa ts.length oc) ts.length (rtCells ts) ∧ ∀ b, (Value.slice oa ts.length oc).ownBlock = some b → b < w.heap.size ∧ b ≠ wb) := ⟨hb, hor, hob⟩
  clear hb hor hob
  go_enter Try.func18, Try.ntmps18
  go_wp2_with fail
  have hs1 : (w.setCell ⟨wb, 0, none⟩ (.int .i64 (c + 1))).heap.size = w.heap.size := by simp [World.setCell]
  have hc1 : Chg (fun b => b = wb) w (w.setCell ⟨wb, 0, none⟩ (.int .i64 (c + 1))) := chg_set1 _ _ _ _
  have hb1 : (w.setCell ⟨wb, 0, none⟩ (.int .i64 (c + 1))).heap[wb]? = some (.cells #[.int .i64 (c + 1), v1, .slice oa ts.length oc, v3, v4, v5] 54) := heap_setCell_same w wb 0 _ 54 (.int .i64 (c + 1)) HR.out.1
  have hc2 : Chg nobody (w.setCell ⟨wb, 0, none⟩ (.int .i64 (c + 1))) (((w.setCell ⟨wb, 0, none⟩ (.int .i64 (c + 1))).alloc (opC o 1)).alloc ans0) := ((Chg.refl _ _).alloc _).alloc _
  have hb2 := (hc2.block _ (lt_of_block hb1) (fun h => h)).trans hb1
  have hor2 := ownsRow_chg (ownsRow_chg HR.out.2.1 hc1 (fun b e (h : b = wb) => (HR.out.2.2 b e).2 h)) hc2 (fun _ _ h => h)
  have fB : (((w.setCell ⟨wb, 0, none⟩ (.int .i64 (c + 1))).alloc (opC o 1)).alloc ans0).heap[w.heap.size + 1]? = some ans0 := heap_new (by simp [hs1])
  have hz2 : (((w.setCell ⟨wb, 0, none⟩ (.int .i64 (c + 1))).alloc (opC o 1)).alloc ans0).heap.size = w.heap.size + 1 + 1 := by simp [hs1]
  have hcc : Chg (fun b => b = wb ∨ (Value.slice oa ts.length oc).ownBlock = some b) w (((w.setCell ⟨wb, 0, none⟩ (.int .i64 (c + 1))).alloc (opC o 1)).alloc ans0) := (hc1.andThen hc2 (fun _ _ h => h.elim)).mono (fun _ _ h => Or.inl h)
  have y0 := cell_of hb2 (i := 0) (v := .int .i64 (c + 1)) rfl
  have y2 := cell_of hb2 (i := 2) (v := .slice oa ts.length oc) rfl
  have yf := unfrozen_of hb2 2
  have HW : Hid ((((w.setCell ⟨wb, 0, none⟩ (.int .i64 (c + 1))).alloc (opC o 1)).alloc ans0).heap[wb]? = some (.cells #[.int .i64 (c + 1), v1, .slice oa ts.length oc, v3, v4, v5] 54) ∧ (((w.setCell ⟨wb, 0, none⟩ (.int .i64 (c + 1))).alloc (opC o 1)).alloc ans0).ownsRow 0 66 4 (.slice oa ts.length oc) ts.length (rtCells ts) ∧ (((w.setCell ⟨wb, 0, none⟩ (.int .i64 (c + 1))).alloc (opC o 1)).alloc ans0).heap[w.heap.size + 1]? = some ans0 ∧ Chg (fun b => b = wb ∨ (Value.slice oa ts.length oc).ownBlock = some b) w (((w.setCell ⟨wb, 0, none⟩ (.int .i64 (c + 1))).alloc (opC o 1)).alloc ans0)) := ⟨hb2, hor2, fB, hcc⟩
  have hz2' : Hid ((((w.setCell ⟨wb, 0, none⟩ (.int .i64 (c + 1))).alloc (opC o 1)).alloc ans0).heap.size = w.heap.size + 1 + 1) := hz2
  clear hs1 hc1 hb1 hc2 hb2 hor2 fB hcc hz2 x0 x2 xf
  generalize (((w.setCell ⟨wb, 0, none⟩ (.int .i64 (c + 1))).alloc (opC o 1)).alloc ans0) = w3 at *
  have hwl3 : wb < w3.heap.size := lt_of_block HW.out.1
  have y2' : (w3.alloc (.cells #[.int .i64 (c + 1), .slice none 0 0, .slice none 0 0, .slice none 0 0] 66)).cell? ⟨wb, 2, none⟩ = some (.slice oa ts.length oc) := by rw [World.cell?_alloc_past _ _ _ hwl3]; exact y2
  go_region_law (refine step_append_where rfl (.tmp 34) (.tmp 40) 51 rfl 0 66 i0 RT.zero.v 4 80 Try.underlying51 hi hz0 hz1 hz2 rfl (by decide) (.slice oa ts.length oc) ts.length (rtCells ts) (by simp [Act.eval]) ((row_drew HW.out.2.1).alloc _) ⟨w3.heap.size, 0, none⟩ 1 1 (newT (c + 1)).cells (by simp [Act.eval]) rfl (cells_new w3.drew #[.int .i64 (c + 1), .slice none 0 0, .slice none 0 0, .slice none 0 0] 66) (rt_one _) (by unfold maxLen; omega) (by omega) (Nat.zero_le _) ?_; intro v' w5 hown5 hg5 hwh; obtain ⟨oa', oc', rfl⟩ := row_form hown5; have hc5 : Chg (fun b => (Value.slice oa ts.length oc).ownBlock = some b) w3 w5 := (((Chg.refl _ w3).drew).alloc _).grown hg5 (fun k e => Or.inl e); have hb5 := (hc5.block wb (lt_of_block HW.out.1) (fun e => (HR.out.2.2 _ e).2 rfl)).trans HW.out.1; have s2 := cell_of hb5 (i := 2) (v := .slice oa ts.length oc) rfl; have sf := unfrozen_of hb5 2)
  all_goals
    have hl3 := lt_of_block HW.out.2.2.1
    have hwh' : (Value.slice oa' (ts.length + 1) oc').ownBlock = (Value.slice oa ts.length oc).ownBlock ∨ (Value.slice oa' (ts.length + 1) oc').ownBlock = some (w.heap.size + 1 + 1 + 1) := by
      rcases hwh with h | h
      · exact Or.inl h
      · refine Or.inr (h.trans ?_)
        have := hz2'.out
        simp [this]
    have hob' : ∀ b, (Value.slice oa' (ts.length + 1) oc').ownBlock = some b → b < w.heap.size ∧ b ≠ wb ∨ b = w.heap.size + 1 + 1 + 1 := fun b e => by
      rcases hwh' with h | h
      · exact Or.inl (HR.out.2.2 b (h ▸ e))
      · rw [h] at e; exact Or.inr (Option.some.inj e).symm
    have hc6 := chg_set1 w5 wb 2 (.slice oa' (ts.length + 1) oc')
    have hb6 := heap_setCell_same w5 wb 2 _ 54 (.slice oa' (ts.length + 1) oc') hb5
    have hor6 := ownsRow_chg hown5 hc6 (fun b e (h : b = wb) => by have := hob' b e; omega)
    have f5B := (hc5.block _ hl3 (fun e => by have := (HR.out.2.2 _ e).1; omega)).trans HW.out.2.2.1
    have f6B := (hc6.block _ (lt_of_block f5B) (fun (h : _ = _) => by omega)).trans f5B
    have hcc6 : Chg (fun b => b = wb ∨ (Value.slice oa ts.length oc).ownBlock = some b) w (w5.setCell ⟨wb, 2, none⟩ (.slice oa' (ts.length + 1) oc')) := (HW.out.2.2.2.trans (hc5.mono (fun _ _ h => Or.inr h))).trans (hc6.mono (fun _ _ h => Or.inl h))
    have HF : Hid ((w5.setCell ⟨wb, 2, none⟩ (.slice oa' (ts.length + 1) oc')).heap[wb]? = some (.cells #[.int .i64 (c + 1), v1, .slice oa' (ts.length + 1) oc', v3, v4, v5] 54) ∧ (w5.setCell ⟨wb, 2, none⟩ (.slice oa' (ts.length + 1) oc')).ownsRow 0 66 4 (.slice oa' (ts.length + 1) oc') (ts.length + 1) (rtCells ts ++ (newT (c + 1)).cells) ∧ (w5.setCell ⟨wb, 2, none⟩ (.slice oa' (ts.length + 1) oc')).heap[w.heap.size + 1]? = some ans0 ∧ Chg (fun b => b = wb ∨ (Value.slice oa ts.length oc).ownBlock = some b) w (w5.setCell ⟨wb, 2, none⟩ (.slice oa' (ts.length + 1) oc')) ∧ (∀ b, (Value.slice oa' (ts.length + 1) oc').ownBlock = some b → b < w.heap.size ∧ b ≠ wb ∨ b = w.heap.size + 1 + 1 + 1) ∧ ((Value.slice oa' (ts.length + 1) oc').ownBlock = (Value.slice oa ts.length oc).ownBlock ∨ (Value.slice oa' (ts.length + 1) oc').ownBlock = some (w.heap.size + 1 + 1 + 1))) := ⟨hb6, hor6, f6B, hcc6, hob', hwh'⟩
    have z0 := cell_of hb6 (i := 0) (v := .int .i64 (c + 1)) rfl
    obtain ⟨k0, k1, k2, k3, k4, k5, k6, kf⟩ := cells7 f6B
    clear hwh hwh' hob' hc6 hb6 hor6 f5B f6B hcc6 hc5 hb5 s2 sf hown5 hg5 y0 y2 yf hl3 HW hz2'
    generalize w5.setCell ⟨wb, 2, none⟩ (.slice oa' (ts.length + 1) oc') = w6 at *
    go_wp2
    obtain ⟨hb6, hor6, f9B, hcc6, hob', hwh'⟩ := HF.out
    obtain ⟨r0, r1, r2, r3, r4, r5, r6⟩ := set7 f9B rfl (.int .i64 0) (.int .i64 (c + 1)) (.bool false) (.string ⟨#[]⟩) (.slice none 0 0) (.slice none 0 0) (.slice none 0 0)
    have hc10 := chg_set7 w6 (w.heap.size + 1) (.int .i64 0) (.int .i64 (c + 1)) (.bool false) (.string ⟨#[]⟩) (.slice none 0 0) (.slice none 0 0) (.slice none 0 0)
    refine bodyPost_ret (v := ansV 0 (c + 1) false ⟨#[]⟩ (.slice none 0 0)) (by simp [results, Try.results18, go_sem, r0, r1, r2, r3, r4, r5, r6]) rfl ⟨rfl, oa', oc', (hc10.block _ (lt_of_block hb6) (fun (h : _ = _) => by omega)).trans hb6, ?_, hcc6.andThen hc10 ?_, ?_⟩
    · rw [rtCells_append, rtCells_one]
      exact ownsRow_chg hor6 hc10 (fun b e (h : b = _) => by have := hob' b e; omega)
    · exact fun i hi (h : i = _) => by omega
    · rcases hwh' with h | h
      · exact Or.inl h
      · exact Or.inr (fun b e => by rw [h] at e; have := Option.some.inj e; omega)
end Go.Proofs.Ytcpjocgpahjcjaa
