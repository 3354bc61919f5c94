import Derived.Test.YtcpjocgpahjcjaaRI
namespace Go.Proofs.Ytcpjocgpahjcjaa
open Go.RowKit Go.Sort
theorem dset4 {w : World} {D : Nat} (h : w.heap[D]? = some ans0) (v : Value) : (w.setCell ⟨D, 4, none⟩ v).heap[D]? = some (.cells (ansC 0 0 false ⟨#[]⟩ v) 36) ∧ Chg (fun x => x = D) w (w.setCell ⟨D, 4, none⟩ v) := by
  constructor
  · have := heap_setCell_same w D 4 _ 36 v h
    simpa using this
  · exact chg_set1 _ _ _ _
set_option maxRecDepth 100000 in
set_option maxHeartbeats 1000000 in
theorem of_scan_low {v0 v3 v4 v5 : Value} (wb g k oc lc : Nat) (la : Option Addr) (st : Int) (ws : List Ver) (wa : Option Addr) (wc : Nat) (ks : List ByteArray) (ka : Option Addr) (kc : Nat) (pa : Option Addr) (ps : List ByteArray) (pc : Nat) (L : List Ver) (ts : List RT) (o : OpM) (w : World)
    (hkd : o.kind = 3) (hkn : k < ts.length)
    (hT : ts[k]? = some ⟨st, ws, wa, wc, ks, ka, kc, ps, pa, pc⟩)
    (hb : w.heap[wb]? = some (.cells #[v0, .slice la L.length lc, .slice (some ⟨g, 0, none⟩) ts.length oc, v3, v4, v5] 54))
    (hor : w.ownsRow 0 66 4 (.slice (some ⟨g, 0, none⟩) ts.length oc) ts.length (rtCells ts))
    (hkr : w.ownsRow 0 9 1 (.slice pa ps.length pc) ps.length (strCells ps)) (hks : ps.length ≤ 2000000) (hLr : w.ownsRow 0 72 4 (.slice la L.length lc) L.length (verCells L)) (hwr : w.ownsRow 0 72 4 (.slice wa ws.length wc) ws.length (verCells ws)) (hL : L.length ≤ 2000000) (hws : ws.length ≤ 2000000) :
    Calls Try.prog 29 #[.pointer (some ⟨wb, 0, none⟩), .int .i64 k, o.v] w fun e w' => ∃ it, e = .returned (ansV 0 0 false ⟨#[]⟩ it) ∧ (∃ K, KeysOf (L ++ ws) o.key K ∧ w'.ownsRow (w.heap.size + 5) 48 2 it (itemsR ws L st K).length (itemCells (itemsR ws L st K))) ∧
      ∃ pa' pc', w'.ownsRow 0 66 4 (.slice (some ⟨g, 0, none⟩) ts.length oc) ts.length (rtCells (ts.set k ⟨st, ws, wa, wc, ks, ka, kc, ps ++ [o.key], pa', pc'⟩)) ∧ w'.ownsRow 0 9 1 (.slice pa' (ps.length + 1) pc') (ps.length + 1) (strCells (ps ++ [o.key])) ∧ Chg (fun b => b = g ∨ (Value.slice pa ps.length pc).ownBlock = some b) w w' ∧ ((Value.slice pa' (ps.length + 1) pc').ownBlock = (Value.slice pa ps.length pc).ownBlock ∨ ∀ b, (Value.slice pa' (ps.length + 1) pc').ownBlock = some b → w.heap.size ≤ b) := by
  obtain ⟨i0, hi, hz0, hz1, hz2⟩ := info_parts info9
  have hgb : ∃ cur, w.heap[g]? = some (.cells cur 66) := by
    rcases hor.2 with ⟨e, _⟩ | ⟨g', cap, cur, e, _, h, _⟩
    · cases e
    · cases e; exact ⟨cur, h⟩
  obtain ⟨cur, hgb⟩ := hgb
  have hgl := lt_of_block hgb
  have hwl := lt_of_block hb
  have hwg : wb ≠ g := fun e => by rw [e, hgb] at hb; cases hb
  have x1 := cell_of hb (i := 1) (v := .slice la L.length lc) rfl
  have x2 := cell_of hb (i := 2) (v := .slice (some ⟨g, 0, none⟩) ts.length oc) rfl
  have hTk : ts[k] = ⟨st, ws, wa, wc, ks, ka, kc, ps, pa, pc⟩ := by have := List.getElem?_eq_getElem hkn; rw [hT] at this; exact (Option.some.inj this).symm
  obtain ⟨c0, c1, c2, c3⟩ := rt_at hor k hkn
  rw [hTk] at c0 c1 c2 c3
  simp only at c0 c1 c2 c3
  have hkb : ∀ b, (Value.slice pa ps.length pc).ownBlock = some b → b < w.heap.size ∧ b ≠ wb ∧ b ≠ g := fun b e => by
    rcases hkr.2 with ⟨e0, _⟩ | ⟨g', cap, cu, e0, _, h, _⟩
    · rw [e0] at e; cases e
    · rw [e0] at e
      have e1 : g' = b := by simpa [Value.ownBlock] using e
      subst e1
      refine ⟨lt_of_block h, fun e2 => ?_, fun e2 => ?_⟩
      · subst e2; rw [hb] at h; cases h
      · subst e2; rw [hgb] at h; cases h
  have hapL := row_apart hLr hkr (by decide)
  have hapW := row_apart hwr hkr (by decide)
  have hkd' : (o.kind == 3) = true := beq_iff_eq.2 hkd
  have HR : Hid (((four w o 3 st (.slice wa ws.length wc) (.slice ka ks.length kc) (.slice pa ps.length pc)).alloc (.cells #[.string o.key] 9)).ownsRow 0 9 1 (.slice pa ps.length pc) ps.length (strCells ps) ∧ w.ownsRow 0 72 4 (.slice la L.length lc) L.length (verCells L) ∧ w.ownsRow 0 72 4 (.slice wa ws.length wc) ws.length (verCells ws) ∧ (∀ b, (Value.slice pa ps.length pc).ownBlock = some b → b < w.heap.size ∧ b ≠ wb ∧ b ≠ g) ∧ (∀ g', (Value.slice la L.length lc).ownBlock = some g' → (Value.slice pa ps.length pc).ownBlock ≠ some g') ∧ (∀ g', (Value.slice wa ws.length wc).ownBlock = some g' → (Value.slice pa ps.length pc).ownBlock ≠ some g') ∧ w.ownsRow 0 66 4 (.slice (some ⟨g, 0, none⟩) ts.length oc) ts.length (rtCells ts) ∧ ts[k] = ⟨st, ws, wa, wc, ks, ka, kc, ps, pa, pc⟩) :=
    ⟨(ownsRow_chg hkr (four_chg w o 3 st (.slice wa ws.length wc) (.slice ka ks.length kc) (.slice pa ps.length pc)) (fun _ _ h => h)).alloc _, hLr, hwr, hkb, hapL, hapW, hor, hTk⟩
  have HB : Hid (w.heap[wb]? = some (.cells #[v0, .slice la L.length lc, .slice (some ⟨g, 0, none⟩) ts.length oc, v3, v4, v5] 54) ∧ w.heap[g]? = some (.cells cur 66)) := ⟨hb, hgb⟩
  clear hkr hLr hwr hkb hapL hapW hor hT hTk hb hgb
  have hbs : decide ((o.key.size : Int) < 1) = true ∨ (decide ((o.key.size : Int) < 1) = false ∧ decide ((8 : Int) < (o.key.size : Int)) = true) ∨ (decide ((o.key.size : Int) < 1) = false ∧ decide ((8 : Int) < (o.key.size : Int)) = false) := by
    by_cases h1 : (o.key.size : Int) < 1
    · exact Or.inl (decide_eq_true h1)
    · by_cases h2 : (8 : Int) < (o.key.size : Int)
      · exact Or.inr (Or.inl ⟨decide_eq_false h1, decide_eq_true h2⟩)
      · exact Or.inr (Or.inr ⟨decide_eq_false h1, decide_eq_false h2⟩)
  rcases hbs with b1 | ⟨b1, b2⟩ | ⟨b1, b2⟩
  all_goals
    go_enter Try.func29, Try.ntmps29
    go_wp2_with (at_builtin; refine wpList_append_where rfl _ _ 64 rfl 0 9 i0 (.string ⟨#[]⟩) 1 16 Try.underlying64 hi hz0 hz1 hz2 rfl (by decide) (.slice pa ps.length pc) _ _ rfl HR.out.1 ⟨w.heap.size + 1 + 1 + 1 + 1, 0, none⟩ 1 1 [.string o.key] rfl rfl (by simpa using cells_new (four w o 3 st (.slice wa ws.length wc) (.slice ka ks.length kc) (.slice pa ps.length pc)) #[.string o.key] 9) (by simp [Value.oneCell']) (by unfold maxLen; omega) (by omega) (Nat.zero_le _) ?_; intro kv' w5 hown5 hg5 hwh; obtain ⟨pa', pc', rfl⟩ := row_form hown5; obtain ⟨fA, fB, fC, fD⟩ := five_keep hg5 (fun k e => (HR.out.2.2.2.1 k e).1); have o2 := cell_of fA (i := 2) (v := .string o.key) rfl; have t0 := cell_of fC (i := 0) (v := .int .i64 st) rfl; have t1 := cell_of fC (i := 1) (v := .slice wa ws.length wc) rfl; have t2 := cell_of fC (i := 2) (v := .slice ka ks.length kc) rfl; have t3 := cell_of fC (i := 3) (v := .slice pa ps.length pc) rfl; have tf := unfrozen_of fC 3)
    have hc5 : Chg (fun b => (Value.slice pa ps.length pc).ownBlock = some b) w w5 := (((four_chg w o 3 st (.slice wa ws.length wc) (.slice ka ks.length kc) (.slice pa ps.length pc)).alloc (.cells #[.string o.key] 9)).any _).grown hg5 (fun k e => Or.inl e)
    have hc6 : Chg (fun b => (Value.slice pa ps.length pc).ownBlock = some b) w (w5.setCell ⟨w.heap.size + 1 + 1, 3, none⟩ (.slice pa' (ps.length + 1) pc')) := hc5.setCell (p := ⟨w.heap.size + 1 + 1, 3, none⟩) (Or.inr (by simp only; omega)) _
    have hb6 : (w5.setCell ⟨w.heap.size + 1 + 1, 3, none⟩ (.slice pa' (ps.length + 1) pc')).heap[wb]? = some (.cells #[v0, .slice la L.length lc, .slice (some ⟨g, 0, none⟩) ts.length oc, v3, v4, v5] 54) := (hc6.block _ hwl (fun e => (HR.out.2.2.2.1 _ e).2.1 rfl)).trans HB.out.1
    refine (rscan_any wb lc 0 0 wc la wa L ws o.key st _ _ _ hL hws (cell_of hb6 (i := 1) rfl) (ownsRow_chg HR.out.2.1 hc6 (HR.out.2.2.2.2.1)) (ownsRow_chg HR.out.2.2.1 hc6 (HR.out.2.2.2.2.2.1))).mono ?_
    rintro e w7 ⟨itv, rfl, K, hK, hitr, hch⟩
    obtain ⟨ia, ic, rfl⟩ := row_form hitr
    have hwh' : (Value.slice pa' (ps.length + 1) pc').ownBlock = (Value.slice pa ps.length pc).ownBlock ∨ (Value.slice pa' (ps.length + 1) pc').ownBlock = some (w.heap.size + 1 + 1 + 1 + 1 + 1) := by simpa using hwh
    have hkv' : ∀ b, (Value.slice pa' (ps.length + 1) pc').ownBlock = some b → b < w.heap.size ∧ b ≠ wb ∧ b ≠ g ∨ b = w.heap.size + 1 + 1 + 1 + 1 + 1 := fun b e => by
      rcases hwh' with h | h
      · exact Or.inl (HR.out.2.2.2.1 b (h ▸ e))
      · rw [h] at e; exact Or.inr (Option.some.inj e).symm
    have hc7 := hc6.andThen hch (fun _ _ h => h.elim)
    have hz6 : (w5.setCell ⟨w.heap.size + 1 + 1, 3, none⟩ (.slice pa' (ps.length + 1) pc')).heap.size = w5.heap.size := by simp [World.setCell]
    have hl5 := lt_of_block fD
    have hl5' : w.heap.size + 5 ≤ w5.heap.size := by have := hg5.size; simp at this; omega
    have f7C : w7.heap[w.heap.size + 1 + 1]? = some (txC st (.slice wa ws.length wc) (.slice ka ks.length kc) (.slice pa' (ps.length + 1) pc')) := (hch.block _ (by rw [hz6]; omega) (fun h => h)).trans (heap_setCell_same w5 (w.heap.size + 1 + 1) 3 _ 66 (.slice pa' (ps.length + 1) pc') fC)
    have f7D : w7.heap[w.heap.size + 1 + 1 + 1]? = some ans0 := (hch.block _ (by rw [hz6]; omega) (fun h => h)).trans ((heap_setCell_other w5 ⟨w.heap.size + 1 + 1, 3, none⟩ _ _ (by simp only; omega)).trans fD)
    have f7B : w7.heap[w.heap.size + 1]? = some ans0 := (hch.block _ (by rw [hz6]; omega) (fun h => h)).trans ((heap_setCell_other w5 ⟨w.heap.size + 1 + 1, 3, none⟩ _ _ (by simp only; omega)).trans fB)
    have hb7 := (hc7.block _ hwl (fun e => (HR.out.2.2.2.1 _ e).2.1 rfl)).trans HB.out.1
    have hor7 := ownsRow_chg HR.out.2.2.2.2.2.2.1 hc7 (fun b e h => by
      have e1 : g = b := by simpa [Value.ownBlock] using e
      exact (HR.out.2.2.2.1 b h).2.2 e1.symm)
    have hkv7 : w7.ownsRow 0 9 1 (.slice pa' (ps.length + 1) pc') (ps.length + 1) (strCells (ps ++ [o.key])) := by
      have h0 := ownsRow_chg hown5 (chg_set1 w5 (w.heap.size + 1 + 1) 3 (.slice pa' (ps.length + 1) pc')) (fun b e h => by have := hkv' b e; have := h; omega)
      have h1 := ownsRow_chg h0 hch (fun _ _ h => h)
      simpa [strCells] using h1
    have HF : Hid (w7.heap[w.heap.size + 1 + 1]? = some (txC st (.slice wa ws.length wc) (.slice ka ks.length kc) (.slice pa' (ps.length + 1) pc')) ∧ w7.heap[w.heap.size + 1 + 1 + 1]? = some ans0 ∧ w7.heap[w.heap.size + 1]? = some ans0 ∧ w7.heap[wb]? = some (.cells #[v0, .slice la L.length lc, .slice (some ⟨g, 0, none⟩) ts.length oc, v3, v4, v5] 54) ∧ w7.ownsRow 0 66 4 (.slice (some ⟨g, 0, none⟩) ts.length oc) ts.length (rtCells ts) ∧ w7.ownsRow 0 9 1 (.slice pa' (ps.length + 1) pc') (ps.length + 1) (strCells (ps ++ [o.key])) ∧ Chg (fun b => (Value.slice pa ps.length pc).ownBlock = some b) w w7 ∧ (∀ b, (Value.slice pa' (ps.length + 1) pc').ownBlock = some b → b < w.heap.size ∧ b ≠ wb ∧ b ≠ g ∨ b = w.heap.size + 1 + 1 + 1 + 1 + 1) ∧ ((Value.slice pa' (ps.length + 1) pc').ownBlock = (Value.slice pa ps.length pc).ownBlock ∨ (Value.slice pa' (ps.length + 1) pc').ownBlock = some (w.heap.size + 1 + 1 + 1 + 1 + 1))) := ⟨f7C, f7D, f7B, hb7, hor7, hkv7, hc7, hkv', hwh'⟩
    have a4 := cell_of f7D (i := 4) (v := .slice none 0 0) rfl
    have af4 := unfrozen_of f7D 4
    have y0 := cell_of f7C (i := 0) (v := .int .i64 st) rfl
    have y1 := cell_of f7C (i := 1) (v := .slice wa ws.length wc) rfl
    have y2 := cell_of f7C (i := 3) (v := .slice pa' (ps.length + 1) pc') rfl
    have y3 := cell_of f7C (i := 2) (v := .slice ka ks.length kc) rfl
    have z2 := cell_of hb7 (i := 2) (v := .slice (some ⟨g, 0, none⟩) ts.length oc) rfl
    clear hwh hwh' hkv' hc7 hl5 f7C f7D f7B hb7 hor7 hkv7 hch hb6 hc6 hc5 fA fB fC fD hg5 hown5 t0 t1 t2 t3 tf o2 c0 c1 c2 c3 x1 x2
    have HIT : Hid (KeysOf (L ++ ws) o.key K ∧ w7.ownsRow (w.heap.size + 5) 48 2 (.slice ia (itemsR ws L st K).length ic) (itemsR ws L st K).length (itemCells (itemsR ws L st K))) := ⟨hK, ownsRow_base hitr (by rw [hz6]; have := hl5'; omega)⟩
    generalize hni : (itemsR ws L st K).length = ni at *
    have HNI : Hid ((itemsR ws L st K).length = ni) := hni
    clear hni hK hitr hz6 hl5'
    go_wp2
    obtain ⟨f8D, hc8⟩ := dset4 HF.out.2.1 (.slice ia ni ic)
    obtain ⟨f7C, f7D, f7B, hb7, hor7, hkv7, hc7, hkv', hwh'⟩ := HF.out
    have hl7 := lt_of_block f7D
    have f8C := (hc8.block _ (by omega) (fun (h : _ = _) => by omega)).trans f7C
    have f8B := (hc8.block _ (by omega) (fun (h : _ = _) => by omega)).trans f7B
    have hb8 := (hc8.block _ (lt_of_block hb7) (fun (h : _ = _) => by omega)).trans hb7
    have hor8 := ownsRow_chg hor7 hc8 (fun b e (h : b = _) => by have e1 : g = b := (by simpa [Value.ownBlock] using e); omega)
    have hit8 := ownsRow_chg HIT.out.2 hc8 (fun b e (h : b = _) => by have := (HIT.out.2.lt b e).1; omega)
    have hkv8 := ownsRow_chg hkv7 hc8 (fun b e (h : b = _) => by have := hkv' b e; omega)
    have HG : Hid (Chg (fun b => b = g ∨ (Value.slice pa ps.length pc).ownBlock = some b) w (w7.setCell ⟨w.heap.size + 1 + 1 + 1, 4, none⟩ (.slice ia ni ic))) := (hc7.mono (fun _ _ h => Or.inr h)).andThen hc8 (fun i hi (h : i = _) => by omega)
    clear a4 af4 y0 y1 y2 y3 z2 f7C f7D f7B hb7 hor7 hkv7 hc7 hc8
    generalize (w7.setCell ⟨w.heap.size + 1 + 1 + 1, 4, none⟩ (.slice ia ni ic)) = w8 at *
    have y0 := cell_of f8C (i := 0) (v := .int .i64 st) rfl
    have y1 := cell_of f8C (i := 1) (v := .slice wa ws.length wc) rfl
    have y2 := cell_of f8C (i := 3) (v := .slice pa' (ps.length + 1) pc') rfl
    have y3 := cell_of f8C (i := 2) (v := .slice ka ks.length kc) rfl
    have z2 := cell_of hb8 (i := 2) (v := .slice (some ⟨g, 0, none⟩) ts.length oc) rfl
    have q0 := hor8.frozenAt (k * 4)
    have q1 := hor8.frozenAt (k * 4 + 1)
    have q2 := hor8.frozenAt (k * 4 + 2)
    have q3 := hor8.frozenAt (k * 4 + 3)
    obtain ⟨c0, c1, c2, c3⟩ := rt_at hor8 k hkn
    have HP : Hid (w8.heap[w.heap.size + 1 + 1 + 1]? = some (.cells (ansC 0 0 false ⟨#[]⟩ (.slice ia ni ic)) 36) ∧ w8.heap[w.heap.size + 1]? = some ans0 ∧ w8.ownsRow 0 66 4 (.slice (some ⟨g, 0, none⟩) ts.length oc) ts.length (rtCells ts) ∧ w8.ownsRow 0 9 1 (.slice pa' (ps.length + 1) pc') (ps.length + 1) (strCells (ps ++ [o.key])) ∧ w8.ownsRow (w.heap.size + 5) 48 2 (.slice ia ni ic) ni (itemCells (itemsR ws L st K))) := ⟨f8D, f8B, hor8, hkv8, hit8⟩
    clear f8D f8B hor8 hkv8 f8C hb8 hit8
    go_region
    have hc9 := (chg_set4 w8 g k (.int .i64 st) (.slice wa ws.length wc) (.slice ka ks.length kc) (.slice pa' (ps.length + 1) pc')).drew
    obtain ⟨f8D, f8B, hor8, hkv8, hit8⟩ := HP.out
    have hor9 := row_drew (row_set4 ⟨st, ws, wa, wc, ks, ka, kc, ps ++ [o.key], pa', pc'⟩ hor8 hkn)
    simp only [RT.wv, RT.kv, RT.pv, List.length_append, List.length_cons, List.length_nil, Nat.zero_add] at hor9
    have f9D := (hc9.block _ (lt_of_block f8D) (fun (h : _ = _) => by omega)).trans f8D
    have f9B := (hc9.block _ (lt_of_block f8B) (fun (h : _ = _) => by omega)).trans f8B
    have hit9 := ownsRow_chg hit8 hc9 (fun b e (h : b = _) => by have := (HIT.out.2.lt b e).1; omega)
    have hkv9 := ownsRow_chg hkv8 hc9 (fun b e (h : b = _) => by have := HF.out.2.2.2.2.2.2.2.1 b e; omega)
    have HG9 := HG.out.andThen hc9 (fun i hi (h : i = _) => Or.inl h)
    have hG9 : Hid (Chg (fun b => b = g ∨ (Value.slice pa ps.length pc).ownBlock = some b) w ((((w8.setCell ⟨g, k * 4, none⟩ (.int .i64 st)).setCell ⟨g, k * 4 + 1, none⟩ (.slice wa ws.length wc)).setCell ⟨g, k * 4 + 2, none⟩ (.slice ka ks.length kc)).setCell ⟨g, k * 4 + 3, none⟩ (.slice pa' (ps.length + 1) pc')).drew) := HG9
    clear HG9 hc9 f8D f8B hor8 hkv8 hit8 HP HG y0 y1 y2 y3 z2 q0 q1 q2 q3 c0 c1 c2 c3
    generalize ((((w8.setCell ⟨g, k * 4, none⟩ (.int .i64 st)).setCell ⟨g, k * 4 + 1, none⟩ (.slice wa ws.length wc)).setCell ⟨g, k * 4 + 2, none⟩ (.slice ka ks.length kc)).setCell ⟨g, k * 4 + 3, none⟩ (.slice pa' (ps.length + 1) pc')).drew = w9 at *
    have d0 := cell_of f9D (i := 0) (v := .int .i64 0) rfl
    have d1 := cell_of f9D (i := 1) (v := .int .i64 0) rfl
    have d2 := cell_of f9D (i := 2) (v := .bool false) rfl
    have d3 := cell_of f9D (i := 3) (v := .string ⟨#[]⟩) rfl
    have d4 := cell_of f9D (i := 4) (v := .slice ia ni ic) rfl
    have d5 := cell_of f9D (i := 5) (v := .slice none 0 0) rfl
    have d6 := cell_of f9D (i := 6) (v := .slice none 0 0) rfl
    obtain ⟨k0, k1, k2, k3, k4, k5, k6, kf⟩ := cells7 f9B
    have HZ : Hid (w9.ownsRow 0 66 4 (.slice (some ⟨g, 0, none⟩) ts.length oc) ts.length (rtCells (ts.set k ⟨st, ws, wa, wc, ks, ka, kc, ps ++ [o.key], pa', pc'⟩)) ∧ w9.ownsRow 0 9 1 (.slice pa' (ps.length + 1) pc') (ps.length + 1) (strCells (ps ++ [o.key])) ∧ w9.heap[w.heap.size + 1]? = some ans0 ∧ w9.ownsRow (w.heap.size + 5) 48 2 (.slice ia ni ic) ni (itemCells (itemsR ws L st K))) := ⟨hor9, hkv9, f9B, hit9⟩
    clear hor9 hkv9 f9D f9B hit9
    go_wp2
    obtain ⟨hor9, hkv9, f9B, hit9⟩ := HZ.out
    obtain ⟨r0, r1, r2, r3, r4, r5, r6⟩ := set7 f9B rfl (.int .i64 0) (.int .i64 0) (.bool false) (.string ⟨#[]⟩) (.slice ia ni ic) (.slice none 0 0) (.slice none 0 0)
    have hc10 := chg_set7 w9 (w.heap.size + 1) (.int .i64 0) (.int .i64 0) (.bool false) (.string ⟨#[]⟩) (.slice ia ni ic) (.slice none 0 0) (.slice none 0 0)
    refine bodyPost_ret (v := ansV 0 0 false ⟨#[]⟩ (.slice ia ni ic)) (by simp [results, Try.results29, go_sem, r0, r1, r2, r3, r4, r5, r6]) rfl ⟨_, rfl, ⟨K, HIT.out.1, (by rw [HNI.out]; exact ownsRow_chg hit9 hc10 (fun b e (h : b = _) => by have := (hit9.lt b e).1; omega))⟩, pa', pc', ownsRow_chg hor9 hc10 ?_, ownsRow_chg hkv9 hc10 ?_, hG9.out.andThen hc10 ?_, ?_⟩
    · exact fun b e (h : b = _) => by have e1 : g = b := (by simpa [Value.ownBlock] using e); omega
    · exact fun b e (h : b = _) => by have := HF.out.2.2.2.2.2.2.2.1 b e; omega
    · exact fun i hi (h : i = _) => by omega
    · rcases HF.out.2.2.2.2.2.2.2.2 with h | h
      · exact Or.inl h
      · exact Or.inr (fun b e => by rw [h] at e; have := Option.some.inj e; omega)
end Go.Proofs.Ytcpjocgpahjcjaa
