import Derived.Test.YtkfjafndplmdkaaGreatRH
namespace Go.Proofs.YtkfjafndplmdkaaGreat
open Go.RowKit Go.Sort
def ROk (w : World) (S : RSt) (w' : World) (S' : RSt) : Prop := RInv w' S' ∧ (∀ b ∈ S'.blocks, b ∈ S.blocks ∨ w.heap.size ≤ b) ∧ Chg (fun b => b ∈ S.blocks) w w'
theorem rtCells_set (T' : RT) : ∀ (ts : List RT) (k : Nat), k < ts.length → ((((rtCells ts).set (k * 4) (.int .i64 T'.start)).set (k * 4 + 1) T'.wv).set (k * 4 + 2) T'.kv).set (k * 4 + 3) T'.pv = rtCells (ts.set k T')
  | x :: r, 0, _ => by
    have e : rtCells (x :: r) = x.cells ++ rtCells r := by simp [rtCells]
    have e' : rtCells ((x :: r).set 0 T') = T'.cells ++ rtCells r := by simp [rtCells]
    rw [e, e']
    rfl
  | x :: r, k + 1, h => by
    have e : rtCells (x :: r) = .int .i64 x.start :: x.wv :: x.kv :: x.pv :: rtCells r := rfl
    have e' : rtCells ((x :: r).set (k + 1) T') = .int .i64 x.start :: x.wv :: x.kv :: x.pv :: rtCells (r.set k T') := rfl
    rw [e, e', ← rtCells_set T' r k (by simpa using h), show (k + 1) * 4 = k * 4 + 4 by omega]
    rfl
theorem row_set4 {w : World} {g n cap : Nat} {ts : List RT} {k : Nat} (T' : RT) (h : w.ownsRow 0 97 4 (.slice (some ⟨g, 0, none⟩) n cap) n (rtCells ts)) (hk : k < ts.length) :
    ((((w.setCell ⟨g, k * 4, none⟩ (.int .i64 T'.start)).setCell ⟨g, k * 4 + 1, none⟩ T'.wv).setCell ⟨g, k * 4 + 2, none⟩ T'.kv).setCell ⟨g, k * 4 + 3, none⟩ T'.pv).ownsRow 0 97 4 (.slice (some ⟨g, 0, none⟩) n cap) n (rtCells (ts.set k T')) := by
  rw [← rtCells_set T' ts k hk]
  exact ((((h.stored _ _).1.stored _ _).1.stored _ _).1.stored _ _).1
theorem five_keep {w w5 : World} {A B C D E : Obj} {row : Option Nat} (hg : (((((w.alloc A).alloc B).alloc C).alloc D).alloc E).grownBy w5 row) (hr : ∀ k, row = some k → k < w.heap.size) :
    w5.heap[w.heap.size]? = some A ∧ w5.heap[w.heap.size + 1]? = some B ∧ w5.heap[w.heap.size + 1 + 1]? = some C ∧ w5.heap[w.heap.size + 1 + 1 + 1]? = some D := by
  have hne : ∀ j, w.heap.size ≤ j → some j ≠ row := fun j hj e => by have := hr _ e.symm; omega
  refine ⟨?_, ?_, ?_, ?_⟩
  · rw [hg.block _ (by simp <;> omega) (hne _ (Nat.le_refl _)), Below.heap_alloc _ _ _ (by simp <;> omega), Below.heap_alloc _ _ _ (by simp <;> omega), Below.heap_alloc _ _ _ (by simp <;> omega), Below.heap_alloc _ _ _ (by simp)]
    exact heap_new rfl
  · rw [hg.block _ (by simp <;> omega) (hne _ (by omega)), Below.heap_alloc _ _ _ (by simp <;> omega), Below.heap_alloc _ _ _ (by simp <;> omega), Below.heap_alloc _ _ _ (by simp)]
    exact heap_new (by simp)
  · rw [hg.block _ (by simp <;> omega) (hne _ (by omega)), Below.heap_alloc _ _ _ (by simp <;> omega), Below.heap_alloc _ _ _ (by simp)]
    exact heap_new (by simp)
  · rw [hg.block _ (by simp <;> omega) (hne _ (by omega)), Below.heap_alloc _ _ _ (by simp)]
    exact heap_new (by simp)
abbrev opC (o : OpM) (kd : Int) : Obj := .cells #[.int .i64 kd, .int .i64 o.t, .string o.key, .string o.val, .int .i64 o.n] 30
abbrev txC (st : Int) (wv kv pv : Value) : Obj := .cells #[.int .i64 st, wv, kv, pv] 97
abbrev four (w : World) (o : OpM) (kd st : Int) (wv kv pv : Value) : World := (((w.alloc (opC o kd)).alloc ans0).alloc (txC st wv kv pv)).alloc ans0
theorem four_chg (w : World) (o : OpM) (kd st : Int) (wv kv pv : Value) : Chg nobody w (four w o kd st wv kv pv) := ((((Chg.refl _ _).alloc _).alloc _).alloc _).alloc _
theorem dset2 {w : World} {D : Nat} (h : w.heap[D]? = some ans0) (u : ByteArray) (f : Bool) : ((w.setCell ⟨D, 3, none⟩ (.string u)).setCell ⟨D, 2, none⟩ (.bool f)).heap[D]? = some (.cells (ansC 0 0 f u (.slice none 0 0)) 36) ∧ Chg (fun x => x = D) w ((w.setCell ⟨D, 3, none⟩ (.string u)).setCell ⟨D, 2, none⟩ (.bool f)) := by
  constructor
  · have := heap_setCell_same _ D 2 _ 36 (.bool f) (heap_setCell_same w D 3 _ 36 (.string u) h)
    simpa using this
  · exact (chg_set1 _ _ _ _).trans (chg_set1 _ _ _ _)
theorem dset3 {w : World} {D : Nat} (h : w.heap[D]? = some ans0) (u : ByteArray) (f : Bool) (c : ByteArray) : (((w.setCell ⟨D, 3, none⟩ (.string u)).setCell ⟨D, 2, none⟩ (.bool f)).setCell ⟨D, 3, none⟩ (.string c)).heap[D]? = some (.cells (ansC 0 0 f c (.slice none 0 0)) 36) ∧ Chg (fun x => x = D) w (((w.setCell ⟨D, 3, none⟩ (.string u)).setCell ⟨D, 2, none⟩ (.bool f)).setCell ⟨D, 3, none⟩ (.string c)) := by
  constructor
  · have := heap_setCell_same _ D 3 _ 36 (.string c) (dset2 h u f).1
    simpa using this
  · exact (dset2 h u f).2.trans (chg_set1 _ _ _ _)
theorem chg_set4 (w : World) (g k : Nat) (a b c d : Value) : Chg (fun x => x = g) w ((((w.setCell ⟨g, k * 4, none⟩ a).setCell ⟨g, k * 4 + 1, none⟩ b).setCell ⟨g, k * 4 + 2, none⟩ c).setCell ⟨g, k * 4 + 3, none⟩ d) :=
  (((chg_set1 _ _ _ _).trans (chg_set1 _ _ _ _)).trans (chg_set1 _ _ _ _)).trans (chg_set1 _ _ _ _)
set_option maxRecDepth 100000 in
set_option maxHeartbeats 1000000 in
theorem of_get_low {v0 v3 v4 v5 : Value} (wb g k oc lc : Nat) (la : Option Addr) (st : Int) (ws : List Ver) (wa : Option Addr) (wc : Nat) (ks : List ByteArray) (ka : Option Addr) (kc : Nat) (pa : Option Addr) (ps : List ByteArray) (pc : Nat) (L : List Ver) (ts : List RT) (o : OpM) (w : World)
    (hkd : o.kind = 2) (hk1 : 1 ≤ o.key.size) (hk8 : o.key.size ≤ 8) (hkn : k < ts.length)
    (hT : ts[k]? = some ⟨st, ws, wa, wc, ks, ka, kc, ps, pa, pc⟩)
    (hb : w.heap[wb]? = some (.cells #[v0, .slice la L.length lc, .slice (some ⟨g, 0, none⟩) ts.length oc, v3, v4, v5] 79))
    (hor : w.ownsRow 0 97 4 (.slice (some ⟨g, 0, none⟩) ts.length oc) ts.length (rtCells ts))
    (hkr : w.ownsRow 0 9 1 (.slice ka ks.length kc) ks.length (strCells ks)) (hks : ks.length ≤ 2000000) (hLr : w.ownsRow 0 103 4 (.slice la L.length lc) L.length (verCells L)) (hwr : w.ownsRow 0 103 4 (.slice wa ws.length wc) ws.length (verCells ws)) (hL : L.length ≤ 2000000) (hws : ws.length ≤ 2000000) :
    Calls Tryz.prog 52 #[.pointer (some ⟨wb, 0, none⟩), .int .i64 k, o.v] w fun e w' => e = .returned (ansV 0 0 (seesM ws L st o.key).2 (getV (seesM ws L st o.key)) (.slice none 0 0)) ∧
      ∃ ka' kc', w'.ownsRow 0 97 4 (.slice (some ⟨g, 0, none⟩) ts.length oc) ts.length (rtCells (ts.set k ⟨st, ws, wa, wc, ks ++ [o.key], ka', kc', ps, pa, pc⟩)) ∧ w'.ownsRow 0 9 1 (.slice ka' (ks.length + 1) kc') (ks.length + 1) (strCells (ks ++ [o.key])) ∧ Chg (fun b => b = g ∨ (Value.slice ka ks.length kc).ownBlock = some b) w w' ∧ ((Value.slice ka' (ks.length + 1) kc').ownBlock = (Value.slice ka ks.length kc).ownBlock ∨ ∀ b, (Value.slice ka' (ks.length + 1) kc').ownBlock = some b → w.heap.size ≤ b) := by
  obtain ⟨i0, hi, hz0, hz1, hz2⟩ := info_parts info9
  have b1 : decide ((o.key.size : Int) < 1) = false := decide_eq_false (by omega)
  have b2 : decide ((8 : Int) < (o.key.size : Int)) = false := decide_eq_false (by omega)
  have hgb : ∃ cur, w.heap[g]? = some (.cells cur 97) := by
    rcases hor.2 with ⟨e, _⟩ | ⟨g', cap, cur, e, _, h, _⟩
    · cases e
    · cases e; exact ⟨cur, h⟩
  obtain ⟨cur, hgb⟩ := hgb
  have hgl := lt_of_block hgb
  have hwl := lt_of_block hb
  have hwg : wb ≠ g := fun e => by rw [e, hgb] at hb; cases hb
  have x1 := cell_of hb (i := 1) (v := .slice la L.length lc) rfl
  have x2 := cell_of hb (i := 2) (v := .slice (some ⟨g, 0, none⟩) ts.length oc) rfl
  have hTk : ts[k] = ⟨st, ws, wa, wc, ks, ka, kc, ps, pa, pc⟩ := by have := List.getElem?_eq_getElem hkn; rw [hT] at this; exact (Option.some.inj this).symm
  obtain ⟨c0, c1, c2, c3⟩ := rt_at hor k hkn
  rw [hTk] at c0 c1 c2 c3
  simp only at c0 c1 c2 c3
  have hkb : ∀ b, (Value.slice ka ks.length kc).ownBlock = some b → b < w.heap.size ∧ b ≠ wb ∧ b ≠ g := fun b e => by
    rcases hkr.2 with ⟨e0, _⟩ | ⟨g', cap, cu, e0, _, h, _⟩
    · rw [e0] at e; cases e
    · rw [e0] at e
      have e1 : g' = b := by simpa [Value.ownBlock] using e
      subst e1
      refine ⟨lt_of_block h, fun e2 => ?_, fun e2 => ?_⟩
      · subst e2; rw [hb] at h; cases h
      · subst e2; rw [hgb] at h; cases h
  have hapL := row_apart hLr hkr (by decide)
  have hapW := row_apart hwr hkr (by decide)
  have hkd' : (o.kind == 2) = true := beq_iff_eq.2 hkd
  have HR : Hid (((four w o 2 st (.slice wa ws.length wc) (.slice ka ks.length kc) (.slice pa ps.length pc)).alloc (.cells #[.string o.key] 9)).ownsRow 0 9 1 (.slice ka ks.length kc) ks.length (strCells ks) ∧ w.ownsRow 0 103 4 (.slice la L.length lc) L.length (verCells L) ∧ w.ownsRow 0 103 4 (.slice wa ws.length wc) ws.length (verCells ws) ∧ (∀ b, (Value.slice ka ks.length kc).ownBlock = some b → b < w.heap.size ∧ b ≠ wb ∧ b ≠ g) ∧ (∀ g', (Value.slice la L.length lc).ownBlock = some g' → (Value.slice ka ks.length kc).ownBlock ≠ some g') ∧ (∀ g', (Value.slice wa ws.length wc).ownBlock = some g' → (Value.slice ka ks.length kc).ownBlock ≠ some g') ∧ w.ownsRow 0 97 4 (.slice (some ⟨g, 0, none⟩) ts.length oc) ts.length (rtCells ts) ∧ ts[k] = ⟨st, ws, wa, wc, ks, ka, kc, ps, pa, pc⟩) :=
    ⟨(ownsRow_chg hkr (four_chg w o 2 st (.slice wa ws.length wc) (.slice ka ks.length kc) (.slice pa ps.length pc)) (fun _ _ h => h)).alloc _, hLr, hwr, hkb, hapL, hapW, hor, hTk⟩
  have HB : Hid (w.heap[wb]? = some (.cells #[v0, .slice la L.length lc, .slice (some ⟨g, 0, none⟩) ts.length oc, v3, v4, v5] 79) ∧ w.heap[g]? = some (.cells cur 97)) := ⟨hb, hgb⟩
  clear hkr hLr hwr hkb hapL hapW hor hT hTk hb hgb
  go_enter Tryz.func52, Tryz.ntmps52
  go_wp2_with (at_builtin; refine wpList_append_where rfl _ _ 95 rfl 0 9 i0 (.string ⟨#[]⟩) 1 16 Tryz.underlying95 hi hz0 hz1 hz2 rfl (by decide) (.slice ka ks.length kc) _ _ rfl HR.out.1 ⟨w.heap.size + 1 + 1 + 1 + 1, 0, none⟩ 1 1 [.string o.key] rfl rfl (by simpa using cells_new (four w o 2 st (.slice wa ws.length wc) (.slice ka ks.length kc) (.slice pa ps.length pc)) #[.string o.key] 9) (by simp [Value.oneCell']) (by unfold maxLen; omega) (by omega) (Nat.zero_le _) ?_; intro kv' w5 hown5 hg5 hwh; obtain ⟨ka', kc', rfl⟩ := row_form hown5; obtain ⟨fA, fB, fC, fD⟩ := five_keep hg5 (fun k e => (HR.out.2.2.2.1 k e).1); have o2 := cell_of fA (i := 2) (v := .string o.key) rfl; have t0 := cell_of fC (i := 0) (v := .int .i64 st) rfl; have t1 := cell_of fC (i := 1) (v := .slice wa ws.length wc) rfl; have t2 := cell_of fC (i := 2) (v := .slice ka ks.length kc) rfl; have t3 := cell_of fC (i := 3) (v := .slice pa ps.length pc) rfl; have tf := unfrozen_of fC 2)
  have hc5 : Chg (fun b => (Value.slice ka ks.length kc).ownBlock = some b) w w5 := (((four_chg w o 2 st (.slice wa ws.length wc) (.slice ka ks.length kc) (.slice pa ps.length pc)).alloc (.cells #[.string o.key] 9)).any _).grown hg5 (fun k e => Or.inl e)
  have hc6 : Chg (fun b => (Value.slice ka ks.length kc).ownBlock = some b) w (w5.setCell ⟨w.heap.size + 1 + 1, 2, none⟩ (.slice ka' (ks.length + 1) kc')) := hc5.setCell (p := ⟨w.heap.size + 1 + 1, 2, none⟩) (Or.inr (by simp only; omega)) _
  have hb6 : (w5.setCell ⟨w.heap.size + 1 + 1, 2, none⟩ (.slice ka' (ks.length + 1) kc')).heap[wb]? = some (.cells #[v0, .slice la L.length lc, .slice (some ⟨g, 0, none⟩) ts.length oc, v3, v4, v5] 79) := (hc6.block _ hwl (fun e => (HR.out.2.2.2.1 _ e).2.1 rfl)).trans HB.out.1
  refine (rsees_any wb lc 0 0 wc la wa L ws o.key st _ _ _ hL hws (cell_of hb6 (i := 1) rfl) (ownsRow_chg HR.out.2.1 hc6 (HR.out.2.2.2.2.1)) (ownsRow_chg HR.out.2.2.1 hc6 (HR.out.2.2.2.2.2.1))).mono ?_
  rintro e w7 ⟨rfl, hch⟩
  obtain ⟨u, f, huf⟩ : ∃ u f, seesM ws L st o.key = (u, f) := ⟨_, _, rfl⟩
  rw [huf]
  have hwh' : (Value.slice ka' (ks.length + 1) kc').ownBlock = (Value.slice ka ks.length kc).ownBlock ∨ (Value.slice ka' (ks.length + 1) kc').ownBlock = some (w.heap.size + 1 + 1 + 1 + 1 + 1) := by simpa using hwh
  have hkv' : ∀ b, (Value.slice ka' (ks.length + 1) kc').ownBlock = some b → b < w.heap.size ∧ b ≠ wb ∧ b ≠ g ∨ b = w.heap.size + 1 + 1 + 1 + 1 + 1 := fun b e => by
    rcases hwh' with h | h
    · exact Or.inl (HR.out.2.2.2.1 b (h ▸ e))
    · rw [h] at e; exact Or.inr (Option.some.inj e).symm
  have hc7 := hc6.andThen hch (fun _ _ h => h.elim)
  have hz6 : (w5.setCell ⟨w.heap.size + 1 + 1, 2, none⟩ (.slice ka' (ks.length + 1) kc')).heap.size = w5.heap.size := by simp [World.setCell]
  have hl5 := lt_of_block fD
  have f7C : w7.heap[w.heap.size + 1 + 1]? = some (txC st (.slice wa ws.length wc) (.slice ka' (ks.length + 1) kc') (.slice pa ps.length pc)) := (hch.block _ (by rw [hz6]; omega) (fun h => h)).trans (heap_setCell_same w5 (w.heap.size + 1 + 1) 2 _ 97 (.slice ka' (ks.length + 1) kc') fC)
  have f7D : w7.heap[w.heap.size + 1 + 1 + 1]? = some ans0 := (hch.block _ (by rw [hz6]; omega) (fun h => h)).trans ((heap_setCell_other w5 ⟨w.heap.size + 1 + 1, 2, none⟩ _ _ (by simp only; omega)).trans fD)
  have f7B : w7.heap[w.heap.size + 1]? = some ans0 := (hch.block _ (by rw [hz6]; omega) (fun h => h)).trans ((heap_setCell_other w5 ⟨w.heap.size + 1 + 1, 2, none⟩ _ _ (by simp only; omega)).trans fB)
  have hb7 := (hc7.block _ hwl (fun e => (HR.out.2.2.2.1 _ e).2.1 rfl)).trans HB.out.1
  have hor7 := ownsRow_chg HR.out.2.2.2.2.2.2.1 hc7 (fun b e h => by
    have e1 : g = b := by simpa [Value.ownBlock] using e
    exact (HR.out.2.2.2.1 b h).2.2 e1.symm)
  have hkv7 : w7.ownsRow 0 9 1 (.slice ka' (ks.length + 1) kc') (ks.length + 1) (strCells (ks ++ [o.key])) := by
    have h0 := ownsRow_chg hown5 (chg_set1 w5 (w.heap.size + 1 + 1) 2 (.slice ka' (ks.length + 1) kc')) (fun b e h => by have := hkv' b e; have := h; omega)
    have h1 := ownsRow_chg h0 hch (fun _ _ h => h)
    simpa [strCells] using h1
  have HF : Hid (w7.heap[w.heap.size + 1 + 1]? = some (txC st (.slice wa ws.length wc) (.slice ka' (ks.length + 1) kc') (.slice pa ps.length pc)) ∧ w7.heap[w.heap.size + 1 + 1 + 1]? = some ans0 ∧ w7.heap[w.heap.size + 1]? = some ans0 ∧ w7.heap[wb]? = some (.cells #[v0, .slice la L.length lc, .slice (some ⟨g, 0, none⟩) ts.length oc, v3, v4, v5] 79) ∧ w7.ownsRow 0 97 4 (.slice (some ⟨g, 0, none⟩) ts.length oc) ts.length (rtCells ts) ∧ w7.ownsRow 0 9 1 (.slice ka' (ks.length + 1) kc') (ks.length + 1) (strCells (ks ++ [o.key])) ∧ Chg (fun b => (Value.slice ka ks.length kc).ownBlock = some b) w w7 ∧ (∀ b, (Value.slice ka' (ks.length + 1) kc').ownBlock = some b → b < w.heap.size ∧ b ≠ wb ∧ b ≠ g ∨ b = w.heap.size + 1 + 1 + 1 + 1 + 1) ∧ ((Value.slice ka' (ks.length + 1) kc').ownBlock = (Value.slice ka ks.length kc).ownBlock ∨ (Value.slice ka' (ks.length + 1) kc').ownBlock = some (w.heap.size + 1 + 1 + 1 + 1 + 1))) := ⟨f7C, f7D, f7B, hb7, hor7, hkv7, hc7, hkv', hwh'⟩
  have a2 := cell_of f7D (i := 2) (v := .bool false) rfl
  have a3 := cell_of f7D (i := 3) (v := .string ⟨#[]⟩) rfl
  have af2 := unfrozen_of f7D 2
  have af3 := unfrozen_of f7D 3
  have y0 := cell_of f7C (i := 0) (v := .int .i64 st) rfl
  have y1 := cell_of f7C (i := 1) (v := .slice wa ws.length wc) rfl
  have y2 := cell_of f7C (i := 2) (v := .slice ka' (ks.length + 1) kc') rfl
  have y3 := cell_of f7C (i := 3) (v := .slice pa ps.length pc) rfl
  have z2 := cell_of hb7 (i := 2) (v := .slice (some ⟨g, 0, none⟩) ts.length oc) rfl
  clear hwh hwh' hkv' hc7 hz6 hl5 f7C f7D f7B hb7 hor7 hkv7 hch hb6 hc6 hc5 fA fB fC fD hg5 hown5 t0 t1 t2 t3 tf o2 c0 c1 c2 c3 x1 x2
  have HUF : Hid (seesM ws L st o.key = (u, f)) := huf
  clear huf
  cases f
  · go_wp2
    obtain ⟨f8D, hc8⟩ := dset3 HF.out.2.1 u false ⟨#[]⟩
    obtain ⟨f7C, f7D, f7B, hb7, hor7, hkv7, hc7, hkv', hwh'⟩ := HF.out
    have hl7 := lt_of_block f7D
    have f8C := (hc8.block _ (by omega) (fun (h : _ = _) => by omega)).trans f7C
    have f8B := (hc8.block _ (by omega) (fun (h : _ = _) => by omega)).trans f7B
    have hb8 := (hc8.block _ (lt_of_block hb7) (fun (h : _ = _) => by omega)).trans hb7
    have hor8 := ownsRow_chg hor7 hc8 (fun b e (h : b = _) => by have e1 : g = b := (by simpa [Value.ownBlock] using e); omega)
    have hkv8 := ownsRow_chg hkv7 hc8 (fun b e (h : b = _) => by have := hkv' b e; omega)
    have HG : Hid (Chg (fun b => b = g ∨ (Value.slice ka ks.length kc).ownBlock = some b) w (((w7.setCell ⟨w.heap.size + 1 + 1 + 1, 3, none⟩ (.string u)).setCell ⟨w.heap.size + 1 + 1 + 1, 2, none⟩ (.bool false)).setCell ⟨w.heap.size + 1 + 1 + 1, 3, none⟩ (.string ⟨#[]⟩))) := (hc7.mono (fun _ _ h => Or.inr h)).andThen hc8 (fun i hi (h : i = _) => by omega)
    clear a2 a3 af2 af3 y0 y1 y2 y3 z2 f7C f7D f7B hb7 hor7 hkv7 hc7 hc8
    generalize (((w7.setCell ⟨w.heap.size + 1 + 1 + 1, 3, none⟩ (.string u)).setCell ⟨w.heap.size + 1 + 1 + 1, 2, none⟩ (.bool false)).setCell ⟨w.heap.size + 1 + 1 + 1, 3, none⟩ (.string ⟨#[]⟩)) = w8 at *
    have y0 := cell_of f8C (i := 0) (v := .int .i64 st) rfl
    have y1 := cell_of f8C (i := 1) (v := .slice wa ws.length wc) rfl
    have y2 := cell_of f8C (i := 2) (v := .slice ka' (ks.length + 1) kc') rfl
    have y3 := cell_of f8C (i := 3) (v := .slice pa ps.length pc) rfl
    have z2 := cell_of hb8 (i := 2) (v := .slice (some ⟨g, 0, none⟩) ts.length oc) rfl
    have q0 := hor8.frozenAt (k * 4)
    have q1 := hor8.frozenAt (k * 4 + 1)
    have q2 := hor8.frozenAt (k * 4 + 2)
    have q3 := hor8.frozenAt (k * 4 + 3)
    obtain ⟨c0, c1, c2, c3⟩ := rt_at hor8 k hkn
    have HP : Hid (w8.heap[w.heap.size + 1 + 1 + 1]? = some (.cells (ansC 0 0 false ⟨#[]⟩ (.slice none 0 0)) 36) ∧ w8.heap[w.heap.size + 1]? = some ans0 ∧ w8.ownsRow 0 97 4 (.slice (some ⟨g, 0, none⟩) ts.length oc) ts.length (rtCells ts) ∧ w8.ownsRow 0 9 1 (.slice ka' (ks.length + 1) kc') (ks.length + 1) (strCells (ks ++ [o.key]))) := ⟨f8D, f8B, hor8, hkv8⟩
    clear f8D f8B hor8 hkv8 f8C hb8
    go_region
    have hc9 := (chg_set4 w8 g k (.int .i64 st) (.slice wa ws.length wc) (.slice ka' (ks.length + 1) kc') (.slice pa ps.length pc)).drew
    obtain ⟨f8D, f8B, hor8, hkv8⟩ := HP.out
    have hor9 := row_drew (row_set4 ⟨st, ws, wa, wc, ks ++ [o.key], ka', kc', ps, pa, pc⟩ hor8 hkn)
    simp only [RT.wv, RT.kv, RT.pv, List.length_append, List.length_cons, List.length_nil, Nat.zero_add] at hor9
    have f9D := (hc9.block _ (lt_of_block f8D) (fun (h : _ = _) => by omega)).trans f8D
    have f9B := (hc9.block _ (lt_of_block f8B) (fun (h : _ = _) => by omega)).trans f8B
    have hkv9 := ownsRow_chg hkv8 hc9 (fun b e (h : b = _) => by have := HF.out.2.2.2.2.2.2.2.1 b e; omega)
    have HG9 := HG.out.andThen hc9 (fun i hi (h : i = _) => Or.inl h)
    have hG9 : Hid (Chg (fun b => b = g ∨ (Value.slice ka ks.length kc).ownBlock = some b) w ((((w8.setCell ⟨g, k * 4, none⟩ (.int .i64 st)).setCell ⟨g, k * 4 + 1, none⟩ (.slice wa ws.length wc)).setCell ⟨g, k * 4 + 2, none⟩ (.slice ka' (ks.length + 1) kc')).setCell ⟨g, k * 4 + 3, none⟩ (.slice pa ps.length pc)).drew) := HG9
    clear HG9 hc9 f8D f8B hor8 hkv8 HP HG y0 y1 y2 y3 z2 q0 q1 q2 q3 c0 c1 c2 c3
    generalize ((((w8.setCell ⟨g, k * 4, none⟩ (.int .i64 st)).setCell ⟨g, k * 4 + 1, none⟩ (.slice wa ws.length wc)).setCell ⟨g, k * 4 + 2, none⟩ (.slice ka' (ks.length + 1) kc')).setCell ⟨g, k * 4 + 3, none⟩ (.slice pa ps.length pc)).drew = w9 at *
    obtain ⟨d0, d1, d2, d3, d4, d5, d6, _⟩ := cells7 f9D
    obtain ⟨k0, k1, k2, k3, k4, k5, k6, kf⟩ := cells7 f9B
    have HZ : Hid (w9.ownsRow 0 97 4 (.slice (some ⟨g, 0, none⟩) ts.length oc) ts.length (rtCells (ts.set k ⟨st, ws, wa, wc, ks ++ [o.key], ka', kc', ps, pa, pc⟩)) ∧ w9.ownsRow 0 9 1 (.slice ka' (ks.length + 1) kc') (ks.length + 1) (strCells (ks ++ [o.key])) ∧ w9.heap[w.heap.size + 1]? = some ans0) := ⟨hor9, hkv9, f9B⟩
    clear hor9 hkv9 f9D f9B
    go_wp2
    obtain ⟨hor9, hkv9, f9B⟩ := HZ.out
    obtain ⟨r0, r1, r2, r3, r4, r5, r6⟩ := set7 f9B rfl (.int .i64 0) (.int .i64 0) (.bool false) (.string ⟨#[]⟩) (.slice none 0 0) (.slice none 0 0) (.slice none 0 0)
    have hc10 := chg_set7 w9 (w.heap.size + 1) (.int .i64 0) (.int .i64 0) (.bool false) (.string ⟨#[]⟩) (.slice none 0 0) (.slice none 0 0) (.slice none 0 0)
    refine bodyPost_ret (v := ansV 0 0 false ⟨#[]⟩ (.slice none 0 0)) (by simp [results, Tryz.results52, go_sem, r0, r1, r2, r3, r4, r5, r6]) rfl ⟨by rw [HUF.out]; rfl, ka', kc', ownsRow_chg hor9 hc10 ?_, ownsRow_chg hkv9 hc10 ?_, hG9.out.andThen hc10 ?_, ?_⟩
    · exact fun b e (h : b = _) => by have e1 : g = b := (by simpa [Value.ownBlock] using e); omega
    · exact fun b e (h : b = _) => by have := HF.out.2.2.2.2.2.2.2.1 b e; omega
    · exact fun i hi (h : i = _) => by omega
    · rcases HF.out.2.2.2.2.2.2.2.2 with h | h
      · exact Or.inl h
      · exact Or.inr (fun b e => by rw [h] at e; have := Option.some.inj e; omega)
  · go_wp2
    obtain ⟨f8D, hc8⟩ := dset2 HF.out.2.1 u true
    obtain ⟨f7C, f7D, f7B, hb7, hor7, hkv7, hc7, hkv', hwh'⟩ := HF.out
    have hl7 := lt_of_block f7D
    have f8C := (hc8.block _ (by omega) (fun (h : _ = _) => by omega)).trans f7C
    have f8B := (hc8.block _ (by omega) (fun (h : _ = _) => by omega)).trans f7B
    have hb8 := (hc8.block _ (lt_of_block hb7) (fun (h : _ = _) => by omega)).trans hb7
    have hor8 := ownsRow_chg hor7 hc8 (fun b e (h : b = _) => by have e1 : g = b := (by simpa [Value.ownBlock] using e); omega)
    have hkv8 := ownsRow_chg hkv7 hc8 (fun b e (h : b = _) => by have := hkv' b e; omega)
    have HG : Hid (Chg (fun b => b = g ∨ (Value.slice ka ks.length kc).ownBlock = some b) w ((w7.setCell ⟨w.heap.size + 1 + 1 + 1, 3, none⟩ (.string u)).setCell ⟨w.heap.size + 1 + 1 + 1, 2, none⟩ (.bool true))) := (hc7.mono (fun _ _ h => Or.inr h)).andThen hc8 (fun i hi (h : i = _) => by omega)
    clear a2 a3 af2 af3 y0 y1 y2 y3 z2 f7C f7D f7B hb7 hor7 hkv7 hc7 hc8
    generalize ((w7.setCell ⟨w.heap.size + 1 + 1 + 1, 3, none⟩ (.string u)).setCell ⟨w.heap.size + 1 + 1 + 1, 2, none⟩ (.bool true)) = w8 at *
    have y0 := cell_of f8C (i := 0) (v := .int .i64 st) rfl
    have y1 := cell_of f8C (i := 1) (v := .slice wa ws.length wc) rfl
    have y2 := cell_of f8C (i := 2) (v := .slice ka' (ks.length + 1) kc') rfl
    have y3 := cell_of f8C (i := 3) (v := .slice pa ps.length pc) rfl
    have z2 := cell_of hb8 (i := 2) (v := .slice (some ⟨g, 0, none⟩) ts.length oc) rfl
    have q0 := hor8.frozenAt (k * 4)
    have q1 := hor8.frozenAt (k * 4 + 1)
    have q2 := hor8.frozenAt (k * 4 + 2)
    have q3 := hor8.frozenAt (k * 4 + 3)
    obtain ⟨c0, c1, c2, c3⟩ := rt_at hor8 k hkn
    have HP : Hid (w8.heap[w.heap.size + 1 + 1 + 1]? = some (.cells (ansC 0 0 true u (.slice none 0 0)) 36) ∧ w8.heap[w.heap.size + 1]? = some ans0 ∧ w8.ownsRow 0 97 4 (.slice (some ⟨g, 0, none⟩) ts.length oc) ts.length (rtCells ts) ∧ w8.ownsRow 0 9 1 (.slice ka' (ks.length + 1) kc') (ks.length + 1) (strCells (ks ++ [o.key]))) := ⟨f8D, f8B, hor8, hkv8⟩
    clear f8D f8B hor8 hkv8 f8C hb8
    go_region
    have hc9 := (chg_set4 w8 g k (.int .i64 st) (.slice wa ws.length wc) (.slice ka' (ks.length + 1) kc') (.slice pa ps.length pc)).drew
    obtain ⟨f8D, f8B, hor8, hkv8⟩ := HP.out
    have hor9 := row_drew (row_set4 ⟨st, ws, wa, wc, ks ++ [o.key], ka', kc', ps, pa, pc⟩ hor8 hkn)
    simp only [RT.wv, RT.kv, RT.pv, List.length_append, List.length_cons, List.length_nil, Nat.zero_add] at hor9
    have f9D := (hc9.block _ (lt_of_block f8D) (fun (h : _ = _) => by omega)).trans f8D
    have f9B := (hc9.block _ (lt_of_block f8B) (fun (h : _ = _) => by omega)).trans f8B
    have hkv9 := ownsRow_chg hkv8 hc9 (fun b e (h : b = _) => by have := HF.out.2.2.2.2.2.2.2.1 b e; omega)
    have HG9 := HG.out.andThen hc9 (fun i hi (h : i = _) => Or.inl h)
    have hG9 : Hid (Chg (fun b => b = g ∨ (Value.slice ka ks.length kc).ownBlock = some b) w ((((w8.setCell ⟨g, k * 4, none⟩ (.int .i64 st)).setCell ⟨g, k * 4 + 1, none⟩ (.slice wa ws.length wc)).setCell ⟨g, k * 4 + 2, none⟩ (.slice ka' (ks.length + 1) kc')).setCell ⟨g, k * 4 + 3, none⟩ (.slice pa ps.length pc)).drew) := HG9
    clear HG9 hc9 f8D f8B hor8 hkv8 HP HG y0 y1 y2 y3 z2 q0 q1 q2 q3 c0 c1 c2 c3
    generalize ((((w8.setCell ⟨g, k * 4, none⟩ (.int .i64 st)).setCell ⟨g, k * 4 + 1, none⟩ (.slice wa ws.length wc)).setCell ⟨g, k * 4 + 2, none⟩ (.slice ka' (ks.length + 1) kc')).setCell ⟨g, k * 4 + 3, none⟩ (.slice pa ps.length pc)).drew = w9 at *
    have d0 := cell_of f9D (i := 0) (v := .int .i64 0) rfl
    have d1 := cell_of f9D (i := 1) (v := .int .i64 0) rfl
    have d2 := cell_of f9D (i := 2) (v := .bool true) rfl
    have d3 := cell_of f9D (i := 3) (v := .string u) rfl
    have d4 := cell_of f9D (i := 4) (v := .slice none 0 0) rfl
    have d5 := cell_of f9D (i := 5) (v := .slice none 0 0) rfl
    have d6 := cell_of f9D (i := 6) (v := .slice none 0 0) rfl
    obtain ⟨k0, k1, k2, k3, k4, k5, k6, kf⟩ := cells7 f9B
    have HZ : Hid (w9.ownsRow 0 97 4 (.slice (some ⟨g, 0, none⟩) ts.length oc) ts.length (rtCells (ts.set k ⟨st, ws, wa, wc, ks ++ [o.key], ka', kc', ps, pa, pc⟩)) ∧ w9.ownsRow 0 9 1 (.slice ka' (ks.length + 1) kc') (ks.length + 1) (strCells (ks ++ [o.key])) ∧ w9.heap[w.heap.size + 1]? = some ans0) := ⟨hor9, hkv9, f9B⟩
    clear hor9 hkv9 f9D f9B
    go_wp2
    obtain ⟨hor9, hkv9, f9B⟩ := HZ.out
    obtain ⟨r0, r1, r2, r3, r4, r5, r6⟩ := set7 f9B rfl (.int .i64 0) (.int .i64 0) (.bool true) (.string u) (.slice none 0 0) (.slice none 0 0) (.slice none 0 0)
    have hc10 := chg_set7 w9 (w.heap.size + 1) (.int .i64 0) (.int .i64 0) (.bool true) (.string u) (.slice none 0 0) (.slice none 0 0) (.slice none 0 0)
    refine bodyPost_ret (v := ansV 0 0 true u (.slice none 0 0)) (by simp [results, Tryz.results52, go_sem, r0, r1, r2, r3, r4, r5, r6]) rfl ⟨by rw [HUF.out]; rfl, ka', kc', ownsRow_chg hor9 hc10 ?_, ownsRow_chg hkv9 hc10 ?_, hG9.out.andThen hc10 ?_, ?_⟩
    · exact fun b e (h : b = _) => by have e1 : g = b := (by simpa [Value.ownBlock] using e); omega
    · exact fun b e (h : b = _) => by have := HF.out.2.2.2.2.2.2.2.1 b e; omega
    · exact fun i hi (h : i = _) => by omega
    · rcases HF.out.2.2.2.2.2.2.2.2 with h | h
      · exact Or.inl h
      · exact Or.inr (fun b e => by rw [h] at e; have := Option.some.inj e; omega)
end Go.Proofs.YtkfjafndplmdkaaGreat
namespace Go.Proofs.YtkfjafndplmdkaaGreat
open Go.RowKit Go.Sort
theorem dset4 {w : World} {D : Nat} (h : w.heap[D]? = some ans0) (v : Value) : (w.setCell ⟨D, 4, none⟩ v).heap[D]? = some (.cells (ansC 0 0 false ⟨#[]⟩ v) 36) ∧ Chg (fun x => x = D) w (w.setCell ⟨D, 4, none⟩ v) := by
  constructor
  · have := heap_setCell_same w D 4 _ 36 v h
    simpa using this
  · exact chg_set1 _ _ _ _
set_option maxRecDepth 100000 in
set_option maxHeartbeats 1000000 in
theorem of_scan_low {v0 v3 v4 v5 : Value} (wb g k oc lc : Nat) (la : Option Addr) (st : Int) (ws : List Ver) (wa : Option Addr) (wc : Nat) (ks : List ByteArray) (ka : Option Addr) (kc : Nat) (pa : Option Addr) (ps : List ByteArray) (pc : Nat) (L : List Ver) (ts : List RT) (o : OpM) (w : World)
    (hkd : o.kind = 3) (hkn : k < ts.length)
    (hT : ts[k]? = some ⟨st, ws, wa, wc, ks, ka, kc, ps, pa, pc⟩)
    (hb : w.heap[wb]? = some (.cells #[v0, .slice la L.length lc, .slice (some ⟨g, 0, none⟩) ts.length oc, v3, v4, v5] 79))
    (hor : w.ownsRow 0 97 4 (.slice (some ⟨g, 0, none⟩) ts.length oc) ts.length (rtCells ts))
    (hkr : w.ownsRow 0 9 1 (.slice pa ps.length pc) ps.length (strCells ps)) (hks : ps.length ≤ 2000000) (hLr : w.ownsRow 0 103 4 (.slice la L.length lc) L.length (verCells L)) (hwr : w.ownsRow 0 103 4 (.slice wa ws.length wc) ws.length (verCells ws)) (hL : L.length ≤ 2000000) (hws : ws.length ≤ 2000000) :
    Calls Tryz.prog 52 #[.pointer (some ⟨wb, 0, none⟩), .int .i64 k, o.v] w fun e w' => ∃ it, e = .returned (ansV 0 0 false ⟨#[]⟩ it) ∧ (∃ K, KeysOf (L ++ ws) o.key K ∧ w'.ownsRow (w.heap.size + 5) 66 2 it (itemsR ws L st K).length (itemCells (itemsR ws L st K))) ∧
      ∃ pa' pc', w'.ownsRow 0 97 4 (.slice (some ⟨g, 0, none⟩) ts.length oc) ts.length (rtCells (ts.set k ⟨st, ws, wa, wc, ks, ka, kc, ps ++ [o.key], pa', pc'⟩)) ∧ w'.ownsRow 0 9 1 (.slice pa' (ps.length + 1) pc') (ps.length + 1) (strCells (ps ++ [o.key])) ∧ Chg (fun b => b = g ∨ (Value.slice pa ps.length pc).ownBlock = some b) w w' ∧ ((Value.slice pa' (ps.length + 1) pc').ownBlock = (Value.slice pa ps.length pc).ownBlock ∨ ∀ b, (Value.slice pa' (ps.length + 1) pc').ownBlock = some b → w.heap.size ≤ b) := by
  obtain ⟨i0, hi, hz0, hz1, hz2⟩ := info_parts info9
  have hgb : ∃ cur, w.heap[g]? = some (.cells cur 97) := by
    rcases hor.2 with ⟨e, _⟩ | ⟨g', cap, cur, e, _, h, _⟩
    · cases e
    · cases e; exact ⟨cur, h⟩
  obtain ⟨cur, hgb⟩ := hgb
  have hgl := lt_of_block hgb
  have hwl := lt_of_block hb
  have hwg : wb ≠ g := fun e => by rw [e, hgb] at hb; cases hb
  have x1 := cell_of hb (i := 1) (v := .slice la L.length lc) rfl
  have x2 := cell_of hb (i := 2) (v := .slice (some ⟨g, 0, none⟩) ts.length oc) rfl
  have hTk : ts[k] = ⟨st, ws, wa, wc, ks, ka, kc, ps, pa, pc⟩ := by have := List.getElem?_eq_getElem hkn; rw [hT] at this; exact (Option.some.inj this).symm
  obtain ⟨c0, c1, c2, c3⟩ := rt_at hor k hkn
  rw [hTk] at c0 c1 c2 c3
  simp only at c0 c1 c2 c3
  have hkb : ∀ b, (Value.slice pa ps.length pc).ownBlock = some b → b < w.heap.size ∧ b ≠ wb ∧ b ≠ g := fun b e => by
    rcases hkr.2 with ⟨e0, _⟩ | ⟨g', cap, cu, e0, _, h, _⟩
    · rw [e0] at e; cases e
    · rw [e0] at e
      have e1 : g' = b := by simpa [Value.ownBlock] using e
      subst e1
      refine ⟨lt_of_block h, fun e2 => ?_, fun e2 => ?_⟩
      · subst e2; rw [hb] at h; cases h
      · subst e2; rw [hgb] at h; cases h
  have hapL := row_apart hLr hkr (by decide)
  have hapW := row_apart hwr hkr (by decide)
  have hkd' : (o.kind == 3) = true := beq_iff_eq.2 hkd
  have HR : Hid (((four w o 3 st (.slice wa ws.length wc) (.slice ka ks.length kc) (.slice pa ps.length pc)).alloc (.cells #[.string o.key] 9)).ownsRow 0 9 1 (.slice pa ps.length pc) ps.length (strCells ps) ∧ w.ownsRow 0 103 4 (.slice la L.length lc) L.length (verCells L) ∧ w.ownsRow 0 103 4 (.slice wa ws.length wc) ws.length (verCells ws) ∧ (∀ b, (Value.slice pa ps.length pc).ownBlock = some b → b < w.heap.size ∧ b ≠ wb ∧ b ≠ g) ∧ (∀ g', (Value.slice la L.length lc).ownBlock = some g' → (Value.slice pa ps.length pc).ownBlock ≠ some g') ∧ (∀ g', (Value.slice wa ws.length wc).ownBlock = some g' → (Value.slice pa ps.length pc).ownBlock ≠ some g') ∧ w.ownsRow 0 97 4 (.slice (some ⟨g, 0, none⟩) ts.length oc) ts.length (rtCells ts) ∧ ts[k] = ⟨st, ws, wa, wc, ks, ka, kc, ps, pa, pc⟩) :=
    ⟨(ownsRow_chg hkr (four_chg w o 3 st (.slice wa ws.length wc) (.slice ka ks.length kc) (.slice pa ps.length pc)) (fun _ _ h => h)).alloc _, hLr, hwr, hkb, hapL, hapW, hor, hTk⟩
  have HB : Hid (w.heap[wb]? = some (.cells #[v0, .slice la L.length lc, .slice (some ⟨g, 0, none⟩) ts.length oc, v3, v4, v5] 79) ∧ w.heap[g]? = some (.cells cur 97)) := ⟨hb, hgb⟩
  clear hkr hLr hwr hkb hapL hapW hor hT hTk hb hgb
  have hbs : decide ((o.key.size : Int) < 1) = true ∨ (decide ((o.key.size : Int) < 1) = false ∧ decide ((8 : Int) < (o.key.size : Int)) = true) ∨ (decide ((o.key.size : Int) < 1) = false ∧ decide ((8 : Int) < (o.key.size : Int)) = false) := by
    by_cases h1 : (o.key.size : Int) < 1
    · exact Or.inl (decide_eq_true h1)
    · by_cases h2 : (8 : Int) < (o.key.size : Int)
      · exact Or.inr (Or.inl ⟨decide_eq_false h1, decide_eq_true h2⟩)
      · exact Or.inr (Or.inr ⟨decide_eq_false h1, decide_eq_false h2⟩)
  rcases hbs with b1 | ⟨b1, b2⟩ | ⟨b1, b2⟩
  all_goals
    go_enter Tryz.func52, Tryz.ntmps52
    go_wp2_with (at_builtin; refine wpList_append_where rfl _ _ 95 rfl 0 9 i0 (.string ⟨#[]⟩) 1 16 Tryz.underlying95 hi hz0 hz1 hz2 rfl (by decide) (.slice pa ps.length pc) _ _ rfl HR.out.1 ⟨w.heap.size + 1 + 1 + 1 + 1, 0, none⟩ 1 1 [.string o.key] rfl rfl (by simpa using cells_new (four w o 3 st (.slice wa ws.length wc) (.slice ka ks.length kc) (.slice pa ps.length pc)) #[.string o.key] 9) (by simp [Value.oneCell']) (by unfold maxLen; omega) (by omega) (Nat.zero_le _) ?_; intro kv' w5 hown5 hg5 hwh; obtain ⟨pa', pc', rfl⟩ := row_form hown5; obtain ⟨fA, fB, fC, fD⟩ := five_keep hg5 (fun k e => (HR.out.2.2.2.1 k e).1); have o2 := cell_of fA (i := 2) (v := .string o.key) rfl; have t0 := cell_of fC (i := 0) (v := .int .i64 st) rfl; have t1 := cell_of fC (i := 1) (v := .slice wa ws.length wc) rfl; have t2 := cell_of fC (i := 2) (v := .slice ka ks.length kc) rfl; have t3 := cell_of fC (i := 3) (v := .slice pa ps.length pc) rfl; have tf := unfrozen_of fC 3)
    have hc5 : Chg (fun b => (Value.slice pa ps.length pc).ownBlock = some b) w w5 := (((four_chg w o 3 st (.slice wa ws.length wc) (.slice ka ks.length kc) (.slice pa ps.length pc)).alloc (.cells #[.string o.key] 9)).any _).grown hg5 (fun k e => Or.inl e)
    have hc6 : Chg (fun b => (Value.slice pa ps.length pc).ownBlock = some b) w (w5.setCell ⟨w.heap.size + 1 + 1, 3, none⟩ (.slice pa' (ps.length + 1) pc')) := hc5.setCell (p := ⟨w.heap.size + 1 + 1, 3, none⟩) (Or.inr (by simp only; omega)) _
    have hb6 : (w5.setCell ⟨w.heap.size + 1 + 1, 3, none⟩ (.slice pa' (ps.length + 1) pc')).heap[wb]? = some (.cells #[v0, .slice la L.length lc, .slice (some ⟨g, 0, none⟩) ts.length oc, v3, v4, v5] 79) := (hc6.block _ hwl (fun e => (HR.out.2.2.2.1 _ e).2.1 rfl)).trans HB.out.1
    refine (rscan_any wb lc 0 0 wc la wa L ws o.key st _ _ _ hL hws (cell_of hb6 (i := 1) rfl) (ownsRow_chg HR.out.2.1 hc6 (HR.out.2.2.2.2.1)) (ownsRow_chg HR.out.2.2.1 hc6 (HR.out.2.2.2.2.2.1))).mono ?_
    rintro e w7 ⟨itv, rfl, K, hK, hitr, hch⟩
    obtain ⟨ia, ic, rfl⟩ := row_form hitr
    have hwh' : (Value.slice pa' (ps.length + 1) pc').ownBlock = (Value.slice pa ps.length pc).ownBlock ∨ (Value.slice pa' (ps.length + 1) pc').ownBlock = some (w.heap.size + 1 + 1 + 1 + 1 + 1) := by simpa using hwh
    have hkv' : ∀ b, (Value.slice pa' (ps.length + 1) pc').ownBlock = some b → b < w.heap.size ∧ b ≠ wb ∧ b ≠ g ∨ b = w.heap.size + 1 + 1 + 1 + 1 + 1 := fun b e => by
      rcases hwh' with h | h
      · exact Or.inl (HR.out.2.2.2.1 b (h ▸ e))
      · rw [h] at e; exact Or.inr (Option.some.inj e).symm
    have hc7 := hc6.andThen hch (fun _ _ h => h.elim)
    have hz6 : (w5.setCell ⟨w.heap.size + 1 + 1, 3, none⟩ (.slice pa' (ps.length + 1) pc')).heap.size = w5.heap.size := by simp [World.setCell]
    have hl5 := lt_of_block fD
    have hl5' : w.heap.size + 5 ≤ w5.heap.size := by have := hg5.size; simp at this; omega
    have f7C : w7.heap[w.heap.size + 1 + 1]? = some (txC st (.slice wa ws.length wc) (.slice ka ks.length kc) (.slice pa' (ps.length + 1) pc')) := (hch.block _ (by rw [hz6]; omega) (fun h => h)).trans (heap_setCell_same w5 (w.heap.size + 1 + 1) 3 _ 97 (.slice pa' (ps.length + 1) pc') fC)
    have f7D : w7.heap[w.heap.size + 1 + 1 + 1]? = some ans0 := (hch.block _ (by rw [hz6]; omega) (fun h => h)).trans ((heap_setCell_other w5 ⟨w.heap.size + 1 + 1, 3, none⟩ _ _ (by simp only; omega)).trans fD)
    have f7B : w7.heap[w.heap.size + 1]? = some ans0 := (hch.block _ (by rw [hz6]; omega) (fun h => h)).trans ((heap_setCell_other w5 ⟨w.heap.size + 1 + 1, 3, none⟩ _ _ (by simp only; omega)).trans fB)
    have hb7 := (hc7.block _ hwl (fun e => (HR.out.2.2.2.1 _ e).2.1 rfl)).trans HB.out.1
    have hor7 := ownsRow_chg HR.out.2.2.2.2.2.2.1 hc7 (fun b e h => by
      have e1 : g = b := by simpa [Value.ownBlock] using e
      exact (HR.out.2.2.2.1 b h).2.2 e1.symm)
    have hkv7 : w7.ownsRow 0 9 1 (.slice pa' (ps.length + 1) pc') (ps.length + 1) (strCells (ps ++ [o.key])) := by
      have h0 := ownsRow_chg hown5 (chg_set1 w5 (w.heap.size + 1 + 1) 3 (.slice pa' (ps.length + 1) pc')) (fun b e h => by have := hkv' b e; have := h; omega)
      have h1 := ownsRow_chg h0 hch (fun _ _ h => h)
      simpa [strCells] using h1
    have HF : Hid (w7.heap[w.heap.size + 1 + 1]? = some (txC st (.slice wa ws.length wc) (.slice ka ks.length kc) (.slice pa' (ps.length + 1) pc')) ∧ w7.heap[w.heap.size + 1 + 1 + 1]? = some ans0 ∧ w7.heap[w.heap.size + 1]? = some ans0 ∧ w7.heap[wb]? = some (.cells #[v0, .slice la L.length lc, .slice (some ⟨g, 0, none⟩) ts.length oc, v3, v4, v5] 79) ∧ w7.ownsRow 0 97 4 (.slice (some ⟨g, 0, none⟩) ts.length oc) ts.length (rtCells ts) ∧ w7.ownsRow 0 9 1 (.slice pa' (ps.length + 1) pc') (ps.length + 1) (strCells (ps ++ [o.key])) ∧ Chg (fun b => (Value.slice pa ps.length pc).ownBlock = some b) w w7 ∧ (∀ b, (Value.slice pa' (ps.length + 1) pc').ownBlock = some b → b < w.heap.size ∧ b ≠ wb ∧ b ≠ g ∨ b = w.heap.size + 1 + 1 + 1 + 1 + 1) ∧ ((Value.slice pa' (ps.length + 1) pc').ownBlock = (Value.slice pa ps.length pc).ownBlock ∨ (Value.slice pa' (ps.length + 1) pc').ownBlock = some (w.heap.size + 1 + 1 + 1 + 1 + 1))) := ⟨f7C, f7D, f7B, hb7, hor7, hkv7, hc7, hkv', hwh'⟩
    have a4 := cell_of f7D (i := 4) (v := .slice none 0 0) rfl
    have af4 := unfrozen_of f7D 4
    have y0 := cell_of f7C (i := 0) (v := .int .i64 st) rfl
    have y1 := cell_of f7C (i := 1) (v := .slice wa ws.length wc) rfl
    have y2 := cell_of f7C (i := 3) (v := .slice pa' (ps.length + 1) pc') rfl
    have y3 := cell_of f7C (i := 2) (v := .slice ka ks.length kc) rfl
    have z2 := cell_of hb7 (i := 2) (v := .slice (some ⟨g, 0, none⟩) ts.length oc) rfl
    clear hwh hwh' hkv' hc7 hl5 f7C f7D f7B hb7 hor7 hkv7 hch hb6 hc6 hc5 fA fB fC fD hg5 hown5 t0 t1 t2 t3 tf o2 c0 c1 c2 c3 x1 x2
    have HIT : Hid (KeysOf (L ++ ws) o.key K ∧ w7.ownsRow (w.heap.size + 5) 66 2 (.slice ia (itemsR ws L st K).length ic) (itemsR ws L st K).length (itemCells (itemsR ws L st K))) := ⟨hK, ownsRow_base hitr (by rw [hz6]; have := hl5'; omega)⟩
    generalize hni : (itemsR ws L st K).length = ni at *
    have HNI : Hid ((itemsR ws L st K).length = ni) := hni
    clear hni hK hitr hz6 hl5'
    go_wp2
    obtain ⟨f8D, hc8⟩ := dset4 HF.out.2.1 (.slice ia ni ic)
    obtain ⟨f7C, f7D, f7B, hb7, hor7, hkv7, hc7, hkv', hwh'⟩ := HF.out
    have hl7 := lt_of_block f7D
    have f8C := (hc8.block _ (by omega) (fun (h : _ = _) => by omega)).trans f7C
    have f8B := (hc8.block _ (by omega) (fun (h : _ = _) => by omega)).trans f7B
    have hb8 := (hc8.block _ (lt_of_block hb7) (fun (h : _ = _) => by omega)).trans hb7
    have hor8 := ownsRow_chg hor7 hc8 (fun b e (h : b = _) => by have e1 : g = b := (by simpa [Value.ownBlock] using e); omega)
    have hit8 := ownsRow_chg HIT.out.2 hc8 (fun b e (h : b = _) => by have := (HIT.out.2.lt b e).1; omega)
    have hkv8 := ownsRow_chg hkv7 hc8 (fun b e (h : b = _) => by have := hkv' b e; omega)
    have HG : Hid (Chg (fun b => b = g ∨ (Value.slice pa ps.length pc).ownBlock = some b) w (w7.setCell ⟨w.heap.size + 1 + 1 + 1, 4, none⟩ (.slice ia ni ic))) := (hc7.mono (fun _ _ h => Or.inr h)).andThen hc8 (fun i hi (h : i = _) => by omega)
    clear a4 af4 y0 y1 y2 y3 z2 f7C f7D f7B hb7 hor7 hkv7 hc7 hc8
    generalize (w7.setCell ⟨w.heap.size + 1 + 1 + 1, 4, none⟩ (.slice ia ni ic)) = w8 at *
    have y0 := cell_of f8C (i := 0) (v := .int .i64 st) rfl
    have y1 := cell_of f8C (i := 1) (v := .slice wa ws.length wc) rfl
    have y2 := cell_of f8C (i := 3) (v := .slice pa' (ps.length + 1) pc') rfl
    have y3 := cell_of f8C (i := 2) (v := .slice ka ks.length kc) rfl
    have z2 := cell_of hb8 (i := 2) (v := .slice (some ⟨g, 0, none⟩) ts.length oc) rfl
    have q0 := hor8.frozenAt (k * 4)
    have q1 := hor8.frozenAt (k * 4 + 1)
    have q2 := hor8.frozenAt (k * 4 + 2)
    have q3 := hor8.frozenAt (k * 4 + 3)
    obtain ⟨c0, c1, c2, c3⟩ := rt_at hor8 k hkn
    have HP : Hid (w8.heap[w.heap.size + 1 + 1 + 1]? = some (.cells (ansC 0 0 false ⟨#[]⟩ (.slice ia ni ic)) 36) ∧ w8.heap[w.heap.size + 1]? = some ans0 ∧ w8.ownsRow 0 97 4 (.slice (some ⟨g, 0, none⟩) ts.length oc) ts.length (rtCells ts) ∧ w8.ownsRow 0 9 1 (.slice pa' (ps.length + 1) pc') (ps.length + 1) (strCells (ps ++ [o.key])) ∧ w8.ownsRow (w.heap.size + 5) 66 2 (.slice ia ni ic) ni (itemCells (itemsR ws L st K))) := ⟨f8D, f8B, hor8, hkv8, hit8⟩
    clear f8D f8B hor8 hkv8 f8C hb8 hit8
    go_region
    have hc9 := (chg_set4 w8 g k (.int .i64 st) (.slice wa ws.length wc) (.slice ka ks.length kc) (.slice pa' (ps.length + 1) pc')).drew
    obtain ⟨f8D, f8B, hor8, hkv8, hit8⟩ := HP.out
    have hor9 := row_drew (row_set4 ⟨st, ws, wa, wc, ks, ka, kc, ps ++ [o.key], pa', pc'⟩ hor8 hkn)
    simp only [RT.wv, RT.kv, RT.pv, List.length_append, List.length_cons, List.length_nil, Nat.zero_add] at hor9
    have f9D := (hc9.block _ (lt_of_block f8D) (fun (h : _ = _) => by omega)).trans f8D
    have f9B := (hc9.block _ (lt_of_block f8B) (fun (h : _ = _) => by omega)).trans f8B
    have hit9 := ownsRow_chg hit8 hc9 (fun b e (h : b = _) => by have := (HIT.out.2.lt b e).1; omega)
    have hkv9 := ownsRow_chg hkv8 hc9 (fun b e (h : b = _) => by have := HF.out.2.2.2.2.2.2.2.1 b e; omega)
    have HG9 := HG.out.andThen hc9 (fun i hi (h : i = _) => Or.inl h)
    have hG9 : Hid (Chg (fun b => b = g ∨ (Value.slice pa ps.length pc).ownBlock = some b) w ((((w8.setCell ⟨g, k * 4, none⟩ (.int .i64 st)).setCell ⟨g, k * 4 + 1, none⟩ (.slice wa ws.length wc)).setCell ⟨g, k * 4 + 2, none⟩ (.slice ka ks.length kc)).setCell ⟨g, k * 4 + 3, none⟩ (.slice pa' (ps.length + 1) pc')).drew) := HG9
    clear HG9 hc9 f8D f8B hor8 hkv8 hit8 HP HG y0 y1 y2 y3 z2 q0 q1 q2 q3 c0 c1 c2 c3
    generalize ((((w8.setCell ⟨g, k * 4, none⟩ (.int .i64 st)).setCell ⟨g, k * 4 + 1, none⟩ (.slice wa ws.length wc)).setCell ⟨g, k * 4 + 2, none⟩ (.slice ka ks.length kc)).setCell ⟨g, k * 4 + 3, none⟩ (.slice pa' (ps.length + 1) pc')).drew = w9 at *
    have d0 := cell_of f9D (i := 0) (v := .int .i64 0) rfl
    have d1 := cell_of f9D (i := 1) (v := .int .i64 0) rfl
    have d2 := cell_of f9D (i := 2) (v := .bool false) rfl
    have d3 := cell_of f9D (i := 3) (v := .string ⟨#[]⟩) rfl
    have d4 := cell_of f9D (i := 4) (v := .slice ia ni ic) rfl
    have d5 := cell_of f9D (i := 5) (v := .slice none 0 0) rfl
    have d6 := cell_of f9D (i := 6) (v := .slice none 0 0) rfl
    obtain ⟨k0, k1, k2, k3, k4, k5, k6, kf⟩ := cells7 f9B
    have HZ : Hid (w9.ownsRow 0 97 4 (.slice (some ⟨g, 0, none⟩) ts.length oc) ts.length (rtCells (ts.set k ⟨st, ws, wa, wc, ks, ka, kc, ps ++ [o.key], pa', pc'⟩)) ∧ w9.ownsRow 0 9 1 (.slice pa' (ps.length + 1) pc') (ps.length + 1) (strCells (ps ++ [o.key])) ∧ w9.heap[w.heap.size + 1]? = some ans0 ∧ w9.ownsRow (w.heap.size + 5) 66 2 (.slice ia ni ic) ni (itemCells (itemsR ws L st K))) := ⟨hor9, hkv9, f9B, hit9⟩
    clear hor9 hkv9 f9D f9B hit9
    go_wp2
    obtain ⟨hor9, hkv9, f9B, hit9⟩ := HZ.out
    obtain ⟨r0, r1, r2, r3, r4, r5, r6⟩ := set7 f9B rfl (.int .i64 0) (.int .i64 0) (.bool false) (.string ⟨#[]⟩) (.slice ia ni ic) (.slice none 0 0) (.slice none 0 0)
    have hc10 := chg_set7 w9 (w.heap.size + 1) (.int .i64 0) (.int .i64 0) (.bool false) (.string ⟨#[]⟩) (.slice ia ni ic) (.slice none 0 0) (.slice none 0 0)
    refine bodyPost_ret (v := ansV 0 0 false ⟨#[]⟩ (.slice ia ni ic)) (by simp [results, Tryz.results52, go_sem, r0, r1, r2, r3, r4, r5, r6]) rfl ⟨_, rfl, ⟨K, HIT.out.1, (by rw [HNI.out]; exact ownsRow_chg hit9 hc10 (fun b e (h : b = _) => by have := (hit9.lt b e).1; omega))⟩, pa', pc', ownsRow_chg hor9 hc10 ?_, ownsRow_chg hkv9 hc10 ?_, hG9.out.andThen hc10 ?_, ?_⟩
    · exact fun b e (h : b = _) => by have e1 : g = b := (by simpa [Value.ownBlock] using e); omega
    · exact fun b e (h : b = _) => by have := HF.out.2.2.2.2.2.2.2.1 b e; omega
    · exact fun i hi (h : i = _) => by omega
    · rcases HF.out.2.2.2.2.2.2.2.2 with h | h
      · exact Or.inl h
      · exact Or.inr (fun b e => by rw [h] at e; have := Option.some.inj e; omega)
end Go.Proofs.YtkfjafndplmdkaaGreat
namespace Go.Proofs.YtkfjafndplmdkaaGreat
open Go.RowKit Go.Sort
set_option maxRecDepth 100000 in
set_option maxHeartbeats 1000000 in
theorem of_put_low {v0 v1 v3 v4 v5 : Value} (wb g k oc : Nat) (st : Int) (ws : List Ver) (wa : Option Addr) (wc : Nat) (ks : List ByteArray) (ka : Option Addr) (kc : Nat) (pa : Option Addr) (ps : List ByteArray) (pc : Nat) (ts : List RT) (o : OpM) (w : World)
    (hkd : o.kind = 4) (hk1 : 1 ≤ o.key.size) (hk8 : o.key.size ≤ 8) (hv : o.val.size ≤ 20) (hkn : k < ts.length)
    (hT : ts[k]? = some ⟨st, ws, wa, wc, ks, ka, kc, ps, pa, pc⟩)
    (hb : w.heap[wb]? = some (.cells #[v0, v1, .slice (some ⟨g, 0, none⟩) ts.length oc, v3, v4, v5] 79))
    (hor : w.ownsRow 0 97 4 (.slice (some ⟨g, 0, none⟩) ts.length oc) ts.length (rtCells ts))
    (hwr : w.ownsRow 0 103 4 (.slice wa ws.length wc) ws.length (verCells ws)) (hws : ws.length ≤ 2000000) :
    Calls Tryz.prog 52 #[.pointer (some ⟨wb, 0, none⟩), .int .i64 k, o.v] w fun e w' => e = .returned (ansV 0 0 false ⟨#[]⟩ (.slice none 0 0)) ∧
      ∃ wa' wc', w'.ownsRow 0 97 4 (.slice (some ⟨g, 0, none⟩) ts.length oc) ts.length (rtCells (ts.set k ⟨st, writeM ws ⟨o.key, 0, o.val, false⟩, wa', wc', ks, ka, kc, ps, pa, pc⟩)) ∧ w'.ownsRow w.heap.size 103 4 (.slice wa' (writeM ws ⟨o.key, 0, o.val, false⟩).length wc') (writeM ws ⟨o.key, 0, o.val, false⟩).length (verCells (writeM ws ⟨o.key, 0, o.val, false⟩)) ∧ Chg (fun b => b = g) w w' := by
  have b1 : decide ((o.key.size : Int) < 1) = false := decide_eq_false (by omega)
  have b2 : decide ((8 : Int) < (o.key.size : Int)) = false := decide_eq_false (by omega)
  have b3 : decide ((20 : Int) < (o.val.size : Int)) = false := decide_eq_false (by omega)
  have hgb : ∃ cur, w.heap[g]? = some (.cells cur 97) := by
    rcases hor.2 with ⟨e, _⟩ | ⟨g', cap, cur, e, _, h, _⟩
    · cases e
    · cases e; exact ⟨cur, h⟩
  obtain ⟨cur, hgb⟩ := hgb
  have hgl := lt_of_block hgb
  have hwl := lt_of_block hb
  have x2 := cell_of hb (i := 2) (v := .slice (some ⟨g, 0, none⟩) ts.length oc) rfl
  have hTk : ts[k] = ⟨st, ws, wa, wc, ks, ka, kc, ps, pa, pc⟩ := by have := List.getElem?_eq_getElem hkn; rw [hT] at this; exact (Option.some.inj this).symm
  obtain ⟨c0, c1, c2, c3⟩ := rt_at hor k hkn
  rw [hTk] at c0 c1 c2 c3
  simp only at c0 c1 c2 c3
  have hkd' : (o.kind == 4) = true := beq_iff_eq.2 hkd
  have HR : Hid (w.ownsRow 0 103 4 (.slice wa ws.length wc) ws.length (verCells ws) ∧ w.ownsRow 0 97 4 (.slice (some ⟨g, 0, none⟩) ts.length oc) ts.length (rtCells ts)) := ⟨hwr, hor⟩
  have HB : Hid (w.heap[wb]? = some (.cells #[v0, v1, .slice (some ⟨g, 0, none⟩) ts.length oc, v3, v4, v5] 79)) := hb
  clear hwr hor hT hTk hb hgb
  go_enter Tryz.func52, Tryz.ntmps52
  go_wp2_with fail
  have hc4 := four_chg w o 4 st (.slice wa ws.length wc) (.slice ka ks.length kc) (.slice pa ps.length pc)
  have HW := rwrite_any 0 wc wa ws ⟨o.key, 0, o.val, false⟩ (four w o 4 st (.slice wa ws.length wc) (.slice ka ks.length kc) (.slice pa ps.length pc)) hws (ownsRow_chg HR.out.1 hc4 (fun _ _ h => h))
  unfold Ver.v at HW
  simp only at HW
  refine HW.mono ?_
  rintro e w5 ⟨v, rfl, hown5, hch⟩
  obtain ⟨wa', wc', rfl⟩ := row_form hown5
  clear HW
  have fE := five_keep (w := w) (A := opC o 4) (B := ans0) (C := txC st (.slice wa ws.length wc) (.slice ka ks.length kc) (.slice pa ps.length pc)) (D := ans0) (E := ans0) (w5 := (four w o 4 st (.slice wa ws.length wc) (.slice ka ks.length kc) (.slice pa ps.length pc)).alloc ans0) (row := none) ⟨rfl, rfl, rfl, Nat.le_refl _, fun _ _ _ => rfl⟩ (fun k e => by cases e)
  have hs4 : (four w o 4 st (.slice wa ws.length wc) (.slice ka ks.length kc) (.slice pa ps.length pc)).heap.size = w.heap.size + 1 + 1 + 1 + 1 := by simp
  have hk4 : ∀ b, b < w.heap.size + 1 + 1 + 1 + 1 → w5.heap[b]? = ((four w o 4 st (.slice wa ws.length wc) (.slice ka ks.length kc) (.slice pa ps.length pc)).alloc ans0).heap[b]? := fun b hb => (hch.block b (by rw [hs4]; exact hb) (fun h => h)).trans (Below.heap_alloc (four w o 4 st (.slice wa ws.length wc) (.slice ka ks.length kc) (.slice pa ps.length pc)) ans0 b (by rw [hs4]; exact hb)).symm
  obtain ⟨fA, fB, fC, fD⟩ := fE
  rw [← hk4 _ (by omega)] at fA fB fC fD
  have hc5 : Chg nobody w w5 := hc4.trans hch
  have hz5 : w.heap.size + 1 + 1 + 1 + 1 ≤ w5.heap.size := by have := hch.size; omega
  rw [hs4] at hown5
  have t1 := cell_of fC (i := 1) (v := .slice wa ws.length wc) rfl
  have tf := unfrozen_of fC 1
  have HQ : Hid (w5.heap[w.heap.size + 1]? = some ans0 ∧ w5.heap[w.heap.size + 1 + 1]? = some (txC st (.slice wa ws.length wc) (.slice ka ks.length kc) (.slice pa ps.length pc)) ∧ w5.heap[w.heap.size + 1 + 1 + 1]? = some ans0 ∧ w5.ownsRow (w.heap.size + 1 + 1 + 1 + 1) 103 4 (.slice wa' (writeM ws ⟨o.key, 0, o.val, false⟩).length wc') (writeM ws ⟨o.key, 0, o.val, false⟩).length (verCells (writeM ws ⟨o.key, 0, o.val, false⟩)) ∧ Chg nobody w w5) := ⟨fB, fC, fD, hown5, hc5⟩
  clear fA fB fC fD hown5 hc5 hk4 hs4 hch hc4 c0 c1 c2 c3 x2
  generalize hnw : (writeM ws ⟨o.key, 0, o.val, false⟩).length = nw at *
  have HNW : Hid ((writeM ws ⟨o.key, 0, o.val, false⟩).length = nw) := hnw
  clear hnw
  go_wp2
  obtain ⟨fB, fC, fD, hown5, hc5⟩ := HQ.out
  have hc8 := chg_set1 w5 (w.heap.size + 1 + 1) 1 (.slice wa' nw wc')
  have f8C := heap_setCell_same w5 (w.heap.size + 1 + 1) 1 _ 97 (.slice wa' nw wc') fC
  have f8B := (hc8.block _ (lt_of_block fB) (fun (h : _ = _) => by omega)).trans fB
  have f8D := (hc8.block _ (lt_of_block fD) (fun (h : _ = _) => by omega)).trans fD
  have hown8 := ownsRow_chg hown5 hc8 (fun b e (h : b = _) => by have := (hown5.lt b e).1; omega)
  have hcc8 : Chg nobody w (w5.setCell ⟨w.heap.size + 1 + 1, 1, none⟩ (.slice wa' nw wc')) := hc5.andThen hc8 (fun i hi (h : i = _) => by omega)
  have hb8 := (hcc8.block _ hwl (fun h => h)).trans HB.out
  have hor8 := ownsRow_chg HR.out.2 hcc8 (fun _ _ h => h)
  have HG : Hid (Chg (fun b => b = g) w (w5.setCell ⟨w.heap.size + 1 + 1, 1, none⟩ (.slice wa' nw wc'))) := hcc8.any _
  clear hc8 hcc8 fB fC fD hown5 hc5 HQ t1 tf
  generalize w5.setCell ⟨w.heap.size + 1 + 1, 1, none⟩ (.slice wa' nw wc') = w8 at *
  have y0 := cell_of f8C (i := 0) (v := .int .i64 st) rfl
  have y1 := cell_of f8C (i := 1) (v := .slice wa' nw wc') rfl
  have y2 := cell_of f8C (i := 2) (v := .slice ka ks.length kc) rfl
  have y3 := cell_of f8C (i := 3) (v := .slice pa ps.length pc) rfl
  have z2 := cell_of hb8 (i := 2) (v := .slice (some ⟨g, 0, none⟩) ts.length oc) rfl
  have q0 := hor8.frozenAt (k * 4)
  have q1 := hor8.frozenAt (k * 4 + 1)
  have q2 := hor8.frozenAt (k * 4 + 2)
  have q3 := hor8.frozenAt (k * 4 + 3)
  obtain ⟨c0, c1, c2, c3⟩ := rt_at hor8 k hkn
  have HP : Hid (w8.heap[w.heap.size + 1 + 1 + 1]? = some ans0 ∧ w8.heap[w.heap.size + 1]? = some ans0 ∧ w8.ownsRow 0 97 4 (.slice (some ⟨g, 0, none⟩) ts.length oc) ts.length (rtCells ts) ∧ w8.ownsRow (w.heap.size + 1 + 1 + 1 + 1) 103 4 (.slice wa' nw wc') nw (verCells (writeM ws ⟨o.key, 0, o.val, false⟩))) := ⟨f8D, f8B, hor8, hown8⟩
  clear f8D f8B hor8 hown8 f8C hb8
  go_region
  have hc9 := (chg_set4 w8 g k (.int .i64 st) (.slice wa' nw wc') (.slice ka ks.length kc) (.slice pa ps.length pc)).drew
  obtain ⟨f8D, f8B, hor8, hown8⟩ := HP.out
  have hor9 := row_drew (row_set4 ⟨st, writeM ws ⟨o.key, 0, o.val, false⟩, wa', wc', ks, ka, kc, ps, pa, pc⟩ hor8 hkn)
  simp only [RT.wv, RT.kv, RT.pv, HNW.out] at hor9
  have f9D := (hc9.block _ (lt_of_block f8D) (fun (h : _ = _) => by omega)).trans f8D
  have f9B := (hc9.block _ (lt_of_block f8B) (fun (h : _ = _) => by omega)).trans f8B
  have hown9 := ownsRow_chg hown8 hc9 (fun b e (h : b = _) => by have := (hown8.lt b e).1; omega)
  have hG9 : Hid (Chg (fun b => b = g) w (((((w8.setCell ⟨g, k * 4, none⟩ (.int .i64 st)).setCell ⟨g, k * 4 + 1, none⟩ (.slice wa' nw wc')).setCell ⟨g, k * 4 + 2, none⟩ (.slice ka ks.length kc)).setCell ⟨g, k * 4 + 3, none⟩ (.slice pa ps.length pc)).drew)) := HG.out.trans hc9
  clear hc9 f8D f8B hor8 hown8 HP HG y0 y1 y2 y3 z2 q0 q1 q2 q3 c0 c1 c2 c3
  generalize ((((w8.setCell ⟨g, k * 4, none⟩ (.int .i64 st)).setCell ⟨g, k * 4 + 1, none⟩ (.slice wa' nw wc')).setCell ⟨g, k * 4 + 2, none⟩ (.slice ka ks.length kc)).setCell ⟨g, k * 4 + 3, none⟩ (.slice pa ps.length pc)).drew = w9 at *
  obtain ⟨d0, d1, d2, d3, d4, d5, d6, _⟩ := cells7 f9D
  obtain ⟨k0, k1, k2, k3, k4, k5, k6, kf⟩ := cells7 f9B
  have HZ : Hid (w9.ownsRow 0 97 4 (.slice (some ⟨g, 0, none⟩) ts.length oc) ts.length (rtCells (ts.set k ⟨st, writeM ws ⟨o.key, 0, o.val, false⟩, wa', wc', ks, ka, kc, ps, pa, pc⟩)) ∧ w9.ownsRow (w.heap.size + 1 + 1 + 1 + 1) 103 4 (.slice wa' nw wc') nw (verCells (writeM ws ⟨o.key, 0, o.val, false⟩)) ∧ w9.heap[w.heap.size + 1]? = some ans0) := ⟨hor9, hown9, f9B⟩
  clear hor9 hown9 f9D f9B
  go_wp2
  obtain ⟨hor9, hown9, f9B⟩ := HZ.out
  obtain ⟨r0, r1, r2, r3, r4, r5, r6⟩ := set7 f9B rfl (.int .i64 0) (.int .i64 0) (.bool false) (.string ⟨#[]⟩) (.slice none 0 0) (.slice none 0 0) (.slice none 0 0)
  have hc10 := chg_set7 w9 (w.heap.size + 1) (.int .i64 0) (.int .i64 0) (.bool false) (.string ⟨#[]⟩) (.slice none 0 0) (.slice none 0 0) (.slice none 0 0)
  refine bodyPost_ret (v := ansV 0 0 false ⟨#[]⟩ (.slice none 0 0)) (by simp [results, Tryz.results52, go_sem, r0, r1, r2, r3, r4, r5, r6]) rfl ⟨rfl, wa', wc', ownsRow_chg hor9 hc10 ?_, ?_, hG9.out.andThen hc10 ?_⟩
  · exact fun b e (h : b = _) => by have e1 : g = b := (by simpa [Value.ownBlock] using e); omega
  · rw [HNW.out]
    exact ownsRow_base (ownsRow_chg hown9 hc10 (fun b e (h : b = _) => by have := (hown9.lt b e).1; omega)) (by omega)
  · exact fun i hi (h : i = _) => by omega
set_option maxRecDepth 100000 in
set_option maxHeartbeats 1000000 in
theorem of_del_low {v0 v1 v3 v4 v5 : Value} (wb g k oc : Nat) (st : Int) (ws : List Ver) (wa : Option Addr) (wc : Nat) (ks : List ByteArray) (ka : Option Addr) (kc : Nat) (pa : Option Addr) (ps : List ByteArray) (pc : Nat) (ts : List RT) (o : OpM) (w : World)
    (hkd : o.kind = 5) (hk1 : 1 ≤ o.key.size) (hk8 : o.key.size ≤ 8) (hkn : k < ts.length)
    (hT : ts[k]? = some ⟨st, ws, wa, wc, ks, ka, kc, ps, pa, pc⟩)
    (hb : w.heap[wb]? = some (.cells #[v0, v1, .slice (some ⟨g, 0, none⟩) ts.length oc, v3, v4, v5] 79))
    (hor : w.ownsRow 0 97 4 (.slice (some ⟨g, 0, none⟩) ts.length oc) ts.length (rtCells ts))
    (hwr : w.ownsRow 0 103 4 (.slice wa ws.length wc) ws.length (verCells ws)) (hws : ws.length ≤ 2000000) :
    Calls Tryz.prog 52 #[.pointer (some ⟨wb, 0, none⟩), .int .i64 k, o.v] w fun e w' => e = .returned (ansV 0 0 false ⟨#[]⟩ (.slice none 0 0)) ∧
      ∃ wa' wc', w'.ownsRow 0 97 4 (.slice (some ⟨g, 0, none⟩) ts.length oc) ts.length (rtCells (ts.set k ⟨st, writeM ws ⟨o.key, 0, ⟨#[]⟩, true⟩, wa', wc', ks, ka, kc, ps, pa, pc⟩)) ∧ w'.ownsRow w.heap.size 103 4 (.slice wa' (writeM ws ⟨o.key, 0, ⟨#[]⟩, true⟩).length wc') (writeM ws ⟨o.key, 0, ⟨#[]⟩, true⟩).length (verCells (writeM ws ⟨o.key, 0, ⟨#[]⟩, true⟩)) ∧ Chg (fun b => b = g) w w' := by
  have b1 : decide ((o.key.size : Int) < 1) = false := decide_eq_false (by omega)
  have b2 : decide ((8 : Int) < (o.key.size : Int)) = false := decide_eq_false (by omega)
  have hgb : ∃ cur, w.heap[g]? = some (.cells cur 97) := by
    rcases hor.2 with ⟨e, _⟩ | ⟨g', cap, cur, e, _, h, _⟩
    · cases e
    · cases e; exact ⟨cur, h⟩
  obtain ⟨cur, hgb⟩ := hgb
  have hgl := lt_of_block hgb
  have hwl := lt_of_block hb
  have x2 := cell_of hb (i := 2) (v := .slice (some ⟨g, 0, none⟩) ts.length oc) rfl
  have hTk : ts[k] = ⟨st, ws, wa, wc, ks, ka, kc, ps, pa, pc⟩ := by have := List.getElem?_eq_getElem hkn; rw [hT] at this; exact (Option.some.inj this).symm
  obtain ⟨c0, c1, c2, c3⟩ := rt_at hor k hkn
  rw [hTk] at c0 c1 c2 c3
  simp only at c0 c1 c2 c3
  have hkd' : (o.kind == 5) = true := beq_iff_eq.2 hkd
  have HR : Hid (w.ownsRow 0 103 4 (.slice wa ws.length wc) ws.length (verCells ws) ∧ w.ownsRow 0 97 4 (.slice (some ⟨g, 0, none⟩) ts.length oc) ts.length (rtCells ts)) := ⟨hwr, hor⟩
  have HB : Hid (w.heap[wb]? = some (.cells #[v0, v1, .slice (some ⟨g, 0, none⟩) ts.length oc, v3, v4, v5] 79)) := hb
  clear hwr hor hT hTk hb hgb
  go_enter Tryz.func52, Tryz.ntmps52
  go_wp2_with fail
  have hc4 := four_chg w o 5 st (.slice wa ws.length wc) (.slice ka ks.length kc) (.slice pa ps.length pc)
  have HW := rwrite_any 0 wc wa ws ⟨o.key, 0, ⟨#[]⟩, true⟩ (four w o 5 st (.slice wa ws.length wc) (.slice ka ks.length kc) (.slice pa ps.length pc)) hws (ownsRow_chg HR.out.1 hc4 (fun _ _ h => h))
  unfold Ver.v at HW
  simp only at HW
  refine HW.mono ?_
  rintro e w5 ⟨v, rfl, hown5, hch⟩
  obtain ⟨wa', wc', rfl⟩ := row_form hown5
  clear HW
  have fE := five_keep (w := w) (A := opC o 5) (B := ans0) (C := txC st (.slice wa ws.length wc) (.slice ka ks.length kc) (.slice pa ps.length pc)) (D := ans0) (E := ans0) (w5 := (four w o 5 st (.slice wa ws.length wc) (.slice ka ks.length kc) (.slice pa ps.length pc)).alloc ans0) (row := none) ⟨rfl, rfl, rfl, Nat.le_refl _, fun _ _ _ => rfl⟩ (fun k e => by cases e)
  have hs4 : (four w o 5 st (.slice wa ws.length wc) (.slice ka ks.length kc) (.slice pa ps.length pc)).heap.size = w.heap.size + 1 + 1 + 1 + 1 := by simp
  have hk4 : ∀ b, b < w.heap.size + 1 + 1 + 1 + 1 → w5.heap[b]? = ((four w o 5 st (.slice wa ws.length wc) (.slice ka ks.length kc) (.slice pa ps.length pc)).alloc ans0).heap[b]? := fun b hb => (hch.block b (by rw [hs4]; exact hb) (fun h => h)).trans (Below.heap_alloc (four w o 5 st (.slice wa ws.length wc) (.slice ka ks.length kc) (.slice pa ps.length pc)) ans0 b (by rw [hs4]; exact hb)).symm
  obtain ⟨fA, fB, fC, fD⟩ := fE
  rw [← hk4 _ (by omega)] at fA fB fC fD
  have hc5 : Chg nobody w w5 := hc4.trans hch
  have hz5 : w.heap.size + 1 + 1 + 1 + 1 ≤ w5.heap.size := by have := hch.size; omega
  rw [hs4] at hown5
  have t1 := cell_of fC (i := 1) (v := .slice wa ws.length wc) rfl
  have tf := unfrozen_of fC 1
  have HQ : Hid (w5.heap[w.heap.size + 1]? = some ans0 ∧ w5.heap[w.heap.size + 1 + 1]? = some (txC st (.slice wa ws.length wc) (.slice ka ks.length kc) (.slice pa ps.length pc)) ∧ w5.heap[w.heap.size + 1 + 1 + 1]? = some ans0 ∧ w5.ownsRow (w.heap.size + 1 + 1 + 1 + 1) 103 4 (.slice wa' (writeM ws ⟨o.key, 0, ⟨#[]⟩, true⟩).length wc') (writeM ws ⟨o.key, 0, ⟨#[]⟩, true⟩).length (verCells (writeM ws ⟨o.key, 0, ⟨#[]⟩, true⟩)) ∧ Chg nobody w w5) := ⟨fB, fC, fD, hown5, hc5⟩
  clear fA fB fC fD hown5 hc5 hk4 hs4 hch hc4 c0 c1 c2 c3 x2
  generalize hnw : (writeM ws ⟨o.key, 0, ⟨#[]⟩, true⟩).length = nw at *
  have HNW : Hid ((writeM ws ⟨o.key, 0, ⟨#[]⟩, true⟩).length = nw) := hnw
  clear hnw
  go_wp2
  obtain ⟨fB, fC, fD, hown5, hc5⟩ := HQ.out
  have hc8 := chg_set1 w5 (w.heap.size + 1 + 1) 1 (.slice wa' nw wc')
  have f8C := heap_setCell_same w5 (w.heap.size + 1 + 1) 1 _ 97 (.slice wa' nw wc') fC
  have f8B := (hc8.block _ (lt_of_block fB) (fun (h : _ = _) => by omega)).trans fB
  have f8D := (hc8.block _ (lt_of_block fD) (fun (h : _ = _) => by omega)).trans fD
  have hown8 := ownsRow_chg hown5 hc8 (fun b e (h : b = _) => by have := (hown5.lt b e).1; omega)
  have hcc8 : Chg nobody w (w5.setCell ⟨w.heap.size + 1 + 1, 1, none⟩ (.slice wa' nw wc')) := hc5.andThen hc8 (fun i hi (h : i = _) => by omega)
  have hb8 := (hcc8.block _ hwl (fun h => h)).trans HB.out
  have hor8 := ownsRow_chg HR.out.2 hcc8 (fun _ _ h => h)
  have HG : Hid (Chg (fun b => b = g) w (w5.setCell ⟨w.heap.size + 1 + 1, 1, none⟩ (.slice wa' nw wc'))) := hcc8.any _
  clear hc8 hcc8 fB fC fD hown5 hc5 HQ t1 tf
  generalize w5.setCell ⟨w.heap.size + 1 + 1, 1, none⟩ (.slice wa' nw wc') = w8 at *
  have y0 := cell_of f8C (i := 0) (v := .int .i64 st) rfl
  have y1 := cell_of f8C (i := 1) (v := .slice wa' nw wc') rfl
  have y2 := cell_of f8C (i := 2) (v := .slice ka ks.length kc) rfl
  have y3 := cell_of f8C (i := 3) (v := .slice pa ps.length pc) rfl
  have z2 := cell_of hb8 (i := 2) (v := .slice (some ⟨g, 0, none⟩) ts.length oc) rfl
  have q0 := hor8.frozenAt (k * 4)
  have q1 := hor8.frozenAt (k * 4 + 1)
  have q2 := hor8.frozenAt (k * 4 + 2)
  have q3 := hor8.frozenAt (k * 4 + 3)
  obtain ⟨c0, c1, c2, c3⟩ := rt_at hor8 k hkn
  have HP : Hid (w8.heap[w.heap.size + 1 + 1 + 1]? = some ans0 ∧ w8.heap[w.heap.size + 1]? = some ans0 ∧ w8.ownsRow 0 97 4 (.slice (some ⟨g, 0, none⟩) ts.length oc) ts.length (rtCells ts) ∧ w8.ownsRow (w.heap.size + 1 + 1 + 1 + 1) 103 4 (.slice wa' nw wc') nw (verCells (writeM ws ⟨o.key, 0, ⟨#[]⟩, true⟩))) := ⟨f8D, f8B, hor8, hown8⟩
  clear f8D f8B hor8 hown8 f8C hb8
  go_region
  have hc9 := (chg_set4 w8 g k (.int .i64 st) (.slice wa' nw wc') (.slice ka ks.length kc) (.slice pa ps.length pc)).drew
  obtain ⟨f8D, f8B, hor8, hown8⟩ := HP.out
  have hor9 := row_drew (row_set4 ⟨st, writeM ws ⟨o.key, 0, ⟨#[]⟩, true⟩, wa', wc', ks, ka, kc, ps, pa, pc⟩ hor8 hkn)
  simp only [RT.wv, RT.kv, RT.pv, HNW.out] at hor9
  have f9D := (hc9.block _ (lt_of_block f8D) (fun (h : _ = _) => by omega)).trans f8D
  have f9B := (hc9.block _ (lt_of_block f8B) (fun (h : _ = _) => by omega)).trans f8B
  have hown9 := ownsRow_chg hown8 hc9 (fun b e (h : b = _) => by have := (hown8.lt b e).1; omega)
  have hG9 : Hid (Chg (fun b => b = g) w (((((w8.setCell ⟨g, k * 4, none⟩ (.int .i64 st)).setCell ⟨g, k * 4 + 1, none⟩ (.slice wa' nw wc')).setCell ⟨g, k * 4 + 2, none⟩ (.slice ka ks.length kc)).setCell ⟨g, k * 4 + 3, none⟩ (.slice pa ps.length pc)).drew)) := HG.out.trans hc9
  clear hc9 f8D f8B hor8 hown8 HP HG y0 y1 y2 y3 z2 q0 q1 q2 q3 c0 c1 c2 c3
  generalize ((((w8.setCell ⟨g, k * 4, none⟩ (.int .i64 st)).setCell ⟨g, k * 4 + 1, none⟩ (.slice wa' nw wc')).setCell ⟨g, k * 4 + 2, none⟩ (.slice ka ks.length kc)).setCell ⟨g, k * 4 + 3, none⟩ (.slice pa ps.length pc)).drew = w9 at *
  obtain ⟨d0, d1, d2, d3, d4, d5, d6, _⟩ := cells7 f9D
  obtain ⟨k0, k1, k2, k3, k4, k5, k6, kf⟩ := cells7 f9B
  have HZ : Hid (w9.ownsRow 0 97 4 (.slice (some ⟨g, 0, none⟩) ts.length oc) ts.length (rtCells (ts.set k ⟨st, writeM ws ⟨o.key, 0, ⟨#[]⟩, true⟩, wa', wc', ks, ka, kc, ps, pa, pc⟩)) ∧ w9.ownsRow (w.heap.size + 1 + 1 + 1 + 1) 103 4 (.slice wa' nw wc') nw (verCells (writeM ws ⟨o.key, 0, ⟨#[]⟩, true⟩)) ∧ w9.heap[w.heap.size + 1]? = some ans0) := ⟨hor9, hown9, f9B⟩
  clear hor9 hown9 f9D f9B
  go_wp2
  obtain ⟨hor9, hown9, f9B⟩ := HZ.out
  obtain ⟨r0, r1, r2, r3, r4, r5, r6⟩ := set7 f9B rfl (.int .i64 0) (.int .i64 0) (.bool false) (.string ⟨#[]⟩) (.slice none 0 0) (.slice none 0 0) (.slice none 0 0)
  have hc10 := chg_set7 w9 (w.heap.size + 1) (.int .i64 0) (.int .i64 0) (.bool false) (.string ⟨#[]⟩) (.slice none 0 0) (.slice none 0 0) (.slice none 0 0)
  refine bodyPost_ret (v := ansV 0 0 false ⟨#[]⟩ (.slice none 0 0)) (by simp [results, Tryz.results52, go_sem, r0, r1, r2, r3, r4, r5, r6]) rfl ⟨rfl, wa', wc', ownsRow_chg hor9 hc10 ?_, ?_, hG9.out.andThen hc10 ?_⟩
  · exact fun b e (h : b = _) => by have e1 : g = b := (by simpa [Value.ownBlock] using e); omega
  · rw [HNW.out]
    exact ownsRow_base (ownsRow_chg hown9 hc10 (fun b e (h : b = _) => by have := (hown9.lt b e).1; omega)) (by omega)
  · exact fun i hi (h : i = _) => by omega
end Go.Proofs.YtkfjafndplmdkaaGreat
namespace Go.Proofs.YtkfjafndplmdkaaGreat
open Go.RowKit Go.Sort
set_option maxRecDepth 100000 in
set_option maxHeartbeats 1000000 in
theorem of_drop_low {v0 v1 v3 v4 v5 : Value} (wb g k oc : Nat) (st : Int) (ws : List Ver) (wa : Option Addr) (wc : Nat) (ks : List ByteArray) (ka : Option Addr) (kc : Nat) (pa : Option Addr) (ps : List ByteArray) (pc : Nat) (ts : List RT) (o : OpM) (w : World)
    (hkd : o.kind = 6) (hnt : ts.length ≤ 2000000) (hkn : k < ts.length)
    (hT : ts[k]? = some ⟨st, ws, wa, wc, ks, ka, kc, ps, pa, pc⟩)
    (hb : w.heap[wb]? = some (.cells #[v0, v1, .slice (some ⟨g, 0, none⟩) ts.length oc, v3, v4, v5] 79))
    (hor : w.ownsRow 0 97 4 (.slice (some ⟨g, 0, none⟩) ts.length oc) ts.length (rtCells ts)) :
    Calls Tryz.prog 52 #[.pointer (some ⟨wb, 0, none⟩), .int .i64 k, o.v] w fun e w' => e = .returned (ansV 0 0 false ⟨#[]⟩ (.slice none 0 0)) ∧
      ∃ oa' oc', w'.heap[wb]? = some (.cells #[v0, v1, .slice oa' (lessRT ts st).length oc', v3, v4, v5] 79) ∧ w'.ownsRow w.heap.size 97 4 (.slice oa' (lessRT ts st).length oc') (lessRT ts st).length (rtCells (lessRT ts st)) ∧ Chg (fun b => b = wb) w w' := by
  have hgb : ∃ cur, w.heap[g]? = some (.cells cur 97) := by
    rcases hor.2 with ⟨e, _⟩ | ⟨g', cap, cur, e, _, h, _⟩
    · cases e
    · cases e; exact ⟨cur, h⟩
  obtain ⟨cur, hgb⟩ := hgb
  have hgl := lt_of_block hgb
  have hwl := lt_of_block hb
  have x2 := cell_of hb (i := 2) (v := .slice (some ⟨g, 0, none⟩) ts.length oc) rfl
  have hTk : ts[k] = ⟨st, ws, wa, wc, ks, ka, kc, ps, pa, pc⟩ := by have := List.getElem?_eq_getElem hkn; rw [hT] at this; exact (Option.some.inj this).symm
  obtain ⟨c0, c1, c2, c3⟩ := rt_at hor k hkn
  rw [hTk] at c0 c1 c2 c3
  simp only at c0 c1 c2 c3
  have hkd' : (o.kind == 6) = true := beq_iff_eq.2 hkd
  have hc4 := four_chg w o 6 st (.slice wa ws.length wc) (.slice ka ks.length kc) (.slice pa ps.length pc)
  have HL := leave_any wb 0 oc (some ⟨g, 0, none⟩) ts st v0 v1 v3 v4 v5 (four w o 6 st (.slice wa ws.length wc) (.slice ka ks.length kc) (.slice pa ps.length pc)) hnt ((hc4.block _ hwl (fun h => h)).trans hb) (ownsRow_chg hor hc4 (fun _ _ h => h))
  have HC : Hid (Chg nobody w (four w o 6 st (.slice wa ws.length wc) (.slice ka ks.length kc) (.slice pa ps.length pc))) := hc4
  have HW : Hid (Calls Tryz.prog 71 #[.pointer (some ⟨wb, 0, none⟩), .int .i64 st] (four w o 6 st (.slice wa ws.length wc) (.slice ka ks.length kc) (.slice pa ps.length pc)) fun e w' => e = .returned (.tuple #[]) ∧ ∃ v, w'.heap[wb]? = some (.cells #[v0, v1, v, v3, v4, v5] 79) ∧ w'.ownsRow (four w o 6 st (.slice wa ws.length wc) (.slice ka ks.length kc) (.slice pa ps.length pc)).heap.size 97 4 v (lessRT ts st).length (rtCells (lessRT ts st)) ∧ Chg (fun b => b = wb) (four w o 6 st (.slice wa ws.length wc) (.slice ka ks.length kc) (.slice pa ps.length pc)) w') := HL
  clear hor hT hTk hb hgb hc4 HL
  have hbs : decide ((o.key.size : Int) < 1) = true ∨ (decide ((o.key.size : Int) < 1) = false ∧ decide ((8 : Int) < (o.key.size : Int)) = true) ∨ (decide ((o.key.size : Int) < 1) = false ∧ decide ((8 : Int) < (o.key.size : Int)) = false) := by
    by_cases h1 : (o.key.size : Int) < 1
    · exact Or.inl (decide_eq_true h1)
    · by_cases h2 : (8 : Int) < (o.key.size : Int)
      · exact Or.inr (Or.inl ⟨decide_eq_false h1, decide_eq_true h2⟩)
      · exact Or.inr (Or.inr ⟨decide_eq_false h1, decide_eq_false h2⟩)
  rcases hbs with b1 | ⟨b1, b2⟩ | ⟨b1, b2⟩
  all_goals
    go_enter Tryz.func52, Tryz.ntmps52
    go_wp2_with fail
    refine HW.out.mono ?_
    rintro e w5 ⟨rfl, v, hb5, hown5, hch⟩
    obtain ⟨oa', oc', rfl⟩ := row_form hown5
    have fE := five_keep (w := w) (A := opC o 6) (B := ans0) (C := txC st (.slice wa ws.length wc) (.slice ka ks.length kc) (.slice pa ps.length pc)) (D := ans0) (E := ans0) (w5 := (four w o 6 st (.slice wa ws.length wc) (.slice ka ks.length kc) (.slice pa ps.length pc)).alloc ans0) (row := none) ⟨rfl, rfl, rfl, Nat.le_refl _, fun _ _ _ => rfl⟩ (fun k e => by cases e)
    have hs4 : (four w o 6 st (.slice wa ws.length wc) (.slice ka ks.length kc) (.slice pa ps.length pc)).heap.size = w.heap.size + 1 + 1 + 1 + 1 := by simp
    have hk4 : ∀ b, b < w.heap.size + 1 + 1 + 1 + 1 → b ≠ wb → w5.heap[b]? = ((four w o 6 st (.slice wa ws.length wc) (.slice ka ks.length kc) (.slice pa ps.length pc)).alloc ans0).heap[b]? := fun b hb hne => (hch.block b (by rw [hs4]; exact hb) hne).trans (Below.heap_alloc (four w o 6 st (.slice wa ws.length wc) (.slice ka ks.length kc) (.slice pa ps.length pc)) ans0 b (by rw [hs4]; exact hb)).symm
    obtain ⟨_, fB, _, fD⟩ := fE
    rw [← hk4 _ (by omega) (by omega)] at fB fD
    have hc5 : Chg (fun b => b = wb) w w5 := (HC.out.any _).trans hch
    rw [hs4] at hown5
    have HZ : Hid (w5.heap[w.heap.size + 1]? = some ans0 ∧ w5.heap[wb]? = some (.cells #[v0, v1, .slice oa' (lessRT ts st).length oc', v3, v4, v5] 79) ∧ w5.ownsRow (w.heap.size + 1 + 1 + 1 + 1) 97 4 (.slice oa' (lessRT ts st).length oc') (lessRT ts st).length (rtCells (lessRT ts st)) ∧ Chg (fun b => b = wb) w w5) := ⟨fB, hb5, hown5, hc5⟩
    obtain ⟨d0, d1, d2, d3, d4, d5, d6, _⟩ := cells7 fD
    obtain ⟨k0, k1, k2, k3, k4, k5, k6, kf⟩ := cells7 fB
    clear fB fD hb5 hown5 hc5 hk4 hs4 hch c0 c1 c2 c3 x2
    go_wp2
    obtain ⟨f9B, hb5, hown5, hc5⟩ := HZ.out
    obtain ⟨r0, r1, r2, r3, r4, r5, r6⟩ := set7 f9B rfl (.int .i64 0) (.int .i64 0) (.bool false) (.string ⟨#[]⟩) (.slice none 0 0) (.slice none 0 0) (.slice none 0 0)
    have hc10 := chg_set7 w5 (w.heap.size + 1) (.int .i64 0) (.int .i64 0) (.bool false) (.string ⟨#[]⟩) (.slice none 0 0) (.slice none 0 0) (.slice none 0 0)
    refine bodyPost_ret (v := ansV 0 0 false ⟨#[]⟩ (.slice none 0 0)) (by simp [results, Tryz.results52, go_sem, r0, r1, r2, r3, r4, r5, r6]) rfl ⟨rfl, oa', oc', (hc10.block _ (lt_of_block hb5) (fun (h : _ = _) => by omega)).trans hb5, ?_, hc5.andThen hc10 ?_⟩
    · exact ownsRow_base (ownsRow_chg hown5 hc10 (fun b e (h : b = _) => by have := (hown5.lt b e).1; omega)) (by omega)
    · exact fun i hi (h : i = _) => by omega
set_option maxRecDepth 100000 in
set_option maxHeartbeats 1000000 in
theorem of_badkey_low {v0 v1 v3 v4 v5 : Value} (wb g k oc : Nat) (st : Int) (ws : List Ver) (wa : Option Addr) (wc : Nat) (ks : List ByteArray) (ka : Option Addr) (kc : Nat) (pa : Option Addr) (ps : List ByteArray) (pc : Nat) (ts : List RT) (o : OpM) (w : World)
    (hkd : o.kind = 2 ∨ o.kind = 4 ∨ o.kind = 5) (hbad : o.key.size < 1 ∨ 8 < o.key.size) (hkn : k < ts.length)
    (hT : ts[k]? = some ⟨st, ws, wa, wc, ks, ka, kc, ps, pa, pc⟩)
    (hb : w.heap[wb]? = some (.cells #[v0, v1, .slice (some ⟨g, 0, none⟩) ts.length oc, v3, v4, v5] 79))
    (hor : w.ownsRow 0 97 4 (.slice (some ⟨g, 0, none⟩) ts.length oc) ts.length (rtCells ts)) :
    Calls Tryz.prog 52 #[.pointer (some ⟨wb, 0, none⟩), .int .i64 k, o.v] w fun e w' => e = .returned (ansV 4 0 false ⟨#[]⟩ (.slice none 0 0)) ∧ Chg nobody w w' := by
  have hgb : ∃ cur, w.heap[g]? = some (.cells cur 97) := by
    rcases hor.2 with ⟨e, _⟩ | ⟨g', cap, cur, e, _, h, _⟩
    · cases e
    · cases e; exact ⟨cur, h⟩
  obtain ⟨cur, hgb⟩ := hgb
  have hgl := lt_of_block hgb
  have hwl := lt_of_block hb
  have x2 := cell_of hb (i := 2) (v := .slice (some ⟨g, 0, none⟩) ts.length oc) rfl
  have hTk : ts[k] = ⟨st, ws, wa, wc, ks, ka, kc, ps, pa, pc⟩ := by have := List.getElem?_eq_getElem hkn; rw [hT] at this; exact (Option.some.inj this).symm
  obtain ⟨c0, c1, c2, c3⟩ := rt_at hor k hkn
  rw [hTk] at c0 c1 c2 c3
  simp only at c0 c1 c2 c3
  clear hor hT hTk hb hgb
  have hbs : decide ((o.key.size : Int) < 1) = true ∨ (decide ((o.key.size : Int) < 1) = false ∧ decide ((8 : Int) < (o.key.size : Int)) = true) := by
    by_cases h1 : (o.key.size : Int) < 1
    · exact Or.inl (decide_eq_true h1)
    · exact Or.inr ⟨decide_eq_false h1, decide_eq_true (by omega)⟩
  clear hbad
  rcases hbs with b1 | ⟨b1, b2⟩ <;> rcases hkd with hkd | hkd | hkd
  all_goals
    go_enter Tryz.func52, Tryz.ntmps52
    go_wp2_with fail
    refine (no_any 4 _).mono ?_
    rintro e w5 ⟨rfl, hch⟩
    have fB : w5.heap[w.heap.size + 1]? = some ans0 := by
      rw [hch.block _ (by simp <;> omega) (fun h => h)]
      rw [Below.heap_alloc _ _ _ (by simp)]
      exact heap_new (by simp)
    have hc5 : Chg nobody w w5 := ((((Chg.refl nobody w).alloc _).alloc _).alloc _).trans hch
    obtain ⟨k0, k1, k2, k3, k4, k5, k6, kf⟩ := cells7 fB
    have HZ : Hid (w5.heap[w.heap.size + 1]? = some ans0 ∧ Chg nobody w w5) := ⟨fB, hc5⟩
    clear fB hch hc5 c0 c1 c2 c3 x2
    go_wp2
    obtain ⟨f9B, hc5⟩ := HZ.out
    obtain ⟨r0, r1, r2, r3, r4, r5, r6⟩ := set7 f9B rfl (.int .i64 4) (.int .i64 0) (.bool false) (.string ⟨#[]⟩) (.slice none 0 0) (.slice none 0 0) (.slice none 0 0)
    have hc10 := chg_set7 w5 (w.heap.size + 1) (.int .i64 4) (.int .i64 0) (.bool false) (.string ⟨#[]⟩) (.slice none 0 0) (.slice none 0 0) (.slice none 0 0)
    refine bodyPost_ret (v := ansV 4 0 false ⟨#[]⟩ (.slice none 0 0)) (by simp [results, Tryz.results52, go_sem, r0, r1, r2, r3, r4, r5, r6]) rfl ⟨rfl, hc5.andThen hc10 ?_⟩
    exact fun i hi (h : i = _) => by omega
set_option maxRecDepth 100000 in
set_option maxHeartbeats 1000000 in
theorem of_badval_low {v0 v1 v3 v4 v5 : Value} (wb g k oc : Nat) (st : Int) (ws : List Ver) (wa : Option Addr) (wc : Nat) (ks : List ByteArray) (ka : Option Addr) (kc : Nat) (pa : Option Addr) (ps : List ByteArray) (pc : Nat) (ts : List RT) (o : OpM) (w : World)
    (hkd : o.kind = 4) (hk1 : 1 ≤ o.key.size) (hk8 : o.key.size ≤ 8) (hv : 20 < o.val.size) (hkn : k < ts.length)
    (hT : ts[k]? = some ⟨st, ws, wa, wc, ks, ka, kc, ps, pa, pc⟩)
    (hb : w.heap[wb]? = some (.cells #[v0, v1, .slice (some ⟨g, 0, none⟩) ts.length oc, v3, v4, v5] 79))
    (hor : w.ownsRow 0 97 4 (.slice (some ⟨g, 0, none⟩) ts.length oc) ts.length (rtCells ts)) :
    Calls Tryz.prog 52 #[.pointer (some ⟨wb, 0, none⟩), .int .i64 k, o.v] w fun e w' => e = .returned (ansV 5 0 false ⟨#[]⟩ (.slice none 0 0)) ∧ Chg nobody w w' := by
  have hgb : ∃ cur, w.heap[g]? = some (.cells cur 97) := by
    rcases hor.2 with ⟨e, _⟩ | ⟨g', cap, cur, e, _, h, _⟩
    · cases e
    · cases e; exact ⟨cur, h⟩
  obtain ⟨cur, hgb⟩ := hgb
  have hgl := lt_of_block hgb
  have hwl := lt_of_block hb
  have x2 := cell_of hb (i := 2) (v := .slice (some ⟨g, 0, none⟩) ts.length oc) rfl
  have hTk : ts[k] = ⟨st, ws, wa, wc, ks, ka, kc, ps, pa, pc⟩ := by have := List.getElem?_eq_getElem hkn; rw [hT] at this; exact (Option.some.inj this).symm
  obtain ⟨c0, c1, c2, c3⟩ := rt_at hor k hkn
  rw [hTk] at c0 c1 c2 c3
  simp only at c0 c1 c2 c3
  have b1 : decide ((o.key.size : Int) < 1) = false := decide_eq_false (by omega)
  have b2 : decide ((8 : Int) < (o.key.size : Int)) = false := decide_eq_false (by omega)
  have b3 : decide ((20 : Int) < (o.val.size : Int)) = true := decide_eq_true (by omega)
  clear hor hT hTk hb hgb
  all_goals
    go_enter Tryz.func52, Tryz.ntmps52
    go_wp2_with fail
    refine (no_any 5 _).mono ?_
    rintro e w5 ⟨rfl, hch⟩
    have fB : w5.heap[w.heap.size + 1]? = some ans0 := by
      rw [hch.block _ (by simp <;> omega) (fun h => h)]
      rw [Below.heap_alloc _ _ _ (by simp <;> omega), Below.heap_alloc _ _ _ (by simp)]
      exact heap_new (by simp)
    have hc5 : Chg nobody w w5 := (((((Chg.refl nobody w).alloc _).alloc _).alloc _).alloc _).trans hch
    obtain ⟨k0, k1, k2, k3, k4, k5, k6, kf⟩ := cells7 fB
    have HZ : Hid (w5.heap[w.heap.size + 1]? = some ans0 ∧ Chg nobody w w5) := ⟨fB, hc5⟩
    clear fB hch hc5 c0 c1 c2 c3 x2
    go_wp2
    obtain ⟨f9B, hc5⟩ := HZ.out
    obtain ⟨r0, r1, r2, r3, r4, r5, r6⟩ := set7 f9B rfl (.int .i64 5) (.int .i64 0) (.bool false) (.string ⟨#[]⟩) (.slice none 0 0) (.slice none 0 0) (.slice none 0 0)
    have hc10 := chg_set7 w5 (w.heap.size + 1) (.int .i64 5) (.int .i64 0) (.bool false) (.string ⟨#[]⟩) (.slice none 0 0) (.slice none 0 0) (.slice none 0 0)
    refine bodyPost_ret (v := ansV 5 0 false ⟨#[]⟩ (.slice none 0 0)) (by simp [results, Tryz.results52, go_sem, r0, r1, r2, r3, r4, r5, r6]) rfl ⟨rfl, hc5.andThen hc10 ?_⟩
    exact fun i hi (h : i = _) => by omega
end Go.Proofs.YtkfjafndplmdkaaGreat
namespace Go.Proofs.YtkfjafndplmdkaaGreat
open Go.RowKit Go.Sort
theorem RInv.parts {w : World} {S : RSt} {k : Nat} (h : RInv w S) (hk : k < S.ts.length) : S.ts[k].blocks.Nodup ∧ (∀ b ∈ S.ts[k].blocks, b ≠ S.wb ∧ b ∉ S.others ∧ b ∉ vb S.ov) := by
  have e1 : S.ts = S.ts.take k ++ S.ts[k] :: S.ts.drop (k + 1) := by rw [← List.drop_eq_getElem_cons hk, List.take_append_drop]
  have hbl : S.blocks = (S.wb :: (S.others ++ vb S.ov) ++ (S.ts.take k).flatMap RT.blocks) ++ (S.ts[k].blocks ++ (S.ts.drop (k + 1)).flatMap RT.blocks) := by
    have e3 : S.ts.flatMap RT.blocks = (S.ts.take k).flatMap RT.blocks ++ (S.ts[k].blocks ++ (S.ts.drop (k + 1)).flatMap RT.blocks) := by
      conv => lhs; rw [e1]
      rw [List.flatMap_append, List.flatMap_cons]
    unfold RSt.blocks
    rw [e3]
    simp only [List.append_assoc, List.cons_append]
  have hnd := h.nd
  rw [hbl] at hnd
  obtain ⟨n1, n2, n3⟩ := List.nodup_append.1 hnd
  obtain ⟨m1, m2, m3⟩ := List.nodup_append.1 n2
  refine ⟨m1, fun b hb => ?_⟩
  have ap : ∀ x ∈ S.wb :: (S.others ++ vb S.ov) ++ (S.ts.take k).flatMap RT.blocks, x ≠ b := fun x hx e => n3 x hx b (List.mem_append.2 (Or.inl hb)) e
  refine ⟨fun e => ap S.wb (by simp) e.symm, fun hm => ap b (by simp [hm]) rfl, fun hm => ap b (by simp [hm]) rfl⟩
def RT.abs (T : RT) : PT := ⟨T.start, T.ws, T.ks, T.ps⟩
def RSt.abs (S : RSt) : PW := ⟨S.clock, S.L, S.ts.map RT.abs, S.q, S.rows, S.low⟩
def RPost (w : World) (S : RSt) (A : AnsM) (W : PW) (e : Ending) (w' : World) : Prop :=
  ∃ S' it, e = .returned (ansV A.code A.number A.found A.value it) ∧ w'.ownsRow w.heap.size 66 2 it A.items.length (itemCells A.items) ∧ S'.abs = W ∧ S'.wb = S.wb ∧ ROk w S w' S'
theorem rpost_err {w w' : World} {S : RSt} (h : RInv w S) (hc : Chg nobody w w') (c : Int) : RPost w S (errA c) S.abs (.returned (ansV c 0 false ⟨#[]⟩ (.slice none 0 0))) w' :=
  ⟨S, .slice none 0 0, rfl, World.ownsRow_nil _ _ _ _, rfl, rfl, h.chg hc (fun _ _ h => h), fun _ hb => Or.inl hb, hc.any _⟩
theorem map_set_abs (ts : List RT) (k : Nat) (T : RT) : (ts.set k T).map RT.abs = (ts.map RT.abs).set k T.abs := List.map_set
theorem filter_abs (ts : List RT) (n : Int) : (lessRT ts n).map RT.abs = (ts.map RT.abs).filter (fun x => decide (x.start ≠ n)) := by
  unfold lessRT
  rw [List.filter_map]
  rfl
end Go.Proofs.YtkfjafndplmdkaaGreat
namespace Go.Proofs.YtkfjafndplmdkaaGreat
open Go.RowKit Go.Sort
/-- how much there is. -/
structure RFit (S : RSt) : Prop where
  L : S.L.length ≤ 2000000
  ts : S.ts.length ≤ 2000000
  tx : ∀ T ∈ S.ts, T.ws.length ≤ 2000000 ∧ T.ks.length ≤ 2000000 ∧ T.ps.length ≤ 2000000
theorem RInv.open {w : World} {S : RSt} {k : Nat} (h : RInv w S) (hk : k < S.ts.length) : ∃ g, S.oa = some ⟨g, 0, none⟩ ∧ vb S.ov = [g] := by
  obtain ⟨g, hg, _⟩ := row_open (show w.ownsRow 0 97 4 (.slice S.oa S.ts.length S.oc) S.ts.length (rtCells S.ts) from h.or) (by omega)
  exact ⟨g, hg, by unfold vb RSt.ov; rw [hg]; rfl⟩
set_option maxHeartbeats 400000 in
theorem of_get (S : RSt) (k : Nat) (o : OpM) (w : World) (h : RInv w S) (hf : RFit S) (hk : k < S.ts.length) (hkd : o.kind = 2) (hk1 : 1 ≤ o.key.size) (hk8 : o.key.size ≤ 8) :
    Calls Tryz.prog 52 #[.pointer (some ⟨S.wb, 0, none⟩), .int .i64 k, o.v] w (RPost w S (ofM S.abs k S.ts[k].abs o).1 (ofM S.abs k S.ts[k].abs o).2) := by
  obtain ⟨g, hg, hvg⟩ := h.open hk
  have hT := h.ts _ (List.getElem_mem hk)
  have hft := hf.tx _ (List.getElem_mem hk)
  obtain ⟨hnd, hap⟩ := h.parts hk
  have hwb := h.wb
  have hor := h.or
  have hlr := h.lr
  unfold RSt.ov at hwb hor
  unfold RSt.lv at hwb hlr
  rw [hg] at hwb hor
  have hkd4 : ¬ ((o.kind = 2 ∨ o.kind = 4 ∨ o.kind = 5) ∧ (o.key.size < 1 ∨ 8 < o.key.size)) := fun h => by omega
  have e : ofM S.abs k S.ts[k].abs o = (⟨0, 0, (seesM S.ts[k].ws S.L S.ts[k].start o.key).2, getV (seesM S.ts[k].ws S.L S.ts[k].start o.key), [], [], []⟩, { S.abs with ts := S.abs.ts.set k { S.ts[k].abs with ks := S.ts[k].ks ++ [o.key] } }) := by
    unfold ofM
    rw [if_neg hkd4, if_pos hkd]
    rfl
  rw [e]
  refine (of_get_low S.wb g k S.oc S.lc S.la S.ts[k].start S.ts[k].ws S.ts[k].wa S.ts[k].wc S.ts[k].ks S.ts[k].ka S.ts[k].kc S.ts[k].pa S.ts[k].ps S.ts[k].pc S.L S.ts o w hkd hk1 hk8 hk (List.getElem?_eq_getElem hk) hwb hor hT.kr hft.2.1 hlr hT.wr hf.L hft.1).mono ?_
  rintro en w' ⟨rfl, ka', kc', q1, q2, q3, q4⟩
  have hc' : Chg (fun b => b ∈ vb S.ov ∨ b ∈ S.ts[k].blocks) w w' := q3.mono (fun i _ hi => by
    rcases hi with rfl | hi
    · exact Or.inl (by rw [hvg]; simp)
    · exact Or.inr (by simp [RT.blocks, vb_mem, RT.kv, hi]))
  have hgk : ∀ b ∈ S.ts[k].blocks, b ≠ g := fun b hb e => (hap b hb).2.2 (by rw [hvg, e]; simp)
  have hnd' : (vb S.ts[k].wv ++ (vb S.ts[k].kv ++ vb S.ts[k].pv)).Nodup := by
    have := hnd
    unfold RT.blocks at this
    rwa [List.append_assoc] at this
  obtain ⟨_, m2, m3⟩ := List.nodup_append.1 hnd'
  obtain ⟨_, _, m4⟩ := List.nodup_append.1 m2
  have hlt := hT.lt
  have hx : ∀ b ∈ vb (.slice ka' (S.ts[k].ks.length + 1) kc'), b ∈ vb S.ts[k].kv ∨ w.heap.size ≤ b := fun b hb => by
    rcases q4 with q4 | q4
    · exact Or.inl (by rw [vb_eq q4] at hb; exact hb)
    · exact Or.inr (q4 b (vb_mem.1 hb))
  have hor' : w'.ownsRow 0 97 4 S.ov S.ts.length (rtCells (S.ts.set k { S.ts[k] with ks := S.ts[k].ks ++ [o.key], ka := ka', kc := kc' })) := by
    unfold RSt.ov
    rw [hg]
    exact q1
  have hTw : RTAt w' { S.ts[k] with ks := S.ts[k].ks ++ [o.key], ka := ka', kc := kc' } := by
    refine ⟨ownsRow_chg hT.wr q3 (fun b e hi => ?_), by simpa [RT.kv] using q2, ownsRow_chg hT.pr q3 (fun b e hi => ?_)⟩
    · have hb : b ∈ vb S.ts[k].wv := vb_mem.2 e
      rcases hi with hi | hi
      · exact hgk b (by simp [RT.blocks, hb]) hi
      · exact m3 b hb b (by simp [vb_mem, RT.kv, hi]) rfl
    · have hb : b ∈ vb S.ts[k].pv := vb_mem.2 e
      rcases hi with hi | hi
      · exact hgk b (by simp [RT.blocks, hb]) hi
      · exact m4 b (vb_mem.2 hi) b hb rfl
  have hbl' : ({ S.ts[k] with ks := S.ts[k].ks ++ [o.key], ka := ka', kc := kc' } : RT).blocks = vb S.ts[k].wv ++ (vb (.slice ka' (S.ts[k].ks.length + 1) kc') ++ vb S.ts[k].pv) := by
    unfold RT.blocks
    rw [List.append_assoc]
    simp [RT.kv, RT.wv, RT.pv]
  have hset := h.setTx hk hc' hor' hTw (by
    rw [hbl']
    intro b hb
    simp only [List.mem_append] at hb
    rcases hb with hb | hb | hb
    · exact Or.inl (by simp [RT.blocks, hb])
    · rcases hx b hb with hb | hb
      · exact Or.inl (by simp [RT.blocks, hb])
      · exact Or.inr hb
    · exact Or.inl (by simp [RT.blocks, hb])) (by
    rw [hbl']
    exact nodup_swap (n := w.heap.size) hnd' (vb_nodup _) hx (fun b hb => hlt b (by simp [RT.blocks, hb])) (fun b hb => hlt b (by simp [RT.blocks, hb])))
  refine ⟨{ S with ts := S.ts.set k { S.ts[k] with ks := S.ts[k].ks ++ [o.key], ka := ka', kc := kc' } }, .slice none 0 0, rfl, World.ownsRow_nil _ _ _ _, ?_, rfl, hset⟩
  simp only [RSt.abs, map_set_abs]
  rfl
end Go.Proofs.YtkfjafndplmdkaaGreat
namespace Go.Proofs.YtkfjafndplmdkaaGreat
open Go.RowKit Go.Sort
set_option maxHeartbeats 400000 in
theorem of_scan (S : RSt) (k : Nat) (o : OpM) (w : World) (h : RInv w S) (hf : RFit S) (hk : k < S.ts.length) (hkd : o.kind = 3) :
    Calls Tryz.prog 52 #[.pointer (some ⟨S.wb, 0, none⟩), .int .i64 k, o.v] w (RPost w S (ofM S.abs k S.ts[k].abs o).1 (ofM S.abs k S.ts[k].abs o).2) := by
  obtain ⟨g, hg, hvg⟩ := h.open hk
  have hT := h.ts _ (List.getElem_mem hk)
  have hft := hf.tx _ (List.getElem_mem hk)
  obtain ⟨hnd, hap⟩ := h.parts hk
  have hwb := h.wb
  have hor := h.or
  have hlr := h.lr
  unfold RSt.ov at hwb hor
  unfold RSt.lv at hwb hlr
  rw [hg] at hwb hor
  have hkd4 : ¬ ((o.kind = 2 ∨ o.kind = 4 ∨ o.kind = 5) ∧ (o.key.size < 1 ∨ 8 < o.key.size)) := fun h => by omega
  have e : ofM S.abs k S.ts[k].abs o = (⟨0, 0, false, ⟨#[]⟩, itemsR S.ts[k].ws S.L S.ts[k].start (keysC (S.L ++ S.ts[k].ws) o.key), [], []⟩, { S.abs with ts := S.abs.ts.set k { S.ts[k].abs with ps := S.ts[k].ps ++ [o.key] } }) := by
    unfold ofM
    rw [if_neg hkd4, if_neg (by omega), if_pos hkd]
    rfl
  rw [e]
  refine (of_scan_low S.wb g k S.oc S.lc S.la S.ts[k].start S.ts[k].ws S.ts[k].wa S.ts[k].wc S.ts[k].ks S.ts[k].ka S.ts[k].kc S.ts[k].pa S.ts[k].ps S.ts[k].pc S.L S.ts o w hkd hk (List.getElem?_eq_getElem hk) hwb hor hT.pr hft.2.2 hlr hT.wr hf.L hft.1).mono ?_
  rintro en w' ⟨it, rfl, ⟨K, hK, hit⟩, pa', pc', q1, q2, q3, q4⟩
  rw [keysC_eq hK]
  have hc' : Chg (fun b => b ∈ vb S.ov ∨ b ∈ S.ts[k].blocks) w w' := q3.mono (fun i _ hi => by
    rcases hi with rfl | hi
    · exact Or.inl (by rw [hvg]; simp)
    · exact Or.inr (by simp [RT.blocks, vb_mem, RT.pv, hi]))
  have hgk : ∀ b ∈ S.ts[k].blocks, b ≠ g := fun b hb e => (hap b hb).2.2 (by rw [hvg, e]; simp)
  have hnd' : ((vb S.ts[k].wv ++ vb S.ts[k].kv) ++ (vb S.ts[k].pv ++ [])).Nodup := by
    have := hnd
    unfold RT.blocks at this
    rwa [List.append_nil]
  obtain ⟨_, _, m3⟩ := List.nodup_append.1 hnd'
  have hlt := hT.lt
  have hx : ∀ b ∈ vb (.slice pa' (S.ts[k].ps.length + 1) pc'), b ∈ vb S.ts[k].pv ∨ w.heap.size ≤ b := fun b hb => by
    rcases q4 with q4 | q4
    · exact Or.inl (by rw [vb_eq q4] at hb; exact hb)
    · exact Or.inr (q4 b (vb_mem.1 hb))
  have hor' : w'.ownsRow 0 97 4 S.ov S.ts.length (rtCells (S.ts.set k { S.ts[k] with ps := S.ts[k].ps ++ [o.key], pa := pa', pc := pc' })) := by
    unfold RSt.ov
    rw [hg]
    exact q1
  have hTw : RTAt w' { S.ts[k] with ps := S.ts[k].ps ++ [o.key], pa := pa', pc := pc' } := by
    refine ⟨ownsRow_chg hT.wr q3 (fun b e hi => ?_), ownsRow_chg hT.kr q3 (fun b e hi => ?_), by simpa [RT.pv] using q2⟩
    · have hb : b ∈ vb S.ts[k].wv := vb_mem.2 e
      rcases hi with hi | hi
      · exact hgk b (by simp [RT.blocks, hb]) hi
      · exact m3 b (by simp [hb]) b (by simp [vb_mem, RT.pv, hi]) rfl
    · have hb : b ∈ vb S.ts[k].kv := vb_mem.2 e
      rcases hi with hi | hi
      · exact hgk b (by simp [RT.blocks, hb]) hi
      · exact m3 b (by simp [hb]) b (by simp [vb_mem, RT.pv, hi]) rfl
  have hbl' : ({ S.ts[k] with ps := S.ts[k].ps ++ [o.key], pa := pa', pc := pc' } : RT).blocks = (vb S.ts[k].wv ++ vb S.ts[k].kv) ++ (vb (.slice pa' (S.ts[k].ps.length + 1) pc') ++ []) := by
    unfold RT.blocks
    simp [RT.kv, RT.wv, RT.pv]
  have hset := h.setTx hk hc' hor' hTw (by
    rw [hbl']
    intro b hb
    simp only [List.mem_append, List.append_nil] at hb
    rcases hb with hb | hb
    · exact Or.inl (by simp only [RT.blocks, List.mem_append]; exact Or.inl hb)
    · rcases hx b hb with hb | hb
      · exact Or.inl (by simp [RT.blocks, hb])
      · exact Or.inr hb) (by
    rw [hbl']
    exact nodup_swap (n := w.heap.size) hnd' (vb_nodup _) hx (fun b hb => hlt b (by simp only [RT.blocks, List.mem_append]; exact Or.inl (List.mem_append.1 hb))) (fun b hb => by simp at hb))
  refine ⟨{ S with ts := S.ts.set k { S.ts[k] with ps := S.ts[k].ps ++ [o.key], pa := pa', pc := pc' } }, it, rfl, ownsRow_base hit (by omega), ?_, rfl, hset⟩
  simp only [RSt.abs, map_set_abs]
  rfl
set_option maxHeartbeats 400000 in
theorem of_put (S : RSt) (k : Nat) (o : OpM) (w : World) (h : RInv w S) (hf : RFit S) (hk : k < S.ts.length) (hkd : o.kind = 4) (hk1 : 1 ≤ o.key.size) (hk8 : o.key.size ≤ 8) (hv : o.val.size ≤ 20) :
    Calls Tryz.prog 52 #[.pointer (some ⟨S.wb, 0, none⟩), .int .i64 k, o.v] w (RPost w S (ofM S.abs k S.ts[k].abs o).1 (ofM S.abs k S.ts[k].abs o).2) := by
  obtain ⟨g, hg, hvg⟩ := h.open hk
  have hT := h.ts _ (List.getElem_mem hk)
  have hft := hf.tx _ (List.getElem_mem hk)
  obtain ⟨hnd, hap⟩ := h.parts hk
  have hwb := h.wb
  have hor := h.or
  unfold RSt.ov at hwb hor
  rw [hg] at hwb hor
  have hkd4 : ¬ ((o.kind = 2 ∨ o.kind = 4 ∨ o.kind = 5) ∧ (o.key.size < 1 ∨ 8 < o.key.size)) := fun h => by omega
  have e : ofM S.abs k S.ts[k].abs o = (errA 0, { S.abs with ts := S.abs.ts.set k { S.ts[k].abs with ws := writeM S.ts[k].ws ⟨o.key, 0, o.val, false⟩ } }) := by
    unfold ofM
    rw [if_neg hkd4, if_neg (by omega), if_neg (by omega), if_pos hkd, if_neg (by omega)]
    rfl
  rw [e]
  refine (of_put_low S.wb g k S.oc S.ts[k].start S.ts[k].ws S.ts[k].wa S.ts[k].wc S.ts[k].ks S.ts[k].ka S.ts[k].kc S.ts[k].pa S.ts[k].ps S.ts[k].pc S.ts o w hkd hk1 hk8 hv hk (List.getElem?_eq_getElem hk) hwb hor hT.wr hft.1).mono ?_
  rintro en w' ⟨rfl, wa', wc', q1, q2, q3⟩
  have hc' : Chg (fun b => b ∈ vb S.ov ∨ b ∈ S.ts[k].blocks) w w' := q3.mono (fun i _ hi => by
    exact Or.inl (by rw [hvg, hi]; simp))
  have hgk : ∀ b ∈ S.ts[k].blocks, b ≠ g := fun b hb e => (hap b hb).2.2 (by rw [hvg, e]; simp)
  have hnd' : ([] ++ (vb S.ts[k].wv ++ (vb S.ts[k].kv ++ vb S.ts[k].pv))).Nodup := by
    have := hnd
    unfold RT.blocks at this
    rwa [List.append_assoc] at this
  have hlt := hT.lt
  have hx : ∀ b ∈ vb (.slice wa' (writeM S.ts[k].ws ⟨o.key, 0, o.val, false⟩).length wc'), b ∈ vb S.ts[k].wv ∨ w.heap.size ≤ b := fun b hb => Or.inr (q2.lt b (vb_mem.1 hb)).1
  have hor' : w'.ownsRow 0 97 4 S.ov S.ts.length (rtCells (S.ts.set k { S.ts[k] with ws := writeM S.ts[k].ws ⟨o.key, 0, o.val, false⟩, wa := wa', wc := wc' })) := by
    unfold RSt.ov
    rw [hg]
    exact q1
  have hTw : RTAt w' { S.ts[k] with ws := writeM S.ts[k].ws ⟨o.key, 0, o.val, false⟩, wa := wa', wc := wc' } := by
    refine ⟨ownsRow_base q2 (Nat.zero_le _), ownsRow_chg hT.kr q3 (fun b e hi => ?_), ownsRow_chg hT.pr q3 (fun b e hi => ?_)⟩
    · have hb : b ∈ vb S.ts[k].kv := vb_mem.2 e
      exact hgk b (by simp [RT.blocks, hb]) hi
    · have hb : b ∈ vb S.ts[k].pv := vb_mem.2 e
      exact hgk b (by simp [RT.blocks, hb]) hi
  have hbl' : ({ S.ts[k] with ws := writeM S.ts[k].ws ⟨o.key, 0, o.val, false⟩, wa := wa', wc := wc' } : RT).blocks = [] ++ (vb (.slice wa' (writeM S.ts[k].ws ⟨o.key, 0, o.val, false⟩).length wc') ++ (vb S.ts[k].kv ++ vb S.ts[k].pv)) := by
    unfold RT.blocks
    rw [List.append_assoc]
    rfl
  have hset := h.setTx hk hc' hor' hTw (by
    rw [hbl']
    intro b hb
    simp only [List.mem_append, List.nil_append] at hb
    rcases hb with hb | hb | hb
    · rcases hx b hb with hb | hb
      · exact Or.inl (by simp [RT.blocks, hb])
      · exact Or.inr hb
    · exact Or.inl (by simp [RT.blocks, hb])
    · exact Or.inl (by simp [RT.blocks, hb])) (by
    rw [hbl']
    exact nodup_swap (n := w.heap.size) hnd' (vb_nodup _) hx (fun b hb => by simp at hb) (fun b hb => hlt b (by rcases List.mem_append.1 hb with hb | hb <;> simp [RT.blocks, hb])))
  refine ⟨{ S with ts := S.ts.set k { S.ts[k] with ws := writeM S.ts[k].ws ⟨o.key, 0, o.val, false⟩, wa := wa', wc := wc' } }, .slice none 0 0, rfl, World.ownsRow_nil _ _ _ _, ?_, rfl, hset⟩
  simp only [RSt.abs, map_set_abs]
  rfl
set_option maxHeartbeats 400000 in
theorem of_del (S : RSt) (k : Nat) (o : OpM) (w : World) (h : RInv w S) (hf : RFit S) (hk : k < S.ts.length) (hkd : o.kind = 5) (hk1 : 1 ≤ o.key.size) (hk8 : o.key.size ≤ 8) :
    Calls Tryz.prog 52 #[.pointer (some ⟨S.wb, 0, none⟩), .int .i64 k, o.v] w (RPost w S (ofM S.abs k S.ts[k].abs o).1 (ofM S.abs k S.ts[k].abs o).2) := by
  obtain ⟨g, hg, hvg⟩ := h.open hk
  have hT := h.ts _ (List.getElem_mem hk)
  have hft := hf.tx _ (List.getElem_mem hk)
  obtain ⟨hnd, hap⟩ := h.parts hk
  have hwb := h.wb
  have hor := h.or
  unfold RSt.ov at hwb hor
  rw [hg] at hwb hor
  have hkd4 : ¬ ((o.kind = 2 ∨ o.kind = 4 ∨ o.kind = 5) ∧ (o.key.size < 1 ∨ 8 < o.key.size)) := fun h => by omega
  have e : ofM S.abs k S.ts[k].abs o = (errA 0, { S.abs with ts := S.abs.ts.set k { S.ts[k].abs with ws := writeM S.ts[k].ws ⟨o.key, 0, ⟨#[]⟩, true⟩ } }) := by
    unfold ofM
    rw [if_neg hkd4, if_neg (by omega), if_neg (by omega), if_neg (by omega), if_pos hkd]
    rfl
  rw [e]
  refine (of_del_low S.wb g k S.oc S.ts[k].start S.ts[k].ws S.ts[k].wa S.ts[k].wc S.ts[k].ks S.ts[k].ka S.ts[k].kc S.ts[k].pa S.ts[k].ps S.ts[k].pc S.ts o w hkd hk1 hk8 hk (List.getElem?_eq_getElem hk) hwb hor hT.wr hft.1).mono ?_
  rintro en w' ⟨rfl, wa', wc', q1, q2, q3⟩
  have hc' : Chg (fun b => b ∈ vb S.ov ∨ b ∈ S.ts[k].blocks) w w' := q3.mono (fun i _ hi => by
    exact Or.inl (by rw [hvg, hi]; simp))
  have hgk : ∀ b ∈ S.ts[k].blocks, b ≠ g := fun b hb e => (hap b hb).2.2 (by rw [hvg, e]; simp)
  have hnd' : ([] ++ (vb S.ts[k].wv ++ (vb S.ts[k].kv ++ vb S.ts[k].pv))).Nodup := by
    have := hnd
    unfold RT.blocks at this
    rwa [List.append_assoc] at this
  have hlt := hT.lt
  have hx : ∀ b ∈ vb (.slice wa' (writeM S.ts[k].ws ⟨o.key, 0, ⟨#[]⟩, true⟩).length wc'), b ∈ vb S.ts[k].wv ∨ w.heap.size ≤ b := fun b hb => Or.inr (q2.lt b (vb_mem.1 hb)).1
  have hor' : w'.ownsRow 0 97 4 S.ov S.ts.length (rtCells (S.ts.set k { S.ts[k] with ws := writeM S.ts[k].ws ⟨o.key, 0, ⟨#[]⟩, true⟩, wa := wa', wc := wc' })) := by
    unfold RSt.ov
    rw [hg]
    exact q1
  have hTw : RTAt w' { S.ts[k] with ws := writeM S.ts[k].ws ⟨o.key, 0, ⟨#[]⟩, true⟩, wa := wa', wc := wc' } := by
    refine ⟨ownsRow_base q2 (Nat.zero_le _), ownsRow_chg hT.kr q3 (fun b e hi => ?_), ownsRow_chg hT.pr q3 (fun b e hi => ?_)⟩
    · have hb : b ∈ vb S.ts[k].kv := vb_mem.2 e
      exact hgk b (by simp [RT.blocks, hb]) hi
    · have hb : b ∈ vb S.ts[k].pv := vb_mem.2 e
      exact hgk b (by simp [RT.blocks, hb]) hi
  have hbl' : ({ S.ts[k] with ws := writeM S.ts[k].ws ⟨o.key, 0, ⟨#[]⟩, true⟩, wa := wa', wc := wc' } : RT).blocks = [] ++ (vb (.slice wa' (writeM S.ts[k].ws ⟨o.key, 0, ⟨#[]⟩, true⟩).length wc') ++ (vb S.ts[k].kv ++ vb S.ts[k].pv)) := by
    unfold RT.blocks
    rw [List.append_assoc]
    rfl
  have hset := h.setTx hk hc' hor' hTw (by
    rw [hbl']
    intro b hb
    simp only [List.mem_append, List.nil_append] at hb
    rcases hb with hb | hb | hb
    · rcases hx b hb with hb | hb
      · exact Or.inl (by simp [RT.blocks, hb])
      · exact Or.inr hb
    · exact Or.inl (by simp [RT.blocks, hb])
    · exact Or.inl (by simp [RT.blocks, hb])) (by
    rw [hbl']
    exact nodup_swap (n := w.heap.size) hnd' (vb_nodup _) hx (fun b hb => by simp at hb) (fun b hb => hlt b (by rcases List.mem_append.1 hb with hb | hb <;> simp [RT.blocks, hb])))
  refine ⟨{ S with ts := S.ts.set k { S.ts[k] with ws := writeM S.ts[k].ws ⟨o.key, 0, ⟨#[]⟩, true⟩, wa := wa', wc := wc' } }, .slice none 0 0, rfl, World.ownsRow_nil _ _ _ _, ?_, rfl, hset⟩
  simp only [RSt.abs, map_set_abs]
  rfl
end Go.Proofs.YtkfjafndplmdkaaGreat
namespace Go.Proofs.YtkfjafndplmdkaaGreat
open Go.RowKit Go.Sort
theorem rflat_sub (p : RT → Bool) : ∀ ts : List RT, ((ts.filter p).flatMap RT.blocks).Sublist (ts.flatMap RT.blocks)
  | [] => List.Sublist.refl _
  | x :: r => by
    by_cases h : p x
    · rw [List.filter_cons_of_pos h, List.flatMap_cons, List.flatMap_cons]
      exact (List.Sublist.refl _).append (rflat_sub p r)
    · rw [List.filter_cons_of_neg h, List.flatMap_cons]
      exact (rflat_sub p r).trans (List.sublist_append_right _ _)
/-- another list of open ones, in new memory, of those that were there. -/
theorem RInv.setOpen {w w' : World} {S : RSt} {ts' : List RT} {oa' : Option Addr} {oc' : Nat} (h : RInv w S) (hsub : (ts'.flatMap RT.blocks).Sublist (S.ts.flatMap RT.blocks)) (hmem : ∀ T ∈ ts', T ∈ S.ts)
    (hb : w'.heap[S.wb]? = some (.cells #[.int .i64 S.clock, S.lv, .slice oa' ts'.length oc', S.qv, S.rv, .int .i64 S.low] 79)) (ho : w'.ownsRow w.heap.size 97 4 (.slice oa' ts'.length oc') ts'.length (rtCells ts')) (hc : Chg (fun b => b = S.wb) w w') :
    ROk w S w' { S with ts := ts', oa := oa', oc := oc' } := by
  have hnd := h.nd
  have e0 : S.blocks = (S.wb :: S.others) ++ (vb S.ov ++ S.ts.flatMap RT.blocks) := by simp [RSt.blocks]
  have hlt := h.lt
  rw [e0] at hnd hlt
  obtain ⟨n1, n2, n3⟩ := List.nodup_append.1 hnd
  have hwo : S.wb ∉ S.others := (List.nodup_cons.1 n1).1
  have hwt : ∀ T ∈ S.ts, ∀ b ∈ T.blocks, b ≠ S.wb := fun T hT b hb e => n3 S.wb (by simp) b (List.mem_append.2 (Or.inr (List.mem_flatMap.2 ⟨T, hT, hb⟩))) e.symm
  have keepRow : ∀ {e : TypeId} {size : Nat} {v : Value} {n : Nat} {xs : List Value}, w.ownsRow 0 e size v n xs → vb v ⊆ S.others → w'.ownsRow 0 e size v n xs := fun hr hv =>
    ownsRow_chg hr hc (fun g e (h1 : g = S.wb) => hwo (h1 ▸ hv (vb_mem.2 e)))
  have hfresh : ∀ b ∈ vb (.slice oa' ts'.length oc'), b ∈ vb S.ov ∨ w.heap.size ≤ b := fun b hb => Or.inr (ho.lt b (vb_mem.1 hb)).1
  have hnd2 : ((S.wb :: S.others) ++ (vb (.slice oa' ts'.length oc') ++ S.ts.flatMap RT.blocks)).Nodup := nodup_swap (n := w.heap.size) hnd (vb_nodup _) hfresh (fun b hb => hlt b (List.mem_append.2 (Or.inl hb))) (fun b hb => hlt b (List.mem_append.2 (Or.inr (List.mem_append.2 (Or.inr hb)))))
  have e1 : ({ S with ts := ts', oa := oa', oc := oc' } : RSt).blocks = (S.wb :: S.others) ++ (vb (.slice oa' ts'.length oc') ++ ts'.flatMap RT.blocks) := by
    show S.wb :: (S.others ++ vb (.slice oa' ts'.length oc')) ++ ts'.flatMap RT.blocks = _
    simp
  refine ⟨⟨hb, keepRow h.lr ?_, ownsRow_base ho (Nat.zero_le _), keepRow h.qr ?_, keepRow h.rr ?_, fun T hT => (h.ts T (hmem T hT)).chg hc (fun b hb => hwt T (hmem T hT) b hb), ?_⟩, ?_, ?_⟩
  · intro x hx; replace hx : x ∈ vb S.lv := hx; simp [RSt.others, hx]
  · intro x hx; replace hx : x ∈ vb S.qv := hx; simp [RSt.others, hx]
  · intro x hx; replace hx : x ∈ vb S.rv := hx; simp [RSt.others, hx]
  · rw [e1]
    exact hnd2.sublist ((List.Sublist.refl _).append ((List.Sublist.refl _).append hsub))
  · rw [e1, e0]
    intro b hb
    rcases List.mem_append.1 hb with h1 | h1
    · exact Or.inl (List.mem_append.2 (Or.inl h1))
    · rcases List.mem_append.1 h1 with h2 | h2
      · exact Or.inr (ho.lt b (vb_mem.1 h2)).1
      · exact Or.inl (List.mem_append.2 (Or.inr (List.mem_append.2 (Or.inr (hsub.subset h2)))))
  · exact hc.mono (fun i _ (hi : i = S.wb) => by rw [e0, hi]; simp)
set_option maxHeartbeats 400000 in
theorem of_drop (S : RSt) (k : Nat) (o : OpM) (w : World) (h : RInv w S) (hf : RFit S) (hk : k < S.ts.length) (hkd : o.kind = 6) :
    Calls Tryz.prog 52 #[.pointer (some ⟨S.wb, 0, none⟩), .int .i64 k, o.v] w (RPost w S (ofM S.abs k S.ts[k].abs o).1 (ofM S.abs k S.ts[k].abs o).2) := by
  obtain ⟨g, hg, hvg⟩ := h.open hk
  have hwb := h.wb
  have hor := h.or
  unfold RSt.ov at hwb hor
  rw [hg] at hwb hor
  have e : ofM S.abs k S.ts[k].abs o = (errA 0, { S.abs with ts := S.abs.ts.filter (fun x => decide (x.start ≠ S.ts[k].start)) }) := by
    unfold ofM
    rw [if_neg (by omega), if_neg (by omega), if_neg (by omega), if_neg (by omega), if_neg (by omega), if_pos hkd]
    rfl
  rw [e]
  refine (of_drop_low S.wb g k S.oc S.ts[k].start S.ts[k].ws S.ts[k].wa S.ts[k].wc S.ts[k].ks S.ts[k].ka S.ts[k].kc S.ts[k].pa S.ts[k].ps S.ts[k].pc S.ts o w hkd hf.ts hk (List.getElem?_eq_getElem hk) hwb hor).mono ?_
  rintro en w' ⟨rfl, oa', oc', q1, q2, q3⟩
  refine ⟨{ S with ts := lessRT S.ts S.ts[k].start, oa := oa', oc := oc' }, .slice none 0 0, rfl, World.ownsRow_nil _ _ _ _, ?_, rfl, h.setOpen (rflat_sub _ _) (fun T hT => (List.mem_filter.1 hT).1) q1 q2 q3⟩
  simp only [RSt.abs, filter_abs]
theorem of_err (S : RSt) (k : Nat) (o : OpM) (w : World) (h : RInv w S) (hk : k < S.ts.length) (hkd : o.kind = 2 ∨ o.kind = 4 ∨ o.kind = 5) (hbad : o.key.size < 1 ∨ 8 < o.key.size) :
    Calls Tryz.prog 52 #[.pointer (some ⟨S.wb, 0, none⟩), .int .i64 k, o.v] w (RPost w S (ofM S.abs k S.ts[k].abs o).1 (ofM S.abs k S.ts[k].abs o).2) := by
  obtain ⟨g, hg, hvg⟩ := h.open hk
  have hwb := h.wb
  have hor := h.or
  unfold RSt.ov at hwb hor
  rw [hg] at hwb hor
  have e : ofM S.abs k S.ts[k].abs o = (errA 4, S.abs) := by
    unfold ofM
    rw [if_pos ⟨hkd, hbad⟩]
  rw [e]
  refine (of_badkey_low S.wb g k S.oc S.ts[k].start S.ts[k].ws S.ts[k].wa S.ts[k].wc S.ts[k].ks S.ts[k].ka S.ts[k].kc S.ts[k].pa S.ts[k].ps S.ts[k].pc S.ts o w hkd hbad hk (List.getElem?_eq_getElem hk) hwb hor).mono ?_
  rintro en w' ⟨rfl, hc⟩
  exact rpost_err h hc 4
theorem of_val (S : RSt) (k : Nat) (o : OpM) (w : World) (h : RInv w S) (hk : k < S.ts.length) (hkd : o.kind = 4) (hk1 : 1 ≤ o.key.size) (hk8 : o.key.size ≤ 8) (hv : 20 < o.val.size) :
    Calls Tryz.prog 52 #[.pointer (some ⟨S.wb, 0, none⟩), .int .i64 k, o.v] w (RPost w S (ofM S.abs k S.ts[k].abs o).1 (ofM S.abs k S.ts[k].abs o).2) := by
  obtain ⟨g, hg, hvg⟩ := h.open hk
  have hwb := h.wb
  have hor := h.or
  unfold RSt.ov at hwb hor
  rw [hg] at hwb hor
  have e : ofM S.abs k S.ts[k].abs o = (errA 5, S.abs) := by
    unfold ofM
    rw [if_neg (by omega), if_neg (by omega), if_neg (by omega), if_pos hkd, if_pos hv]
  rw [e]
  refine (of_badval_low S.wb g k S.oc S.ts[k].start S.ts[k].ws S.ts[k].wa S.ts[k].wc S.ts[k].ks S.ts[k].ka S.ts[k].kc S.ts[k].pa S.ts[k].ps S.ts[k].pc S.ts o w hkd hk1 hk8 hv hk (List.getElem?_eq_getElem hk) hwb hor).mono ?_
  rintro en w' ⟨rfl, hc⟩
  exact rpost_err h hc 5
/-- EVERY STEP OF A TRANSACTION, but COMMIT. -/
theorem of_any (S : RSt) (k : Nat) (o : OpM) (w : World) (h : RInv w S) (hf : RFit S) (hk : k < S.ts.length) (hkd : 2 ≤ o.kind ∧ o.kind ≤ 6) :
    Calls Tryz.prog 52 #[.pointer (some ⟨S.wb, 0, none⟩), .int .i64 k, o.v] w (RPost w S (ofM S.abs k S.ts[k].abs o).1 (ofM S.abs k S.ts[k].abs o).2) := by
  by_cases hb : (o.kind = 2 ∨ o.kind = 4 ∨ o.kind = 5) ∧ (o.key.size < 1 ∨ 8 < o.key.size)
  · exact of_err S k o w h hk hb.1 hb.2
  · have h5 : o.kind = 2 ∨ o.kind = 3 ∨ o.kind = 4 ∨ o.kind = 5 ∨ o.kind = 6 := by omega
    rcases h5 with e | e | e | e | e
    · exact of_get S k o w h hf hk e (by omega) (by omega)
    · exact of_scan S k o w h hf hk e
    · by_cases hv : 20 < o.val.size
      · exact of_val S k o w h hk e (by omega) (by omega) hv
      · exact of_put S k o w h hf hk e (by omega) (by omega) (by omega)
    · exact of_del S k o w h hf hk e (by omega) (by omega)
    · exact of_drop S k o w h hf hk e
end Go.Proofs.YtkfjafndplmdkaaGreat
