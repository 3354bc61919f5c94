import Derived.Test.YtcpjocgpahjcjaaRJ
namespace Go.Proofs.Ytcpjocgpahjcjaa
open Go.RowKit Go.Sort
set_option maxRecDepth 100000 in
set_option maxHeartbeats 1000000 in
theorem of_put_low {v0 v1 v3 v4 v5 : Value} (wb g k oc : Nat) (st : Int) (ws : List Ver) (wa : Option Addr) (wc : Nat) (ks : List ByteArray) (ka : Option Addr) (kc : Nat) (pa : Option Addr) (ps : List ByteArray) (pc : Nat) (ts : List RT) (o : OpM) (w : World)
    (hkd : o.kind = 4) (hk1 : 1 ≤ o.key.size) (hk8 : o.key.size ≤ 8) (hv : o.val.size ≤ 20) (hkn : k < ts.length)
    (hT : ts[k]? = some ⟨st, ws, wa, wc, ks, ka, kc, ps, pa, pc⟩)
    (hb : w.heap[wb]? = some (.cells #[v0, v1, .slice (some ⟨g, 0, none⟩) ts.length oc, v3, v4, v5] 54))
    (hor : w.ownsRow 0 66 4 (.slice (some ⟨g, 0, none⟩) ts.length oc) ts.length (rtCells ts))
    (hwr : w.ownsRow 0 72 4 (.slice wa ws.length wc) ws.length (verCells ws)) (hws : ws.length ≤ 2000000) :
    Calls Try.prog 29 #[.pointer (some ⟨wb, 0, none⟩), .int .i64 k, o.v] w fun e w' => e = .returned (ansV 0 0 false ⟨#[]⟩ (.slice none 0 0)) ∧
      ∃ wa' wc', w'.ownsRow 0 66 4 (.slice (some ⟨g, 0, none⟩) ts.length oc) ts.length (rtCells (ts.set k ⟨st, writeM ws ⟨o.key, 0, o.val, false⟩, wa', wc', ks, ka, kc, ps, pa, pc⟩)) ∧ w'.ownsRow w.heap.size 72 4 (.slice wa' (writeM ws ⟨o.key, 0, o.val, false⟩).length wc') (writeM ws ⟨o.key, 0, o.val, false⟩).length (verCells (writeM ws ⟨o.key, 0, o.val, false⟩)) ∧ Chg (fun b => b = g) w w' := by
  have b1 : decide ((o.key.size : Int) < 1) = false := decide_eq_false (by omega)
  have b2 : decide ((8 : Int) < (o.key.size : Int)) = false := decide_eq_false (by omega)
  have b3 : decide ((20 : Int) < (o.val.size : Int)) = false := decide_eq_false (by omega)
  have hgb : ∃ cur, w.heap[g]? = some (.cells cur 66) := by
    rcases hor.2 with ⟨e, _⟩ | ⟨g', cap, cur, e, _, h, _⟩
    · cases e
    · cases e; exact ⟨cur, h⟩
  obtain ⟨cur, hgb⟩ := hgb
  have hgl := lt_of_block hgb
  have hwl := lt_of_block hb
  have x2 := cell_of hb (i := 2) (v := .slice (some ⟨g, 0, none⟩) ts.length oc) rfl
  have hTk : ts[k] = ⟨st, ws, wa, wc, ks, ka, kc, ps, pa, pc⟩ := by have := List.getElem?_eq_getElem hkn; rw [hT] at this; exact (Option.some.inj this).symm
  obtain ⟨c0, c1, c2, c3⟩ := rt_at hor k hkn
  rw [hTk] at c0 c1 c2 c3
  simp only at c0 c1 c2 c3
  have hkd' : (o.kind == 4) = true := beq_iff_eq.2 hkd
  have HR : Hid (w.ownsRow 0 72 4 (.slice wa ws.length wc) ws.length (verCells ws) ∧ w.ownsRow 0 66 4 (.slice (some ⟨g, 0, none⟩) ts.length oc) ts.length (rtCells ts)) := ⟨hwr, hor⟩
  have HB : Hid (w.heap[wb]? = some (.cells #[v0, v1, .slice (some ⟨g, 0, none⟩) ts.length oc, v3, v4, v5] 54)) := hb
  clear hwr hor hT hTk hb hgb
  go_enter Try.func29, Try.ntmps29
  go_wp2_with fail
  have hc4 := four_chg w o 4 st (.slice wa ws.length wc) (.slice ka ks.length kc) (.slice pa ps.length pc)
  have HW := rwrite_any 0 wc wa ws ⟨o.key, 0, o.val, false⟩ (four w o 4 st (.slice wa ws.length wc) (.slice ka ks.length kc) (.slice pa ps.length pc)) hws (ownsRow_chg HR.out.1 hc4 (fun _ _ h => h))
  unfold Ver.v at HW
  simp only at HW
  refine HW.mono ?_
  rintro e w5 ⟨v, rfl, hown5, hch⟩
  obtain ⟨wa', wc', rfl⟩ := row_form hown5
  clear HW
  have fE := five_keep (w := w) (A := opC o 4) (B := ans0) (C := txC st (.slice wa ws.length wc) (.slice ka ks.length kc) (.slice pa ps.length pc)) (D := ans0) (E := ans0) (w5 := (four w o 4 st (.slice wa ws.length wc) (.slice ka ks.length kc) (.slice pa ps.length pc)).alloc ans0) (row := none) ⟨rfl, rfl, rfl, Nat.le_refl _, fun _ _ _ => rfl⟩ (fun k e => by cases e)
  have hs4 : (four w o 4 st (.slice wa ws.length wc) (.slice ka ks.length kc) (.slice pa ps.length pc)).heap.size = w.heap.size + 1 + 1 + 1 + 1 := by simp
  have hk4 : ∀ b, b < w.heap.size + 1 + 1 + 1 + 1 → w5.heap[b]? = ((four w o 4 st (.slice wa ws.length wc) (.slice ka ks.length kc) (.slice pa ps.length pc)).alloc ans0).heap[b]? := fun b hb => (hch.block b (by rw [hs4]; exact hb) (fun h => h)).trans (Below.heap_alloc (four w o 4 st (.slice wa ws.length wc) (.slice ka ks.length kc) (.slice pa ps.length pc)) ans0 b (by rw [hs4]; exact hb)).symm
  obtain ⟨fA, fB, fC, fD⟩ := fE
  rw [← hk4 _ (by omega)] at fA fB fC fD
  have hc5 : Chg nobody w w5 := hc4.trans hch
  have hz5 : w.heap.size + 1 + 1 + 1 + 1 ≤ w5.heap.size := by have := hch.size; omega
  rw [hs4] at hown5
  have t1 := cell_of fC (i := 1) (v := .slice wa ws.length wc) rfl
  have tf := unfrozen_of fC 1
  have HQ : Hid (w5.heap[w.heap.size + 1]? = some ans0 ∧ w5.heap[w.heap.size + 1 + 1]? = some (txC st (.slice wa ws.length wc) (.slice ka ks.length kc) (.slice pa ps.length pc)) ∧ w5.heap[w.heap.size + 1 + 1 + 1]? = some ans0 ∧ w5.ownsRow (w.heap.size + 1 + 1 + 1 + 1) 72 4 (.slice wa' (writeM ws ⟨o.key, 0, o.val, false⟩).length wc') (writeM ws ⟨o.key, 0, o.val, false⟩).length (verCells (writeM ws ⟨o.key, 0, o.val, false⟩)) ∧ Chg nobody w w5) := ⟨fB, fC, fD, hown5, hc5⟩
  clear fA fB fC fD hown5 hc5 hk4 hs4 hch hc4 c0 c1 c2 c3 x2
  generalize hnw : (writeM ws ⟨o.key, 0, o.val, false⟩).length = nw at *
  have HNW : Hid ((writeM ws ⟨o.key, 0, o.val, false⟩).length = nw) := hnw
  clear hnw
  go_wp2
  obtain ⟨fB, fC, fD, hown5, hc5⟩ := HQ.out
  have hc8 := chg_set1 w5 (w.heap.size + 1 + 1) 1 (.slice wa' nw wc')
  have f8C := heap_setCell_same w5 (w.heap.size + 1 + 1) 1 _ 66 (.slice wa' nw wc') fC
  have f8B := (hc8.block _ (lt_of_block fB) (fun (h : _ = _) => by omega)).trans fB
  have f8D := (hc8.block _ (lt_of_block fD) (fun (h : _ = _) => by omega)).trans fD
  have hown8 := ownsRow_chg hown5 hc8 (fun b e (h : b = _) => by have := (hown5.lt b e).1; omega)
  have hcc8 : Chg nobody w (w5.setCell ⟨w.heap.size + 1 + 1, 1, none⟩ (.slice wa' nw wc')) := hc5.andThen hc8 (fun i hi (h : i = _) => by omega)
  have hb8 := (hcc8.block _ hwl (fun h => h)).trans HB.out
  have hor8 := ownsRow_chg HR.out.2 hcc8 (fun _ _ h => h)
  have HG : Hid (Chg (fun b => b = g) w (w5.setCell ⟨w.heap.size + 1 + 1, 1, none⟩ (.slice wa' nw wc'))) := hcc8.any _
  clear hc8 hcc8 fB fC fD hown5 hc5 HQ t1 tf
  generalize w5.setCell ⟨w.heap.size + 1 + 1, 1, none⟩ (.slice wa' nw wc') = w8 at *
  have y0 := cell_of f8C (i := 0) (v := .int .i64 st) rfl
  have y1 := cell_of f8C (i := 1) (v := .slice wa' nw wc') rfl
  have y2 := cell_of f8C (i := 2) (v := .slice ka ks.length kc) rfl
  have y3 := cell_of f8C (i := 3) (v := .slice pa ps.length pc) rfl
  have z2 := cell_of hb8 (i := 2) (v := .slice (some ⟨g, 0, none⟩) ts.length oc) rfl
  have q0 := hor8.frozenAt (k * 4)
  have q1 := hor8.frozenAt (k * 4 + 1)
  have q2 := hor8.frozenAt (k * 4 + 2)
  have q3 := hor8.frozenAt (k * 4 + 3)
  obtain ⟨c0, c1, c2, c3⟩ := rt_at hor8 k hkn
  have HP : Hid (w8.heap[w.heap.size + 1 + 1 + 1]? = some ans0 ∧ w8.heap[w.heap.size + 1]? = some ans0 ∧ w8.ownsRow 0 66 4 (.slice (some ⟨g, 0, none⟩) ts.length oc) ts.length (rtCells ts) ∧ w8.ownsRow (w.heap.size + 1 + 1 + 1 + 1) 72 4 (.slice wa' nw wc') nw (verCells (writeM ws ⟨o.key, 0, o.val, false⟩))) := ⟨f8D, f8B, hor8, hown8⟩
  clear f8D f8B hor8 hown8 f8C hb8
  go_region
  have hc9 := (chg_set4 w8 g k (.int .i64 st) (.slice wa' nw wc') (.slice ka ks.length kc) (.slice pa ps.length pc)).drew
  obtain ⟨f8D, f8B, hor8, hown8⟩ := HP.out
  have hor9 := row_drew (row_set4 ⟨st, writeM ws ⟨o.key, 0, o.val, false⟩, wa', wc', ks, ka, kc, ps, pa, pc⟩ hor8 hkn)
  simp only [RT.wv, RT.kv, RT.pv, HNW.out] at hor9
  have f9D := (hc9.block _ (lt_of_block f8D) (fun (h : _ = _) => by omega)).trans f8D
  have f9B := (hc9.block _ (lt_of_block f8B) (fun (h : _ = _) => by omega)).trans f8B
  have hown9 := ownsRow_chg hown8 hc9 (fun b e (h : b = _) => by have := (hown8.lt b e).1; omega)
  have hG9 : Hid (Chg (fun b => b = g) w (((((w8.setCell ⟨g, k * 4, none⟩ (.int .i64 st)).setCell ⟨g, k * 4 + 1, none⟩ (.slice wa' nw wc')).setCell ⟨g, k * 4 + 2, none⟩ (.slice ka ks.length kc)).setCell ⟨g, k * 4 + 3, none⟩ (.slice pa ps.length pc)).drew)) := HG.out.trans hc9
  clear hc9 f8D f8B hor8 hown8 HP HG y0 y1 y2 y3 z2 q0 q1 q2 q3 c0 c1 c2 c3
  generalize ((((w8.setCell ⟨g, k * 4, none⟩ (.int .i64 st)).setCell ⟨g, k * 4 + 1, none⟩ (.slice wa' nw wc')).setCell ⟨g, k * 4 + 2, none⟩ (.slice ka ks.length kc)).setCell ⟨g, k * 4 + 3, none⟩ (.slice pa ps.length pc)).drew = w9 at *
  obtain ⟨d0, d1, d2, d3, d4, d5, d6, _⟩ := cells7 f9D
  obtain ⟨k0, k1, k2, k3, k4, k5, k6, kf⟩ := cells7 f9B
  have HZ : Hid (w9.ownsRow 0 66 4 (.slice (some ⟨g, 0, none⟩) ts.length oc) ts.length (rtCells (ts.set k ⟨st, writeM ws ⟨o.key, 0, o.val, false⟩, wa', wc', ks, ka, kc, ps, pa, pc⟩)) ∧ w9.ownsRow (w.heap.size + 1 + 1 + 1 + 1) 72 4 (.slice wa' nw wc') nw (verCells (writeM ws ⟨o.key, 0, o.val, false⟩)) ∧ w9.heap[w.heap.size + 1]? = some ans0) := ⟨hor9, hown9, f9B⟩
  clear hor9 hown9 f9D f9B
  go_wp2
  obtain ⟨hor9, hown9, f9B⟩ := HZ.out
  obtain ⟨r0, r1, r2, r3, r4, r5, r6⟩ := set7 f9B rfl (.int .i64 0) (.int .i64 0) (.bool false) (.string ⟨#[]⟩) (.slice none 0 0) (.slice none 0 0) (.slice none 0 0)
  have hc10 := chg_set7 w9 (w.heap.size + 1) (.int .i64 0) (.int .i64 0) (.bool false) (.string ⟨#[]⟩) (.slice none 0 0) (.slice none 0 0) (.slice none 0 0)
  refine bodyPost_ret (v := ansV 0 0 false ⟨#[]⟩ (.slice none 0 0)) (by simp [results, Try.results29, go_sem, r0, r1, r2, r3, r4, r5, r6]) rfl ⟨rfl, wa', wc', ownsRow_chg hor9 hc10 ?_, ?_, hG9.out.andThen hc10 ?_⟩
  · exact fun b e (h : b = _) => by have e1 : g = b := (by simpa [Value.ownBlock] using e); omega
  · rw [HNW.out]
    exact ownsRow_base (ownsRow_chg hown9 hc10 (fun b e (h : b = _) => by have := (hown9.lt b e).1; omega)) (by omega)
  · exact fun i hi (h : i = _) => by omega
set_option maxRecDepth 100000 in
set_option maxHeartbeats 1000000 in
theorem of_del_low {v0 v1 v3 v4 v5 : Value} (wb g k oc : Nat) (st : Int) (ws : List Ver) (wa : Option Addr) (wc : Nat) (ks : List ByteArray) (ka : Option Addr) (kc : Nat) (pa : Option Addr) (ps : List ByteArray) (pc : Nat) (ts : List RT) (o : OpM) (w : World)
    (hkd : o.kind = 5) (hk1 : 1 ≤ o.key.size) (hk8 : o.key.size ≤ 8) (hkn : k < ts.length)
    (hT : ts[k]? = some ⟨st, ws, wa, wc, ks, ka, kc, ps, pa, pc⟩)
    (hb : w.heap[wb]? = some (.cells #[v0, v1, .slice (some ⟨g, 0, none⟩) ts.length oc, v3, v4, v5] 54))
    (hor : w.ownsRow 0 66 4 (.slice (some ⟨g, 0, none⟩) ts.length oc) ts.length (rtCells ts))
    (hwr : w.ownsRow 0 72 4 (.slice wa ws.length wc) ws.length (verCells ws)) (hws : ws.length ≤ 2000000) :
    Calls Try.prog 29 #[.pointer (some ⟨wb, 0, none⟩), .int .i64 k, o.v] w fun e w' => e = .returned (ansV 0 0 false ⟨#[]⟩ (.slice none 0 0)) ∧
      ∃ wa' wc', w'.ownsRow 0 66 4 (.slice (some ⟨g, 0, none⟩) ts.length oc) ts.length (rtCells (ts.set k ⟨st, writeM ws ⟨o.key, 0, ⟨#[]⟩, true⟩, wa', wc', ks, ka, kc, ps, pa, pc⟩)) ∧ w'.ownsRow w.heap.size 72 4 (.slice wa' (writeM ws ⟨o.key, 0, ⟨#[]⟩, true⟩).length wc') (writeM ws ⟨o.key, 0, ⟨#[]⟩, true⟩).length (verCells (writeM ws ⟨o.key, 0, ⟨#[]⟩, true⟩)) ∧ Chg (fun b => b = g) w w' := by
  have b1 : decide ((o.key.size : Int) < 1) = false := decide_eq_false (by omega)
  have b2 : decide ((8 : Int) < (o.key.size : Int)) = false := decide_eq_false (by omega)
  have hgb : ∃ cur, w.heap[g]? = some (.cells cur 66) := by
    rcases hor.2 with ⟨e, _⟩ | ⟨g', cap, cur, e, _, h, _⟩
    · cases e
    · cases e; exact ⟨cur, h⟩
  obtain ⟨cur, hgb⟩ := hgb
  have hgl := lt_of_block hgb
  have hwl := lt_of_block hb
  have x2 := cell_of hb (i := 2) (v := .slice (some ⟨g, 0, none⟩) ts.length oc) rfl
  have hTk : ts[k] = ⟨st, ws, wa, wc, ks, ka, kc, ps, pa, pc⟩ := by have := List.getElem?_eq_getElem hkn; rw [hT] at this; exact (Option.some.inj this).symm
  obtain ⟨c0, c1, c2, c3⟩ := rt_at hor k hkn
  rw [hTk] at c0 c1 c2 c3
  simp only at c0 c1 c2 c3
  have hkd' : (o.kind == 5) = true := beq_iff_eq.2 hkd
  have HR : Hid (w.ownsRow 0 72 4 (.slice wa ws.length wc) ws.length (verCells ws) ∧ w.ownsRow 0 66 4 (.slice (some ⟨g, 0, none⟩) ts.length oc) ts.length (rtCells ts)) := ⟨hwr, hor⟩
  have HB : Hid (w.heap[wb]? = some (.cells #[v0, v1, .slice (some ⟨g, 0, none⟩) ts.length oc, v3, v4, v5] 54)) := hb
  clear hwr hor hT hTk hb hgb
  go_enter Try.func29, Try.ntmps29
  go_wp2_with fail
  have hc4 := four_chg w o 5 st (.slice wa ws.length wc) (.slice ka ks.length kc) (.slice pa ps.length pc)
  have HW := rwrite_any 0 wc wa ws ⟨o.key, 0, ⟨#[]⟩, true⟩ (four w o 5 st (.slice wa ws.length wc) (.slice ka ks.length kc) (.slice pa ps.length pc)) hws (ownsRow_chg HR.out.1 hc4 (fun _ _ h => h))
  unfold Ver.v at HW
  simp only at HW
  refine HW.mono ?_
  rintro e w5 ⟨v, rfl, hown5, hch⟩
  obtain ⟨wa', wc', rfl⟩ := row_form hown5
  clear HW
  have fE := five_keep (w := w) (A := opC o 5) (B := ans0) (C := txC st (.slice wa ws.length wc) (.slice ka ks.length kc) (.slice pa ps.length pc)) (D := ans0) (E := ans0) (w5 := (four w o 5 st (.slice wa ws.length wc) (.slice ka ks.length kc) (.slice pa ps.length pc)).alloc ans0) (row := none) ⟨rfl, rfl, rfl, Nat.le_refl _, fun _ _ _ => rfl⟩ (fun k e => by cases e)
  have hs4 : (four w o 5 st (.slice wa ws.length wc) (.slice ka ks.length kc) (.slice pa ps.length pc)).heap.size = w.heap.size + 1 + 1 + 1 + 1 := by simp
  have hk4 : ∀ b, b < w.heap.size + 1 + 1 + 1 + 1 → w5.heap[b]? = ((four w o 5 st (.slice wa ws.length wc) (.slice ka ks.length kc) (.slice pa ps.length pc)).alloc ans0).heap[b]? := fun b hb => (hch.block b (by rw [hs4]; exact hb) (fun h => h)).trans (Below.heap_alloc (four w o 5 st (.slice wa ws.length wc) (.slice ka ks.length kc) (.slice pa ps.length pc)) ans0 b (by rw [hs4]; exact hb)).symm
  obtain ⟨fA, fB, fC, fD⟩ := fE
  rw [← hk4 _ (by omega)] at fA fB fC fD
  have hc5 : Chg nobody w w5 := hc4.trans hch
  have hz5 : w.heap.size + 1 + 1 + 1 + 1 ≤ w5.heap.size := by have := hch.size; omega
  rw [hs4] at hown5
  have t1 := cell_of fC (i := 1) (v := .slice wa ws.length wc) rfl
  have tf := unfrozen_of fC 1
  have HQ : Hid (w5.heap[w.heap.size + 1]? = some ans0 ∧ w5.heap[w.heap.size + 1 + 1]? = some (txC st (.slice wa ws.length wc) (.slice ka ks.length kc) (.slice pa ps.length pc)) ∧ w5.heap[w.heap.size + 1 + 1 + 1]? = some ans0 ∧ w5.ownsRow (w.heap.size + 1 + 1 + 1 + 1) 72 4 (.slice wa' (writeM ws ⟨o.key, 0, ⟨#[]⟩, true⟩).length wc') (writeM ws ⟨o.key, 0, ⟨#[]⟩, true⟩).length (verCells (writeM ws ⟨o.key, 0, ⟨#[]⟩, true⟩)) ∧ Chg nobody w w5) := ⟨fB, fC, fD, hown5, hc5⟩
  clear fA fB fC fD hown5 hc5 hk4 hs4 hch hc4 c0 c1 c2 c3 x2
  generalize hnw : (writeM ws ⟨o.key, 0, ⟨#[]⟩, true⟩).length = nw at *
  have HNW : Hid ((writeM ws ⟨o.key, 0, ⟨#[]⟩, true⟩).length = nw) := hnw
  clear hnw
  go_wp2
  obtain ⟨fB, fC, fD, hown5, hc5⟩ := HQ.out
  have hc8 := chg_set1 w5 (w.heap.size + 1 + 1) 1 (.slice wa' nw wc')
  have f8C := heap_setCell_same w5 (w.heap.size + 1 + 1) 1 _ 66 (.slice wa' nw wc') fC
  have f8B := (hc8.block _ (lt_of_block fB) (fun (h : _ = _) => by omega)).trans fB
  have f8D := (hc8.block _ (lt_of_block fD) (fun (h : _ = _) => by omega)).trans fD
  have hown8 := ownsRow_chg hown5 hc8 (fun b e (h : b = _) => by have := (hown5.lt b e).1; omega)
  have hcc8 : Chg nobody w (w5.setCell ⟨w.heap.size + 1 + 1, 1, none⟩ (.slice wa' nw wc')) := hc5.andThen hc8 (fun i hi (h : i = _) => by omega)
  have hb8 := (hcc8.block _ hwl (fun h => h)).trans HB.out
  have hor8 := ownsRow_chg HR.out.2 hcc8 (fun _ _ h => h)
  have HG : Hid (Chg (fun b => b = g) w (w5.setCell ⟨w.heap.size + 1 + 1, 1, none⟩ (.slice wa' nw wc'))) := hcc8.any _
  clear hc8 hcc8 fB fC fD hown5 hc5 HQ t1 tf
  generalize w5.setCell ⟨w.heap.size + 1 + 1, 1, none⟩ (.slice wa' nw wc') = w8 at *
  have y0 := cell_of f8C (i := 0) (v := .int .i64 st) rfl
  have y1 := cell_of f8C (i := 1) (v := .slice wa' nw wc') rfl
  have y2 := cell_of f8C (i := 2) (v := .slice ka ks.length kc) rfl
  have y3 := cell_of f8C (i := 3) (v := .slice pa ps.length pc) rfl
  have z2 := cell_of hb8 (i := 2) (v := .slice (some ⟨g, 0, none⟩) ts.length oc) rfl
  have q0 := hor8.frozenAt (k * 4)
  have q1 := hor8.frozenAt (k * 4 + 1)
  have q2 := hor8.frozenAt (k * 4 + 2)
  have q3 := hor8.frozenAt (k * 4 + 3)
  obtain ⟨c0, c1, c2, c3⟩ := rt_at hor8 k hkn
  have HP : Hid (w8.heap[w.heap.size + 1 + 1 + 1]? = some ans0 ∧ w8.heap[w.heap.size + 1]? = some ans0 ∧ w8.ownsRow 0 66 4 (.slice (some ⟨g, 0, none⟩) ts.length oc) ts.length (rtCells ts) ∧ w8.ownsRow (w.heap.size + 1 + 1 + 1 + 1) 72 4 (.slice wa' nw wc') nw (verCells (writeM ws ⟨o.key, 0, ⟨#[]⟩, true⟩))) := ⟨f8D, f8B, hor8, hown8⟩
  clear f8D f8B hor8 hown8 f8C hb8
  go_region
  have hc9 := (chg_set4 w8 g k (.int .i64 st) (.slice wa' nw wc') (.slice ka ks.length kc) (.slice pa ps.length pc)).drew
  obtain ⟨f8D, f8B, hor8, hown8⟩ := HP.out
  have hor9 := row_drew (row_set4 ⟨st, writeM ws ⟨o.key, 0, ⟨#[]⟩, true⟩, wa', wc', ks, ka, kc, ps, pa, pc⟩ hor8 hkn)
  simp only [RT.wv, RT.kv, RT.pv, HNW.out] at hor9
  have f9D := (hc9.block _ (lt_of_block f8D) (fun (h : _ = _) => by omega)).trans f8D
  have f9B := (hc9.block _ (lt_of_block f8B) (fun (h : _ = _) => by omega)).trans f8B
  have hown9 := ownsRow_chg hown8 hc9 (fun b e (h : b = _) => by have := (hown8.lt b e).1; omega)
  have hG9 : Hid (Chg (fun b => b = g) w (((((w8.setCell ⟨g, k * 4, none⟩ (.int .i64 st)).setCell ⟨g, k * 4 + 1, none⟩ (.slice wa' nw wc')).setCell ⟨g, k * 4 + 2, none⟩ (.slice ka ks.length kc)).setCell ⟨g, k * 4 + 3, none⟩ (.slice pa ps.length pc)).drew)) := HG.out.trans hc9
  clear hc9 f8D f8B hor8 hown8 HP HG y0 y1 y2 y3 z2 q0 q1 q2 q3 c0 c1 c2 c3
  generalize ((((w8.setCell ⟨g, k * 4, none⟩ (.int .i64 st)).setCell ⟨g, k * 4 + 1, none⟩ (.slice wa' nw wc')).setCell ⟨g, k * 4 + 2, none⟩ (.slice ka ks.length kc)).setCell ⟨g, k * 4 + 3, none⟩ (.slice pa ps.length pc)).drew = w9 at *
  obtain ⟨d0, d1, d2, d3, d4, d5, d6, _⟩ := cells7 f9D
  obtain ⟨k0, k1, k2, k3, k4, k5, k6, kf⟩ := cells7 f9B
  have HZ : Hid (w9.ownsRow 0 66 4 (.slice (some ⟨g, 0, none⟩) ts.length oc) ts.length (rtCells (ts.set k ⟨st, writeM ws ⟨o.key, 0, ⟨#[]⟩, true⟩, wa', wc', ks, ka, kc, ps, pa, pc⟩)) ∧ w9.ownsRow (w.heap.size + 1 + 1 + 1 + 1) 72 4 (.slice wa' nw wc') nw (verCells (writeM ws ⟨o.key, 0, ⟨#[]⟩, true⟩)) ∧ w9.heap[w.heap.size + 1]? = some ans0) := ⟨hor9, hown9, f9B⟩
  clear hor9 hown9 f9D f9B
  go_wp2
  obtain ⟨hor9, hown9, f9B⟩ := HZ.out
  obtain ⟨r0, r1, r2, r3, r4, r5, r6⟩ := set7 f9B rfl (.int .i64 0) (.int .i64 0) (.bool false) (.string ⟨#[]⟩) (.slice none 0 0) (.slice none 0 0) (.slice none 0 0)
  have hc10 := chg_set7 w9 (w.heap.size + 1) (.int .i64 0) (.int .i64 0) (.bool false) (.string ⟨#[]⟩) (.slice none 0 0) (.slice none 0 0) (.slice none 0 0)
  refine bodyPost_ret (v := ansV 0 0 false ⟨#[]⟩ (.slice none 0 0)) (by simp [results, Try.results29, go_sem, r0, r1, r2, r3, r4, r5, r6]) rfl ⟨rfl, wa', wc', ownsRow_chg hor9 hc10 ?_, ?_, hG9.out.andThen hc10 ?_⟩
  · exact fun b e (h : b = _) => by have e1 : g = b := (by simpa [Value.ownBlock] using e); omega
  · rw [HNW.out]
    exact ownsRow_base (ownsRow_chg hown9 hc10 (fun b e (h : b = _) => by have := (hown9.lt b e).1; omega)) (by omega)
  · exact fun i hi (h : i = _) => by omega
end Go.Proofs.Ytcpjocgpahjcjaa
