import Derived.Test.YtcpjocgpahjcjaaRK
namespace Go.Proofs.Ytcpjocgpahjcjaa
open Go.RowKit Go.Sort
set_option maxRecDepth 100000 in
set_option maxHeartbeats 1000000 in
theorem of_drop_low {v0 v1 v3 v4 v5 : Value} (wb g k oc : Nat) (st : Int) (ws : List Ver) (wa : Option Addr) (wc : Nat) (ks : List ByteArray) (ka : Option Addr) (kc : Nat) (pa : Option Addr) (ps : List ByteArray) (pc : Nat) (ts : List RT) (o : OpM) (w : World)
    (hkd : o.kind = 6) (hnt : ts.length ≤ 2000000) (hkn : k < ts.length)
    (hT : ts[k]? = some ⟨st, ws, wa, wc, ks, ka, kc, ps, pa, pc⟩)
    (hb : w.heap[wb]? = some (.cells #[v0, v1, .slice (some ⟨g, 0, none⟩) ts.length oc, v3, v4, v5] 54))
    (hor : w.ownsRow 0 66 4 (.slice (some ⟨g, 0, none⟩) ts.length oc) ts.length (rtCells ts)) :
    Calls Try.prog 29 #[.pointer (some ⟨wb, 0, none⟩), .int .i64 k, o.v] w fun e w' => e = .returned (ansV 0 0 false ⟨#[]⟩ (.slice none 0 0)) ∧
      ∃ oa' oc', w'.heap[wb]? = some (.cells #[v0, v1, .slice oa' (lessT ts st).length oc', v3, v4, v5] 54) ∧ w'.ownsRow w.heap.size 66 4 (.slice oa' (lessT ts st).length oc') (lessT ts st).length (rtCells (lessT ts st)) ∧ Chg (fun b => b = wb) w w' := by
  have hgb : ∃ cur, w.heap[g]? = some (.cells cur 66) := by
    rcases hor.2 with ⟨e, _⟩ | ⟨g', cap, cur, e, _, h, _⟩
    · cases e
    · cases e; exact ⟨cur, h⟩
  obtain ⟨cur, hgb⟩ := hgb
  have hgl := lt_of_block hgb
  have hwl := lt_of_block hb
  have x2 := cell_of hb (i := 2) (v := .slice (some ⟨g, 0, none⟩) ts.length oc) rfl
  have hTk : ts[k] = ⟨st, ws, wa, wc, ks, ka, kc, ps, pa, pc⟩ := by have := List.getElem?_eq_getElem hkn; rw [hT] at this; exact (Option.some.inj this).symm
  obtain ⟨c0, c1, c2, c3⟩ := rt_at hor k hkn
  rw [hTk] at c0 c1 c2 c3
  simp only at c0 c1 c2 c3
  have hkd' : (o.kind == 6) = true := beq_iff_eq.2 hkd
  have hc4 := four_chg w o 6 st (.slice wa ws.length wc) (.slice ka ks.length kc) (.slice pa ps.length pc)
  have HL := leave_any wb 0 oc (some ⟨g, 0, none⟩) ts st v0 v1 v3 v4 v5 (four w o 6 st (.slice wa ws.length wc) (.slice ka ks.length kc) (.slice pa ps.length pc)) hnt ((hc4.block _ hwl (fun h => h)).trans hb) (ownsRow_chg hor hc4 (fun _ _ h => h))
  have HC : Hid (Chg nobody w (four w o 6 st (.slice wa ws.length wc) (.slice ka ks.length kc) (.slice pa ps.length pc))) := hc4
  have HW : Hid (Calls Try.prog 41 #[.pointer (some ⟨wb, 0, none⟩), .int .i64 st] (four w o 6 st (.slice wa ws.length wc) (.slice ka ks.length kc) (.slice pa ps.length pc)) fun e w' => e = .returned (.tuple #[]) ∧ ∃ v, w'.heap[wb]? = some (.cells #[v0, v1, v, v3, v4, v5] 54) ∧ w'.ownsRow (four w o 6 st (.slice wa ws.length wc) (.slice ka ks.length kc) (.slice pa ps.length pc)).heap.size 66 4 v (lessT ts st).length (rtCells (lessT ts st)) ∧ Chg (fun b => b = wb) (four w o 6 st (.slice wa ws.length wc) (.slice ka ks.length kc) (.slice pa ps.length pc)) w') := HL
  clear hor hT hTk hb hgb hc4 HL
  have hbs : decide ((o.key.size : Int) < 1) = true ∨ (decide ((o.key.size : Int) < 1) = false ∧ decide ((8 : Int) < (o.key.size : Int)) = true) ∨ (decide ((o.key.size : Int) < 1) = false ∧ decide ((8 : Int) < (o.key.size : Int)) = false) := by
    by_cases h1 : (o.key.size : Int) < 1
    · exact Or.inl (decide_eq_true h1)
    · by_cases h2 : (8 : Int) < (o.key.size : Int)
      · exact Or.inr (Or.inl ⟨decide_eq_false h1, decide_eq_true h2⟩)
      · exact Or.inr (Or.inr ⟨decide_eq_false h1, decide_eq_false h2⟩)
  rcases hbs with b1 | ⟨b1, b2⟩ | ⟨b1, b2⟩
  all_goals
    go_enter Try.func29, Try.ntmps29
    go_wp2_with fail
    refine HW.out.mono ?_
    rintro e w5 ⟨rfl, v, hb5, hown5, hch⟩
    obtain ⟨oa', oc', rfl⟩ := row_form hown5
    have fE := five_keep (w := w) (A := opC o 6) (B := ans0) (C := txC st (.slice wa ws.length wc) (.slice ka ks.length kc) (.slice pa ps.length pc)) (D := ans0) (E := ans0) (w5 := (four w o 6 st (.slice wa ws.length wc) (.slice ka ks.length kc) (.slice pa ps.length pc)).alloc ans0) (row := none) ⟨rfl, rfl, rfl, Nat.le_refl _, fun _ _ _ => rfl⟩ (fun k e => by cases e)
    have hs4 : (four w o 6 st (.slice wa ws.length wc) (.slice ka ks.length kc) (.slice pa ps.length pc)).heap.size = w.heap.size + 1 + 1 + 1 + 1 := by simp
    have hk4 : ∀ b, b < w.heap.size + 1 + 1 + 1 + 1 → b ≠ wb → w5.heap[b]? = ((four w o 6 st (.slice wa ws.length wc) (.slice ka ks.length kc) (.slice pa ps.length pc)).alloc ans0).heap[b]? := fun b hb hne => (hch.block b (by rw [hs4]; exact hb) hne).trans (Below.heap_alloc (four w o 6 st (.slice wa ws.length wc) (.slice ka ks.length kc) (.slice pa ps.length pc)) ans0 b (by rw [hs4]; exact hb)).symm
    obtain ⟨_, fB, _, fD⟩ := fE
    rw [← hk4 _ (by omega) (by omega)] at fB fD
    have hc5 : Chg (fun b => b = wb) w w5 := (HC.out.any _).trans hch
    rw [hs4] at hown5
    have HZ : Hid (w5.heap[w.heap.size + 1]? = some ans0 ∧ w5.heap[wb]? = some (.cells #[v0, v1, .slice oa' (lessT ts st).length oc', v3, v4, v5] 54) ∧ w5.ownsRow (w.heap.size + 1 + 1 + 1 + 1) 66 4 (.slice oa' (lessT ts st).length oc') (lessT ts st).length (rtCells (lessT ts st)) ∧ Chg (fun b => b = wb) w w5) := ⟨fB, hb5, hown5, hc5⟩
    obtain ⟨d0, d1, d2, d3, d4, d5, d6, _⟩ := cells7 fD
    obtain ⟨k0, k1, k2, k3, k4, k5, k6, kf⟩ := cells7 fB
    clear fB fD hb5 hown5 hc5 hk4 hs4 hch c0 c1 c2 c3 x2
    go_wp2
    obtain ⟨f9B, hb5, hown5, hc5⟩ := HZ.out
    obtain ⟨r0, r1, r2, r3, r4, r5, r6⟩ := set7 f9B rfl (.int .i64 0) (.int .i64 0) (.bool false) (.string ⟨#[]⟩) (.slice none 0 0) (.slice none 0 0) (.slice none 0 0)
    have hc10 := chg_set7 w5 (w.heap.size + 1) (.int .i64 0) (.int .i64 0) (.bool false) (.string ⟨#[]⟩) (.slice none 0 0) (.slice none 0 0) (.slice none 0 0)
    refine bodyPost_ret (v := ansV 0 0 false ⟨#[]⟩ (.slice none 0 0)) (by simp [results, Try.results29, go_sem, r0, r1, r2, r3, r4, r5, r6]) rfl ⟨rfl, oa', oc', (hc10.block _ (lt_of_block hb5) (fun (h : _ = _) => by omega)).trans hb5, ?_, hc5.andThen hc10 ?_⟩
    · exact ownsRow_base (ownsRow_chg hown5 hc10 (fun b e (h : b = _) => by have := (hown5.lt b e).1; omega)) (by omega)
    · exact fun i hi (h : i = _) => by omega
set_option maxRecDepth 100000 in
set_option maxHeartbeats 1000000 in
theorem of_badkey_low {v0 v1 v3 v4 v5 : Value} (wb g k oc : Nat) (st : Int) (ws : List Ver) (wa : Option Addr) (wc : Nat) (ks : List ByteArray) (ka : Option Addr) (kc : Nat) (pa : Option Addr) (ps : List ByteArray) (pc : Nat) (ts : List RT) (o : OpM) (w : World)
    (hkd : o.kind = 2 ∨ o.kind = 4 ∨ o.kind = 5) (hbad : o.key.size < 1 ∨ 8 < o.key.size) (hkn : k < ts.length)
    (hT : ts[k]? = some ⟨st, ws, wa, wc, ks, ka, kc, ps, pa, pc⟩)
    (hb : w.heap[wb]? = some (.cells #[v0, v1, .slice (some ⟨g, 0, none⟩) ts.length oc, v3, v4, v5] 54))
    (hor : w.ownsRow 0 66 4 (.slice (some ⟨g, 0, none⟩) ts.length oc) ts.length (rtCells ts)) :
    Calls Try.prog 29 #[.pointer (some ⟨wb, 0, none⟩), .int .i64 k, o.v] w fun e w' => e = .returned (ansV 4 0 false ⟨#[]⟩ (.slice none 0 0)) ∧ Chg nobody w w' := by
  have hgb : ∃ cur, w.heap[g]? = some (.cells cur 66) := by
    rcases hor.2 with ⟨e, _⟩ | ⟨g', cap, cur, e, _, h, _⟩
    · cases e
    · cases e; exact ⟨cur, h⟩
  obtain ⟨cur, hgb⟩ := hgb
  have hgl := lt_of_block hgb
  have hwl := lt_of_block hb
  have x2 := cell_of hb (i := 2) (v := .slice (some ⟨g, 0, none⟩) ts.length oc) rfl
  have hTk : ts[k] = ⟨st, ws, wa, wc, ks, ka, kc, ps, pa, pc⟩ := by have := List.getElem?_eq_getElem hkn; rw [hT] at this; exact (Option.some.inj this).symm
  obtain ⟨c0, c1, c2, c3⟩ := rt_at hor k hkn
  rw [hTk] at c0 c1 c2 c3
  simp only at c0 c1 c2 c3
  clear hor hT hTk hb hgb
  have hbs : decide ((o.key.size : Int) < 1) = true ∨ (decide ((o.key.size : Int) < 1) = false ∧ decide ((8 : Int) < (o.key.size : Int)) = true) := by
    by_cases h1 : (o.key.size : Int) < 1
    · exact Or.inl (decide_eq_true h1)
    · exact Or.inr ⟨decide_eq_false h1, decide_eq_true (by omega)⟩
  clear hbad
  rcases hbs with b1 | ⟨b1, b2⟩ <;> rcases hkd with hkd | hkd | hkd
  all_goals
    go_enter Try.func29, Try.ntmps29
    go_wp2_with fail
    refine (no_any 4 _).mono ?_
    rintro e w5 ⟨rfl, hch⟩
    have fB : w5.heap[w.heap.size + 1]? = some ans0 := by
      rw [hch.block _ (by simp <;> omega) (fun h => h)]
      rw [Below.heap_alloc _ _ _ (by simp)]
      exact heap_new (by simp)
    have hc5 : Chg nobody w w5 := ((((Chg.refl nobody w).alloc _).alloc _).alloc _).trans hch
    obtain ⟨k0, k1, k2, k3, k4, k5, k6, kf⟩ := cells7 fB
    have HZ : Hid (w5.heap[w.heap.size + 1]? = some ans0 ∧ Chg nobody w w5) := ⟨fB, hc5⟩
    clear fB hch hc5 c0 c1 c2 c3 x2
    go_wp2
    obtain ⟨f9B, hc5⟩ := HZ.out
    obtain ⟨r0, r1, r2, r3, r4, r5, r6⟩ := set7 f9B rfl (.int .i64 4) (.int .i64 0) (.bool false) (.string ⟨#[]⟩) (.slice none 0 0) (.slice none 0 0) (.slice none 0 0)
    have hc10 := chg_set7 w5 (w.heap.size + 1) (.int .i64 4) (.int .i64 0) (.bool false) (.string ⟨#[]⟩) (.slice none 0 0) (.slice none 0 0) (.slice none 0 0)
    refine bodyPost_ret (v := ansV 4 0 false ⟨#[]⟩ (.slice none 0 0)) (by simp [results, Try.results29, go_sem, r0, r1, r2, r3, r4, r5, r6]) rfl ⟨rfl, hc5.andThen hc10 ?_⟩
    exact fun i hi (h : i = _) => by omega
set_option maxRecDepth 100000 in
set_option maxHeartbeats 1000000 in
theorem of_badval_low {v0 v1 v3 v4 v5 : Value} (wb g k oc : Nat) (st : Int) (ws : List Ver) (wa : Option Addr) (wc : Nat) (ks : List ByteArray) (ka : Option Addr) (kc : Nat) (pa : Option Addr) (ps : List ByteArray) (pc : Nat) (ts : List RT) (o : OpM) (w : World)
    (hkd : o.kind = 4) (hk1 : 1 ≤ o.key.size) (hk8 : o.key.size ≤ 8) (hv : 20 < o.val.size) (hkn : k < ts.length)
    (hT : ts[k]? = some ⟨st, ws, wa, wc, ks, ka, kc, ps, pa, pc⟩)
    (hb : w.heap[wb]? = some (.cells #[v0, v1, .slice (some ⟨g, 0, none⟩) ts.length oc, v3, v4, v5] 54))
    (hor : w.ownsRow 0 66 4 (.slice (some ⟨g, 0, none⟩) ts.length oc) ts.length (rtCells ts)) :
    Calls Try.prog 29 #[.pointer (some ⟨wb, 0, none⟩), .int .i64 k, o.v] w fun e w' => e = .returned (ansV 5 0 false ⟨#[]⟩ (.slice none 0 0)) ∧ Chg nobody w w' := by
  have hgb : ∃ cur, w.heap[g]? = some (.cells cur 66) := by
    rcases hor.2 with ⟨e, _⟩ | ⟨g', cap, cur, e, _, h, _⟩
    · cases e
    · cases e; exact ⟨cur, h⟩
  obtain ⟨cur, hgb⟩ := hgb
  have hgl := lt_of_block hgb
  have hwl := lt_of_block hb
  have x2 := cell_of hb (i := 2) (v := .slice (some ⟨g, 0, none⟩) ts.length oc) rfl
  have hTk : ts[k] = ⟨st, ws, wa, wc, ks, ka, kc, ps, pa, pc⟩ := by have := List.getElem?_eq_getElem hkn; rw [hT] at this; exact (Option.some.inj this).symm
  obtain ⟨c0, c1, c2, c3⟩ := rt_at hor k hkn
  rw [hTk] at c0 c1 c2 c3
  simp only at c0 c1 c2 c3
  have b1 : decide ((o.key.size : Int) < 1) = false := decide_eq_false (by omega)
  have b2 : decide ((8 : Int) < (o.key.size : Int)) = false := decide_eq_false (by omega)
  have b3 : decide ((20 : Int) < (o.val.size : Int)) = true := decide_eq_true (by omega)
  clear hor hT hTk hb hgb
  all_goals
    go_enter Try.func29, Try.ntmps29
    go_wp2_with fail
    refine (no_any 5 _).mono ?_
    rintro e w5 ⟨rfl, hch⟩
    have fB : w5.heap[w.heap.size + 1]? = some ans0 := by
      rw [hch.block _ (by simp <;> omega) (fun h => h)]
      rw [Below.heap_alloc _ _ _ (by simp <;> omega), Below.heap_alloc _ _ _ (by simp)]
      exact heap_new (by simp)
    have hc5 : Chg nobody w w5 := (((((Chg.refl nobody w).alloc _).alloc _).alloc _).alloc _).trans hch
    obtain ⟨k0, k1, k2, k3, k4, k5, k6, kf⟩ := cells7 fB
    have HZ : Hid (w5.heap[w.heap.size + 1]? = some ans0 ∧ Chg nobody w w5) := ⟨fB, hc5⟩
    clear fB hch hc5 c0 c1 c2 c3 x2
    go_wp2
    obtain ⟨f9B, hc5⟩ := HZ.out
    obtain ⟨r0, r1, r2, r3, r4, r5, r6⟩ := set7 f9B rfl (.int .i64 5) (.int .i64 0) (.bool false) (.string ⟨#[]⟩) (.slice none 0 0) (.slice none 0 0) (.slice none 0 0)
    have hc10 := chg_set7 w5 (w.heap.size + 1) (.int .i64 5) (.int .i64 0) (.bool false) (.string ⟨#[]⟩) (.slice none 0 0) (.slice none 0 0) (.slice none 0 0)
    refine bodyPost_ret (v := ansV 5 0 false ⟨#[]⟩ (.slice none 0 0)) (by simp [results, Try.results29, go_sem, r0, r1, r2, r3, r4, r5, r6]) rfl ⟨rfl, hc5.andThen hc10 ?_⟩
    exact fun i hi (h : i = _) => by omega
end Go.Proofs.Ytcpjocgpahjcjaa
