import Derived.Test.YtkfjafndplmdkaaGreatVG
namespace Go.Proofs.YtkfjafndplmdkaaGreat
open Go.RowKit Go.Sort
/-- what has become of it after i writes. -/
def cM (W : PW) (ws : List Ver) (i : Nat) : PW := { W with clock := W.clock + 1, L := W.L ++ stampM (ws.take i) (W.clock + 1), rows := notesM W.rows (ws.take i) (W.clock + 1) }
def rowsLen (w : World) (wb : Nat) : Nat := match w.cell? ⟨wb, 4, none⟩ with | some (.slice _ n _) => n | _ => 0
theorem rowsLen_of {w : World} {wb n c : Nat} {a : Option Addr} (h : w.cell? ⟨wb, 4, none⟩ = some (.slice a n c)) : rowsLen w wb = n := by unfold rowsLen; rw [h]
theorem rows_less : ∀ {rows : List (ByteArray × Int)} {k : Nat} (hk : k < rows.length), (rows.map Prod.fst).Nodup → rows.filter (fun r => decide (r.1 ≠ rows[k].1)) = rows.take k ++ rows.drop (k + 1)
  | [], k, hk, _ => by simp at hk
  | x :: r, 0, _, hn => by
    rw [List.map_cons, List.nodup_cons] at hn
    simp only [List.getElem_cons_zero, List.take_zero, List.nil_append, Nat.zero_add, List.drop_succ_cons, List.drop_zero]
    rw [List.filter_cons_of_neg (by simp)]
    exact List.filter_eq_self.2 (fun y hy => decide_eq_true (fun e => hn.1 (List.mem_map.2 ⟨y, hy, e⟩)))
  | x :: r, k + 1, hk, hn => by
    rw [List.map_cons, List.nodup_cons] at hn
    have hk' : k < r.length := by simpa using hk
    simp only [List.getElem_cons_succ, List.take_succ_cons, List.cons_append, List.drop_succ_cons]
    have hx : (fun y : ByteArray × Int => decide (y.1 ≠ r[k].1)) x = true := decide_eq_true (fun e => hn.1 (List.mem_map.2 ⟨r[k], List.getElem_mem hk', e.symm⟩))
    rw [List.filter_cons_of_pos (p := fun y : ByteArray × Int => decide (y.1 ≠ r[k].1)) hx, rows_less hk' hn.2]
theorem trim_stop (n : Nat) {rows : List (ByteArray × Int)} {low : Int} (h : ¬ 6 < rows.length) : trimM n rows low = (rows, low) := by
  cases n with
  | zero => rfl
  | succ n => unfold trimM; rw [if_neg h]
theorem trim_next (n : Nat) {rows : List (ByteArray × Int)} {low : Int} {k : Nat} (hk : k < rows.length) (hn : (rows.map Prod.fst).Nodup) (h : 6 < rows.length) (hl : leastM rows = some rows[k]) : trimM (n + 1) rows low = trimM n (rows.take k ++ rows.drop (k + 1)) rows[k].2 := by
  rw [← rows_less hk hn]
  conv => lhs; unfold trimM
  rw [if_pos h, hl]
theorem cM_next (W : PW) (ws : List Ver) (i : Nat) (h : i < ws.length) : cM W ws (i + 1) = { cM W ws i with L := (cM W ws i).L ++ [{ ws[i] with time := W.clock + 1 }], rows := noteM (cM W ws i).rows ws[i].key (W.clock + 1) } := by
  have e : ws.take (i + 1) = ws.take i ++ [ws[i]] := List.take_succ_eq_append_getElem h
  unfold cM
  rw [e]
  simp only [stampM, notesM, List.map_append, List.foldl_append, List.map_cons, List.map_nil, List.foldl_cons, List.foldl_nil, List.append_assoc]
theorem note_len (rows : List (ByteArray × Int)) (k : ByteArray) (t : Int) : (noteM rows k t).length ≤ rows.length + 1 := by
  unfold noteM
  have := List.length_filter_le (fun r => decide (r.1 ≠ k)) rows
  simp only [List.length_append, List.length_cons, List.length_nil]
  omega
theorem notes_len (t : Int) : ∀ (ws : List Ver) (rows : List (ByteArray × Int)), (notesM rows ws t).length ≤ rows.length + ws.length
  | [], rows => Nat.le_refl _
  | v :: r, rows => by
    have h := notes_len t r (noteM rows v.key t)
    have h2 := note_len rows v.key t
    simp only [List.length_cons]
    exact Nat.le_trans h (by omega)
set_option maxRecDepth 100000 in
set_option maxHeartbeats 4000000 in
theorem rdecide_yes (S : RSt) (T : RT) (w : World) (h : RInv w S) (hT : RTAt w T) (hTb : ∀ b ∈ T.blocks, b ∉ S.blocks) (h0 : T.ws ≠ []) (hrl : S.rows.length ≤ 400000) (hks : T.ks.length ≤ 1500000) (hps : T.ps.length ≤ 1500000) (hL : S.L.length ≤ 1500000) (hws : T.ws.length ≤ 1500000) (hc0 : 0 ≤ S.clock) (hc1 : S.clock < 1000000000) (hrn : (S.rows.map Prod.fst).Nodup) (hr : refusedM S.abs T.abs = 0) :
    Calls Tryz.prog 72 #[.pointer (some ⟨S.wb, 0, none⟩), T.v] w fun e w' => ∃ S', e = .returned (decV ⟨T.start, 0, S.clock + 1⟩) ∧ S'.abs = commitM S.abs T.abs ∧ S'.wb = S.wb ∧ ROk w S w' S' := by
  obtain ⟨i0, hi, hz0, hz1, hz2⟩ := info_parts info72
  obtain ⟨f0, f1, f2, fz, fc⟩ := three_facts w T
  have hb3 := (fc.block _ (lt_of_block h.wb) (fun h => h)).trans h.wb
  have HR := refused_any S.wb 0 0 0 S.lc S.rc T.kc T.pc S.L.length T.ws.length T.wc S.la S.ra T.wa T.ka T.pa S.rows T.ks T.ps T.start S.low _ _ _ (three w T) hrl hks hps hL hws hb3 (ownsRow_chg h.rr fc (fun _ _ h => h)) (ownsRow_chg hT.kr fc (fun _ _ h => h)) (ownsRow_chg hT.pr fc (fun _ _ h => h))
  have er : refV T.start S.low S.rows T.ks T.ps S.L.length T.ws.length = 0 := (refV_eq S.abs T.abs).symm.trans hr
  rw [er] at HR
  have HRR : Hid (Calls Tryz.prog 98 #[.pointer (some ⟨S.wb, 0, none⟩), .agg #[.int .i64 T.start, .slice T.wa T.ws.length T.wc, .slice T.ka T.ks.length T.kc, .slice T.pa T.ps.length T.pc]] (three w T) fun e w' => e = .returned (.int .i64 0) ∧ Chg nobody (three w T) w') := HR
  have HF : Hid ((three w T).heap[w.heap.size]? = some (rtC T) ∧ (three w T).heap[w.heap.size + 1]? = some (decC 0 0 0) ∧ (three w T).heap[w.heap.size + 1 + 1]? = some (decC T.start 0 0) ∧ (three w T).heap.size = w.heap.size + 1 + 1 + 1 ∧ Chg nobody w (three w T)) := ⟨f0, f1, f2, fz, fc⟩
  have hwl : ((T.ws.length : Int) == 0) = false := beq_eq_false_iff_ne.2 (by have := List.length_pos_iff.2 h0; omega)
  have hwbl : S.wb < w.heap.size := lt_of_block h.wb
  have HH : Hid (RInv w S ∧ RTAt w T ∧ (∀ b ∈ T.blocks, b ∉ S.blocks) ∧ (S.rows.map Prod.fst).Nodup) := ⟨h, hT, hTb, hrn⟩
  clear HR er hb3 f0 f1 f2 fz fc h hT hTb hrn hr
  unfold RT.v
  go_enter Tryz.func72, Tryz.ntmps72
  go_wp2_with fail
  refine HRR.out.mono ?_
  rintro e w2 ⟨rfl, hc2⟩
  have g0 := (hc2.block _ (lt_of_block HF.out.1) (fun h => h)).trans HF.out.1
  have g1 := (hc2.block _ (lt_of_block HF.out.2.1) (fun h => h)).trans HF.out.2.1
  have g2 := (hc2.block _ (lt_of_block HF.out.2.2.1) (fun h => h)).trans HF.out.2.2.1
  have hcw : Chg nobody w w2 := HF.out.2.2.2.2.trans hc2
  have hz2w : w.heap.size + 1 + 1 + 1 ≤ w2.heap.size := by have := hc2.size; have := HF.out.2.2.2.1; omega
  have hI2 := HH.out.1.chg hcw (fun _ _ h => h)
  have x1 := cell_of g2 (i := 1) (v := .int .i64 0) rfl
  have xf := unfrozen_of g2 1
  -- the cells written
  have hca := chg_set1 w2 (w.heap.size + 1 + 1) 1 (.int .i64 0)
  have g2a : (w2.setCell ⟨w.heap.size + 1 + 1, 1, none⟩ (.int .i64 0)).heap[w.heap.size + 1 + 1]? = some (decC T.start 0 0) := heap_setCell_same w2 (w.heap.size + 1 + 1) 1 _ 44 (.int .i64 0) g2
  have hba := (hca.block _ (lt_of_block hI2.wb) (fun (h : _ = _) => by omega)).trans hI2.wb
  have y0 := cell_of hba (i := 0) (v := .int .i64 S.clock) rfl
  have yf := unfrozen_of hba 0
  have xa1 := cell_of g2a (i := 1) (v := .int .i64 0) rfl
  have hcb := chg_set1 (w2.setCell ⟨w.heap.size + 1 + 1, 1, none⟩ (.int .i64 0)) S.wb 0 (.int .i64 (S.clock + 1))
  have hbb := heap_setCell_same _ S.wb 0 _ 79 (.int .i64 (S.clock + 1)) hba
  have g2b := (hcb.block _ (lt_of_block g2a) (fun (h : _ = _) => by omega)).trans g2a
  have z0 := cell_of hbb (i := 0) (v := .int .i64 (S.clock + 1)) rfl
  have z2 := cell_of g2b (i := 2) (v := .int .i64 0) rfl
  have zf := unfrozen_of g2b 2
  have hcc := chg_set1 ((w2.setCell ⟨w.heap.size + 1 + 1, 1, none⟩ (.int .i64 0)).setCell ⟨S.wb, 0, none⟩ (.int .i64 (S.clock + 1))) (w.heap.size + 1 + 1) 2 (.int .i64 (S.clock + 1))
  have g2c := heap_setCell_same _ (w.heap.size + 1 + 1) 2 _ 44 (.int .i64 (S.clock + 1)) g2b
  have hbc := (hcc.block _ (lt_of_block hbb) (fun (h : _ = _) => by omega)).trans hbb
  have g0c := (hcc.block _ (by simp only [World.setCell, Array.size_modify]; omega) (fun (h : _ = _) => by omega)).trans ((hcb.block _ (by simp only [World.setCell, Array.size_modify]; omega) (fun (h : _ = _) => by omega)).trans ((hca.block _ (lt_of_block g0) (fun (h : _ = _) => by omega)).trans g0))
  have g1c := (hcc.block _ (by simp only [World.setCell, Array.size_modify]; omega) (fun (h : _ = _) => by omega)).trans ((hcb.block _ (by simp only [World.setCell, Array.size_modify]; omega) (fun (h : _ = _) => by omega)).trans ((hca.block _ (lt_of_block g1) (fun (h : _ = _) => by omega)).trans g1))
  have hnb : ∀ b ∈ S.blocks, b < w.heap.size := HH.out.1.lt
  have hS3 : ROk w S (((w2.setCell ⟨w.heap.size + 1 + 1, 1, none⟩ (.int .i64 0)).setCell ⟨S.wb, 0, none⟩ (.int .i64 (S.clock + 1))).setCell ⟨w.heap.size + 1 + 1, 2, none⟩ (.int .i64 (S.clock + 1))) { S with clock := S.clock + 1 } := by
    have k1 : RInv (w2.setCell ⟨w.heap.size + 1 + 1, 1, none⟩ (.int .i64 0)) S := hI2.chg hca (fun b hb e => by have := hnb b hb; have : b = w.heap.size + 1 + 1 := e; omega)
    have k2 := k1.setClock (S.clock + 1) hbb hcb
    have k3 : RInv _ { S with clock := S.clock + 1 } := k2.1.chg hcc (fun b hb e => by have := hnb b hb; have : b = w.heap.size + 1 + 1 := e; omega)
    exact ⟨k3, fun b hb => Or.inl hb, (((hcw.any _).andThen hca (fun i hi (e : i = _) => by omega)).andThen k2.2.2 (fun i _ h => h)).andThen hcc (fun i hi (e : i = _) => by omega)⟩
  have hT3 : RTAt (((w2.setCell ⟨w.heap.size + 1 + 1, 1, none⟩ (.int .i64 0)).setCell ⟨S.wb, 0, none⟩ (.int .i64 (S.clock + 1))).setCell ⟨w.heap.size + 1 + 1, 2, none⟩ (.int .i64 (S.clock + 1))) T := HH.out.2.1.chg hS3.2.2 (fun b hb => HH.out.2.2.1 b hb)
  have H3 : Hid (ROk w S (((w2.setCell ⟨w.heap.size + 1 + 1, 1, none⟩ (.int .i64 0)).setCell ⟨S.wb, 0, none⟩ (.int .i64 (S.clock + 1))).setCell ⟨w.heap.size + 1 + 1, 2, none⟩ (.int .i64 (S.clock + 1))) { S with clock := S.clock + 1 } ∧ RTAt (((w2.setCell ⟨w.heap.size + 1 + 1, 1, none⟩ (.int .i64 0)).setCell ⟨S.wb, 0, none⟩ (.int .i64 (S.clock + 1))).setCell ⟨w.heap.size + 1 + 1, 2, none⟩ (.int .i64 (S.clock + 1))) T ∧ (((w2.setCell ⟨w.heap.size + 1 + 1, 1, none⟩ (.int .i64 0)).setCell ⟨S.wb, 0, none⟩ (.int .i64 (S.clock + 1))).setCell ⟨w.heap.size + 1 + 1, 2, none⟩ (.int .i64 (S.clock + 1))).heap[w.heap.size]? = some (rtC T) ∧ (((w2.setCell ⟨w.heap.size + 1 + 1, 1, none⟩ (.int .i64 0)).setCell ⟨S.wb, 0, none⟩ (.int .i64 (S.clock + 1))).setCell ⟨w.heap.size + 1 + 1, 2, none⟩ (.int .i64 (S.clock + 1))).heap[w.heap.size + 1]? = some (decC 0 0 0) ∧ (((w2.setCell ⟨w.heap.size + 1 + 1, 1, none⟩ (.int .i64 0)).setCell ⟨S.wb, 0, none⟩ (.int .i64 (S.clock + 1))).setCell ⟨w.heap.size + 1 + 1, 2, none⟩ (.int .i64 (S.clock + 1))).heap[w.heap.size + 1 + 1]? = some (decC T.start 0 (S.clock + 1))) := ⟨hS3, hT3, g0c, g1c, g2c⟩
  have HNB : Hid (∀ b ∈ S.blocks, b < w.heap.size) := hnb
  clear hca hba hcb hbb hcc hbc g2a g2b g2c g0c g1c hS3 hT3 g0 g1 g2 hI2 hc2 hcw hnb
  go_wp2_with fail
  refine name_worldN ?_
  intro w3 hw3
  rw [← hw3] at H3
  clear hw3 x1 xf y0 yf xa1 z0 z2 zf
  go_loopw [6] (fun iv wr => ∃ (i : Nat) (Si : RSt), i ≤ T.ws.length ∧ iv = .int .i64 i ∧ Si.wb = S.wb ∧ Hid (ROk w3 { S with clock := S.clock + 1 } wr Si ∧ Si.abs = cM S.abs T.ws i)) (fun iv _ => T.ws.length - (intOf iv).toNat)
  case atStart => exact ⟨0, { S with clock := S.clock + 1 }, Nat.zero_le _, rfl, rfl, ROk.refl H3.out.1.1 (Chg.refl _ _), (by simp [cM, RSt.abs, stampM, notesM])⟩
  case round =>
    obtain ⟨i, Si, hile, rfl, hwi, HI⟩ := hrel
    obtain ⟨wo, rfl⟩ : ∃ wo : World, wo = wr := ⟨_, rfl⟩
    have hno : ∀ b, w.heap.size ≤ b → b ∉ ({ S with clock := S.clock + 1 } : RSt).blocks := fun b hb hm => by have := HNB.out b hm; omega
    have q0 := (HI.out.1.2.2.block _ (lt_of_block H3.out.2.2.1) (hno _ (Nat.le_refl _))).trans H3.out.2.2.1
    have q2 := (HI.out.1.2.2.block _ (lt_of_block H3.out.2.2.2.2) (hno _ (by omega))).trans H3.out.2.2.2.2
    have hTi : RTAt wo T := H3.out.2.1.chg HI.out.1.2.2 (fun b hb => HH.out.2.2.1 b hb)
    have t0 := cell_of q0 (i := 0) (v := .int .i64 T.start) rfl
    have t1 := cell_of q0 (i := 1) (v := .slice T.wa T.ws.length T.wc) rfl
    have d2 := cell_of q2 (i := 2) (v := .int .i64 (S.clock + 1)) rfl
    have hl2 := lt_of_block q2
    have d2' : ∀ o, (wo.alloc o).cell? ⟨w.heap.size + 1 + 1, 2, none⟩ = some (.int .i64 (S.clock + 1)) := fun o => by rw [World.cell?_alloc_past _ _ _ hl2]; exact d2
    have hwbi := HI.out.1.1.wb
    rw [hwi] at hwbi
    have hLn : Si.L.length ≤ 1500000 + i := by
      have e : Si.L = S.L ++ stampM (T.ws.take i) (S.clock + 1) := congrArg PW.L HI.out.2
      rw [e]
      simp only [List.length_append, stampM, List.length_map, List.length_take]
      omega
    by_cases hlt : i < T.ws.length
    · have hwr : wo.ownsRow 0 103 4 (.slice T.wa T.ws.length T.wc) T.ws.length (verCells T.ws) := hTi.wr
      obtain ⟨ga, hga, _, _, _, _⟩ := row_open hwr (by omega)
      rw [hga] at hwr
      obtain ⟨c0, c1, c2, c3⟩ := ver_at hwr i hlt
      have HTA : Hid (T.wa = some ⟨ga, 0, none⟩) := hga
      rw [hga] at t1
      have HN : Hid (cM S.abs T.ws (i + 1) = { cM S.abs T.ws i with L := (cM S.abs T.ws i).L ++ [{ T.ws[i] with time := S.clock + 1 }], rows := noteM (cM S.abs T.ws i).rows T.ws[i].key (S.clock + 1) }) := cM_next S.abs T.ws i hlt
      generalize T.ws[i] = v at *
      have HQ : Hid (wo.heap[w.heap.size]? = some (rtC T) ∧ wo.heap[w.heap.size + 1 + 1]? = some (decC T.start 0 (S.clock + 1)) ∧ wo.heap[S.wb]? = some (.cells #[.int .i64 Si.clock, Si.lv, Si.ov, Si.qv, Si.rv, .int .i64 Si.low] 79)) := ⟨q0, q2, hwbi⟩
      clear hwr hga q0 q2 hwbi hTi hno
      go_wp2_with fail
      refine name_worldN ?_
      intro wz hwz
      have hcz : Chg nobody wo wz := by rw [hwz]; exact (Chg.refl _ _).alloc _
      have bz : wz.heap[wo.heap.size]? = some (.cells #[.string v.key, .int .i64 (S.clock + 1), .string v.val, .bool v.gone] 103) := by rw [hwz]; exact (MapKept.heap_alloc wo _).1
      have hIz : RInv wz Si := HI.out.1.1.chg hcz (fun _ _ h => h)
      have hbz := hIz.wb
      rw [hwi] at hbz
      have hlz := lt_of_block hbz
      have l1 := cell_of hbz (i := 1) (v := .slice Si.la Si.L.length Si.lc) rfl
      have l1' : ∀ o, (wz.alloc o).cell? ⟨S.wb, 1, none⟩ = some (.slice Si.la Si.L.length Si.lc) := fun o => by rw [World.cell?_alloc_past _ _ _ hlz]; exact l1
      have k0 := cell_of bz (i := 0) (v := .string v.key) rfl
      have k1 := cell_of bz (i := 1) (v := .int .i64 (S.clock + 1)) rfl
      have k2 := cell_of bz (i := 2) (v := .string v.val) rfl
      have k3 := cell_of bz (i := 3) (v := .bool v.gone) rfl
      have q2z := (hcz.block _ (lt_of_block HQ.out.2.1) (fun h => h)).trans HQ.out.2.1
      have HZ : Hid (Chg nobody wo wz ∧ RInv wz Si ∧ wz.heap[wo.heap.size]? = some (.cells #[.string v.key, .int .i64 (S.clock + 1), .string v.val, .bool v.gone] 103) ∧ wz.heap[w.heap.size + 1 + 1]? = some (decC T.start 0 (S.clock + 1)) ∧ w.heap.size + 1 + 1 < wo.heap.size) := ⟨hcz, hIz, bz, q2z, hl2⟩
      have hlr : wz.ownsRow 0 103 4 (.slice Si.la Si.L.length Si.lc) Si.L.length (verCells Si.L) := hIz.lr
      have HLR : Hid (wz.ownsRow 0 103 4 (.slice Si.la Si.L.length Si.lc) Si.L.length (verCells Si.L) ∧ wz.heap[S.wb]? = some (.cells #[.int .i64 Si.clock, Si.lv, Si.ov, Si.qv, Si.rv, .int .i64 Si.low] 79) ∧ ∀ b, (Value.slice Si.la Si.L.length Si.lc).ownBlock = some b → b ≠ S.wb ∧ b < wo.heap.size) := ⟨hlr, hbz, fun b e => ⟨fun e' => row_not hbz hlr (by decide) (e' ▸ e), ((show wo.ownsRow 0 103 4 (.slice Si.la Si.L.length Si.lc) Si.L.length (verCells Si.L) from HI.out.1.1.lr).lt b e).2⟩⟩
      clear hwz hcz bz hIz hbz q2z hlr t0 t1 d2 d2' c0 c1 c2 c3 hl2
      go_region_law (refine step_append_where rfl (.tmp 58) (.tmp 60) 75 rfl 0 103 i0 Ver.zero.v 4 48 Tryz.underlying75 hi hz0 hz1 hz2 rfl (by decide) (.slice Si.la Si.L.length Si.lc) Si.L.length (verCells Si.L) (by simp [Act.eval]) ((row_drew HLR.out.1).alloc _) ⟨wz.heap.size, 0, none⟩ 1 1 [.string v.key, .int .i64 (S.clock + 1), .string v.val, .bool v.gone] (by simp [Act.eval]) rfl (cells_new wz.drew #[.string v.key, .int .i64 (S.clock + 1), .string v.val, .bool v.gone] 103) (by simp [Value.oneCell']) (by unfold maxLen; omega) (by omega) (Nat.zero_le _) ?_; intro v' w5 hown5 hg5 hwh; obtain ⟨la', lc', rfl⟩ := row_form hown5; have hc5 : Chg (fun b => (Value.slice Si.la Si.L.length Si.lc).ownBlock = some b) wz w5 := (((Chg.refl _ wz).drew).alloc _).grown hg5 (fun k e => Or.inl e); have hb5 := (hc5.block S.wb (lt_of_block HLR.out.2.1) (fun e => (HLR.out.2.2 _ e).1 rfl)).trans HLR.out.2.1; have s1 := cell_of hb5 (i := 1) (v := .slice Si.la Si.L.length Si.lc) rfl; have sf := unfrozen_of hb5 1)
      all_goals
        have hsz : (wz.drew.alloc (.cells #[.string v.key, .int .i64 (S.clock + 1), .string v.val, .bool v.gone] 103)).heap.size = wz.heap.size + 1 := by simp
        have hwh' : (Value.slice la' (Si.L.length + 1) lc').ownBlock = (Value.slice Si.la Si.L.length Si.lc).ownBlock ∨ ∀ b, (Value.slice la' (Si.L.length + 1) lc').ownBlock = some b → wz.heap.size ≤ b := by
          rcases hwh with h | h
          · exact Or.inl h
          · refine Or.inr (fun b e => ?_)
            rw [h] at e
            have h2 := Option.some.inj e
            simp at h2
            omega
        have hc6 := chg_set1 w5 S.wb 1 (.slice la' (Si.L.length + 1) lc')
        have hb6 := heap_setCell_same w5 S.wb 1 _ 79 (.slice la' (Si.L.length + 1) lc') hb5
        have hob : ∀ b, (Value.slice la' (Si.L.length + 1) lc').ownBlock = some b → b ≠ S.wb := fun b e e' => by
          rcases hwh' with h | h
          · exact (HLR.out.2.2 b (h ▸ e)).1 e'
          · have := h b e; have := lt_of_block HLR.out.2.1; omega
        have hl6 := ownsRow_chg hown5 hc6 (fun b e (h : b = _) => hob b e h)
        have hLL : (Si.L ++ [{ v with time := S.clock + 1 }]).length = Si.L.length + 1 := by simp
        have hLC : verCells (Si.L ++ [{ v with time := S.clock + 1 }]) = verCells Si.L ++ [.string v.key, .int .i64 (S.clock + 1), .string v.val, .bool v.gone] := by simp [verCells, Ver.cells]
        have hcc6 : Chg (fun b => b = Si.wb ∨ Si.lv.ownBlock = some b) wz (w5.setCell ⟨S.wb, 1, none⟩ (.slice la' (Si.L.length + 1) lc')) := (hc5.mono (fun _ _ h => Or.inr h)).trans (hc6.mono (fun _ _ h => Or.inl (h.trans hwi.symm)))
        have hR6 : ROk wz Si (w5.setCell ⟨S.wb, 1, none⟩ (.slice la' (Si.L.length + 1) lc')) { Si with L := Si.L ++ [{ v with time := S.clock + 1 }], la := la', lc := lc' } := by
          refine HZ.out.2.1.setL ?_ ?_ ?_ hcc6
          · rw [hwi, hLL]; exact hb6
          · rw [hLL, hLC]; exact hl6
          · rw [hLL]; exact hwh'
        have hnw : ∀ b, (b = wo.heap.size ∨ b = w.heap.size + 1 + 1) → ¬ (b = Si.wb ∨ Si.lv.ownBlock = some b) := fun b hb h => by
          have h1 := HZ.out.2.2.2.2
          have h2 := lt_of_block HQ.out.2.2
          rcases h with h | h
          · rw [hwi] at h; omega
          · have h3 := (HLR.out.2.2 b h).2
            have h4 := HI.out.1.2.1 b (by simp [RSt.blocks, RSt.others, vb_mem, h])
            rcases hb with hb | hb
            · omega
            · rcases h4 with h4 | h4
              · have := HNB.out b h4; omega
              · have := lt_of_block H3.out.2.2.2.2; omega
        have b6 := (hcc6.block _ (lt_of_block HZ.out.2.2.1) (hnw _ (Or.inl rfl))).trans HZ.out.2.2.1
        have q6 := (hcc6.block _ (lt_of_block HZ.out.2.2.2.1) (hnw _ (Or.inr rfl))).trans HZ.out.2.2.2.1
        have m0 := cell_of b6 (i := 0) (v := .string v.key) rfl
        have m2 := cell_of q6 (i := 2) (v := .int .i64 (S.clock + 1)) rfl
        have HR6 : Hid (ROk wo Si (w5.setCell ⟨S.wb, 1, none⟩ (.slice la' (Si.L.length + 1) lc')) { Si with L := Si.L ++ [{ v with time := S.clock + 1 }], la := la', lc := lc' }) := hR6.before HZ.out.1
        clear hsz hwh hwh' hc6 hb6 hob hl6 hLL hLC hcc6 hR6 hnw b6 q6 hc5 hb5 s1 sf hown5 hg5 l1 l1' k0 k1 k2 k3
        generalize w5.setCell ⟨S.wb, 1, none⟩ (.slice la' (Si.L.length + 1) lc') = w6 at *
        have hrl6 : Si.rows.length ≤ 2000000 := by
          have e : Si.rows = notesM S.rows (T.ws.take i) (S.clock + 1) := congrArg PW.rows HI.out.2
          rw [e]
          have := notes_len (S.clock + 1) (T.ws.take i) S.rows
          rw [List.length_take] at this
          omega
        have HNO := note_any S.wb 0 Si.rc Si.ra Si.rows v.key (S.clock + 1) _ _ _ _ _ w6 hrl6 (by have := HR6.out.1.wb; rw [show ({ Si with L := Si.L ++ [{ v with time := S.clock + 1 }], la := la', lc := lc' } : RSt).wb = S.wb from hwi] at this; exact this) HR6.out.1.rr
        go_wp2_with fail
        refine HNO.mono ?_
        rintro e w7 ⟨rfl, vr, hb7, hr7, hc7⟩
        obtain ⟨ra', rc', rfl⟩ := row_form hr7
        have hR7 := HR6.out.1.setRows (rows := noteM Si.rows v.key (S.clock + 1)) (ra := ra') (rc := rc') (low := Si.low) (by rw [show ({ Si with L := Si.L ++ [{ v with time := S.clock + 1 }], la := la', lc := lc' } : RSt).wb = S.wb from hwi]; exact hb7) hr7 (hc7.mono (fun _ _ h => h.trans hwi.symm))
        have HR7 : Hid (ROk w3 { S with clock := S.clock + 1 } w7 { { Si with L := Si.L ++ [{ v with time := S.clock + 1 }], la := la', lc := lc' } with rows := noteM Si.rows v.key (S.clock + 1), ra := ra', rc := rc', low := Si.low }) := HI.out.1.trans (HR6.out.trans hR7)
        clear hb7 hr7 hc7 hR7 m0 m2 HNO
        go_wp2
        go_roundw
        case rel => exact ⟨i + 1, { { Si with L := Si.L ++ [{ v with time := S.clock + 1 }], la := la', lc := lc' } with rows := noteM Si.rows v.key (S.clock + 1), ra := ra', rc := rc', low := Si.low }, by omega, by go_num, hwi, HR7.out, (by rw [HN.out, ← HI.out.2]; rfl)⟩
        case measure => simp [intOf]; omega
    · have hie : i = T.ws.length := by omega
      subst hie
      have HRL : Hid (Si.rows = notesM S.rows T.ws (S.clock + 1) ∧ Si.low = S.low ∧ Si.abs = cM S.abs T.ws T.ws.length) := by
        have e := congrArg PW.rows HI.out.2
        have e2 := congrArg PW.low HI.out.2
        unfold cM at e e2
        rw [List.take_length] at e
        exact ⟨e, e2, HI.out.2⟩
      have hrl7 : Si.rows.length ≤ 2000000 := by
        rw [HRL.out.1]
        have := notes_len (S.clock + 1) T.ws S.rows
        omega
      clear q0 hTi d2 d2' hl2 hwbi q2 hno
      go_wp2_with fail
      clear t0 t1
      go_loopw [] (fun wr => ∃ (Sj : RSt) (n : Nat), Sj.wb = S.wb ∧ Sj.rows.length ≤ 2000000 ∧ Sj.rows.length ≤ n ∧ Hid (ROk w3 { S with clock := S.clock + 1 } wr Sj ∧ Sj.abs = { cM S.abs T.ws T.ws.length with rows := Sj.rows, low := Sj.low } ∧ (Sj.rows.map Prod.fst).Nodup ∧ trimM n Sj.rows Sj.low = trimM (notesM S.rows T.ws (S.clock + 1)).length (notesM S.rows T.ws (S.clock + 1)) S.low)) (fun wr => rowsLen wr S.wb)
      case atStart =>
        refine ⟨Si, Si.rows.length, hwi, hrl7, Nat.le_refl _, HI.out.1, ?_, ?_, ?_⟩
        · rw [← HRL.out.2.2]; rfl
        · rw [HRL.out.1]; exact notes_nodup _ _ HH.out.2.2.2
        · rw [HRL.out.1, HRL.out.2.1]
      case round =>
        obtain ⟨Sj, n, hwj, hjl, hjn, HJ⟩ := hrel
        have hbj := HJ.out.1.1.wb
        rw [hwj] at hbj
        have x4 := cell_of hbj (i := 4) (v := .slice Sj.ra Sj.rows.length Sj.rc) rfl
        have HM : Hid (rowsLen wr S.wb = Sj.rows.length) := rowsLen_of x4
        by_cases h6 : 6 < Sj.rows.length
        · have hr6 : (6 : Int) < (Sj.rows.length : Int) := by omega
          have HFO := rforget_any S.wb 0 Sj.rc Sj.ra Sj.rows _ _ _ _ Sj.low wr hjl (by omega) hbj HJ.out.1.1.rr (fun g e e' => row_not hbj HJ.out.1.1.rr (by decide) (e' ▸ e))
          clear hbj
          go_wp2_with fail
          refine HFO.mono ?_
          rintro e w7 ⟨rfl, vr, k, hk, hlk, hb7, hr7, hc7⟩
          obtain ⟨ra', rc', rfl⟩ := row_form hr7
          have hR7 := HJ.out.1.1.setRows (rows := Sj.rows.take k ++ Sj.rows.drop (k + 1)) (ra := ra') (rc := rc') (low := Sj.rows[k].2) (by rw [hwj]; exact hb7) hr7 (hc7.mono (fun _ _ h => h.trans hwj.symm))
          have hx4 := rowsLen_of (cell_of hb7 (i := 4) (v := .slice ra' (Sj.rows.take k ++ Sj.rows.drop (k + 1)).length rc') rfl)
          have hlen : (Sj.rows.take k ++ Sj.rows.drop (k + 1)).length + 1 = Sj.rows.length := by simp; omega
          obtain ⟨m, rfl⟩ : ∃ m, n = m + 1 := ⟨n - 1, by omega⟩
          have HT : Hid (trimM m (Sj.rows.take k ++ Sj.rows.drop (k + 1)) Sj.rows[k].2 = trimM (notesM S.rows T.ws (S.clock + 1)).length (notesM S.rows T.ws (S.clock + 1)) S.low ∧ ((Sj.rows.take k ++ Sj.rows.drop (k + 1)).map Prod.fst).Nodup) := by
            refine ⟨?_, ?_⟩
            · rw [← trim_next m hk HJ.out.2.2.1 h6 hlk]; exact HJ.out.2.2.2
            · rw [← rows_less hk HJ.out.2.2.1]; exact filter_nodup _ HJ.out.2.2.1
          have HR7 : Hid (ROk w3 { S with clock := S.clock + 1 } w7 { Sj with rows := Sj.rows.take k ++ Sj.rows.drop (k + 1), ra := ra', rc := rc', low := Sj.rows[k].2 } ∧ rowsLen w7 S.wb = (Sj.rows.take k ++ Sj.rows.drop (k + 1)).length ∧ (Sj.rows.take k ++ Sj.rows.drop (k + 1)).length + 1 = Sj.rows.length) := ⟨HJ.out.1.trans hR7, hx4, hlen⟩
          clear hb7 hr7 hc7 hR7 HFO hx4 hlen hlk x4
          go_wp2
          go_roundw
          case rel =>
            have h1 := HR7.out.2.2
            refine ⟨{ Sj with rows := Sj.rows.take k ++ Sj.rows.drop (k + 1), ra := ra', rc := rc', low := Sj.rows[k].2 }, m, hwj, by simp only; omega, by simp only; omega, HR7.out.1, ?_, HT.out.2, HT.out.1⟩
            have e := HJ.out.2.1
            have e2 : ({ Sj with rows := Sj.rows.take k ++ Sj.rows.drop (k + 1), ra := ra', rc := rc', low := Sj.rows[k].2 } : RSt).abs = { Sj.abs with rows := Sj.rows.take k ++ Sj.rows.drop (k + 1), low := Sj.rows[k].2 } := rfl
            rw [e2, e]
          case measure =>
            have h1 := HR7.out.2.2
            rw [HM.out, HR7.out.2.1]
            omega
        · have hr6 : ¬ (6 : Int) < (Sj.rows.length : Int) := by omega
          have hno : ∀ b, w.heap.size ≤ b → b ∉ ({ S with clock := S.clock + 1 } : RSt).blocks := fun b hb hm => by have := HNB.out b hm; omega
          have q1 := (HJ.out.1.2.2.block _ (lt_of_block H3.out.2.2.2.1) (hno _ (by omega))).trans H3.out.2.2.2.1
          have q2 := (HJ.out.1.2.2.block _ (lt_of_block H3.out.2.2.2.2) (hno _ (by omega))).trans H3.out.2.2.2.2
          obtain ⟨d0, d1, d2⟩ := cell3s q2
          obtain ⟨e0, e1, e2⟩ := cell3s q1
          have ef := unfrozen_of q1
          have HQ : Hid (wr.heap[w.heap.size + 1]? = some (decC 0 0 0)) := q1
          clear q1 q2 hno hbj
          go_wp2
          have hct := chg_set3 wr (w.heap.size + 1) (.int .i64 T.start) (.int .i64 0) (.int .i64 (S.clock + 1))
          obtain ⟨r0, r1, r2⟩ := cell3s (set3 HQ.out (.int .i64 T.start) (.int .i64 0) (.int .i64 (S.clock + 1)))
          have hz3 : w.heap.size + 1 < w3.heap.size := lt_of_block H3.out.2.2.2.1
          have hall := H3.out.1.trans HJ.out.1
          refine bodyPost_ret (v := decV ⟨T.start, 0, S.clock + 1⟩) (by simp [results, Tryz.results72, go_sem, r0, r1, r2, decV]) rfl ⟨rfl, Sj, ?_, hwj, hall.1.chg hct ?_, hall.2.1, hall.2.2.andThen hct ?_⟩
          · have ht := HJ.out.2.2.2
            rw [trim_stop n h6] at ht
            have ea := HJ.out.2.1
            rw [ea]
            unfold commitM cM
            have t1 := congrArg Prod.fst ht
            have t2 := congrArg Prod.snd ht
            simp only at t1 t2
            rw [t1, t2, List.take_length]
            rfl
          · intro b hb (e : b = _)
            rcases HJ.out.1.2.1 b hb with h1 | h1
            · have := HNB.out b h1; omega
            · omega
          · exact fun i hi (h : i = _) => by omega
end Go.Proofs.YtkfjafndplmdkaaGreat
namespace Go.Proofs.YtkfjafndplmdkaaGreat
open Go.RowKit Go.Sort
/-- About a transaction. -/
theorem rdecide (S : RSt) (T : RT) (w : World) (h : RInv w S) (hT : RTAt w T) (hTb : ∀ b ∈ T.blocks, b ∉ S.blocks) (hrl : S.rows.length ≤ 400000) (hks : T.ks.length ≤ 1500000) (hps : T.ps.length ≤ 1500000) (hL : S.L.length ≤ 1500000) (hws : T.ws.length ≤ 1500000) (hc0 : 0 ≤ S.clock) (hc1 : S.clock < 1000000000) (hrn : (S.rows.map Prod.fst).Nodup) :
    Calls Tryz.prog 72 #[.pointer (some ⟨S.wb, 0, none⟩), T.v] w fun e w' => ∃ S', e = .returned (decV (decideM S.abs T.abs).1) ∧ S'.abs = (decideM S.abs T.abs).2 ∧ S'.wb = S.wb ∧ ROk w S w' S' := by
  by_cases h0 : T.ws = []
  · have e : decideM S.abs T.abs = (⟨T.start, 0, T.start⟩, S.abs) := by unfold decideM; rw [if_pos (show T.abs.ws = [] from h0)]; rfl
    rw [e]
    refine (rdecide_none S.wb T w h0).mono ?_
    rintro en w' ⟨rfl, hc⟩
    exact ⟨S, rfl, rfl, rfl, ROk.refl h hc⟩
  · by_cases hr : refusedM S.abs T.abs = 0
    · have e : decideM S.abs T.abs = (⟨T.start, 0, S.clock + 1⟩, commitM S.abs T.abs) := by unfold decideM; rw [if_neg (show ¬ T.abs.ws = [] from h0), if_neg (by rw [hr]; simp)]; rfl
      rw [e]
      exact rdecide_yes S T w h hT hTb h0 hrl hks hps hL hws hc0 hc1 hrn hr
    · have e : decideM S.abs T.abs = (⟨T.start, refusedM S.abs T.abs, 0⟩, S.abs) := by unfold decideM; rw [if_neg (show ¬ T.abs.ws = [] from h0), if_pos hr]; rfl
      rw [e]
      refine (rdecide_no S T w h hT h0 hrl hks hps hL hws hr).mono ?_
      rintro en w' ⟨rfl, hc⟩
      exact ⟨S, rfl, rfl, rfl, ROk.refl h hc⟩
theorem RInv.not_cells {w : World} {S : RSt} (h : RInv w S) {b : Nat} {c : Array Value} {t : TypeId} (hb : w.heap[b]? = some (.cells c t)) (he : 79 ≠ t ∧ 103 ≠ t ∧ 97 ≠ t ∧ 3 ≠ t ∧ 158 ≠ t ∧ 9 ≠ t) : b ∉ S.blocks := by
  intro hm
  simp only [RSt.blocks, RSt.others, List.mem_append, List.mem_cons, vb_mem, List.mem_flatMap] at hm
  rcases hm with (rfl | ((hm | hm) | hm) | hm) | ⟨T, hT, hm⟩
  · have := h.wb
    rw [hb] at this
    cases this
    exact he.1 rfl
  · exact row_not hb h.lr he.2.1 hm
  · exact row_not hb h.qr he.2.2.2.1 hm
  · exact row_not hb h.rr he.2.2.2.2.1 hm
  · exact row_not hb h.or he.2.2.1 hm
  · have hx := h.ts T hT
    simp only [RT.blocks, List.mem_append, vb_mem] at hm
    rcases hm with (hm | hm) | hm
    · exact row_not hb hx.wr he.2.1 hm
    · exact row_not hb hx.kr he.2.2.2.2.2 hm
    · exact row_not hb hx.pr he.2.2.2.2.2 hm
theorem RInv.rowR {w : World} {S : RSt} (h : RInv w S) {base : Nat} {e : TypeId} {size : Nat} {v : Value} {k : Nat} {xs : List Value} (hr : w.ownsRow base e size v k xs) (he : 79 ≠ e ∧ 103 ≠ e ∧ 97 ≠ e ∧ 3 ≠ e ∧ 158 ≠ e ∧ 9 ≠ e) : ∀ g, v.ownBlock = some g → g ∉ S.blocks := by
  intro g hg
  rcases hr.2 with ⟨rfl, _⟩ | ⟨g1, c1, cur1, rfl, _, hb1, _⟩
  · cases hg
  have e1 : g1 = g := by simpa [Value.ownBlock] using hg
  subst e1
  exact h.not_cells hb1 he
theorem RInv.apartT {w : World} {S : RSt} {k : Nat} (h : RInv w S) (hk : k < S.ts.length) : ∀ X ∈ S.ts, X.start ≠ S.ts[k].start → ∀ b ∈ S.ts[k].blocks, b ∉ X.blocks := by
  intro X hX hne b hb hb'
  have e1 : S.ts = S.ts.take k ++ S.ts[k] :: S.ts.drop (k + 1) := by rw [← List.drop_eq_getElem_cons hk, List.take_append_drop]
  have hnd := h.nd
  have e0 : S.blocks = (S.wb :: (S.others ++ vb S.ov)) ++ S.ts.flatMap RT.blocks := by simp [RSt.blocks]
  rw [e0] at hnd
  obtain ⟨_, n2, _⟩ := List.nodup_append.1 hnd
  have e3 : S.ts.flatMap RT.blocks = (S.ts.take k).flatMap RT.blocks ++ (S.ts[k].blocks ++ (S.ts.drop (k + 1)).flatMap RT.blocks) := by
    conv => lhs; rw [e1]
    rw [List.flatMap_append, List.flatMap_cons]
  rw [e3] at n2
  obtain ⟨_, m2, m3⟩ := List.nodup_append.1 n2
  obtain ⟨_, _, p3⟩ := List.nodup_append.1 m2
  have hX' : X ∈ S.ts.take k ++ S.ts[k] :: S.ts.drop (k + 1) := by rw [← e1]; exact hX
  rw [List.mem_append, List.mem_cons] at hX'
  rcases hX' with h1 | h1 | h1
  · exact m3 b (List.mem_flatMap.2 ⟨X, h1, hb'⟩) b (List.mem_append.2 (Or.inl hb)) rfl
  · exact hne (by rw [h1])
  · exact p3 b hb b (List.mem_flatMap.2 ⟨X, h1, hb'⟩) rfl
def RPostW (w : World) (S : RSt) (A : AnsM) (W : PW) (e : Ending) (w' : World) : Prop :=
  ∃ (S' : RSt) (x : Sl3), e = .returned (ansW A.code A.number A.found A.value (slV x.1) (slV x.2.1) (slV x.2.2)) ∧ RowsOf w' w.heap.size A x ∧ (∀ g, (slV x.2.2).ownBlock = some g → g ∉ S'.blocks) ∧ S'.abs = W ∧ S'.wb = S.wb ∧ ROk w S w' S'
theorem rpost_w {w w' : World} {S : RSt} {A : AnsM} {W : PW} {e : Ending} (h : RPost w S A W e w') (hd : A.done = []) (hs : A.sums = []) : RPostW w S A W e w' := by
  obtain ⟨S', it, rfl, hit, h1, h2, h3⟩ := h
  obtain ⟨a, c, rfl⟩ := row_form hit
  refine ⟨S', ((a, A.items.length, c), (none, 0, 0), (none, 0, 0)), rfl, ⟨hit, ?_, ?_⟩, (fun g hg => by cases hg), h1, h2, h3⟩
  · rw [hd]; exact World.ownsRow_nil _ _ _ _
  · rw [hs]; exact World.ownsRow_nil _ _ _ _
end Go.Proofs.YtkfjafndplmdkaaGreat
namespace Go.Proofs.YtkfjafndplmdkaaGreat
open Go.RowKit Go.Sort
structure PFit (W : PW) (n : Nat) : Prop where
  L : W.L.length ≤ 100
  Lt : ∀ v ∈ W.L, 0 ≤ v.time
  len : W.ts.length ≤ 6
  tx : ∀ T ∈ W.ts, T.ws.length ≤ n ∧ T.ks.length ≤ n ∧ T.ps.length ≤ n
  ql : W.q.length ≤ 3
  qn : W.q.Nodup
  qt : ∀ t ∈ W.q, ∃ T ∈ W.ts, T.start = t
  rl : W.rows.length ≤ 6
  rn : (W.rows.map Prod.fst).Nodup
  c0 : 0 ≤ W.clock
  c1 : W.clock + W.q.length ≤ n
theorem PFit.up {W : PW} {n m : Nat} (h : PFit W n) (hm : n ≤ m) : PFit W m := ⟨h.L, h.Lt, h.len, fun T hT => by have := h.tx T hT; omega, h.ql, h.qn, h.qt, h.rl, h.rn, h.c0, by have := h.c1; omega⟩
theorem PFit.out {W : PW} {n : Nat} {t : Int} {q : List Int} (h : PFit W n) (hq : W.q = t :: q) : PFit (outM W t q) n ∧ (outM W t q).clock + (outM W t q).q.length + 1 ≤ n := by
  have hn := h.qn
  have hc := h.c1
  have hl := h.ql
  rw [hq] at hn hc hl
  rw [List.nodup_cons] at hn
  simp only [List.length_cons] at hc hl
  refine ⟨⟨h.L, h.Lt, Nat.le_trans (List.length_filter_le _ _) h.len, fun T hT => h.tx T (List.mem_filter.1 hT).1, by show q.length ≤ 3; omega, hn.2, fun x hx => ?_, h.rl, h.rn, h.c0, by show W.clock + (q.length : Int) ≤ n; omega⟩, by show W.clock + (q.length : Int) + 1 ≤ n; omega⟩
  have hx' : x ∈ q := hx
  obtain ⟨T, hT, e⟩ := h.qt x (by rw [hq]; exact List.mem_cons_of_mem _ hx')
  exact ⟨T, List.mem_filter.2 ⟨hT, decide_eq_true (fun e' => hn.1 (by rw [← e', e]; exact hx'))⟩, e⟩
theorem PFit.decide {W : PW} {n : Nat} (h : PFit W n) (hn : W.clock + W.q.length + 1 ≤ n) (T : PT) : PFit (decideM W T).2 n := by
  unfold decideM
  split
  · exact h
  · split
    · exact h
    · rename_i h1 h2
      have h3 : refusedM W T = 0 := Classical.not_not.1 h2
      have h100 : W.L.length + T.ws.length ≤ 100 := by
        unfold refusedM at h3
        split at h3
        · simp at h3
        · split at h3
          · simp at h3
          · split at h3
            · simp at h3
            · omega
      have hnd := notes_nodup (W.clock + 1) T.ws h.rn
      refine ⟨?_, fun v hv => ?_, h.len, h.tx, h.ql, h.qn, h.qt, trim_len _ _ _ (Nat.le_refl _), trim_nodup _ _ hnd, ?_, ?_⟩
      · show (W.L ++ stampM T.ws (W.clock + 1)).length ≤ 100
        simp only [List.length_append, stampM, List.length_map]
        exact h100
      · rcases List.mem_append.1 hv with hv | hv
        · exact h.Lt v hv
        · obtain ⟨x, _, rfl⟩ := List.mem_map.1 hv
          have := h.c0
          show 0 ≤ W.clock + 1
          omega
      · have := h.c0
        show 0 ≤ W.clock + 1
        omega
      · show W.clock + 1 + (W.q.length : Int) ≤ n
        omega
theorem PFit.flush : ∀ (k : Nat) {W : PW} {n : Nat}, PFit W n → PFit (flushM k W).2 n
  | 0, _, _, h => h
  | k + 1, W, n, h => by
    cases hq : W.q with
    | nil => rw [flushM_nil _ _ hq]; exact h
    | cons t q =>
      cases hf : W.ts.find? (fun T => T.start == t) with
      | none =>
        rw [flushM]
        simp only [hq, hf]
        exact h
      | some P =>
        rw [flushM_cons k W hq hf]
        obtain ⟨h1, h2⟩ := h.out hq
        exact PFit.flush k (h1.decide h2 P)
theorem PFit.set {W : PW} {n k : Nat} {T X : PT} (h : PFit W n) (hk : W.ts[k]? = some T) (hs : X.start = T.start) (hX : X.ws.length ≤ n + 1 ∧ X.ks.length ≤ n + 1 ∧ X.ps.length ≤ n + 1) : PFit { W with ts := W.ts.set k X } (n + 1) := by
  refine ⟨h.L, h.Lt, by simpa using h.len, fun Y hY => ?_, h.ql, h.qn, fun t ht => ?_, h.rl, h.rn, h.c0, by have := h.c1; simp only; omega⟩
  · rcases List.mem_or_eq_of_mem_set hY with h1 | h1
    · have := h.tx Y h1; omega
    · rw [h1]; exact hX
  · obtain ⟨Y, hY, e⟩ := h.qt t ht
    obtain ⟨j, hj, hjY⟩ := List.getElem_of_mem hY
    by_cases hjk : j = k
    · subst hjk
      have e2 : Y = T := by rw [List.getElem?_eq_getElem hj, hjY] at hk; exact Option.some.inj hk
      refine ⟨X, ?_, by rw [hs, ← e2, e]⟩
      exact List.mem_iff_getElem.2 ⟨j, by simpa using hj, by simp⟩
    · refine ⟨Y, ?_, e⟩
      exact List.mem_iff_getElem.2 ⟨j, by simpa using hj, by rw [List.getElem_set_ne (Ne.symm hjk)]; exact hjY⟩
theorem writeM_len (ws : List Ver) (v : Ver) : (writeM ws v).length ≤ ws.length + 1 := by
  unfold writeM lessK
  have := List.length_filter_le (fun x : Ver => decide (x.key ≠ v.key)) ws
  simp only [List.length_append, List.length_cons, List.length_nil]
  omega
theorem pfit_of {W : PW} {n k : Nat} {T : PT} {o : OpM} (h : PFit W n) (hk : W.ts[k]? = some T) (hq : T.start ∉ W.q) : PFit (ofM W k T o).2 (n + 1) := by
  have hT := List.mem_of_getElem? hk
  have ht := h.tx T hT
  unfold ofM
  by_cases c1 : (o.kind = 2 ∨ o.kind = 4 ∨ o.kind = 5) ∧ (o.key.size < 1 ∨ 8 < o.key.size)
  · rw [if_pos c1]; exact h.up (by omega)
  rw [if_neg c1]
  by_cases c2 : o.kind = 2
  · rw [if_pos c2]; exact h.set hk rfl (by simp only [List.length_append, List.length_cons, List.length_nil]; omega)
  rw [if_neg c2]
  by_cases c3 : o.kind = 3
  · rw [if_pos c3]; exact h.set hk rfl (by simp only [List.length_append, List.length_cons, List.length_nil]; omega)
  rw [if_neg c3]
  by_cases c4 : o.kind = 4
  · rw [if_pos c4]
    by_cases c5 : 20 < o.val.size
    · rw [if_pos c5]; exact h.up (by omega)
    · rw [if_neg c5]
      exact h.set hk rfl (by have := writeM_len T.ws ⟨o.key, 0, o.val, false⟩; simp only; omega)
  rw [if_neg c4]
  by_cases c6 : o.kind = 5
  · rw [if_pos c6]
    exact h.set hk rfl (by have := writeM_len T.ws ⟨o.key, 0, ⟨#[]⟩, true⟩; simp only; omega)
  rw [if_neg c6]
  by_cases c7 : o.kind = 6
  · rw [if_pos c7]
    refine ⟨h.L, h.Lt, Nat.le_trans (List.length_filter_le _ _) h.len, fun X hX => by have := h.tx X (List.mem_filter.1 hX).1; omega, h.ql, h.qn, fun t ht' => ?_, h.rl, h.rn, h.c0, by have := h.c1; simp only; omega⟩
    obtain ⟨Y, hY, e⟩ := h.qt t ht'
    exact ⟨Y, List.mem_filter.2 ⟨hY, decide_eq_true (fun e' => hq (by rw [← e', e]; exact ht'))⟩, e⟩
  rw [if_neg c7]
  by_cases c8 : W.q.length = 3
  · rw [if_pos c8]; exact h.up (by omega)
  · rw [if_neg c8]
    have hl := h.ql
    have hc := h.c1
    refine ⟨h.L, h.Lt, h.len, fun X hX => by have := h.tx X hX; omega, ?_, ?_, fun t ht' => ?_, h.rl, h.rn, h.c0, ?_⟩
    · simp only [List.length_append, List.length_cons, List.length_nil]; omega
    · show (W.q ++ [T.start]).Nodup
      rw [List.nodup_append]
      refine ⟨h.qn, by simp, fun a ha b hb e => ?_⟩
      rw [List.mem_singleton.1 hb] at e
      exact hq (e ▸ ha)
    · rcases List.mem_append.1 ht' with h1 | h1
      · exact h.qt t h1
      · exact ⟨T, hT, (List.mem_singleton.1 h1).symm⟩
    · simp only [List.length_append, List.length_cons, List.length_nil]
      omega
theorem pfit_step {W : PW} {n : Nat} (h : PFit W n) (o : OpM) : PFit (stepR W o).2 (n + 1) := by
  unfold stepR
  by_cases k1 : o.kind = 1
  · rw [if_pos k1]
    by_cases h6 : 6 ≤ W.ts.length
    · rw [if_pos h6]; exact h.up (by omega)
    · rw [if_neg h6]
      refine ⟨h.L, h.Lt, by simp; omega, fun T hT => ?_, h.ql, h.qn, fun t ht => ?_, h.rl, h.rn, by have := h.c0; simp only; omega, by have := h.c1; simp only; omega⟩
      · rcases List.mem_append.1 hT with h1 | h1
        · have := h.tx T h1; omega
        · have e : T = ⟨W.clock + 1, [], [], []⟩ := by simpa using h1
          subst e
          simp
      · obtain ⟨Y, hY, e⟩ := h.qt t ht
        exact ⟨Y, List.mem_append.2 (Or.inl hY), e⟩
  rw [if_neg k1]
  by_cases k2 : 2 ≤ o.kind ∧ o.kind ≤ 7
  · rw [if_pos k2]
    split
    · exact h.up (by omega)
    · rename_i k hk
      split
      · exact h.up (by omega)
      · rename_i hin
        split
        · rename_i T hT
          have e : T.start = o.t := by
            obtain ⟨hl, hp, _⟩ := List.findIdx?_eq_some_iff_getElem.1 hk
            rw [List.getElem?_eq_getElem hl] at hT
            rw [← Option.some.inj hT]
            simpa using hp
          exact pfit_of h hT (by rw [e]; exact hin)
        · exact h.up (by omega)
  rw [if_neg k2]
  by_cases k8 : o.kind = 8
  · rw [if_pos k8]
    by_cases hb : o.n < 0 ∨ 100 < o.n
    · rw [if_pos hb]; exact h.up (by omega)
    · rw [if_neg hb]; exact (h.flush _).up (by omega)
  rw [if_neg k8]
  by_cases k9 : o.kind = 9
  · rw [if_pos k9]
    exact ⟨h.L, h.Lt, by simp, by simp, by simp, by simp, by simp, by simp, by simp, h.c0, by have := h.c1; simp only [List.length_nil]; omega⟩
  rw [if_neg k9]
  by_cases k10 : o.kind = 10
  · rw [if_pos k10]
    have hs : (cleanL W).Sublist W.L := by rw [cleanL_eq]; exact keptL_sub _ _
    exact ⟨Nat.le_trans hs.length_le h.L, fun v hv => h.Lt v (hs.subset hv), h.len, fun T hT => by have := h.tx T hT; omega, h.ql, h.qn, h.qt, h.rl, h.rn, h.c0, by have := h.c1; simp only; omega⟩
  rw [if_neg k10]
  by_cases k11 : o.kind = 11
  · rw [if_pos k11]; exact h.up (by omega)
  · rw [if_neg k11]; exact h.up (by omega)
theorem p0_fit : PFit p0 0 := ⟨by simp [p0], by simp [p0], by simp [p0], by simp [p0], by simp [p0], by simp [p0], by simp [p0], by simp [p0], by simp [p0], by simp [p0], by simp [p0]⟩
end Go.Proofs.YtkfjafndplmdkaaGreat
