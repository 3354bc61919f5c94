import Derived.Test.YtkfjafndplmdkaaGreatVJ
import Derived.Test.YtkfjafndplmdkaaGreatRS
import Derived.Deep.RegionHeld3
namespace Go.Proofs.YtkfjafndplmdkaaGreat
open Go.RowKit Go.Sort
abbrev ansD (v : Value) : Obj := .cells #[.int .i64 0, .int .i64 0, .bool false, .string ⟨#[]⟩, .slice none 0 0, v, .slice none 0 0] 36
set_option maxRecDepth 100000 in
set_option maxHeartbeats 1000000 in
theorem rflush_bad (wb : Nat) (n : Int) (w : World) (hb : n < 0 ∨ 100 < n) :
    Calls Tryz.prog 53 #[.pointer (some ⟨wb, 0, none⟩), .int .i64 n] w fun e w' => e = .returned (ansV 11 0 false ⟨#[]⟩ (.slice none 0 0)) ∧ Chg nobody w w' := by
  have hs : (n < 0) ∨ (¬ n < 0 ∧ 100 < n) := by omega
  clear hb
  rcases hs with b1 | ⟨b1, b2⟩
  all_goals
    go_enter Tryz.func53, Tryz.ntmps53
    go_wp2_with fail
    refine (no_any 11 _).mono ?_
    rintro e w5 ⟨rfl, hch⟩
    have fB : w5.heap[w.heap.size]? = some ans0 := by
      rw [hch.block _ (by simp) (fun h => h)]
      exact heap_new (by simp)
    have hc5 : Chg nobody w w5 := ((Chg.refl nobody w).alloc _).trans hch
    obtain ⟨k0, k1, k2, k3, k4, k5, k6, kf⟩ := cells7 fB
    have HZ : Hid (w5.heap[w.heap.size]? = some ans0 ∧ Chg nobody w w5) := ⟨fB, hc5⟩
    clear fB hch hc5
    go_wp2
    obtain ⟨f9B, hc5⟩ := HZ.out
    obtain ⟨r0, r1, r2, r3, r4, r5, r6⟩ := set7 f9B rfl (.int .i64 11) (.int .i64 0) (.bool false) (.string ⟨#[]⟩) (.slice none 0 0) (.slice none 0 0) (.slice none 0 0)
    have hc10 := chg_set7 w5 w.heap.size (.int .i64 11) (.int .i64 0) (.bool false) (.string ⟨#[]⟩) (.slice none 0 0) (.slice none 0 0) (.slice none 0 0)
    refine bodyPost_ret (v := ansV 11 0 false ⟨#[]⟩ (.slice none 0 0)) (by simp [results, Tryz.results53, go_sem, r0, r1, r2, r3, r4, r5, r6]) rfl ⟨rfl, hc5.andThen hc10 ?_⟩
    exact fun i hi (h : i = _) => by omega
theorem cons_of_find {S : RSt} {N : Nat} (hf : PFit S.abs N) {t : Int} {q : List Int} (hq : S.q = t :: q) : ∃ k, ∃ hk : k < S.ts.length, findI (S.ts.map RT.start) t = k ∧ S.ts[k].start = t ∧ S.abs.ts.find? (fun T => T.start == t) = some S.ts[k].abs := by
  obtain ⟨P, hP, e⟩ := hf.qt t (by show t ∈ S.q; rw [hq]; exact List.mem_cons_self ..)
  have e1 : (S.ts.map RT.start).findIdx? (· == t) = S.ts.findIdx? (fun T => T.start == t) := by rw [List.findIdx?_map]; rfl
  cases hx : S.ts.findIdx? (fun T => T.start == t) with
  | none =>
    exfalso
    obtain ⟨X, hX, e2⟩ := List.mem_map.1 (show P ∈ S.ts.map RT.abs from hP)
    have := List.findIdx?_eq_none_iff.1 hx X hX
    rw [← e2] at e
    have e3 : X.start = t := e
    simp [e3] at this
  | some k =>
    obtain ⟨hk, hp, hmin⟩ := List.findIdx?_eq_some_iff_getElem.1 hx
    refine ⟨k, hk, ?_, by simpa using hp, ?_⟩
    · unfold findI
      rw [e1, hx]
    · rw [List.find?_eq_some_iff_getElem]
      refine ⟨hp, k, by simpa [RSt.abs] using hk, by simp [RSt.abs], fun j hj => ?_⟩
      have := hmin j hj
      simpa [RSt.abs, RT.abs] using this
set_option maxRecDepth 100000 in
set_option maxHeartbeats 4000000 in
theorem rflush_ok (S : RSt) (n : Int) (N : Nat) (w : World) (h : RInv w S) (hf : PFit S.abs N) (hN : N ≤ 1500000) (h0 : 0 ≤ n) (h1 : n ≤ 100) :
    Calls Tryz.prog 53 #[.pointer (some ⟨S.wb, 0, none⟩), .int .i64 n] w fun e w' => ∃ (S' : RSt) (a : Option Addr) (c : Nat), e = .returned (ansW 0 0 false ⟨#[]⟩ (.slice none 0 0) (.slice a (flushM n.toNat S.abs).1.length c) (.slice none 0 0)) ∧ w'.ownsRow w.heap.size 44 3 (.slice a (flushM n.toNat S.abs).1.length c) (flushM n.toNat S.abs).1.length (decCells (flushM n.toNat S.abs).1) ∧ S'.abs = (flushM n.toNat S.abs).2 ∧ S'.wb = S.wb ∧ ROk w S w' S' := by
  obtain ⟨i0, hi, hz0, hz1, hz2⟩ := info_parts infoDec
  obtain ⟨j0, hj, hy0, hy1, hy2⟩ := info_parts infoInt
  have HH : Hid (RInv w S ∧ PFit S.abs N) := ⟨h, hf⟩
  have hwl : S.wb < w.heap.size := lt_of_block h.wb
  clear h hf
  have b1 : ¬ n < 0 := by omega
  have b2 : ¬ 100 < n := by omega
  go_enter Tryz.func53, Tryz.ntmps53
  go_wp2_with fail
  go_loopw [6] (fun iv wr => ∃ (i : Nat) (Si : RSt) (ds : List Dec) (va : Option Addr) (vc : Nat), (i : Int) ≤ n ∧ iv = .int .i64 i ∧ Si.wb = S.wb ∧ ds.length ≤ i ∧ wr.heap[w.heap.size + 1]? = some (ansD (.slice va ds.length vc)) ∧ Hid (wr.heap[w.heap.size]? = some ans0 ∧ wr.ownsRow (w.heap.size + 2) 44 3 (.slice va ds.length vc) ds.length (decCells ds) ∧ ROk w S wr Si ∧ PFit Si.abs N ∧ flushM n.toNat S.abs = (ds ++ (flushM (n.toNat - i) Si.abs).1, (flushM (n.toNat - i) Si.abs).2))) (fun iv _ => n.toNat - (intOf iv).toNat)
  case atStart =>
    refine ⟨0, S, [], none, 0, by omega, rfl, rfl, Nat.le_refl _, heap_new (by simp), ?_, World.ownsRow_nil _ _ _ _, ROk.refl HH.out.1 (((Chg.refl _ _).alloc _).alloc _), HH.out.2, by simp⟩
    rw [Below.heap_alloc _ _ _ (by simp)]
    exact heap_new (by simp)
  case round =>
    obtain ⟨i, Si, ds, va, vc, hin, rfl, hwi, hdl, hba, HI⟩ := hrel
    obtain ⟨wo, rfl⟩ : ∃ wo : World, wo = wr := ⟨_, rfl⟩
    have hbi := HI.out.2.2.1.1.wb
    rw [hwi] at hbi
    have x2 := cell_of hbi (i := 2) (v := .slice Si.oa Si.ts.length Si.oc) rfl
    have x3 := cell_of hbi (i := 3) (v := .slice Si.qa Si.q.length Si.qc) rfl
    have HBA : Hid (wo.heap[w.heap.size + 1]? = some (ansD (.slice va ds.length vc))) := hba
    by_cases hgo : (i : Int) < n ∧ Si.q ≠ []
    · obtain ⟨hlt, hqne⟩ := hgo
      obtain ⟨t, q, hq⟩ : ∃ t q, Si.q = t :: q := List.exists_cons_of_ne_nil hqne
      obtain ⟨k, hk, hfk, hst, hfind⟩ := cons_of_find HI.out.2.2.2.1 hq
      have hql : Si.q.length = q.length + 1 := by rw [hq]; simp
      have hq0 : (0 : Int) < (Si.q.length : Int) := by omega
      have hqr : wo.ownsRow 0 3 1 (.slice Si.qa Si.q.length Si.qc) Si.q.length (Si.q.map (.int .i64 ·)) := HI.out.2.2.1.1.qr
      obtain ⟨gq, hgq, _, hgql, hqcap, hqc⟩ := row_open hqr (by omega)
      have c0 := hqc 0 (.int .i64 t) (by rw [hq]; rfl)
      obtain ⟨go, hgo, hvo⟩ := HI.out.2.2.1.1.open hk
      have hor : wo.ownsRow 0 97 4 (.slice Si.oa Si.ts.length Si.oc) Si.ts.length (rtCells Si.ts) := HI.out.2.2.1.1.or
      rw [hgo] at hor x2
      rw [hgq] at x3
      obtain ⟨e0, e1, e2, e3⟩ := rt_at hor k hk
      have HFC : Hid (∀ w2, Chg nobody wo w2 → Calls Tryz.prog 50 #[.pointer (some ⟨S.wb, 0, none⟩), .int .i64 t] w2 fun e w' => e = .returned (.int .i64 k) ∧ w' = w2) := fun w2 hc => by
        have := find_at (w := w2) (HI.out.2.2.1.1.chg hc (fun _ _ h => h)) (show Si.ts.length ≤ 2000000 by have := HI.out.2.2.2.1.len; simp only [RSt.abs, List.length_map] at this; omega) t
        rw [hwi, hfk] at this
        exact this
      have hkl : (k : Int) < (Si.ts.length : Int) := by omega
      clear hbi hba hqr hqc hor
      have HTK : Hid (∃ hk : k < Si.ts.length, Si.ts[k] = Si.ts[k]) := ⟨hk, rfl⟩
      obtain ⟨T, hTe⟩ : ∃ T, Si.ts[k] = T := ⟨_, rfl⟩
      rw [hTe] at e0 e1 e2 e3 hst hfind
      have HTE : Hid (Si.ts[k] = T) := hTe
      clear hTe HTK
      subst hst
      have HQQ : Hid (Si.q = T.start :: q ∧ Si.abs.ts.find? (fun P => P.start == T.start) = some T.abs) := ⟨hq, hfind⟩
      have HQC : Hid (∀ wq, Chg nobody wo wq → ∀ (j : Nat) (u : Value), (q.map (Value.int .i64 ·))[j]? = some u → wq.cell? ((⟨gq, 1, none⟩ : Addr).add j) = some u) := fun wq hc j u hu => by
        have hqr : wq.ownsRow 0 3 1 (.slice Si.qa Si.q.length Si.qc) Si.q.length (Si.q.map (.int .i64 ·)) := ownsRow_chg HI.out.2.2.1.1.qr hc (fun _ _ h => h)
        rw [hgq] at hqr
        have := row_cells hqr (1 + j) u (by rw [HQQ.out.1, Nat.add_comm]; simpa using hu)
        rw [addr_p]
        exact this
      clear hq hfind hqne
      go_wp2_with fail
      go_region_held3 (fun w' => w'.cell? ⟨S.wb, 2, none⟩ = some (.slice (some ⟨go, 0, none⟩) Si.ts.length Si.oc) ∧ w'.cell? ⟨S.wb, 3, none⟩ = some (.slice (some ⟨gq, 0, none⟩) Si.q.length Si.qc) ∧ w'.cell? ⟨gq, 0, none⟩ = some (.int .i64 T.start) ∧ w'.cell? ⟨go, k * 4, none⟩ = some (.int .i64 T.start) ∧ w'.cell? ⟨go, k * 4 + 1, none⟩ = some (.slice T.wa T.ws.length T.wc) ∧ w'.cell? ⟨go, k * 4 + 2, none⟩ = some (.slice T.ka T.ks.length T.kc) ∧ w'.cell? ⟨go, k * 4 + 3, none⟩ = some (.slice T.pa T.ps.length T.pc)) (go_keep)
        (first
          | (go_at_call 50; refine (HFC.out _ (by first | exact (Chg.refl _ _).drew | exact ((Chg.refl _ _).alloc _).drew | exact ((Chg.refl _ _).drew).alloc _)).mono ?_; rintro e w' ⟨rfl, hw'⟩; replace hw' := hw'.symm; subst hw'))
      all_goals
        generalize hwa : (wo.alloc (rtC T)).drew = wa at *
        have hca : Chg nobody wo wa := by rw [← hwa]; exact ((Chg.refl _ _).alloc _).drew
        have ba : wa.heap[wo.heap.size]? = some (rtC T) := by rw [← hwa]; exact (MapKept.heap_alloc wo _).1
        have hIa : RInv wa Si := HI.out.2.2.1.1.chg hca (fun _ _ h => h)
        have hba := hIa.wb
        rw [hwi] at hba
        have y3 := cell_of hba (i := 3) (v := .slice Si.qa Si.q.length Si.qc) rfl
        rw [hgq, hql] at y3
        have HW : Hid (Chg nobody wo wa ∧ wa.heap[wo.heap.size]? = some (rtC T) ∧ RInv wa Si ∧ wa.heap[S.wb]? = some (.cells #[.int .i64 Si.clock, Si.lv, Si.ov, Si.qv, Si.rv, .int .i64 Si.low] 79)) := ⟨hca, ba, hIa, hba⟩
        have hnq : ∀ b, b = wo.heap.size → b ≠ S.wb := fun b e => by have h1 := lt_of_block HBA.out; omega
        clear hca ba hIa hba hwa e0 e1 e2 e3 c0 x2 x3
        have hqlen : q.length ≤ 3 := by have := HI.out.2.2.2.1.ql; simp only [RSt.abs] at this; omega
        have hq1 : (1 : Int) ≤ (q.length : Int) + 1 := by omega
        by_cases hcap : 1 < Si.qc
        · have hcapI : (1 : Int) < (Si.qc : Int) := by omega
          have hcapI' : (1 : Int) ≤ (Si.qc : Int) := by omega
          go_wp2_with (first
            | (at_builtin; refine wpList_append_own _ rfl _ _ 34 rfl wa.heap.size 3 j0 (.int .i64 0) 1 8 Tryz.underlying34 hj hy0 hy1 hy2 rfl (by decide) (.slice none 0 0) 0 [] rfl (World.ownsRow_nil _ _ _ _) ⟨gq, 1, none⟩ q.length (Si.qc - 1) (q.map (Value.int .i64 ·)) rfl (by simp) (HQC.out _ HW.out.1) (by simp [Value.oneCell']) (by unfold maxLen; omega) (by omega) (Nat.le_refl _) ?_; intro v1 w1 hown1 hg1 _; rw [Nat.zero_add, List.nil_append] at hown1; obtain ⟨qa', qc', rfl⟩ := row_form hown1; have hc1 : Chg nobody wa w1 := (Chg.refl _ _).grown hg1 (fun q e => by cases e); have hb1 := (hc1.block S.wb (lt_of_block HW.out.2.2.2) (fun h => h)).trans HW.out.2.2.2; have hf1 := unfrozen_of hb1 3; have z3 := cell_of hb1 (i := 3) (v := .slice Si.qa Si.q.length Si.qc) rfl; have hc2 := chg_set1 w1 S.wb 3 (.slice qa' q.length qc'); have bT := (hc2.block _ (lt_of_block ((hc1.block _ (lt_of_block HW.out.2.1) (fun h => h)).trans HW.out.2.1)) (hnq _ rfl)).trans ((hc1.block _ (lt_of_block HW.out.2.1) (fun h => h)).trans HW.out.2.1); have tt0 := cell_of bT (i := 0) (v := .int .i64 T.start) rfl))
          have hb2 := heap_setCell_same w1 S.wb 3 _ 79 (.slice qa' q.length qc') hb1
          have hq2 := ownsRow_chg hown1 hc2 (fun b e (h : b = S.wb) => by have := (hown1.lt b e).1; have := lt_of_block HW.out.2.2.2; omega)
          have hcc2 : Chg (fun b => b = Si.wb) wa (w1.setCell ⟨S.wb, 3, none⟩ (.slice qa' q.length qc')) := (hc1.any _).trans (hc2.mono (fun _ _ h => h.trans hwi.symm))
          have hR2 := HW.out.2.2.1.setQ (q := q) (qa := qa') (qc := qc') (by rw [hwi]; exact hb2) hq2 hcc2
          have HR2 : Hid (ROk wo Si (w1.setCell ⟨S.wb, 3, none⟩ (.slice qa' q.length qc')) { Si with q := q, qa := qa', qc := qc' } ∧ (w1.setCell ⟨S.wb, 3, none⟩ (.slice qa' q.length qc')).heap[wo.heap.size]? = some (rtC T) ∧ Chg (fun b => b = S.wb) wo (w1.setCell ⟨S.wb, 3, none⟩ (.slice qa' q.length qc')) ∧ ∀ b, (Value.slice qa' q.length qc').ownBlock = some b → wo.heap.size ≤ b) := ⟨hR2.before HW.out.1, bT, (HW.out.1.any _).trans (hcc2.mono (fun _ _ h => h.trans hwi)), fun b e => by have := (hown1.lt b e).1; have := HW.out.1.size; omega⟩
          clear hb2 hq2 hcc2 hR2 hb1 hf1 z3 hc2 bT tt0 hown1 hg1 hc1 y3 HW HQC
          generalize w1.setCell ⟨S.wb, 3, none⟩ (.slice qa' q.length qc') = w2 at *
          have htl : Si.ts.length ≤ 2000000 := by have := HI.out.2.2.2.1.len; simp only [RSt.abs, List.length_map] at this; omega
          refine (leave_any S.wb 0 Si.oc Si.oa Si.ts T.start _ _ _ _ _ w2 htl (by have := HR2.out.1.1.wb; rw [show ({ Si with q := q, qa := qa', qc := qc' } : RSt).wb = S.wb from hwi] at this; exact this) HR2.out.1.1.or).mono ?_
          rintro e w3 ⟨rfl, v3, hb3, ho3, hc3⟩
          obtain ⟨oa', oc', rfl⟩ := row_form ho3
          have hR3 := HR2.out.1.1.setOpen (ts' := lessRT Si.ts T.start) (oa' := oa') (oc' := oc') (rflat_sub _ _) (fun X hX => (List.mem_filter.1 hX).1) (by rw [show ({ Si with q := q, qa := qa', qc := qc' } : RSt).wb = S.wb from hwi]; exact hb3) ho3 (hc3.mono (fun _ _ h => h.trans hwi.symm))
          obtain ⟨Sl, hSl⟩ : ∃ Sl : RSt, Sl = ({ { Si with q := q, qa := qa', qc := qc' } with ts := lessRT Si.ts T.start, oa := oa', oc := oc' } : RSt) := ⟨_, rfl⟩
          have hR03 : ROk wo Si w3 Sl := by rw [hSl]; exact HR2.out.1.trans hR3
          have hlw : Sl.wb = S.wb := by rw [hSl]; exact hwi
          have hab : Sl.abs = outM Si.abs T.start q := by rw [hSl]; simp only [RSt.abs, outM, filter_abs]
          have hs1 : Sl.rows = Si.rows ∧ Sl.L = Si.L ∧ Sl.clock = Si.clock := by rw [hSl]; exact ⟨rfl, rfl, rfl⟩
          have bT3 := (hc3.block _ (lt_of_block HR2.out.2.1) (hnq _ rfl)).trans HR2.out.2.1
          have hc03 : Chg (fun b => b = S.wb) wo w3 := HR2.out.2.2.1.trans hc3
          obtain ⟨_, hap⟩ := HI.out.2.2.1.1.parts hk
          have hat := HI.out.2.2.1.1.apartT hk
          rw [HTE.out] at hap hat
          have hTm : T ∈ Si.ts := by rw [← HTE.out]; exact List.getElem_mem hk
          have hTo := HI.out.2.2.1.1.ts T hTm
          have hT3 : RTAt w3 T := hTo.chg hc03 (fun b hb e => (hap b hb).1 (e.trans hwi.symm))
          have hzw2 : wo.heap.size ≤ w2.heap.size := HR2.out.2.2.1.size
          have hTb3 : ∀ b ∈ T.blocks, b ∉ Sl.blocks := fun b hb hm => by
            rw [hSl] at hm
            have hlt := hTo.lt b hb
            replace hm : b ∈ Si.wb :: (vb Si.lv ++ vb (.slice qa' q.length qc') ++ vb Si.rv ++ vb (.slice oa' (lessRT Si.ts T.start).length oc')) ++ (lessRT Si.ts T.start).flatMap RT.blocks := hm
            simp only [List.mem_append, List.mem_cons, List.mem_flatMap] at hm
            rcases hm with (hm | (((hm | hm) | hm) | hm)) | ⟨X, hX, hm⟩
            · exact (hap b hb).1 hm
            · exact (hap b hb).2.1 (by simp [RSt.others, hm])
            · have := HR2.out.2.2.2 b (vb_mem.1 hm); omega
            · exact (hap b hb).2.1 (by simp [RSt.others, hm])
            · have := (ho3.lt b (vb_mem.1 hm)).1; omega
            · obtain ⟨hX1, hX2⟩ := List.mem_filter.1 hX
              exact hat X hX1 (of_decide_eq_true hX2) b hb hm
          obtain ⟨hPo, hPc⟩ := HI.out.2.2.2.1.out (t := T.start) (q := q) HQQ.out.1
          have htx := HI.out.2.2.2.1.tx T.abs (List.mem_map.2 ⟨T, hTm, rfl⟩)
          simp only [RT.abs] at htx
          have hL3 : Si.L.length ≤ 100 := HI.out.2.2.2.1.L
          have hr3 : Si.rows.length ≤ 6 := HI.out.2.2.2.1.rl
          have hck := HI.out.2.2.2.1.c1
          simp only [RSt.abs] at hck
          have HD := rdecide Sl T w3 hR03.1 hT3 hTb3 (by rw [hs1.1]; omega) (by omega) (by omega) (by rw [hs1.2.1]; omega) (by omega) (by rw [hs1.2.2]; exact HI.out.2.2.2.1.c0) (by rw [hs1.2.2]; omega) (by rw [hs1.1]; exact HI.out.2.2.2.1.rn)
          rw [hab, hlw] at HD
          have ba3 := (hc03.block _ (lt_of_block HBA.out) (fun (h : _ = _) => by omega)).trans HBA.out
          have bz3 := (hc03.block _ (lt_of_block HI.out.1) (fun (h : _ = _) => by omega)).trans HI.out.1
          have hrw3 := ownsRow_chg HI.out.2.1 hc03 (fun b e (h : b = _) => by have := (HI.out.2.1.lt b e).1; omega)
          have t0 := cell_of bT3 (i := 0) (v := .int .i64 T.start) rfl
          have t1 := cell_of bT3 (i := 1) (v := .slice T.wa T.ws.length T.wc) rfl
          have t2 := cell_of bT3 (i := 2) (v := .slice T.ka T.ks.length T.kc) rfl
          have t3 := cell_of bT3 (i := 3) (v := .slice T.pa T.ps.length T.pc) rfl
          have H3 : Hid (ROk wo Si w3 Sl ∧ w3.heap[w.heap.size + 1]? = some (ansD (.slice va ds.length vc)) ∧ w3.heap[w.heap.size]? = some ans0 ∧ w3.ownsRow (w.heap.size + 2) 44 3 (.slice va ds.length vc) ds.length (decCells ds) ∧ PFit (outM Si.abs T.start q) N ∧ (outM Si.abs T.start q).clock + (outM Si.abs T.start q).q.length + 1 ≤ N) := ⟨hR03, ba3, bz3, hrw3, hPo, hPc⟩
          clear hzw2 hb3 ho3 hc3 hR3 hR03 bT3 hc03 hap hat hTm hTo hT3 hTb3 hPo hPc hab hSl hs1 hlw htx hL3 hr3 hck ba3 bz3 hrw3 HR2
          unfold RT.v at HD
          go_wp2_with fail
          refine HD.mono ?_
          rintro e w4 ⟨Sd, rfl, habs4, hwb4, hR4⟩
          have hna : w.heap.size + 1 ∉ Sl.blocks := H3.out.1.1.not_cells H3.out.2.1 (by decide)
          have hnz : w.heap.size ∉ Sl.blocks := H3.out.1.1.not_cells H3.out.2.2.1 (by decide)
          have ba4 := (hR4.2.2.block _ (lt_of_block H3.out.2.1) hna).trans H3.out.2.1
          have bz4 := (hR4.2.2.block _ (lt_of_block H3.out.2.2.1) hnz).trans H3.out.2.2.1
          have hrw4 := ownsRow_chg H3.out.2.2.2.1 hR4.2.2 (H3.out.1.1.rowR H3.out.2.2.2.1 (by decide))
          have hP4 : PFit Sd.abs N := by rw [habs4]; exact H3.out.2.2.2.2.1.decide H3.out.2.2.2.2.2 T.abs
          have hR04 : ROk wo Si w4 Sd := H3.out.1.trans hR4
          obtain ⟨m, hm⟩ : ∃ m, n.toNat - i = m + 1 := ⟨n.toNat - i - 1, by omega⟩
          have hfl : flushM n.toNat S.abs = ((ds ++ [(decideM (outM Si.abs T.start q) T.abs).1]) ++ (flushM (n.toNat - (i + 1)) Sd.abs).1, (flushM (n.toNat - (i + 1)) Sd.abs).2) := by
            rw [HI.out.2.2.2.2, hm, flushM_cons m Si.abs HQQ.out.1 HQQ.out.2, ← habs4, show n.toNat - (i + 1) = m by omega]
            simp
          generalize (decideM (outM Si.abs T.start q) T.abs).1 = d at *
          have hla4 := lt_of_block ba4
          have a0 := cell_of ba4 (i := 0) (v := .int .i64 0) rfl
          have a5 := cell_of ba4 (i := 5) (v := .slice va ds.length vc) rfl
          have a5' : ∀ o, (w4.alloc o).cell? ⟨w.heap.size + 1, 5, none⟩ = some (.slice va ds.length vc) := fun o => by rw [World.cell?_alloc_past _ _ _ hla4]; exact a5
          have H4 : Hid (ROk wo Si w4 Sd ∧ PFit Sd.abs N ∧ w4.heap[w.heap.size + 1]? = some (ansD (.slice va ds.length vc)) ∧ w4.heap[w.heap.size]? = some ans0 ∧ w4.ownsRow (w.heap.size + 2) 44 3 (.slice va ds.length vc) ds.length (decCells ds) ∧ flushM n.toNat S.abs = ((ds ++ [d]) ++ (flushM (n.toNat - (i + 1)) Sd.abs).1, (flushM (n.toNat - (i + 1)) Sd.abs).2)) := ⟨hR04, hP4, ba4, bz4, hrw4, hfl⟩
          have hsz4 : w.heap.size + 2 ≤ w4.heap.size := by omega
          have HCN : Hid (∀ j u, (decCell d)[j]? = some u → ((w4.alloc (decC d.num d.code d.time)).alloc (decC d.num d.code d.time)).cell? ((⟨w4.heap.size + 1, 0, none⟩ : Addr).add j) = some u) := fun j u hu => by
            have h0 := cells_new (w4.alloc (decC d.num d.code d.time)) #[.int .i64 d.num, .int .i64 d.code, .int .i64 d.time] 44 j u hu
            have hz : (w4.alloc (decC d.num d.code d.time)).heap.size = w4.heap.size + 1 := by simp
            rw [hz] at h0
            exact h0
          clear hna hnz ba4 bz4 hrw4 hP4 hR04 hfl HD t0 t1 t2 t3 hR4 habs4 HFC H3 hm
          unfold decV
          go_wp2_with (first
            | (at_builtin; refine wpList_append_own _ rfl _ _ 33 rfl (w.heap.size + 2) 44 i0 (.agg #[.int .i64 0, .int .i64 0, .int .i64 0]) 3 24 Tryz.underlying33 hi hz0 hz1 hz2 rfl (by decide) _ _ _ rfl ((H4.out.2.2.2.2.1.alloc _).alloc _) ⟨w4.heap.size + 1, 0, none⟩ 1 1 (decCell d) rfl rfl HCN.out (dec_one d) (by unfold maxLen; omega) (by omega) (by simp; omega) ?_; intro v5 w5 hown5 hg5 _; obtain ⟨va', vc', rfl⟩ := row_form hown5; have hc5 : Chg (fun g => (Value.slice va ds.length vc).ownBlock = some g) w4 w5 := (((Chg.refl _ _).alloc _).alloc _).grown hg5 (fun g e => Or.inl e); have ba5 := (hc5.block _ (lt_of_block H4.out.2.2.1) (fun e => row_not H4.out.2.2.1 H4.out.2.2.2.2.1 (by decide) e)).trans H4.out.2.2.1; have k5 := cell_of ba5 (i := 5) (v := .slice va ds.length vc) rfl; have kf := unfrozen_of ba5 5; have H5 : Hid (Chg (fun g => (Value.slice va ds.length vc).ownBlock = some g) w4 w5 ∧ w5.heap[w.heap.size + 1]? = some (ansD (.slice va ds.length vc)) ∧ w5.ownsRow (w.heap.size + 2) 44 3 (.slice va' (ds.length + 1) vc') (ds.length + 1) (decCells ds ++ decCell d)) := ⟨hc5, ba5, hown5⟩; clear hc5 ba5 hown5 hg5))
          go_roundw
          case rel =>
            obtain ⟨hR4, hP4, ba4, bz4, hrw4, hfl⟩ := H4.out
            obtain ⟨hc5, ba5, hown5⟩ := H5.out
            have hc6 := chg_set1 w5 (w.heap.size + 1) 5 (.slice va' (ds.length + 1) vc')
            have hlen : (ds ++ [d]).length = ds.length + 1 := by simp
            have hzo := HI.out.2.2.1.2.2.size
            have hna : w.heap.size + 1 ∉ Sd.blocks := hR4.1.not_cells ba4 (by decide)
            have hI5 : RInv w5 Sd := hR4.1.chg hc5 (fun b hb e => hR4.1.rowR hrw4 (by decide) b e hb)
            have hI6 := hI5.chg hc6 (fun b hb e => hna (e ▸ hb))
            have hR0 := HI.out.2.2.1.trans hR4
            refine ⟨i + 1, Sd, ds ++ [d], va', vc', by omega, by go_num, hwb4, by rw [hlen]; omega, ?_, ?_, ?_, ⟨hI6, hR0.2.1, ?_⟩, hP4, hfl⟩
            · rw [hlen]
              exact heap_setCell_same w5 (w.heap.size + 1) 5 _ 36 (.slice va' (ds.length + 1) vc') ba5
            · have b5 := (hc5.block _ (lt_of_block bz4) (fun e => row_not bz4 hrw4 (by decide) e)).trans bz4
              exact (hc6.block _ (lt_of_block b5) (fun (h : _ = _) => by omega)).trans b5
            · rw [hlen, decCells_snoc]
              exact ownsRow_chg hown5 hc6 (fun b e (h : b = _) => by have := (hown5.lt b e).1; omega)
            · exact (hR0.2.2.andThen hc5 (fun b hb e => by have := (hrw4.lt b e).1; omega)).andThen hc6 (fun b hb (e : b = _) => by omega)
          case measure => simp [intOf]; omega
        · have hqcE : Si.qc = 1 := by omega
          have HQN : Hid (q = []) := List.eq_nil_of_length_eq_zero (by omega)
          go_wp2_with (first
            | (at_builtin; refine wpList_append_own _ rfl _ _ 34 rfl wa.heap.size 3 j0 (.int .i64 0) 1 8 Tryz.underlying34 hj hy0 hy1 hy2 rfl (by decide) (.slice none 0 0) 0 [] rfl (World.ownsRow_nil _ _ _ _) ⟨gq, 0, none⟩ q.length 0 (q.map (Value.int .i64 ·)) rfl (by simp) (fun j u hu => by rw [HQN.out] at hu; simp at hu) (by simp [Value.oneCell']) (by unfold maxLen; omega) (by omega) (Nat.le_refl _) ?_; intro v1 w1 hown1 hg1 _; rw [Nat.zero_add, List.nil_append] at hown1; obtain ⟨qa', qc', rfl⟩ := row_form hown1; have hc1 : Chg nobody wa w1 := (Chg.refl _ _).grown hg1 (fun q e => by cases e); have hb1 := (hc1.block S.wb (lt_of_block HW.out.2.2.2) (fun h => h)).trans HW.out.2.2.2; have hf1 := unfrozen_of hb1 3; have z3 := cell_of hb1 (i := 3) (v := .slice Si.qa Si.q.length Si.qc) rfl; have hc2 := chg_set1 w1 S.wb 3 (.slice qa' q.length qc'); have bT := (hc2.block _ (lt_of_block ((hc1.block _ (lt_of_block HW.out.2.1) (fun h => h)).trans HW.out.2.1)) (hnq _ rfl)).trans ((hc1.block _ (lt_of_block HW.out.2.1) (fun h => h)).trans HW.out.2.1); have tt0 := cell_of bT (i := 0) (v := .int .i64 T.start) rfl))
          have hb2 := heap_setCell_same w1 S.wb 3 _ 79 (.slice qa' q.length qc') hb1
          have hq2 := ownsRow_chg hown1 hc2 (fun b e (h : b = S.wb) => by have := (hown1.lt b e).1; have := lt_of_block HW.out.2.2.2; omega)
          have hcc2 : Chg (fun b => b = Si.wb) wa (w1.setCell ⟨S.wb, 3, none⟩ (.slice qa' q.length qc')) := (hc1.any _).trans (hc2.mono (fun _ _ h => h.trans hwi.symm))
          have hR2 := HW.out.2.2.1.setQ (q := q) (qa := qa') (qc := qc') (by rw [hwi]; exact hb2) hq2 hcc2
          have HR2 : Hid (ROk wo Si (w1.setCell ⟨S.wb, 3, none⟩ (.slice qa' q.length qc')) { Si with q := q, qa := qa', qc := qc' } ∧ (w1.setCell ⟨S.wb, 3, none⟩ (.slice qa' q.length qc')).heap[wo.heap.size]? = some (rtC T) ∧ Chg (fun b => b = S.wb) wo (w1.setCell ⟨S.wb, 3, none⟩ (.slice qa' q.length qc')) ∧ ∀ b, (Value.slice qa' q.length qc').ownBlock = some b → wo.heap.size ≤ b) := ⟨hR2.before HW.out.1, bT, (HW.out.1.any _).trans (hcc2.mono (fun _ _ h => h.trans hwi)), fun b e => by have := (hown1.lt b e).1; have := HW.out.1.size; omega⟩
          clear hb2 hq2 hcc2 hR2 hb1 hf1 z3 hc2 bT tt0 hown1 hg1 hc1 y3 HW HQC
          generalize w1.setCell ⟨S.wb, 3, none⟩ (.slice qa' q.length qc') = w2 at *
          have htl : Si.ts.length ≤ 2000000 := by have := HI.out.2.2.2.1.len; simp only [RSt.abs, List.length_map] at this; omega
          refine (leave_any S.wb 0 Si.oc Si.oa Si.ts T.start _ _ _ _ _ w2 htl (by have := HR2.out.1.1.wb; rw [show ({ Si with q := q, qa := qa', qc := qc' } : RSt).wb = S.wb from hwi] at this; exact this) HR2.out.1.1.or).mono ?_
          rintro e w3 ⟨rfl, v3, hb3, ho3, hc3⟩
          obtain ⟨oa', oc', rfl⟩ := row_form ho3
          have hR3 := HR2.out.1.1.setOpen (ts' := lessRT Si.ts T.start) (oa' := oa') (oc' := oc') (rflat_sub _ _) (fun X hX => (List.mem_filter.1 hX).1) (by rw [show ({ Si with q := q, qa := qa', qc := qc' } : RSt).wb = S.wb from hwi]; exact hb3) ho3 (hc3.mono (fun _ _ h => h.trans hwi.symm))
          obtain ⟨Sl, hSl⟩ : ∃ Sl : RSt, Sl = ({ { Si with q := q, qa := qa', qc := qc' } with ts := lessRT Si.ts T.start, oa := oa', oc := oc' } : RSt) := ⟨_, rfl⟩
          have hR03 : ROk wo Si w3 Sl := by rw [hSl]; exact HR2.out.1.trans hR3
          have hlw : Sl.wb = S.wb := by rw [hSl]; exact hwi
          have hab : Sl.abs = outM Si.abs T.start q := by rw [hSl]; simp only [RSt.abs, outM, filter_abs]
          have hs1 : Sl.rows = Si.rows ∧ Sl.L = Si.L ∧ Sl.clock = Si.clock := by rw [hSl]; exact ⟨rfl, rfl, rfl⟩
          have bT3 := (hc3.block _ (lt_of_block HR2.out.2.1) (hnq _ rfl)).trans HR2.out.2.1
          have hc03 : Chg (fun b => b = S.wb) wo w3 := HR2.out.2.2.1.trans hc3
          obtain ⟨_, hap⟩ := HI.out.2.2.1.1.parts hk
          have hat := HI.out.2.2.1.1.apartT hk
          rw [HTE.out] at hap hat
          have hTm : T ∈ Si.ts := by rw [← HTE.out]; exact List.getElem_mem hk
          have hTo := HI.out.2.2.1.1.ts T hTm
          have hT3 : RTAt w3 T := hTo.chg hc03 (fun b hb e => (hap b hb).1 (e.trans hwi.symm))
          have hzw2 : wo.heap.size ≤ w2.heap.size := HR2.out.2.2.1.size
          have hTb3 : ∀ b ∈ T.blocks, b ∉ Sl.blocks := fun b hb hm => by
            rw [hSl] at hm
            have hlt := hTo.lt b hb
            replace hm : b ∈ Si.wb :: (vb Si.lv ++ vb (.slice qa' q.length qc') ++ vb Si.rv ++ vb (.slice oa' (lessRT Si.ts T.start).length oc')) ++ (lessRT Si.ts T.start).flatMap RT.blocks := hm
            simp only [List.mem_append, List.mem_cons, List.mem_flatMap] at hm
            rcases hm with (hm | (((hm | hm) | hm) | hm)) | ⟨X, hX, hm⟩
            · exact (hap b hb).1 hm
            · exact (hap b hb).2.1 (by simp [RSt.others, hm])
            · have := HR2.out.2.2.2 b (vb_mem.1 hm); omega
            · exact (hap b hb).2.1 (by simp [RSt.others, hm])
            · have := (ho3.lt b (vb_mem.1 hm)).1; omega
            · obtain ⟨hX1, hX2⟩ := List.mem_filter.1 hX
              exact hat X hX1 (of_decide_eq_true hX2) b hb hm
          obtain ⟨hPo, hPc⟩ := HI.out.2.2.2.1.out (t := T.start) (q := q) HQQ.out.1
          have htx := HI.out.2.2.2.1.tx T.abs (List.mem_map.2 ⟨T, hTm, rfl⟩)
          simp only [RT.abs] at htx
          have hL3 : Si.L.length ≤ 100 := HI.out.2.2.2.1.L
          have hr3 : Si.rows.length ≤ 6 := HI.out.2.2.2.1.rl
          have hck := HI.out.2.2.2.1.c1
          simp only [RSt.abs] at hck
          have HD := rdecide Sl T w3 hR03.1 hT3 hTb3 (by rw [hs1.1]; omega) (by omega) (by omega) (by rw [hs1.2.1]; omega) (by omega) (by rw [hs1.2.2]; exact HI.out.2.2.2.1.c0) (by rw [hs1.2.2]; omega) (by rw [hs1.1]; exact HI.out.2.2.2.1.rn)
          rw [hab, hlw] at HD
          have ba3 := (hc03.block _ (lt_of_block HBA.out) (fun (h : _ = _) => by omega)).trans HBA.out
          have bz3 := (hc03.block _ (lt_of_block HI.out.1) (fun (h : _ = _) => by omega)).trans HI.out.1
          have hrw3 := ownsRow_chg HI.out.2.1 hc03 (fun b e (h : b = _) => by have := (HI.out.2.1.lt b e).1; omega)
          have t0 := cell_of bT3 (i := 0) (v := .int .i64 T.start) rfl
          have t1 := cell_of bT3 (i := 1) (v := .slice T.wa T.ws.length T.wc) rfl
          have t2 := cell_of bT3 (i := 2) (v := .slice T.ka T.ks.length T.kc) rfl
          have t3 := cell_of bT3 (i := 3) (v := .slice T.pa T.ps.length T.pc) rfl
          have H3 : Hid (ROk wo Si w3 Sl ∧ w3.heap[w.heap.size + 1]? = some (ansD (.slice va ds.length vc)) ∧ w3.heap[w.heap.size]? = some ans0 ∧ w3.ownsRow (w.heap.size + 2) 44 3 (.slice va ds.length vc) ds.length (decCells ds) ∧ PFit (outM Si.abs T.start q) N ∧ (outM Si.abs T.start q).clock + (outM Si.abs T.start q).q.length + 1 ≤ N) := ⟨hR03, ba3, bz3, hrw3, hPo, hPc⟩
          clear hzw2 hb3 ho3 hc3 hR3 hR03 bT3 hc03 hap hat hTm hTo hT3 hTb3 hPo hPc hab hSl hs1 hlw htx hL3 hr3 hck ba3 bz3 hrw3 HR2
          unfold RT.v at HD
          go_wp2_with fail
          refine HD.mono ?_
          rintro e w4 ⟨Sd, rfl, habs4, hwb4, hR4⟩
          have hna : w.heap.size + 1 ∉ Sl.blocks := H3.out.1.1.not_cells H3.out.2.1 (by decide)
          have hnz : w.heap.size ∉ Sl.blocks := H3.out.1.1.not_cells H3.out.2.2.1 (by decide)
          have ba4 := (hR4.2.2.block _ (lt_of_block H3.out.2.1) hna).trans H3.out.2.1
          have bz4 := (hR4.2.2.block _ (lt_of_block H3.out.2.2.1) hnz).trans H3.out.2.2.1
          have hrw4 := ownsRow_chg H3.out.2.2.2.1 hR4.2.2 (H3.out.1.1.rowR H3.out.2.2.2.1 (by decide))
          have hP4 : PFit Sd.abs N := by rw [habs4]; exact H3.out.2.2.2.2.1.decide H3.out.2.2.2.2.2 T.abs
          have hR04 : ROk wo Si w4 Sd := H3.out.1.trans hR4
          obtain ⟨m, hm⟩ : ∃ m, n.toNat - i = m + 1 := ⟨n.toNat - i - 1, by omega⟩
          have hfl : flushM n.toNat S.abs = ((ds ++ [(decideM (outM Si.abs T.start q) T.abs).1]) ++ (flushM (n.toNat - (i + 1)) Sd.abs).1, (flushM (n.toNat - (i + 1)) Sd.abs).2) := by
            rw [HI.out.2.2.2.2, hm, flushM_cons m Si.abs HQQ.out.1 HQQ.out.2, ← habs4, show n.toNat - (i + 1) = m by omega]
            simp
          generalize (decideM (outM Si.abs T.start q) T.abs).1 = d at *
          have hla4 := lt_of_block ba4
          have a0 := cell_of ba4 (i := 0) (v := .int .i64 0) rfl
          have a5 := cell_of ba4 (i := 5) (v := .slice va ds.length vc) rfl
          have a5' : ∀ o, (w4.alloc o).cell? ⟨w.heap.size + 1, 5, none⟩ = some (.slice va ds.length vc) := fun o => by rw [World.cell?_alloc_past _ _ _ hla4]; exact a5
          have H4 : Hid (ROk wo Si w4 Sd ∧ PFit Sd.abs N ∧ w4.heap[w.heap.size + 1]? = some (ansD (.slice va ds.length vc)) ∧ w4.heap[w.heap.size]? = some ans0 ∧ w4.ownsRow (w.heap.size + 2) 44 3 (.slice va ds.length vc) ds.length (decCells ds) ∧ flushM n.toNat S.abs = ((ds ++ [d]) ++ (flushM (n.toNat - (i + 1)) Sd.abs).1, (flushM (n.toNat - (i + 1)) Sd.abs).2)) := ⟨hR04, hP4, ba4, bz4, hrw4, hfl⟩
          have hsz4 : w.heap.size + 2 ≤ w4.heap.size := by omega
          have HCN : Hid (∀ j u, (decCell d)[j]? = some u → ((w4.alloc (decC d.num d.code d.time)).alloc (decC d.num d.code d.time)).cell? ((⟨w4.heap.size + 1, 0, none⟩ : Addr).add j) = some u) := fun j u hu => by
            have h0 := cells_new (w4.alloc (decC d.num d.code d.time)) #[.int .i64 d.num, .int .i64 d.code, .int .i64 d.time] 44 j u hu
            have hz : (w4.alloc (decC d.num d.code d.time)).heap.size = w4.heap.size + 1 := by simp
            rw [hz] at h0
            exact h0
          clear hna hnz ba4 bz4 hrw4 hP4 hR04 hfl HD t0 t1 t2 t3 hR4 habs4 HFC H3 hm
          unfold decV
          go_wp2_with (first
            | (at_builtin; refine wpList_append_own _ rfl _ _ 33 rfl (w.heap.size + 2) 44 i0 (.agg #[.int .i64 0, .int .i64 0, .int .i64 0]) 3 24 Tryz.underlying33 hi hz0 hz1 hz2 rfl (by decide) _ _ _ rfl ((H4.out.2.2.2.2.1.alloc _).alloc _) ⟨w4.heap.size + 1, 0, none⟩ 1 1 (decCell d) rfl rfl HCN.out (dec_one d) (by unfold maxLen; omega) (by omega) (by simp; omega) ?_; intro v5 w5 hown5 hg5 _; obtain ⟨va', vc', rfl⟩ := row_form hown5; have hc5 : Chg (fun g => (Value.slice va ds.length vc).ownBlock = some g) w4 w5 := (((Chg.refl _ _).alloc _).alloc _).grown hg5 (fun g e => Or.inl e); have ba5 := (hc5.block _ (lt_of_block H4.out.2.2.1) (fun e => row_not H4.out.2.2.1 H4.out.2.2.2.2.1 (by decide) e)).trans H4.out.2.2.1; have k5 := cell_of ba5 (i := 5) (v := .slice va ds.length vc) rfl; have kf := unfrozen_of ba5 5; have H5 : Hid (Chg (fun g => (Value.slice va ds.length vc).ownBlock = some g) w4 w5 ∧ w5.heap[w.heap.size + 1]? = some (ansD (.slice va ds.length vc)) ∧ w5.ownsRow (w.heap.size + 2) 44 3 (.slice va' (ds.length + 1) vc') (ds.length + 1) (decCells ds ++ decCell d)) := ⟨hc5, ba5, hown5⟩; clear hc5 ba5 hown5 hg5))
          go_roundw
          case rel =>
            obtain ⟨hR4, hP4, ba4, bz4, hrw4, hfl⟩ := H4.out
            obtain ⟨hc5, ba5, hown5⟩ := H5.out
            have hc6 := chg_set1 w5 (w.heap.size + 1) 5 (.slice va' (ds.length + 1) vc')
            have hlen : (ds ++ [d]).length = ds.length + 1 := by simp
            have hzo := HI.out.2.2.1.2.2.size
            have hna : w.heap.size + 1 ∉ Sd.blocks := hR4.1.not_cells ba4 (by decide)
            have hI5 : RInv w5 Sd := hR4.1.chg hc5 (fun b hb e => hR4.1.rowR hrw4 (by decide) b e hb)
            have hI6 := hI5.chg hc6 (fun b hb e => hna (e ▸ hb))
            have hR0 := HI.out.2.2.1.trans hR4
            refine ⟨i + 1, Sd, ds ++ [d], va', vc', by omega, by go_num, hwb4, by rw [hlen]; omega, ?_, ?_, ?_, ⟨hI6, hR0.2.1, ?_⟩, hP4, hfl⟩
            · rw [hlen]
              exact heap_setCell_same w5 (w.heap.size + 1) 5 _ 36 (.slice va' (ds.length + 1) vc') ba5
            · have b5 := (hc5.block _ (lt_of_block bz4) (fun e => row_not bz4 hrw4 (by decide) e)).trans bz4
              exact (hc6.block _ (lt_of_block b5) (fun (h : _ = _) => by omega)).trans b5
            · rw [hlen, decCells_snoc]
              exact ownsRow_chg hown5 hc6 (fun b e (h : b = _) => by have := (hown5.lt b e).1; omega)
            · exact (hR0.2.2.andThen hc5 (fun b hb e => by have := (hrw4.lt b e).1; omega)).andThen hc6 (fun b hb (e : b = _) => by omega)
          case measure => simp [intOf]; omega
    · have hfe : flushM (n.toNat - i) Si.abs = ([], Si.abs) := by
        by_cases hlt : (i : Int) < n
        · exact flushM_nil _ _ (show Si.q = [] from Classical.not_not.1 (fun e => hgo ⟨hlt, e⟩))
        · rw [show n.toNat - i = 0 by omega]; rfl
      have HE : Hid (flushM n.toNat S.abs = (ds, Si.abs)) := by
        show flushM n.toNat S.abs = (ds, Si.abs)
        have := HI.out.2.2.2.2
        rw [hfe] at this
        simpa using this
      have hsp : ¬ (i : Int) < n ∨ ((i : Int) < n ∧ Si.q.length = 0) := by
        by_cases hlt : (i : Int) < n
        · exact Or.inr ⟨hlt, by rw [show Si.q = [] from Classical.not_not.1 (fun e => hgo ⟨hlt, e⟩)]; rfl⟩
        · exact Or.inl hlt
      have d0 := cell_of hba (i := 0) (v := .int .i64 0) rfl
      have d1 := cell_of hba (i := 1) (v := .int .i64 0) rfl
      have d2 := cell_of hba (i := 2) (v := .bool false) rfl
      have d3 := cell_of hba (i := 3) (v := .string ⟨#[]⟩) rfl
      have d4 := cell_of hba (i := 4) (v := .slice none 0 0) rfl
      have d5 := cell_of hba (i := 5) (v := .slice va ds.length vc) rfl
      have d6 := cell_of hba (i := 6) (v := .slice none 0 0) rfl
      obtain ⟨k0, k1, k2, k3, k4, k5, k6, kf⟩ := cells7 HI.out.1
      clear hfe hgo hbi hba
      rcases hsp with hlt | ⟨hlt, hql⟩
      · go_wp2
        obtain ⟨r0, r1, r2, r3, r4, r5, r6⟩ := set7 HI.out.1 rfl (.int .i64 0) (.int .i64 0) (.bool false) (.string ⟨#[]⟩) (.slice none 0 0) (.slice va ds.length vc) (.slice none 0 0)
        have hc10 := chg_set7 wo w.heap.size (.int .i64 0) (.int .i64 0) (.bool false) (.string ⟨#[]⟩) (.slice none 0 0) (.slice va ds.length vc) (.slice none 0 0)
        have hnz : w.heap.size ∉ Si.blocks := HI.out.2.2.1.1.not_cells HI.out.1 (by decide)
        have hrow := ownsRow_base (ownsRow_chg HI.out.2.1 hc10 (fun b e (h : b = _) => by have := (HI.out.2.1.lt b e).1; omega)) (show w.heap.size ≤ w.heap.size + 2 by omega)
        refine bodyPost_ret (v := ansW 0 0 false ⟨#[]⟩ (.slice none 0 0) (.slice va ds.length vc) (.slice none 0 0)) (by simp [results, Tryz.results53, go_sem, r0, r1, r2, r3, r4, r5, r6]) rfl ?_
        rw [HE.out]
        exact ⟨Si, va, vc, rfl, hrow, rfl, hwi, HI.out.2.2.1.1.chg hc10 (fun b hb e => hnz (e ▸ hb)), HI.out.2.2.1.2.1, HI.out.2.2.1.2.2.andThen hc10 (fun b hb (e : b = _) => by omega)⟩
      · rw [hql] at x3
        go_wp2
        obtain ⟨r0, r1, r2, r3, r4, r5, r6⟩ := set7 HI.out.1 rfl (.int .i64 0) (.int .i64 0) (.bool false) (.string ⟨#[]⟩) (.slice none 0 0) (.slice va ds.length vc) (.slice none 0 0)
        have hc10 := chg_set7 wo w.heap.size (.int .i64 0) (.int .i64 0) (.bool false) (.string ⟨#[]⟩) (.slice none 0 0) (.slice va ds.length vc) (.slice none 0 0)
        have hnz : w.heap.size ∉ Si.blocks := HI.out.2.2.1.1.not_cells HI.out.1 (by decide)
        have hrow := ownsRow_base (ownsRow_chg HI.out.2.1 hc10 (fun b e (h : b = _) => by have := (HI.out.2.1.lt b e).1; omega)) (show w.heap.size ≤ w.heap.size + 2 by omega)
        refine bodyPost_ret (v := ansW 0 0 false ⟨#[]⟩ (.slice none 0 0) (.slice va ds.length vc) (.slice none 0 0)) (by simp [results, Tryz.results53, go_sem, r0, r1, r2, r3, r4, r5, r6]) rfl ?_
        rw [HE.out]
        exact ⟨Si, va, vc, rfl, hrow, rfl, hwi, HI.out.2.2.1.1.chg hc10 (fun b hb e => hnz (e ▸ hb)), HI.out.2.2.1.2.1, HI.out.2.2.1.2.2.andThen hc10 (fun b hb (e : b = _) => by omega)⟩
end Go.Proofs.YtkfjafndplmdkaaGreat
namespace Go.Proofs.YtkfjafndplmdkaaGreat
open Go.RowKit Go.Sort
/-- the next one's time, looked for up to j. -/
def Nxt (L : List Ver) (k : Nat) (v : Ver) (j : Nat) (nx : Int) : Prop := (nx = -1 ∧ ∀ a (h : a < L.length), k < a → a < j → L[a].key ≠ v.key) ∨ ∃ x, nextM L v k = some x ∧ nx = x.time ∧ 0 ≤ x.time
theorem nxt_hit {L : List Ver} {k : Nat} {v : Ver} {j : Nat} (hkj : k < j) (h : j < L.length) (h0 : ∀ a (h : a < L.length), k < a → a < j → L[a].key ≠ v.key) (he : L[j].key = v.key) : nextM L v k = some L[j] := by
  unfold nextM
  rw [List.find?_eq_some_iff_getElem]
  refine ⟨by simpa using he, j - (k + 1), by rw [List.length_drop]; omega, ?_, fun a ha => ?_⟩
  · rw [List.getElem_drop]
    congr 1
    omega
  · rw [List.getElem_drop]
    have := h0 (k + 1 + a) (by omega) (by omega) (by omega)
    simpa using this
theorem nxt_none {L : List Ver} {k : Nat} {v : Ver} (h0 : ∀ a (h : a < L.length), k < a → a < L.length → L[a].key ≠ v.key) : nextM L v k = none := by
  unfold nextM
  rw [List.find?_eq_none]
  intro x hx
  obtain ⟨a, ha, rfl⟩ := List.getElem_of_mem hx
  rw [List.getElem_drop]
  rw [List.length_drop] at ha
  have := h0 (k + 1 + a) (by omega) (by omega) (by omega)
  simpa using this
theorem needed_none {S : RSt} {k : Nat} {v : Ver} (h : nextM S.L v k = none) : neededM S.abs k v = true := by
  unfold neededM
  rw [show nextM S.abs.L v k = none from h]
theorem needed_yes {S : RSt} {k : Nat} {v x : Ver} (h : nextM S.L v k = some x) (T : RT) (hT : T ∈ S.ts) (h1 : v.time ≤ T.start) (h2 : T.start < x.time) : neededM S.abs k v = true := by
  unfold neededM
  rw [show nextM S.abs.L v k = some x from h]
  exact List.any_eq_true.2 ⟨T.abs, List.mem_map.2 ⟨T, hT, rfl⟩, by simp [RT.abs, h1, h2]⟩
theorem needed_no {S : RSt} {k : Nat} {v x : Ver} (h : nextM S.L v k = some x) (hn : ∀ T ∈ S.ts, ¬ (v.time ≤ T.start ∧ T.start < x.time)) : neededM S.abs k v = false := by
  unfold neededM
  rw [show nextM S.abs.L v k = some x from h]
  refine List.any_eq_false.2 (fun P hP => ?_)
  obtain ⟨T, hT, rfl⟩ := List.mem_map.1 (show P ∈ S.ts.map RT.abs from hP)
  intro e
  rw [Bool.and_eq_true] at e
  exact hn T hT ⟨of_decide_eq_true e.1, of_decide_eq_true e.2⟩
set_option maxRecDepth 100000 in
set_option maxHeartbeats 4000000 in
theorem rneeded_any (S : RSt) (k : Nat) (w : World) (h : RInv w S) (hk : k < S.L.length) (hL : S.L.length ≤ 1500000) (hts : S.ts.length ≤ 1500000) (hLt : ∀ v ∈ S.L, 0 ≤ v.time) :
    Calls Tryz.prog 54 #[.pointer (some ⟨S.wb, 0, none⟩), .int .i64 k] w fun e w' => e = .returned (.bool (neededM S.abs k S.L[k])) ∧ Chg nobody w w' := by
  have hlr : w.ownsRow 0 103 4 (.slice S.la S.L.length S.lc) S.L.length (verCells S.L) := h.lr
  obtain ⟨g, hg, _, _, _, _⟩ := row_open hlr (by omega)
  rw [hg] at hlr
  obtain ⟨c0, c1, c2, c3⟩ := ver_at hlr k hk
  have hwl := lt_of_block h.wb
  have x1 := cell_of h.wb (i := 1) (v := .slice S.la S.L.length S.lc) rfl
  rw [hg] at x1
  have hgl : g < w.heap.size := lt_of_cell c0
  have HH : Hid (RInv w S ∧ S.la = some ⟨g, 0, none⟩ ∧ ∀ v ∈ S.L, 0 ≤ v.time) := ⟨h, hg, hLt⟩
  clear h hLt hlr
  obtain ⟨v, hv⟩ : ∃ v, S.L[k] = v := ⟨_, rfl⟩
  rw [hv] at c0 c1 c2 c3 ⊢
  clear hv
  go_enter Tryz.func54, Tryz.ntmps54
  go_wp2
  refine name_worldN ?_
  intro w1 hw1
  have hc1 : Chg nobody w w1 := by rw [hw1]; exact (Chg.refl _ _).alloc _
  have bv : w1.heap[w.heap.size]? = some (.cells #[.string v.key, .int .i64 v.time, .string v.val, .bool v.gone] 103) := by rw [hw1]; exact (MapKept.heap_alloc w _).1
  have HC : Hid (∀ wr, Chg nobody w1 wr → RInv wr S ∧ wr.heap[w.heap.size]? = some (.cells #[.string v.key, .int .i64 v.time, .string v.val, .bool v.gone] 103) ∧ Chg nobody w wr) := fun wr hc => ⟨HH.out.1.chg (hc1.trans hc) (fun _ _ h => h), (hc.block _ (lt_of_block bv) (fun h => h)).trans bv, hc1.trans hc⟩
  clear hw1 hc1 bv c0 c1 c2 c3 x1
  go_loopw [6, 7] (fun nv iv wr => ∃ (j : Nat) (nx : Int), k < j ∧ j ≤ S.L.length ∧ iv = .int .i64 j ∧ nv = .int .i64 nx ∧ Hid (Nxt S.L k v j nx) ∧ Hid (Chg nobody w1 wr)) (fun _ iv _ => S.L.length - (intOf iv).toNat)
  case atStart => exact ⟨k + 1, -1, by omega, by omega, by go_num, rfl, Or.inl ⟨rfl, fun a h h1 h2 => by omega⟩, Chg.refl _ _⟩
  case round =>
    obtain ⟨j, nx, hkj, hjl, rfl, rfl, HN, HQ⟩ := hrel
    obtain ⟨wo, rfl⟩ : ∃ wo : World, wo = wr := ⟨_, rfl⟩
    obtain ⟨hI, bv, _⟩ := HC.out wo HQ.out
    have x1 := cell_of hI.wb (i := 1) (v := .slice S.la S.L.length S.lc) rfl
    rw [HH.out.2.1] at x1
    have v0 := cell_of bv (i := 0) (v := .string v.key) rfl
    have v1 := cell_of bv (i := 1) (v := .int .i64 v.time) rfl
    by_cases hlt : j < S.L.length
    · rcases HN.out with ⟨hnx, hnone⟩ | ⟨x, hx, hnx, hx0⟩
      · subst hnx
        have hlr : wo.ownsRow 0 103 4 (.slice S.la S.L.length S.lc) S.L.length (verCells S.L) := hI.lr
        rw [HH.out.2.1] at hlr
        obtain ⟨c0, c1, c2, c3⟩ := ver_at hlr j hlt
        have HX : Hid (S.L[j].key = v.key → nextM S.L v k = some S.L[j]) := fun e => nxt_hit hkj hlt hnone e
        have HY : Hid (S.L[j].key ≠ v.key → Nxt S.L k v (j + 1) (-1)) := fun e => Or.inl ⟨rfl, fun a h h1 h2 => by
          by_cases ha : a = j
          · subst ha; exact e
          · exact hnone a h h1 (by omega)⟩
        have HT : Hid (0 ≤ S.L[j].time) := HH.out.2.2 _ (List.getElem_mem hlt)
        clear hnone hlr hI bv
        generalize S.L[j] = y at *
        by_cases he : y.key = v.key
        · have HF : Hid (Nxt S.L k v (j + 1) y.time) := Or.inr ⟨y, HX.out he, rfl, HT.out⟩
          obtain ⟨b1, b1'⟩ := ba_t he
          clear he
          go_wp2_with fail
          go_quiet (fail)
          go_wp2
          go_roundw
          case rel => exact ⟨j + 1, y.time, by omega, by omega, by go_num, rfl, HF.out, HQ.out.drewN _⟩
          case measure => simp [intOf]; omega
        · have HF : Hid (Nxt S.L k v (j + 1) (-1)) := HY.out he
          obtain ⟨b1, b1'⟩ := ba_f he
          clear he
          go_wp2_with fail
          go_quiet (fail)
          go_wp2
          go_roundw
          case rel => exact ⟨j + 1, -1, by omega, by omega, by go_num, rfl, HF.out, HQ.out.drewN _⟩
          case measure => simp [intOf]; omega
      · have hx0' : ¬ x.time < 0 := by omega
        have HX : Hid (nextM S.L v k = some x) := hx
        subst hnx
        clear hx hI bv
        go_wp2_with fail
        clear x1 v0 v1
        go_loopw [8] (fun iv wr => ∃ m : Nat, m ≤ S.ts.length ∧ iv = .int .i64 m ∧ Hid (∀ T ∈ S.ts.take m, ¬ (v.time ≤ T.start ∧ T.start < x.time)) ∧ Hid (Chg nobody w1 wr)) (fun iv _ => S.ts.length - (intOf iv).toNat)
        case atStart => exact ⟨0, Nat.zero_le _, rfl, (fun T hT => by simp at hT), HQ.out⟩
        case round =>
          obtain ⟨m, hml, rfl, HM, HR⟩ := hrel
          obtain ⟨hI, bv, hcw⟩ := HC.out wr HR.out
          have HCW : Hid (Chg nobody w wr) := hcw
          have x2 := cell_of hI.wb (i := 2) (v := .slice S.oa S.ts.length S.oc) rfl
          have v1 := cell_of bv (i := 1) (v := .int .i64 v.time) rfl
          by_cases hmt : m < S.ts.length
          · obtain ⟨go, hgo, _⟩ := hI.open hmt
            have hor : wr.ownsRow 0 97 4 (.slice S.oa S.ts.length S.oc) S.ts.length (rtCells S.ts) := hI.or
            rw [hgo] at hor x2
            obtain ⟨e0, _, _, _⟩ := rt_at hor m hmt
            have HTm : Hid (S.ts[m] ∈ S.ts) := List.getElem_mem hmt
            have HXX : Hid (¬ (v.time ≤ S.ts[m].start ∧ S.ts[m].start < x.time) → ∀ T ∈ S.ts.take (m + 1), ¬ (v.time ≤ T.start ∧ T.start < x.time)) := fun h T hT => by
              rw [List.take_succ_eq_append_getElem hmt] at hT
              rcases List.mem_append.1 hT with hT | hT
              · exact HM.out T hT
              · rw [List.mem_singleton.1 hT]; exact h
            clear hor hI bv hcw
            generalize S.ts[m] = T at *
            by_cases h1 : v.time ≤ T.start
            · by_cases h2 : T.start < x.time
              · have HV : Hid (neededM S.abs k v = true) := needed_yes HX.out T HTm.out h1 h2
                clear HXX
                go_wp2_with fail
                go_quiet (fail)
                go_wp2
                go_ret
                exact ⟨congrArg (fun x => Ending.returned (Value.bool x)) HV.out.symm, HCW.out.drewN _⟩
              · have HF : Hid (∀ T ∈ S.ts.take (m + 1), ¬ (v.time ≤ T.start ∧ T.start < x.time)) := HXX.out (fun h => h2 h.2)
                clear HXX
                go_wp2_with fail
                go_quiet (fail)
                go_wp2
                go_roundw
                case rel => exact ⟨m + 1, by omega, by go_num, HF.out, HR.out.drewN _⟩
                case measure => simp [intOf]; omega
            · have HF : Hid (∀ T ∈ S.ts.take (m + 1), ¬ (v.time ≤ T.start ∧ T.start < x.time)) := HXX.out (fun h => h1 h.1)
              have h1d : decide (v.time ≤ T.start) = false := decide_eq_false h1
              clear h1
              clear HXX
              go_wp2_with fail
              go_quiet (fail)
              go_wp2
              go_roundw
              case rel => exact ⟨m + 1, by omega, by go_num, HF.out, HR.out.drewN _⟩
              case measure => simp [intOf]; omega
          · have hme : m = S.ts.length := by omega
            subst hme
            have HV : Hid (neededM S.abs k v = false) := needed_no HX.out (fun T hT => HM.out T (by rw [List.take_length]; exact hT))
            clear hI bv hcw
            go_wp2
            go_ret
            exact ⟨congrArg (fun x => Ending.returned (Value.bool x)) HV.out.symm, HCW.out⟩
    · have hje : j = S.L.length := by omega
      rcases HN.out with ⟨hnx, hnone⟩ | ⟨x, hx, hnx, hx0⟩
      · subst hnx
        subst hje
        have HV : Hid (neededM S.abs k v = true) := needed_none (nxt_none hnone)
        have HCW : Hid (Chg nobody w wo) := (HC.out wo HQ.out).2.2
        clear hnone hI bv
        go_wp2
        go_ret
        exact ⟨congrArg (fun x => Ending.returned (Value.bool x)) HV.out.symm, HCW.out⟩
      · have hx0' : ¬ x.time < 0 := by omega
        have HX : Hid (nextM S.L v k = some x) := hx
        subst hnx
        clear hx hI bv
        go_wp2_with fail
        clear x1 v0 v1
        go_loopw [8] (fun iv wr => ∃ m : Nat, m ≤ S.ts.length ∧ iv = .int .i64 m ∧ Hid (∀ T ∈ S.ts.take m, ¬ (v.time ≤ T.start ∧ T.start < x.time)) ∧ Hid (Chg nobody w1 wr)) (fun iv _ => S.ts.length - (intOf iv).toNat)
        case atStart => exact ⟨0, Nat.zero_le _, rfl, (fun T hT => by simp at hT), HQ.out⟩
        case round =>
          obtain ⟨m, hml, rfl, HM, HR⟩ := hrel
          obtain ⟨hI, bv, hcw⟩ := HC.out wr HR.out
          have HCW : Hid (Chg nobody w wr) := hcw
          have x2 := cell_of hI.wb (i := 2) (v := .slice S.oa S.ts.length S.oc) rfl
          have v1 := cell_of bv (i := 1) (v := .int .i64 v.time) rfl
          by_cases hmt : m < S.ts.length
          · obtain ⟨go, hgo, _⟩ := hI.open hmt
            have hor : wr.ownsRow 0 97 4 (.slice S.oa S.ts.length S.oc) S.ts.length (rtCells S.ts) := hI.or
            rw [hgo] at hor x2
            obtain ⟨e0, _, _, _⟩ := rt_at hor m hmt
            have HTm : Hid (S.ts[m] ∈ S.ts) := List.getElem_mem hmt
            have HXX : Hid (¬ (v.time ≤ S.ts[m].start ∧ S.ts[m].start < x.time) → ∀ T ∈ S.ts.take (m + 1), ¬ (v.time ≤ T.start ∧ T.start < x.time)) := fun h T hT => by
              rw [List.take_succ_eq_append_getElem hmt] at hT
              rcases List.mem_append.1 hT with hT | hT
              · exact HM.out T hT
              · rw [List.mem_singleton.1 hT]; exact h
            clear hor hI bv hcw
            generalize S.ts[m] = T at *
            by_cases h1 : v.time ≤ T.start
            · by_cases h2 : T.start < x.time
              · have HV : Hid (neededM S.abs k v = true) := needed_yes HX.out T HTm.out h1 h2
                clear HXX
                go_wp2_with fail
                go_quiet (fail)
                go_wp2
                go_ret
                exact ⟨congrArg (fun x => Ending.returned (Value.bool x)) HV.out.symm, HCW.out.drewN _⟩
              · have HF : Hid (∀ T ∈ S.ts.take (m + 1), ¬ (v.time ≤ T.start ∧ T.start < x.time)) := HXX.out (fun h => h2 h.2)
                clear HXX
                go_wp2_with fail
                go_quiet (fail)
                go_wp2
                go_roundw
                case rel => exact ⟨m + 1, by omega, by go_num, HF.out, HR.out.drewN _⟩
                case measure => simp [intOf]; omega
            · have HF : Hid (∀ T ∈ S.ts.take (m + 1), ¬ (v.time ≤ T.start ∧ T.start < x.time)) := HXX.out (fun h => h1 h.1)
              have h1d : decide (v.time ≤ T.start) = false := decide_eq_false h1
              clear h1
              clear HXX
              go_wp2_with fail
              go_quiet (fail)
              go_wp2
              go_roundw
              case rel => exact ⟨m + 1, by omega, by go_num, HF.out, HR.out.drewN _⟩
              case measure => simp [intOf]; omega
          · have hme : m = S.ts.length := by omega
            subst hme
            have HV : Hid (neededM S.abs k v = false) := needed_no HX.out (fun T hT => HM.out T (by rw [List.take_length]; exact hT))
            clear hI bv hcw
            go_wp2
            go_ret
            exact ⟨congrArg (fun x => Ending.returned (Value.bool x)) HV.out.symm, HCW.out⟩
end Go.Proofs.YtkfjafndplmdkaaGreat
namespace Go.Proofs.YtkfjafndplmdkaaGreat
open Go.RowKit Go.Sort
set_option maxRecDepth 100000 in
set_option maxHeartbeats 2000000 in
theorem rstep_flush (S : RSt) (o : OpM) (N : Nat) (w : World) (h : RInv w S) (hf : PFit S.abs N) (hN : N ≤ 1500000) (hkd : o.kind = 8) :
    Calls Tryz.prog 40 #[.pointer (some ⟨S.wb, 0, none⟩), o.v] w (RPostW w S (stepR S.abs o).1 (stepR S.abs o).2) := by
  have hc2 : Chg nobody w ((w.alloc (opC o 8)).alloc ans0) := ((Chg.refl _ _).alloc _).alloc _
  have hz2 : ((w.alloc (opC o 8)).alloc ans0).heap.size = w.heap.size + 1 + 1 := by simp
  have hbl := h.lt
  have b2 : ((w.alloc (opC o 8)).alloc ans0).heap[w.heap.size + 1]? = some ans0 := heap_new (by simp)
  have hI2 := h.chg hc2 (fun _ _ h => h)
  by_cases hb : o.n < 0 ∨ 100 < o.n
  · have e : stepR S.abs o = (errA 11, S.abs) := by
      unfold stepR
      rw [if_neg (by omega), if_neg (by omega), if_pos hkd, if_pos hb]
    rw [e]
    have HF := rflush_bad S.wb o.n ((w.alloc (opC o 8)).alloc ans0) hb
    have HH : Hid (Chg nobody w ((w.alloc (opC o 8)).alloc ans0) ∧ ((w.alloc (opC o 8)).alloc ans0).heap[w.heap.size + 1]? = some ans0 ∧ RInv w S) := ⟨hc2, b2, h⟩
    clear hc2 hz2 hbl b2 hI2 h hf e
    go_enter Tryz.func40, Tryz.ntmps40
    go_wp2_with fail
    refine HF.mono ?_
    rintro e w5 ⟨rfl, hch⟩
    have fB := (hch.block _ (lt_of_block HH.out.2.1) (fun h => h)).trans HH.out.2.1
    have hc5 : Chg nobody w w5 := HH.out.1.trans hch
    obtain ⟨k0, k1, k2, k3, k4, k5, k6, kf⟩ := cells7 fB
    have HZ : Hid (w5.heap[w.heap.size + 1]? = some ans0 ∧ Chg nobody w w5) := ⟨fB, hc5⟩
    clear fB hch hc5 HF
    go_wp2
    obtain ⟨f9B, hc5⟩ := HZ.out
    obtain ⟨r0, r1, r2, r3, r4, r5, r6⟩ := set7 f9B rfl (.int .i64 11) (.int .i64 0) (.bool false) (.string ⟨#[]⟩) (.slice none 0 0) (.slice none 0 0) (.slice none 0 0)
    have hc10 := chg_set7 w5 (w.heap.size + 1) (.int .i64 11) (.int .i64 0) (.bool false) (.string ⟨#[]⟩) (.slice none 0 0) (.slice none 0 0) (.slice none 0 0)
    refine bodyPost_ret (v := ansV 11 0 false ⟨#[]⟩ (.slice none 0 0)) (by simp [results, Tryz.results40, go_sem, r0, r1, r2, r3, r4, r5, r6]) rfl ?_
    exact rpost_w (rpost_err HH.out.2.2 (hc5.andThen hc10 (fun i hi (h : i = _) => by omega)) 11) rfl rfl
  · have e : stepR S.abs o = (⟨0, 0, false, ⟨#[]⟩, [], (flushM o.n.toNat S.abs).1, []⟩, (flushM o.n.toNat S.abs).2) := by
      unfold stepR
      rw [if_neg (by omega), if_neg (by omega), if_pos hkd, if_neg hb]
    rw [e]
    have HF := rflush_ok S o.n N ((w.alloc (opC o 8)).alloc ans0) hI2 hf hN (by omega) (by omega)
    have HH : Hid (Chg nobody w ((w.alloc (opC o 8)).alloc ans0) ∧ ((w.alloc (opC o 8)).alloc ans0).heap[w.heap.size + 1]? = some ans0 ∧ RInv w S ∧ ((w.alloc (opC o 8)).alloc ans0).heap.size = w.heap.size + 1 + 1 ∧ ∀ b ∈ S.blocks, b < w.heap.size) := ⟨hc2, b2, h, hz2, hbl⟩
    clear hc2 hz2 hbl b2 hI2 h hf e
    generalize hfl : flushM o.n.toNat S.abs = fl at *
    clear hfl
    go_enter Tryz.func40, Tryz.ntmps40
    go_wp2_with fail
    refine HF.mono ?_
    rintro e w5 ⟨S', a, c, rfl, hrow, habs, hwb, hR⟩
    have fB := (hR.2.2.block _ (lt_of_block HH.out.2.1) (fun hm => by have := HH.out.2.2.2.2 _ hm; omega)).trans HH.out.2.1
    obtain ⟨k0, k1, k2, k3, k4, k5, k6, kf⟩ := cells7 fB
    rw [HH.out.2.2.2.1] at hrow
    have HZ : Hid (w5.heap[w.heap.size + 1]? = some ans0 ∧ ROk w S w5 S' ∧ w5.ownsRow (w.heap.size + 1 + 1) 44 3 (.slice a fl.1.length c) fl.1.length (decCells fl.1) ∧ S'.abs = fl.2 ∧ S'.wb = S.wb) := ⟨fB, hR.before HH.out.1, hrow, habs, hwb⟩
    clear fB hrow habs hwb hR HF
    go_wp2
    obtain ⟨f9B, hR5, hrow, habs, hwb⟩ := HZ.out
    obtain ⟨r0, r1, r2, r3, r4, r5, r6⟩ := set7 f9B rfl (.int .i64 0) (.int .i64 0) (.bool false) (.string ⟨#[]⟩) (.slice none 0 0) (.slice a fl.1.length c) (.slice none 0 0)
    have hc10 := chg_set7 w5 (w.heap.size + 1) (.int .i64 0) (.int .i64 0) (.bool false) (.string ⟨#[]⟩) (.slice none 0 0) (.slice a fl.1.length c) (.slice none 0 0)
    have hna : w.heap.size + 1 ∉ S'.blocks := hR5.1.not_cells f9B (by decide)
    refine bodyPost_ret (v := ansW 0 0 false ⟨#[]⟩ (.slice none 0 0) (.slice a fl.1.length c) (.slice none 0 0)) (by simp [results, Tryz.results40, go_sem, r0, r1, r2, r3, r4, r5, r6]) rfl ⟨S', ((none, 0, 0), (a, fl.1.length, c), (none, 0, 0)), rfl, ⟨World.ownsRow_nil _ _ _ _, ?_, World.ownsRow_nil _ _ _ _⟩, (fun g hg => by cases hg), habs, hwb, hR5.1.chg hc10 (fun b hb e => hna (e ▸ hb)), hR5.2.1, hR5.2.2.andThen hc10 (fun i hi (h : i = _) => by omega)⟩
    exact ownsRow_base (ownsRow_chg hrow hc10 (fun b e (h : b = _) => by have := (hrow.lt b e).1; omega)) (by omega)
theorem RInv.fence {w w' : World} {S : RSt} (h : RInv w S) (hb : w'.heap[S.wb]? = some (.cells #[.int .i64 S.clock, S.lv, .slice none 0 0, .slice none 0 0, .slice none 0 0, .int .i64 S.clock] 79)) (hc : Chg (fun b => b = S.wb) w w') : ROk w S w' { S with ts := [], oa := none, oc := 0, q := [], qa := none, qc := 0, rows := [], ra := none, rc := 0, low := S.clock } := by
  have hl := ownsRow_chg h.lr hc (fun g e e' => row_not h.wb h.lr (by decide) (e' ▸ e))
  have eb : ({ S with ts := [], oa := none, oc := 0, q := [], qa := none, qc := 0, rows := [], ra := none, rc := 0, low := S.clock } : RSt).blocks = S.wb :: vb S.lv := by
    show S.wb :: (vb S.lv ++ vb (.slice none 0 0) ++ vb (.slice none 0 0) ++ vb (.slice none 0 0)) ++ [] = _
    simp [vb, Value.ownBlock]
  refine ⟨⟨hb, hl, World.ownsRow_nil _ _ _ _, World.ownsRow_nil _ _ _ _, World.ownsRow_nil _ _ _ _, by simp, ?_⟩, ?_, hc.mono (fun i _ (hi : i = _) => by rw [hi]; simp [RSt.blocks])⟩
  · rw [eb, List.nodup_cons]
    exact ⟨fun hm => row_not h.wb h.lr (by decide) (vb_mem.1 hm), vb_nodup _⟩
  · rw [eb]
    intro b hb'
    left
    rcases List.mem_cons.1 hb' with e | e
    · rw [e]; simp [RSt.blocks]
    · simp [RSt.blocks, RSt.others, e]
theorem set_fence {w : World} {b : Nat} {c v2 v3 v4 : Value} {lv lw : Value} (h : w.heap[b]? = some (.cells #[c, lv, v2, v3, v4, lw] 79)) (n : Value) : ((((w.setCell ⟨b, 2, none⟩ n).setCell ⟨b, 3, none⟩ n).setCell ⟨b, 4, none⟩ n).setCell ⟨b, 5, none⟩ c).heap[b]? = some (.cells #[c, lv, n, n, n, c] 79) := by
  have h1 := heap_setCell_same w b 2 _ 79 n h
  have h2 := heap_setCell_same _ b 3 _ 79 n h1
  have h3 := heap_setCell_same _ b 4 _ 79 n h2
  have h4 := heap_setCell_same _ b 5 _ 79 c h3
  simpa using h4
set_option maxRecDepth 100000 in
set_option maxHeartbeats 2000000 in
theorem rstep_fence (S : RSt) (o : OpM) (w : World) (h : RInv w S) (hkd : o.kind = 9) :
    Calls Tryz.prog 40 #[.pointer (some ⟨S.wb, 0, none⟩), o.v] w (RPostW w S (stepR S.abs o).1 (stepR S.abs o).2) := by
  have e : stepR S.abs o = (⟨0, S.ts.length, false, ⟨#[]⟩, [], [], []⟩, { S.abs with ts := [], q := [], rows := [], low := S.clock }) := by
    unfold stepR
    rw [if_neg (by omega), if_neg (by omega), if_neg (by omega), if_pos hkd]
    simp [RSt.abs]
  rw [e]
  have hwl := lt_of_block h.wb
  have hc2 : Chg nobody w ((w.alloc (opC o 9)).alloc ans0) := ((Chg.refl _ _).alloc _).alloc _
  have b2 : ((w.alloc (opC o 9)).alloc ans0).heap[w.heap.size + 1]? = some ans0 := heap_new (by simp)
  have hI2 := h.chg hc2 (fun _ _ h => h)
  have x0 := cell_of h.wb (i := 0) (v := .int .i64 S.clock) rfl
  have x2 := cell_of h.wb (i := 2) (v := .slice S.oa S.ts.length S.oc) rfl
  have x3 := cell_of h.wb (i := 3) (v := .slice S.qa S.q.length S.qc) rfl
  have x4 := cell_of h.wb (i := 4) (v := .slice S.ra S.rows.length S.rc) rfl
  have x5 := cell_of h.wb (i := 5) (v := .int .i64 S.low) rfl
  have xf := unfrozen_of h.wb
  have HH : Hid (Chg nobody w ((w.alloc (opC o 9)).alloc ans0) ∧ ((w.alloc (opC o 9)).alloc ans0).heap[w.heap.size + 1]? = some ans0 ∧ RInv w S ∧ RInv ((w.alloc (opC o 9)).alloc ans0) S) := ⟨hc2, b2, h, hI2⟩
  clear hc2 b2 hI2 h e
  have hne : S.wb ≠ w.heap.size + 1 := by omega
  go_enter Tryz.func40, Tryz.ntmps40
  go_wp2
  refine bodyPost_ret (v := ansV 0 S.ts.length false ⟨#[]⟩ (.slice none 0 0)) (by simp [results, Tryz.results40, go_sem]) rfl ?_
  have hF := HH.out.2.2.1.fence (set_fence HH.out.2.2.1.wb (.slice none 0 0)) ((((chg_set1 _ _ _ _).trans (chg_set1 _ _ _ _)).trans (chg_set1 _ _ _ _)).trans (chg_set1 _ _ _ _))
  refine rpost_w ⟨{ S with ts := [], oa := none, oc := 0, q := [], qa := none, qc := 0, rows := [], ra := none, rc := 0, low := S.clock }, .slice none 0 0, rfl, World.ownsRow_nil _ _ _ _, rfl, rfl, hF.trans (ROk.refl hF.1 (((Chg.refl _ _).alloc _).alloc _))⟩ rfl rfl
theorem set7h {w : World} {b : Nat} {c0 c1 c2 c3 c4 c5 c6 : Value} {t : TypeId} (hb : w.heap[b]? = some (.cells #[c0, c1, c2, c3, c4, c5, c6] t)) (v0 v1 v2 v3 v4 v5 v6 : Value) :
    (((((((w.setCell ⟨b, 0, none⟩ v0).setCell ⟨b, 1, none⟩ v1).setCell ⟨b, 2, none⟩ v2).setCell ⟨b, 3, none⟩ v3).setCell ⟨b, 4, none⟩ v4).setCell ⟨b, 5, none⟩ v5).setCell ⟨b, 6, none⟩ v6).heap[b]? = some (.cells #[v0, v1, v2, v3, v4, v5, v6] t) := by
  have h0 := heap_setCell_same w b 0 _ t v0 hb
  have h1 := heap_setCell_same _ b 1 _ t v1 h0
  have h2 := heap_setCell_same _ b 2 _ t v2 h1
  have h3 := heap_setCell_same _ b 3 _ t v3 h2
  have h4 := heap_setCell_same _ b 4 _ t v4 h3
  have h5 := heap_setCell_same _ b 5 _ t v5 h4
  have h6 := heap_setCell_same _ b 6 _ t v6 h5
  simpa using h6
set_option maxRecDepth 100000 in
set_option maxHeartbeats 2000000 in
theorem rstep_sums (S : RSt) (o : OpM) (w : World) (h : RInv w S) (hkd : o.kind = 11) :
    Calls Tryz.prog 40 #[.pointer (some ⟨S.wb, 0, none⟩), o.v] w (RPostW w S (stepR S.abs o).1 (stepR S.abs o).2) := by
  have e : stepR S.abs o = (⟨0, 0, false, ⟨#[]⟩, [], [], [(S.L.length : Int), S.ts.length, S.q.length, S.rows.length, S.low, S.clock]⟩, S.abs) := by
    unfold stepR
    rw [if_neg (by omega), if_neg (by omega), if_neg (by omega), if_neg (by omega), if_neg (by omega), if_pos hkd]
    simp [RSt.abs]
  rw [e]
  have hwl := lt_of_block h.wb
  have x0 := cell_of h.wb (i := 0) (v := .int .i64 S.clock) rfl
  have x1 := cell_of h.wb (i := 1) (v := .slice S.la S.L.length S.lc) rfl
  have x2 := cell_of h.wb (i := 2) (v := .slice S.oa S.ts.length S.oc) rfl
  have x3 := cell_of h.wb (i := 3) (v := .slice S.qa S.q.length S.qc) rfl
  have x4 := cell_of h.wb (i := 4) (v := .slice S.ra S.rows.length S.rc) rfl
  have x5 := cell_of h.wb (i := 5) (v := .int .i64 S.low) rfl
  have HH : Hid (RInv w S) := h
  clear h e
  go_enter Tryz.func40, Tryz.ntmps40
  go_wp2_with fail
  refine name_worldN ?_
  intro w2 hw2
  have hc2 : Chg nobody w w2 := by rw [hw2]; exact ((Chg.refl _ _).alloc _).alloc _
  have b2 : w2.heap[w.heap.size + 1]? = some ans0 := by rw [hw2]; exact heap_new (by simp)
  have hz2 : w2.heap.size = w.heap.size + 1 + 1 := by rw [hw2]; simp
  have hI2 := HH.out.chg hc2 (fun _ _ h => h)
  have y0 := cell_of hI2.wb (i := 0) (v := .int .i64 S.clock) rfl
  have y1 := cell_of hI2.wb (i := 1) (v := .slice S.la S.L.length S.lc) rfl
  have y2 := cell_of hI2.wb (i := 2) (v := .slice S.oa S.ts.length S.oc) rfl
  have y3 := cell_of hI2.wb (i := 3) (v := .slice S.qa S.q.length S.qc) rfl
  have y4 := cell_of hI2.wb (i := 4) (v := .slice S.ra S.rows.length S.rc) rfl
  have y5 := cell_of hI2.wb (i := 5) (v := .int .i64 S.low) rfl
  have hl2 : w.heap.size + 1 < w2.heap.size := lt_of_block b2
  have kk := fun ob => cells7 (w := w2.alloc ob) ((Below.heap_alloc _ _ _ hl2).trans b2)
  have k0 := fun ob => (kk ob).1
  have k1 := fun ob => (kk ob).2.1
  have k2 := fun ob => (kk ob).2.2.1
  have k3 := fun ob => (kk ob).2.2.2.1
  have k4 := fun ob => (kk ob).2.2.2.2.1
  have k5 := fun ob => (kk ob).2.2.2.2.2.1
  have k6 := fun ob => (kk ob).2.2.2.2.2.2.1
  have kf := fun ob => (kk ob).2.2.2.2.2.2.2
  clear kk
  obtain ⟨j0, j1, j2, j3, j4, j5, j6, jf⟩ := cells7 b2
  have hl3 : w.heap.size + 1 ≠ w2.heap.size := by omega
  have hl4 : w2.heap.size ≠ w.heap.size + 1 := by omega
  have hl5 : w2.heap.size ≠ S.wb := by have := lt_of_block hI2.wb; omega
  have hl6 : w.heap.size + 1 ≠ S.wb := by omega
  have hwl2 : S.wb < w2.heap.size := lt_of_block hI2.wb
  have hne2 : S.wb ≠ w2.heap.size := by omega
  have hne3 : S.wb ≠ w.heap.size + 1 := by omega
  have HZ : Hid (Chg nobody w w2 ∧ w2.heap[w.heap.size + 1]? = some ans0 ∧ w2.heap.size = w.heap.size + 1 + 1) := ⟨hc2, b2, hz2⟩
  clear hw2 hc2 b2 hz2 hI2 x0 x1 x2 x3 x4 x5
  go_region_held3 (fun w' => w'.cell? ⟨S.wb, 0, none⟩ = some (.int .i64 S.clock) ∧ w'.cell? ⟨S.wb, 1, none⟩ = some (.slice S.la S.L.length S.lc) ∧ w'.cell? ⟨S.wb, 2, none⟩ = some (.slice S.oa S.ts.length S.oc) ∧ w'.cell? ⟨S.wb, 3, none⟩ = some (.slice S.qa S.q.length S.qc) ∧ w'.cell? ⟨S.wb, 4, none⟩ = some (.slice S.ra S.rows.length S.rc) ∧ w'.cell? ⟨S.wb, 5, none⟩ = some (.int .i64 S.low)) (go_keep) (fail)
  all_goals
    generalize hW7 : ((((((w2.setCell ⟨w.heap.size + 1, 0, none⟩ (.int .i64 0)).setCell ⟨w.heap.size + 1, 1, none⟩ (.int .i64 0)).setCell ⟨w.heap.size + 1, 2, none⟩ (.bool false)).setCell ⟨w.heap.size + 1, 3, none⟩ (.string ⟨#[]⟩)).setCell ⟨w.heap.size + 1, 4, none⟩ (.slice none 0 0)).setCell ⟨w.heap.size + 1, 5, none⟩ (.slice none 0 0)).setCell ⟨w.heap.size + 1, 6, none⟩ (.slice (some ⟨w2.heap.size, 0, none⟩) 6 6) = W7
    have hc7 : Chg (fun k => k = w.heap.size + 1) w2 W7 := by rw [← hW7]; exact chg_set7 _ _ _ _ _ _ _ _ _
    have b7 : W7.heap[w.heap.size + 1]? = some (.cells #[.int .i64 0, .int .i64 0, .bool false, .string ⟨#[]⟩, .slice none 0 0, .slice none 0 0, .slice (some ⟨w2.heap.size, 0, none⟩) 6 6] 36) := by rw [← hW7]; exact set7h HZ.out.2.1 _ _ _ _ _ _ _
    have r0 := cell_of b7 (i := 0) (v := .int .i64 0) rfl
    have r1 := cell_of b7 (i := 1) (v := .int .i64 0) rfl
    have r2 := cell_of b7 (i := 2) (v := .bool false) rfl
    have r3 := cell_of b7 (i := 3) (v := .string ⟨#[]⟩) rfl
    have r4 := cell_of b7 (i := 4) (v := .slice none 0 0) rfl
    have r5 := cell_of b7 (i := 5) (v := .slice none 0 0) rfl
    have r6 := cell_of b7 (i := 6) (v := .slice (some ⟨w2.heap.size, 0, none⟩) 6 6) rfl
    have HB7 : Hid (W7.heap[w.heap.size + 1]? = some (.cells #[.int .i64 0, .int .i64 0, .bool false, .string ⟨#[]⟩, .slice none 0 0, .slice none 0 0, .slice (some ⟨w2.heap.size, 0, none⟩) 6 6] 36)) := b7
    clear b7
    have hz7 : W7.heap.size = w2.heap.size := by rw [← hW7]; simp [World.setCell]
    have hl7 : w.heap.size + 1 < W7.heap.size := by omega
    have hl8 : w.heap.size + 1 ≠ W7.heap.size := by omega
    have HZ7 : Hid (W7.heap.size = w2.heap.size ∧ Chg (fun k => k = w.heap.size + 1) w2 W7) := ⟨hz7, hc7⟩
    clear hW7 hz7 hc7 y0 y1 y2 y3 y4 y5 j0 j1 j2 j3 j4 j5 j6 jf k0 k1 k2 k3 k4 k5 k6 kf
    go_wp2
    obtain ⟨hz7, hc7⟩ := HZ7.out
    obtain ⟨hc2, b2, hz2⟩ := HZ.out
    have hR2 := ROk.refl HH.out hc2
    have b8 : ((W7.alloc (.cells #[.int .i64 S.L.length, .int .i64 S.ts.length, .int .i64 S.q.length, .int .i64 S.rows.length, .int .i64 S.low, .int .i64 S.clock] 3)).drew).heap[w.heap.size + 1]? = some (.cells #[.int .i64 0, .int .i64 0, .bool false, .string ⟨#[]⟩, .slice none 0 0, .slice none 0 0, .slice (some ⟨w2.heap.size, 0, none⟩) 6 6] 36) := (Below.heap_alloc W7 _ _ hl7).trans HB7.out
    have s0 := cell_of b8 (i := 0) (v := .int .i64 0) rfl
    have s1 := cell_of b8 (i := 1) (v := .int .i64 0) rfl
    have s2 := cell_of b8 (i := 2) (v := .bool false) rfl
    have s3 := cell_of b8 (i := 3) (v := .string ⟨#[]⟩) rfl
    have s4 := cell_of b8 (i := 4) (v := .slice none 0 0) rfl
    have s5 := cell_of b8 (i := 5) (v := .slice none 0 0) rfl
    have s6 := cell_of b8 (i := 6) (v := .slice (some ⟨w2.heap.size, 0, none⟩) 6 6) rfl
    have hna : w.heap.size + 1 ∉ S.blocks := fun hm => by have := HH.out.lt _ hm; omega
    refine bodyPost_ret (v := ansW 0 0 false ⟨#[]⟩ (.slice none 0 0) (.slice none 0 0) (.slice (some ⟨w2.heap.size, 0, none⟩) 6 6)) (by simp [results, Tryz.results40, go_sem, s0, s1, s2, s3, s4, s5, s6]) rfl ⟨S, ((none, 0, 0), (none, 0, 0), (some ⟨w2.heap.size, 0, none⟩, 6, 6)), rfl, ⟨World.ownsRow_nil _ _ _ _, World.ownsRow_nil _ _ _ _, ?_⟩, (fun g hg hm => by have h1 := HH.out.lt g hm; have h2 : w2.heap.size = g := (by simpa [Value.ownBlock] using hg); omega), rfl, rfl, (hR2.1.chg hc7 (fun b hb e => hna (e ▸ hb))).chg ((Chg.refl nobody W7).alloc _).drew (fun _ _ h => h), fun b hb => Or.inl hb, ((hR2.2.2.andThen hc7 (fun i hi (e : i = _) => by omega)).alloc _).drew⟩
    exact row_drew ⟨rfl, Or.inr ⟨w2.heap.size, 6, _, rfl, by omega, by rw [← hz7]; exact (MapKept.heap_alloc W7 _).1, Nat.le_refl 6, by unfold maxLen; omega, rfl, rfl⟩⟩
end Go.Proofs.YtkfjafndplmdkaaGreat
namespace Go.Proofs.YtkfjafndplmdkaaGreat
open Go.RowKit Go.Sort
def cleanTo (W : PW) (k : Nat) : List Ver := ((W.L.zipIdx.take k).filter (fun p => neededM W p.2 p.1)).map Prod.fst
theorem cleanTo_zero (W : PW) : cleanTo W 0 = [] := by simp [cleanTo]
theorem cleanTo_next (W : PW) (k : Nat) (h : k < W.L.length) : cleanTo W (k + 1) = cleanTo W k ++ (if neededM W k W.L[k] then [W.L[k]] else []) := by
  unfold cleanTo
  rw [List.take_succ_eq_append_getElem (by simpa using h), List.filter_append, List.map_append]
  congr 1
  simp only [List.getElem_zipIdx, Nat.zero_add]
  cases hk : neededM W k W.L[k] <;> simp [hk]
theorem cleanTo_all (W : PW) : cleanTo W W.L.length = cleanL W := by
  unfold cleanTo cleanL
  rw [List.take_of_length_le (by simp)]
theorem cleanTo_len (W : PW) (k : Nat) : (cleanTo W k).length ≤ k := by
  unfold cleanTo
  rw [List.length_map]
  exact Nat.le_trans (List.length_filter_le _ _) (List.length_take_le _ _)
set_option maxRecDepth 100000 in
set_option maxHeartbeats 4000000 in
theorem rstep_clean (S : RSt) (o : OpM) (w : World) (h : RInv w S) (hL : S.L.length ≤ 1500000) (hts : S.ts.length ≤ 1500000) (hLt : ∀ v ∈ S.L, 0 ≤ v.time) (hkd : o.kind = 10) :
    Calls Tryz.prog 40 #[.pointer (some ⟨S.wb, 0, none⟩), o.v] w (RPostW w S (stepR S.abs o).1 (stepR S.abs o).2) := by
  have e : stepR S.abs o = (⟨0, S.L.length - (cleanL S.abs).length, false, ⟨#[]⟩, [], [], []⟩, { S.abs with L := cleanL S.abs }) := by
    unfold stepR
    rw [if_neg (by omega), if_neg (by omega), if_neg (by omega), if_neg (by omega), if_pos hkd]
    rfl
  rw [e]
  obtain ⟨i0, hi, hz0, hz1, hz2⟩ := info_parts info72
  have hwl := lt_of_block h.wb
  have HH : Hid (RInv w S ∧ ∀ v ∈ S.L, 0 ≤ v.time) := ⟨h, hLt⟩
  clear h hLt e
  go_enter Tryz.func40, Tryz.ntmps40
  go_wp2_with fail
  refine name_worldN ?_
  intro w2 hw2
  have hc2 : Chg nobody w w2 := by rw [hw2]; exact ((Chg.refl _ _).alloc _).alloc _
  have b2 : w2.heap[w.heap.size + 1]? = some ans0 := by rw [hw2]; exact heap_new (by simp)
  have hz2 : w2.heap.size = w.heap.size + 1 + 1 := by rw [hw2]; simp
  have HZ : Hid (Chg nobody w w2 ∧ w2.heap[w.heap.size + 1]? = some ans0 ∧ w2.heap.size = w.heap.size + 1 + 1) := ⟨hc2, b2, hz2⟩
  clear hw2 hc2 b2 hz2
  go_loopw [8, 9] (fun v i wr => ∃ k : Nat, k ≤ S.L.length ∧ i = .int .i64 k ∧ wr.ownsRow w2.heap.size 103 4 v (cleanTo S.abs k).length (verCells (cleanTo S.abs k)) ∧ Chg nobody w2 wr) (fun _ i _ => S.L.length - (intOf i).toNat)
  case atStart => exact ⟨0, Nat.zero_le _, rfl, World.ownsRow_nil _ _ _ _, Chg.refl _ _⟩
  case round =>
    obtain ⟨k, hk, rfl, hrow, hc⟩ := hrel
    have hI : RInv wr S := HH.out.1.chg (HZ.out.1.trans hc) (fun _ _ h => h)
    have hsz : w2.heap.size ≤ wr.heap.size := hc.size
    have x1 := cell_of hI.wb (i := 1) (v := .slice S.la S.L.length S.lc) rfl
    have HC : Hid (Chg nobody w2 wr) := hc
    clear hc
    have hol := cleanTo_len S.abs k
    by_cases hlt : k < S.L.length
    · have HN := rneeded_any S k wr hI hlt hL hts HH.out.2
      have HT : Hid (cleanTo S.abs (k + 1) = cleanTo S.abs k ++ (if neededM S.abs k S.L[k] then [S.L[k]] else [])) := cleanTo_next S.abs k hlt
      clear hI
      go_wp2_with fail
      refine HN.mono ?_
      rintro e w3 ⟨rfl, hc3⟩
      have HC3 : Hid (Chg nobody w2 w3) := HC.out.trans hc3
      have hI : RInv w3 S := HH.out.1.chg (HZ.out.1.trans HC3.out) (fun _ _ h => h)
      have hrow3 := ownsRow_chg hrow hc3 (fun _ _ h => h)
      have hsz3 : w2.heap.size ≤ w3.heap.size := HC3.out.size
      have hlr : w3.ownsRow 0 103 4 (.slice S.la S.L.length S.lc) S.L.length (verCells S.L) := hI.lr
      have y1 := cell_of hI.wb (i := 1) (v := .slice S.la S.L.length S.lc) rfl
      obtain ⟨g, hg, _, _, _, _⟩ := row_open hlr (by omega)
      rw [hg] at hlr y1
      obtain ⟨c0, c1, c2, c3⟩ := ver_at hlr k hlt
      clear hlr hI HN x1 hrow hc3
      generalize hnb : neededM S.abs k S.L[k] = nb at *
      cases nb
      · clear c0 c1 c2 c3 hnb
        go_wp2
        go_roundw
        case rel =>
          refine ⟨k + 1, by omega, by go_num, ?_, HC3.out⟩
          rw [HT.out]
          simpa using hrow3
        case measure => simp [intOf]; omega
      · clear hnb
        generalize S.L[k] = y at *
        go_wp2_with (at_builtin; refine wpList_append_own _ rfl _ _ 75 rfl w2.heap.size 103 i0 Ver.zero.v 4 48 Tryz.underlying75 hi hz0 hz1 hz2 rfl (by decide) _ _ _ rfl (hrow3.alloc _) ⟨w3.heap.size, 0, none⟩ 1 1 y.cells rfl rfl (cells_new w3 #[.string y.key, .int .i64 y.time, .string y.val, .bool y.gone] 103) (ver_one y) (by unfold maxLen; omega) (by omega) (by simp; omega) ?_; intro v' w4 hown4 hg4 _; go_frame)
        go_roundw
        case rel =>
          refine ⟨k + 1, by omega, by go_num, ?_, (HC3.out.alloc _).grown hg4 (fun j e => Or.inr (hrow3.lt j e).1)⟩
          rw [HT.out, if_pos trivial, verCells_append, verCells_one]
          simpa using hown4
        case measure => simp [intOf]; omega
    · have hke : k = S.L.length := by omega
      subst hke
      have hrow' : wr.ownsRow w2.heap.size 103 4 u8 (cleanL S.abs).length (verCells (cleanL S.abs)) := by
        have e0 := cleanTo_all S.abs
        rw [show S.abs.L.length = S.L.length from rfl] at e0
        rw [e0] at hrow
        exact hrow
      have hll : (cleanL S.abs).length ≤ S.L.length := by
        have e0 := cleanTo_all S.abs
        rw [show S.abs.L.length = S.L.length from rfl] at e0
        rw [e0] at hol
        exact hol
      clear hrow hol
      obtain ⟨la', lc', rfl⟩ := row_form hrow'
      have x0 := cell_of hI.wb (i := 0) (v := .int .i64 S.clock) rfl
      have xf := unfrozen_of hI.wb 1
      have bA := (HC.out.block _ (lt_of_block HZ.out.2.1) (fun h => h)).trans HZ.out.2.1
      have hbl := lt_of_block hI.wb
      have hne : S.wb ≠ w.heap.size + 1 := by omega
      have hc5 := chg_set1 wr S.wb 1 (.slice la' (cleanL S.abs).length lc')
      have hb5 := heap_setCell_same wr S.wb 1 _ 79 (.slice la' (cleanL S.abs).length lc') hI.wb
      have bA5 := (hc5.block _ (lt_of_block bA) (fun (h : _ = _) => by omega)).trans bA
      have hrow5 := ownsRow_chg hrow' hc5 (fun b e (h : b = S.wb) => row_not hI.wb hrow' (by decide) (h ▸ e))
      have hI2 : RInv w2 S := HH.out.1.chg HZ.out.1 (fun _ _ h => h)
      have hR5 : ROk w2 S (wr.setCell ⟨S.wb, 1, none⟩ (.slice la' (cleanL S.abs).length lc')) { S with L := cleanL S.abs, la := la', lc := lc' } := hI2.setL hb5 (ownsRow_base hrow5 (Nat.zero_le _)) (Or.inr (fun b e => (hrow'.lt b e).1)) ((HC.out.any _).trans (hc5.mono (fun _ _ h => Or.inl h)))
      obtain ⟨k0, k1, k2, k3, k4, k5, k6, kf⟩ := cells7 bA
      have HR : Hid (ROk w S (wr.setCell ⟨S.wb, 1, none⟩ (.slice la' (cleanL S.abs).length lc')) { S with L := cleanL S.abs, la := la', lc := lc' } ∧ (wr.setCell ⟨S.wb, 1, none⟩ (.slice la' (cleanL S.abs).length lc')).heap[w.heap.size + 1]? = some ans0) := ⟨hR5.before HZ.out.1, bA5⟩
      have hne' : w.heap.size + 1 ≠ S.wb := by omega
      clear hR5 hI2 hrow5 bA5 hb5 hc5 hbl bA hrow' hI
      go_wp2
      obtain ⟨hR5, bA5⟩ := HR.out
      generalize wr.setCell ⟨S.wb, 1, none⟩ (.slice la' (cleanL S.abs).length lc') = w5 at *
      obtain ⟨r0, r1, r2, r3, r4, r5, r6⟩ := set7 bA5 rfl (.int .i64 0) (.int .i64 (S.L.length - (cleanL S.abs).length)) (.bool false) (.string ⟨#[]⟩) (.slice none 0 0) (.slice none 0 0) (.slice none 0 0)
      have hc10 := chg_set7 w5 (w.heap.size + 1) (.int .i64 0) (.int .i64 (S.L.length - (cleanL S.abs).length)) (.bool false) (.string ⟨#[]⟩) (.slice none 0 0) (.slice none 0 0) (.slice none 0 0)
      have hna : w.heap.size + 1 ∉ ({ S with L := cleanL S.abs, la := la', lc := lc' } : RSt).blocks := hR5.1.not_cells bA5 (by decide)
      refine bodyPost_ret (v := ansV 0 (S.L.length - (cleanL S.abs).length) false ⟨#[]⟩ (.slice none 0 0)) (by simp [results, Tryz.results40, go_sem, r0, r1, r2, r3, r4, r5, r6]) rfl ?_
      exact rpost_w ⟨{ S with L := cleanL S.abs, la := la', lc := lc' }, .slice none 0 0, rfl, World.ownsRow_nil _ _ _ _, rfl, rfl, hR5.1.chg hc10 (fun b hb e => hna (e ▸ hb)), hR5.2.1, hR5.2.2.andThen hc10 (fun i hi (h : i = _) => by omega)⟩ rfl rfl
end Go.Proofs.YtkfjafndplmdkaaGreat
