import Derived.Test.YtkfjafndplmdkaaGreatPF
namespace Go.Proofs.YtkfjafndplmdkaaGreat
open Go.RowKit Go.Sort
open Go.Maps (Keyed)
theorem fix_eq {st st' : PSt} (h : st'.fix = st.fix) : st'.p = st.p ∧ st'.cb = st.cb ∧ st'.sb = st.sb ∧ st'.vm = st.vm ∧ st'.ob = st.ob ∧ st'.rb = st.rb ∧ st'.qb = st.qb ∧ st'.ch = st.ch ∧ st'.om = st.om := by
  simp only [PSt.fix, List.cons.injEq, and_true] at h
  obtain ⟨h1, h2, h3, h4, h5, h6, h7, h8, h9⟩ := h
  exact ⟨h1, h2, h3, h4, h5, h6, h7, h8, h9⟩
def StepPost (st : PSt) (n : Nat) (w : World) (r : AnsM × PW) (e : Ending) (w' : World) : Prop :=
  ∃ st' : PSt, st'.p = st.p ∧ Inv w' st' (n + 1) ∧ Rel st' r.2 ∧ Chg (fun b => b ∈ st.blocks) w w' ∧ Kept st st' w ∧
   ((r.1.code = 0 ∧ r.1.sums = [] ∧ ∃ a k c a2 k2 c2, e = .returned (ansW 0 r.1.number r.1.found r.1.value (.slice a k c) (.slice a2 k2 c2) (.slice none 0 0)) ∧ w'.ownsRow w.heap.size 66 2 (.slice a k c) r.1.items.length (itemCells r.1.items) ∧ w'.ownsRow w.heap.size 44 3 (.slice a2 k2 c2) r.1.done.length (decCells r.1.done) ∧
      (∀ g, (Value.slice a k c).ownBlock = some g → g ∉ st'.blocks) ∧ (∀ g, (Value.slice a2 k2 c2).ownBlock = some g → g ∉ st'.blocks)) ∨
    (∃ c, c ≠ 0 ∧ r.1 = errA c ∧ e = errE c))
theorem err_post {st : PSt} {n : Nat} {w w' : World} {c : Int} {W : PW} (h : Inv w st n) (hr : Rel st W) (hc : Chg nobody w w') (h0 : c ≠ 0) : StepPost st n w (errA c, W) (errE c) w' :=
  ⟨st, rfl, h.chg hc (fun _ _ hf => hf) (by omega), hr, hc.any _, kept_refl _ _, Or.inr ⟨c, h0, rfl, rfl⟩⟩
theorem noItems (w : World) (b : Nat) (e : TypeId) (size : Nat) : w.ownsRow b e size (.slice none 0 0) ([] : List (ByteArray × ByteArray)).length (itemCells []) := World.ownsRow_nil _ _ _ _
theorem noDecs (w : World) (b : Nat) (e : TypeId) (size : Nat) : w.ownsRow b e size (.slice none 0 0) ([] : List Dec).length (decCells []) := World.ownsRow_nil _ _ _ _
set_option maxHeartbeats 400000 in
theorem flush_bad {st : PSt} {n : Nat} {w : World} {o : OpM} {W : PW} (h : Inv w st n) (hr : Rel st W) (hb : o.n < 0 ∨ 100 < o.n) : Calls Tryz.prog 64 #[.pointer (some ⟨st.p, 0, none⟩), o.v] w (StepPost st n w (errA 11, W)) := by
  have HI : Hid (Inv w st n ∧ Rel st W) := ⟨h, hr⟩
  have h2 := mustBeCount_no o.n (two w o) hb
  clear h hr hb
  go_enter Tryz.func64, Tryz.ntmps64
  go_wp2_with (go_at_call 84; refine h2.mono ?_; rintro e w' ⟨rfl, hw'⟩; replace hw' := hw'.symm; subst hw')
  exact ⟨rfl, err_post HI.out.1 HI.out.2 (two_chg w o) (by decide)⟩
theorem start_inj : ∀ {txs : List Tx} {X Y : Tx}, (txs.map (·.start)).Nodup → X ∈ txs → Y ∈ txs → X.start = Y.start → X = Y
  | Z :: r, X, Y, hn, hX, hY, e => by
    simp only [List.map_cons, List.nodup_cons] at hn
    rcases List.mem_cons.1 hX with e1 | hX
    · rcases List.mem_cons.1 hY with e2 | hY
      · rw [e1, e2]
      · exact absurd (List.mem_map.2 ⟨Y, hY, by rw [← e1, e]⟩) hn.1
    · rcases List.mem_cons.1 hY with e2 | hY
      · exact absurd (List.mem_map.2 ⟨X, hX, by rw [← e2, e]⟩) hn.1
      · exact start_inj hn.2 hX hY e
theorem flush_fin {st st' : PSt} {n N : Nat} {w w2 wr w' : World} {W W' : PW} {ds : List Dec} {a2 : Option Addr} {c2 : Nat} (h : Inv w st n) (hI : Inv wr st' n) (hR : Rel st' W') (hW : Chg nobody w w2) (hz : w2.heap.size = w.heap.size + 2) (hrow : wr.ownsRow w2.heap.size 44 3 (.slice a2 ds.length c2) ds.length (decCells ds)) (hfl : flushM N W = (ds, W')) (hc : Chg (fun b => b ∈ st.blocks) w2 wr) (hk : Kept st st' w2) (hfx : st'.fix = st.fix) (hg : ∀ g, (Value.slice a2 ds.length c2).ownBlock = some g → g ∉ st'.blocks)
    (hc7 : Chg (fun b => b = w.heap.size + 1) wr w') : StepPost st n w (⟨0, 0, false, ⟨#[]⟩, [], (flushM N W).1, []⟩, (flushM N W).2) (.returned (ansW 0 0 false ⟨#[]⟩ (.slice none 0 0) (.slice a2 ds.length c2) (.slice none 0 0))) w' := by
  rw [hfl]
  refine ⟨st', (fix_eq hfx).1, hI.chg hc7 (fun b hb e => ?_) (by omega), hR, ((hW.any _).trans hc).andThen hc7 (fun i hi (e : i = _) => by omega), fun b hb => (hk b hb).imp id (fun h => by omega), Or.inl ⟨rfl, rfl, none, 0, 0, a2, ds.length, c2, rfl, noItems _ _ _ _, ownsRow_base (ownsRow_chg hrow hc7 (fun g hgg (e : g = _) => by have := (hrow.lt g hgg).1; omega)) (by omega), (fun g hg' => by cases hg'), hg⟩⟩
  rcases hk b hb with h1 | h1
  · have := h.there b h1; omega
  · omega
theorem flush_next {st st' : PSt} {n N j : Nat} {w2 wr w3 w4 w5 : World} {W W' : PW} {ds : List Dec} {a2 : Option Addr} {k2 : Nat} {v' : Value} {t : Int} {q' : List (Int × Nat)} {P : PT} {c : Int} {V' : List (ByteArray × VEnt)} {rows' : List (ByteArray × Int)} {low' : Int} {o : Obj}
    (hWq : W'.q = t :: q'.map Prod.fst) (hfind : W'.ts.find? (fun T => T.start == t) = some P) (hrow : wr.ownsRow w2.heap.size 44 3 (.slice a2 ds.length k2) ds.length (decCells ds)) (hdl : ds.length ≤ j) (hjN : j < N) (hfl : flushM N W = (ds ++ (flushM (N - j) W').1, (flushM (N - j) W').2)) (hc : Chg (fun b => b ∈ st.blocks) w2 wr) (hk : Kept st st' w2) (hfx : st'.fix = st.fix) (hg : ∀ g, (Value.slice a2 ds.length k2).ownBlock = some g → g ∉ st'.blocks)
    (hc3 : Chg (fun b => b = st'.ch ∨ b = st'.om) wr w3) (hsub : ∀ b ∈ ({ st' with q := q', qr := st'.qr + 1, txs := drp t st'.txs } : PSt).blocks, b ∈ st'.blocks)
    (hI4 : Inv w4 { st' with q := q', qr := st'.qr + 1, txs := drp t st'.txs, clock := c, V := V', rows := rows', low := low' } n) (hR4 : Rel { st' with q := q', qr := st'.qr + 1, txs := drp t st'.txs, clock := c, V := V', rows := rows', low := low' } (decideM (outM W' t (q'.map Prod.fst)) P).2) (hc4 : Chg (fun b => b ∈ ({ st' with q := q', qr := st'.qr + 1, txs := drp t st'.txs } : PSt).blocks) w3 w4) (hk4 : Kept { st' with q := q', qr := st'.qr + 1, txs := drp t st'.txs } { st' with q := q', qr := st'.qr + 1, txs := drp t st'.txs, clock := c, V := V', rows := rows', low := low' } w3)
    (hown : w5.ownsRow w2.heap.size 44 3 v' (ds.length + 1) (decCells ds ++ decCell (decideM (outM W' t (q'.map Prod.fst)) P).1)) (hg5 : (w4.alloc o).grownBy w5 (Value.slice a2 ds.length k2).ownBlock) (hwh : v'.ownBlock = (Value.slice a2 ds.length k2).ownBlock ∨ v'.ownBlock = some (w4.alloc o).heap.size) :
    Fl w2 st W n N (j + 1) v' w5 := by
  have hgl : ∀ g, (Value.slice a2 ds.length k2).ownBlock = some g → w2.heap.size ≤ g ∧ g < wr.heap.size := fun g e => hrow.lt g e
  have z3 := hc3.size
  have z4 := hc4.size
  have z2 := hc.size
  have hgn : ∀ g, (Value.slice a2 ds.length k2).ownBlock = some g → g ∉ ({ st' with q := q', qr := st'.qr + 1, txs := drp t st'.txs, clock := c, V := V', rows := rows', low := low' } : PSt).blocks := fun g e hm => by
    rcases hk4 g hm with h1 | h1
    · exact hg g e (hsub g h1)
    · have := hgl g e; omega
  have hc5 : Chg (fun b => (Value.slice a2 ds.length k2).ownBlock = some b) w4 w5 := ((Chg.refl _ w4).alloc o).grown hg5 (fun k e => Or.inl e)
  have hstb : ∀ b ∈ st'.blocks, b ∈ st.blocks ∨ w2.heap.size ≤ b := hk
  have hfb : ∀ b ∈ st'.fix, b ∈ st.blocks := fun b hb => PSt.mem_fix (hfx ▸ hb)
  refine ⟨_, _, ds ++ [(decideM (outM W' t (q'.map Prod.fst)) P).1], hI4.chg hc5 (fun b hb e => hgn b e hb) (Nat.le_refl _), hR4, ?_, by simp; omega, ?_, ?_, fun b hb => ?_, hfx, fun g e hm => ?_⟩
  · rw [decCells_snoc, List.length_append]; exact hown
  · rw [hfl, show N - j = (N - (j + 1)) + 1 by omega, flushM_cons _ _ hWq hfind]
    simp
  · refine ((hc.andThen hc3 (fun i hi h => ?_)).andThen hc4 (fun i hi h => ?_)).andThen hc5 (fun i hi h => ?_)
    · rcases h with e | e
      · exact hfb i (by simp [PSt.fix, e])
      · exact hfb i (by simp [PSt.fix, e])
    · rcases hstb i (hsub i h) with h1 | h1
      · exact h1
      · omega
    · have := hgl i h; omega
  · rcases hk4 b hb with h1 | h1
    · exact hstb b (hsub b h1)
    · exact Or.inr (by omega)
  · rcases hwh with e1 | e1
    · exact hgn g (e1 ▸ e) hm
    · rw [e1] at e
      have := hI4.there g hm
      have e2 : (w4.alloc o).heap.size = g := Option.some.inj e
      simp at e2
      omega
set_option maxRecDepth 100000 in
set_option maxHeartbeats 4000000 in
theorem flush_ok {st : PSt} {n : Nat} {w : World} {o : OpM} {W : PW} (h : Inv w st n) (hr : Rel st W) (hn : n ≤ 100000000) (h0 : 0 ≤ o.n) (h1 : o.n ≤ 100) :
    Calls Tryz.prog 64 #[.pointer (some ⟨st.p, 0, none⟩), o.v] w (StepPost st n w (⟨0, 0, false, ⟨#[]⟩, [], (flushM o.n.toNat W).1, []⟩, (flushM o.n.toNat W).2)) := by
  obtain ⟨i0, hi, hz0, hz1, hz2⟩ := info_parts infoDec
  obtain ⟨kd, ot, ky, vl, on⟩ := o
  simp only at h0 h1 ⊢
  obtain ⟨N, rfl⟩ : ∃ N : Nat, on = (N : Int) := ⟨on.toNat, by omega⟩
  have hN100 : N ≤ 100 := by omega
  rw [Int.toNat_natCast]
  have h2 := mustBeCount_ok N (two w ⟨kd, ot, ky, vl, N⟩) h0 h1
  have HI : Hid (Inv w st n ∧ Rel st W ∧ n ≤ 100000000) := ⟨h, hr, hn⟩
  have HW : Hid (Chg nobody w (two w ⟨kd, ot, ky, vl, N⟩) ∧ (two w ⟨kd, ot, ky, vl, N⟩).heap.size = w.heap.size + 2 ∧ (two w ⟨kd, ot, ky, vl, N⟩).heap[w.heap.size + 1]? = some ans0) := ⟨two_chg w _, by simp, by simpa using (MapKept.heap_alloc (w.alloc (.cells #[.int .i64 kd, .int .i64 ot, .string ky, .string vl, .int .i64 N] 30)) ans0).1⟩
  have cN : (two w ⟨kd, ot, ky, vl, N⟩).cell? ⟨w.heap.size, 4, none⟩ = some (.int .i64 N) := by simp [go_sem]
  have HS : Hid (Fl (two w ⟨kd, ot, ky, vl, N⟩) st W n N 0 (.slice none 0 0) (two w ⟨kd, ot, ky, vl, N⟩)) := ⟨st, W, [], h.chg (two_chg w _) (fun _ _ hf => hf) (Nat.le_refl _), hr, World.ownsRow_nil _ _ _ _, by simp, by simp, (Chg.refl _ _), fun b hb => Or.inl hb, rfl, fun g hg => by cases hg⟩
  have HP : Hid (∀ w' r, r = (⟨0, 0, false, ⟨#[]⟩, [], (flushM N W).1, []⟩, (flushM N W).2) → ∀ e, StepPost st n w r e w' → StepPost st n w (⟨0, 0, false, ⟨#[]⟩, [], (flushM N W).1, []⟩, (flushM N W).2) e w') := fun _ _ hr _ h => hr ▸ h
  obtain ⟨R, hR⟩ : ∃ R : AnsM × PW, (⟨0, 0, false, ⟨#[]⟩, [], (flushM N W).1, []⟩, (flushM N W).2) = R := ⟨_, rfl⟩
  rw [hR]
  have HR : Hid ((⟨0, 0, false, ⟨#[]⟩, [], (flushM N W).1, []⟩, (flushM N W).2) = R) := hR
  clear h hr hn h0 h1 HP hR
  go_enter Tryz.func64, Tryz.ntmps64
  go_wp2_with (first | (go_at_call 84; refine h2.mono ?_; rintro e w' ⟨rfl, hw'⟩; replace hw' := hw'.symm; subst hw') | fail)
  clear h2
  generalize two w ⟨kd, ot, ky, vl, N⟩ = w2 at *
  go_loopw [5, 13] (fun v i wr => ∃ j : Nat, j ≤ N ∧ i = .int .i64 j ∧ Hid (Fl w2 st W n N j v wr)) (fun _ i _ => N - (intOf i).toNat)
  case atStart => exact ⟨0, Nat.zero_le _, rfl, HS.out⟩
  case round =>
    obtain ⟨j, hj, rfl, HF⟩ := hrel
    obtain ⟨st', W', ds, hI, hRr, hrow, hdl, hfl, hc, hk, hfx, hg⟩ := HF.out.it
    obtain ⟨a2, k2, rfl⟩ := row_form hrow
    have hwz := HW.out.2.1
    have hres : wr.heap[w.heap.size + 1]? = some ans0 := (hc.block _ (by omega) (fun hm => by have := HI.out.1.there _ hm; omega)).trans HW.out.2.2
    have HX : Hid (Inv wr st' n ∧ Rel st' W' ∧ wr.ownsRow w2.heap.size 44 3 (.slice a2 ds.length k2) ds.length (decCells ds) ∧ ds.length ≤ j ∧ flushM N W = (ds ++ (flushM (N - j) W').1, (flushM (N - j) W').2) ∧ Chg (fun b => b ∈ st.blocks) w2 wr ∧ Kept st st' w2 ∧ st'.fix = st.fix ∧ (∀ g, (Value.slice a2 ds.length k2).ownBlock = some g → g ∉ st'.blocks) ∧ wr.heap[w.heap.size + 1]? = some ans0) := ⟨hI, hRr, hrow, hdl, hfl, hc, hk, hfx, hg, hres⟩
    have HEND : Hid (N - j = 0 ∨ W'.q = [] → ∀ w', Chg (fun b => b = w.heap.size + 1) wr w' → StepPost st n w R (.returned (ansW 0 0 false ⟨#[]⟩ (.slice none 0 0) (.slice a2 ds.length k2) (.slice none 0 0))) w') := fun hor w' hc7 => by
      have e1 : flushM N W = (ds, W') := by
        rw [hfl]
        rcases hor with e | e
        · rw [e]; simp [flushM]
        · rw [flushM_nil _ _ e]; simp
      rw [← HR.out]
      exact flush_fin HI.out.1 hI hRr HW.out.1 HW.out.2.1 hrow e1 hc hk hfx hg hc7
    obtain ⟨k0, k1, kk2, k3, k4, k5, k6, kf⟩ := cells7 hres
    have hdz : Hid (ds.length ≤ j) := hdl
    have hdl' : ds.length ≤ 100 := by omega
    clear hI hRr hrow hfl hc hk hfx hg hres hdl HS
    by_cases hjN : j < N
    · have hb : decide ((j : Int) < (N : Int)) = true := decide_eq_true (by omega)
      have fxe := fix_eq HX.out.2.2.2.2.2.2.2.1
      have c3 : wr.cell? ⟨st.p, 3, none⟩ = some (.pointer (some ⟨st'.qb, 0, none⟩)) := by rw [← fxe.1]; exact cell_of HX.out.1.pl rfl
      cases hq : st'.q with
      | nil =>
        have hchn := HX.out.1.chn
        rw [hq] at hchn
        have hT := qTake_none st'.qb st'.ch st'.qs st'.qr wr (cell_of HX.out.1.qu rfl) hchn
        have HWq : Hid (W'.q = []) := by have := HX.out.2.1.q; rw [hq] at this; exact this
        clear hq hchn fxe
        go_wp2_with (first | (go_at_call 85; refine hT.mono ?_; rintro e w' ⟨rfl, hw'⟩; replace hw' := hw'.symm; subst hw'))
        obtain ⟨r0, r1, r2, r3, r4, r5, r6⟩ := set7 HX.out.2.2.2.2.2.2.2.2.2 rfl (.int .i64 0) (.int .i64 0) (.bool false) (.string ⟨#[]⟩) (.slice none 0 0) (.slice a2 ds.length k2) (.slice none 0 0)
        have hc7 := (chg_set7 wr (w.heap.size + 1) (.int .i64 0) (.int .i64 0) (.bool false) (.string ⟨#[]⟩) (.slice none 0 0) (.slice a2 ds.length k2) (.slice none 0 0))
        exact bodyPost_ret (v := ansW 0 0 false ⟨#[]⟩ (.slice none 0 0) (.slice a2 ds.length k2) (.slice none 0 0)) (by simp [results, Tryz.results64, go_sem, r0, r1, r2, r3, r4, r5, r6]) rfl (HEND.out (Or.inr HWq.out) _ hc7)
      | cons qe q' =>
        obtain ⟨t, tb⟩ := qe
        obtain ⟨hI, hRr, hrow, hdl, hfl, hc, hk, hfx, hg, hres⟩ := HX.out
        have hchn := hI.chn
        rw [hq] at hchn
        have hTk := qTake_some st'.qb st'.ch st'.qs st'.qr tb (q'.map (fun e : Int × Nat => mkP e.2)) wr (cell_of hI.qu rfl) hchn
        obtain ⟨T, hTm, hTt, hTb⟩ := hI.qok (t, tb) (by rw [hq]; simp)
        simp only at hTt hTb
        obtain ⟨hWq, hR1⟩ := hRr.take (qr := st'.qr + 1) hq
        obtain ⟨P, hfind, hrt⟩ : ∃ P, W'.ts.find? (fun X => X.start == t) = some P ∧ RelT T P := by
          rcases hRr.txs.find RelQ.start t with ⟨e1, _, _⟩ | ⟨k, T2, P, e1, e2, _, _, e5, e6, e7, _⟩
          · have : (t, tb) ∈ numsOf st'.txs := List.mem_map.2 ⟨T, hTm, by rw [hTt, hTb]⟩
            rw [getA_of_mem hI.om.nodup this] at e1
            cases e1
          · have : T2 = T := start_inj hI.starts e2 hTm (by rw [e7, hTt])
            subst this
            exact ⟨P, e5, e6.1⟩
        have hca := chg_setChan wr st'.ch 3 (q'.map (fun e => mkP e.2)).toArray false st'.qs (st'.qr + 1) false
        have hcha : (wr.setChan st'.ch 3 (q'.map (fun e => mkP e.2)).toArray false st'.qs (st'.qr + 1) false).heap[st'.ch]? = some (.chan 3 (q'.map (fun e => mkP e.2)).toArray false st'.qs (st'.qr + 1) false) := Conc.heap_setChan _ _ _ _ _ _ _ _ (lt_of_block hchn)
        obtain ⟨hfxn, _, htf, _, _, _⟩ := hI.lie
        have hoc : st'.om ≠ st'.ch := fix_ne hfxn 8 7 rfl rfl (by decide)
        have hpc : st'.p ≠ st'.ch := fix_ne hfxn 0 7 rfl rfl (by decide)
        have hoa : mapAt (wr.setChan st'.ch 3 (q'.map (fun e => mkP e.2)).toArray false st'.qs (st'.qr + 1) false) Tryz.prog 3 mkI mkP st'.om (numsOf st'.txs) := hI.om.of_block (hca.block _ hI.om.lt hoc)
        have hTa := (hI.txs T hTm).kept hca (fun b hb e => (htf T hTm b hb).1 (by simp [PSt.fix, e]))
        have hpa := (hca.block _ (lt_of_block hI.pl) hpc).trans hI.pl
        generalize wr.setChan st'.ch 3 (q'.map (fun e => mkP e.2)).toArray false st'.qs (st'.qr + 1) false = wa at *
        have htI : isInt t := by
          have h1 := (hI.ok T hTm).lo
          have h2 := (hI.ok T hTm).hi
          have h3 := hI.hi
          have h4 := HI.out.2.2
          unfold isInt
          omega
        have hs := start_any tb t wa.drew (by have := hTa.cells.2.1; rw [hTb, hTt] at this; exact this)
        obtain ⟨w3, hrun3, hm3, hg3, _⟩ := (hoa.of_block (w' := wa.drew) rfl).drop keyI mkI_inj Tryz.underlying91 (a := t) (keyOfI htI) 0
        simp only [mkI] at hrun3
        have hc03 : Chg (fun b => b = st'.om) wa w3 := ((Chg.refl _ _).drew).grown hg3 (fun k e => Or.inl (by cases e; rfl))
        have hc3 : Chg (fun b => b = st'.ch ∨ b = st'.om) wr w3 := (hca.mono (fun _ _ e => Or.inl e)).trans (hc03.mono (fun _ _ e => Or.inr e))
        have hch3 := (hc03.block _ (lt_of_block hcha) (fun e => hoc e.symm)).trans hcha
        have hqn : (st'.q.map Prod.fst).Nodup := by rw [← hRr.q]; exact hRr.qn
        obtain ⟨hI3, hT3, hTn, hsub⟩ := hI.take hq hTm hTt hqn hc3 hch3 hm3
        have hql : st'.q.length = q'.length + 1 := by rw [hq]; simp
        have hDec := decide_step hI3 hR1 hT3 hTn hrt (hI.ok T hTm) (by have := hI.hi; simp only; omega) HI.out.2.2
        have fob : st'.ob = st.ob := fxe.2.2.2.2.1
        have hpo3 : st'.p ≠ st'.om := fix_ne hfxn 0 8 rfl rfl (by decide)
        have cp4 : wa.cell? ⟨st.p, 4, none⟩ = some (.map (some st'.om)) := by rw [← fxe.1]; exact cell_of hpa rfl
        have cp2 : w3.cell? ⟨st.p, 2, none⟩ = some (.pointer (some ⟨st'.ob, 0, none⟩)) := by rw [← fxe.1]; exact cell_of hI3.pl rfl
        have HD : Hid (∀ w4 c V' rows' low', Inv w4 { st' with q := q', qr := st'.qr + 1, txs := drp t st'.txs, clock := c, V := V', rows := rows', low := low' } n → Rel { st' with q := q', qr := st'.qr + 1, txs := drp t st'.txs, clock := c, V := V', rows := rows', low := low' } (decideM (outM W' t (q'.map Prod.fst)) P).2 → Chg (fun b => b ∈ ({ st' with q := q', qr := st'.qr + 1, txs := drp t st'.txs } : PSt).blocks) w3 w4 → Kept { st' with q := q', qr := st'.qr + 1, txs := drp t st'.txs } { st' with q := q', qr := st'.qr + 1, txs := drp t st'.txs, clock := c, V := V', rows := rows', low := low' } w3 →
            w4.ownsRow w2.heap.size 44 3 (.slice a2 ds.length k2) ds.length (decCells ds) ∧ w2.heap.size ≤ w4.heap.size ∧ ∀ (ob : Obj) v' w5, w5.ownsRow w2.heap.size 44 3 v' (ds.length + 1) (decCells ds ++ decCell (decideM (outM W' t (q'.map Prod.fst)) P).1) → (w4.alloc ob).grownBy w5 (Value.slice a2 ds.length k2).ownBlock → (v'.ownBlock = (Value.slice a2 ds.length k2).ownBlock ∨ v'.ownBlock = some (w4.alloc ob).heap.size) → Fl w2 st W n N (j + 1) v' w5) := fun w4 c V' rows' low' g1 g2 g3 g4 => by
          refine ⟨ownsRow_chg (ownsRow_chg hrow hc3 (fun g e hx => hg g e ?_)) g3 (fun g e hx => hg g e (hsub g hx)), ?_, fun ob v' w5 g5 g6 g7 => flush_next hWq hfind hrow hdl hjN hfl hc hk hfx hg hc3 hsub g1 g2 g3 g4 g5 g6 g7⟩
          · rcases hx with e | e
            · exact PSt.mem_fix (by simp [PSt.fix, e])
            · exact PSt.mem_fix (by simp [PSt.fix, e])
          · have := hc.size; have := hc3.size; have := g3.size; omega
        rw [hTb] at hDec
        generalize (decideM (outM W' t (q'.map Prod.fst)) P) = dd at *
        clear hI hRr hrow hdl hfl hc hk hfx hg hres hchn hTm hTt hTb hWq hR1 hfind hrt hca hcha hfxn htf hoc hpc hoa hTa hpa htI hm3 hg3 hc03 hc3 hch3 hqn hI3 hT3 hTn hsub hql fob hpo3 hq fxe HEND
        go_wp2_with (first | (go_at_call 85; refine hTk.mono ?_; rintro e w' ⟨rfl, hw'⟩; replace hw' := hw'.symm; subst hw') | fail)
        go_region_with (go_at_call 86; refine hs.mono ?_; rintro e w' ⟨rfl, hw'⟩; replace hw' := hw'.symm; subst hw')
        all_goals
          go_wp2_with fail
          refine hDec.mono ?_
          rintro e w4 ⟨rfl, c, V', rows', low', g1, g2, g3, g4⟩
          obtain ⟨hrow4, hz4, HN⟩ := HD.out w4 c V' rows' low' g1 g2 g3 g4
          have HNN : Hid (∀ (ob : Obj) v' w5, w5.ownsRow w2.heap.size 44 3 v' (ds.length + 1) (decCells ds ++ decCell dd.1) → (w4.alloc ob).grownBy w5 (Value.slice a2 ds.length k2).ownBlock → (v'.ownBlock = (Value.slice a2 ds.length k2).ownBlock ∨ v'.ownBlock = some (w4.alloc ob).heap.size) → Fl w2 st W n N (j + 1) v' w5) := HN
          clear g1 g2 g3 g4 HN hDec HD hs hTk cp2 cp4 hrun3
          obtain ⟨⟨dn, dc, dt⟩, dW⟩ := dd
          simp only [decV]
          go_wp2_with (at_builtin; refine wpList_append_where rfl _ _ 33 rfl w2.heap.size 44 i0 (.agg #[.int .i64 0, .int .i64 0, .int .i64 0]) 3 24 Tryz.underlying33 hi hz0 hz1 hz2 rfl (by decide) _ _ _ rfl (hrow4.alloc _) ⟨w4.heap.size, 0, none⟩ 1 1 [.int .i64 dn, .int .i64 dc, .int .i64 dt] rfl rfl (cells_new w4 #[.int .i64 dn, .int .i64 dc, .int .i64 dt] 44) (dec_one ⟨dn, dc, dt⟩) (by unfold maxLen; omega) (by omega) (by simp; omega) ?_; intro v' w5 hown5 hg5 hwh5; go_frame)
          go_roundw
        all_goals first
          | exact ⟨j + 1, by omega, by go_num, HNN.out _ _ _ hown5 hg5 hwh5⟩
          | (simp [intOf]; omega)
    · have hb : decide ((j : Int) < (N : Int)) = false := decide_eq_false (by omega)
      have hNj : Hid (N - j = 0) := by show N - j = 0; omega
      go_wp2
      obtain ⟨r0, r1, r2, r3, r4, r5, r6⟩ := set7 HX.out.2.2.2.2.2.2.2.2.2 rfl (.int .i64 0) (.int .i64 0) (.bool false) (.string ⟨#[]⟩) (.slice none 0 0) (.slice a2 ds.length k2) (.slice none 0 0)
      have hc7 := (chg_set7 wr (w.heap.size + 1) (.int .i64 0) (.int .i64 0) (.bool false) (.string ⟨#[]⟩) (.slice none 0 0) (.slice a2 ds.length k2) (.slice none 0 0))
      exact bodyPost_ret (v := ansW 0 0 false ⟨#[]⟩ (.slice none 0 0) (.slice a2 ds.length k2) (.slice none 0 0)) (by simp [results, Tryz.results64, go_sem, r0, r1, r2, r3, r4, r5, r6]) rfl (HEND.out (Or.inl hNj.out) _ hc7)
end Go.Proofs.YtkfjafndplmdkaaGreat
namespace Go.Proofs.YtkfjafndplmdkaaGreat
open Go.RowKit Go.Sort
theorem Inv.plays {w : World} {st : PSt} {n : Nat} (h : Inv w st n) : Plays w st.p st.om (numsOf st.txs) := ⟨cell_of h.pl rfl, h.om⟩
theorem named_cases {w : World} {st : PSt} {n : Nat} {W : PW} {t : Int} (h : Inv w st n) (hr : Rel st W) (ht : isInt t) :
    (W.ts.findIdx? (fun T => T.start == t) = none ∧ Named w st.p st.om (numsOf st.txs) t 2) ∨
    ∃ k T P, W.ts.findIdx? (fun T => T.start == t) = some k ∧ W.ts[k]? = some P ∧ T ∈ st.txs ∧ T.start = t ∧ RelQ W.q T P ∧ getA t (numsOf st.txs) = some T.tb ∧ ((t ∈ W.q ∧ Named w st.p st.om (numsOf st.txs) t 3) ∨ (t ∉ W.q ∧ T.queued = false)) := by
  rcases hr.txs.find RelQ.start t with ⟨e1, e2, _⟩ | ⟨k, T, P, e1, e2, e3, e4, _, e6, e7, _⟩
  · exact Or.inl ⟨e2, h.plays, ht, Or.inl ⟨rfl, e1⟩⟩
  · refine Or.inr ⟨k, T, P, e3, e4, e2, e7, e6, e1, ?_⟩
    have hPt : P.start = t := e6.1.st ▸ e7
    by_cases hq : t ∈ W.q
    · refine Or.inl ⟨hq, h.plays, ht, Or.inr ⟨rfl, T.tb, e1, ?_⟩⟩
      have := (h.txs T e2).cells.1
      rw [e6.2, hPt, decide_eq_true hq] at this
      exact this
    · exact Or.inr ⟨hq, by rw [e6.2, hPt, decide_eq_false hq]⟩
theorem stepR_of {W : PW} {o : OpM} (h2 : 2 ≤ o.kind) (h7 : o.kind ≤ 7) : stepR W o = (match W.ts.findIdx? (fun T => T.start == o.t) with | none => (errA 2, W) | some k => if o.t ∈ W.q then (errA 3, W) else match W.ts[k]? with | some T => ofM W k T o | none => (errA 2, W)) := by
  unfold stepR
  rw [if_neg (by omega), if_pos ⟨h2, h7⟩]
  rfl
/-- the steps that name a transaction. -/
theorem of_step {st : PSt} {n : Nat} {w : World} {o : OpM} {W : PW} {f : Nat} (h : Inv w st n) (hr : Rel st W) (ho : o.ok) (h2 : 2 ≤ o.kind) (h7 : o.kind ≤ 7)
    (hno : ∀ c, Named w st.p st.om (numsOf st.txs) o.t c → Calls Tryz.prog f #[.pointer (some ⟨st.p, 0, none⟩), o.v] w fun e w' => e = errE c ∧ Chg nobody w w')
    (hyes : ∀ k T P, W.ts.findIdx? (fun T => T.start == o.t) = some k → W.ts[k]? = some P → T ∈ st.txs → T.start = o.t → RelQ W.q T P → getA o.t (numsOf st.txs) = some T.tb → o.t ∉ W.q → T.queued = false → Calls Tryz.prog f #[.pointer (some ⟨st.p, 0, none⟩), o.v] w (StepPost st n w (ofM W k P o))) :
    Calls Tryz.prog f #[.pointer (some ⟨st.p, 0, none⟩), o.v] w (StepPost st n w (stepR W o)) := by
  rw [stepR_of h2 h7]
  rcases named_cases h hr ho.t with ⟨e1, hN⟩ | ⟨k, T, P, e1, e2, e3, e4, e5, e6, ⟨hq, hN⟩ | ⟨hq, hqd⟩⟩
  · rw [e1]
    refine (hno 2 hN).mono ?_
    rintro e w' ⟨rfl, hc⟩
    exact err_post h hr hc (by decide)
  · simp only [e1, if_pos hq]
    refine (hno 3 hN).mono ?_
    rintro e w' ⟨rfl, hc⟩
    exact err_post h hr hc (by decide)
  · simp only [e1, if_neg hq, e2]
    exact hyes k T P e1 e2 e3 e4 e5 e6 hq hqd
theorem Rel.upd {st : PSt} {W : PW} {T T' : Tx} {P P' : PT} {k : Nat} (h : Rel st W) (hk : W.ts.findIdx? (fun X => X.start == T.start) = some k) (hP : W.ts[k]? = some P) (hrq : RelQ W.q T P) (hs : T'.start = T.start) (hq : T'.queued = T.queued) (hr' : RelT T' P') : Rel { st with txs := repl T' st.txs } { W with ts := W.ts.set k P' } := by
  have hPs : P'.start = P.start := by rw [← hr'.st, hs, hrq.1.st]
  have hst : (W.ts.set k P').map PT.start = W.ts.map PT.start := by
    rw [List.map_set]
    refine List.ext_getElem? fun i => ?_
    rw [List.getElem?_set]
    by_cases hi : k = i
    · subst hi
      have hl : k < W.ts.length := (List.getElem?_eq_some_iff.1 hP).1
      simp only [if_true, List.length_map, hl, List.getElem?_map, hP, Option.map_some, hPs]
    · simp [hi]
  refine ⟨h.clock, h.low, h.txs.repl RelQ.start (T' := T') (P' := P') ⟨hr', by rw [hq, hrq.2, hPs]⟩ (by rw [hs]; exact hk), h.q, h.rows, h.rn, h.V, h.Lg, by show ((W.ts.set k P').map PT.start).Nodup; rw [hst]; exact h.nd, fun Q hQ => ?_, h.qn⟩
  have hm : Q.start ∈ W.ts.map PT.start := by rw [← hst]; exact List.mem_map.2 ⟨Q, hQ, rfl⟩
  obtain ⟨X, hX, e⟩ := List.mem_map.1 hm
  rw [← e]
  exact h.le X hX
theorem Inv.own {w : World} {st : PSt} {n : Nat} (h : Inv w st n) {T : Tx} (hT : T ∈ st.txs) : (T.tb ≠ T.wb ∧ T.tb ≠ T.kb ∧ T.tb ≠ T.pb ∧ T.wb ≠ T.kb ∧ T.wb ≠ T.pb ∧ T.kb ≠ T.pb) ∧ (T.kb ≠ st.sb ∧ T.kb ≠ st.vm ∧ T.kb ∉ vBlocks st.V ∧ T.pb ≠ st.sb ∧ T.pb ≠ st.vm ∧ T.pb ∉ vBlocks st.V ∧ st.ch ≠ T.wb ∧ st.ch ≠ T.kb ∧ st.ch ≠ T.pb) := by
  obtain ⟨_, _, hL, _, hN, _⟩ := h.lie
  have h1 := hN T hT
  simp only [Tx.blocks, List.nodup_cons, List.mem_cons, List.not_mem_nil, or_false, not_or, List.nodup_nil, and_true, not_false_eq_true] at h1
  obtain ⟨k1, k2⟩ := hL T hT T.kb (by simp [Tx.blocks])
  obtain ⟨p1, p2⟩ := hL T hT T.pb (by simp [Tx.blocks])
  obtain ⟨w1, w2⟩ := hL T hT T.wb (by simp [Tx.blocks])
  refine ⟨⟨h1.1.1, h1.1.2.1, h1.1.2.2, h1.2.1.1, h1.2.1.2, h1.2.2⟩, fun e => k1 (by simp [PSt.fix, e]), fun e => k1 (by simp [PSt.fix, e]), k2, fun e => p1 (by simp [PSt.fix, e]), fun e => p1 (by simp [PSt.fix, e]), p2, fun e => w1 (by simp [PSt.fix, e]), fun e => k1 (by simp [PSt.fix, e]), fun e => p1 (by simp [PSt.fix, e])⟩
theorem set_iff {l : List (ByteArray × Unit)} {m : List ByteArray} (h : ∀ k, (getA k l).isSome = true ↔ k ∈ m) (x : ByteArray) : ∀ k, (getA k (putA x () l)).isSome = true ↔ k ∈ m ++ [x] := fun k => by
  rw [getA_put]
  by_cases e : k = x
  · simp [e]
  · rw [if_neg e, h k]
    simp [e]
theorem lessK_nodup {l : List Ver} (k : ByteArray) (h : (l.map Ver.key).Nodup) : ((lessK l k).map Ver.key).Nodup := (List.filter_sublist.map _).nodup h
theorem putA_length {α β : Type} [DecidableEq α] (a : α) (b : β) : ∀ l : List (α × β), (putA a b l).length = if (getA a l).isSome then l.length else l.length + 1
  | [] => by simp [putA, getA]
  | p :: r => by
    by_cases h : p.1 = a
    · simp [putA, getA, h]
    · have ih := putA_length a b r
      simp only [putA, getA, h, if_false, List.length_cons, ih]
      split <;> simp
theorem lessK_length {l : List Ver} (k : ByteArray) : (l.map Ver.key).Nodup → (lessK l k).length + (if (l.find? (fun v => decide (v.key = k))).isSome then 1 else 0) = l.length := by
  induction l with
  | nil => intro _; simp [lessK]
  | cons v r ih =>
    intro nd
    obtain ⟨n1, n2⟩ := List.nodup_cons.1 (by simpa using nd : (v.key :: r.map Ver.key).Nodup)
    have ih' := ih n2
    unfold lessK at *
    by_cases h : v.key = k
    · rw [List.filter_cons_of_neg (by simpa using h), List.find?_cons]
      have hn : r.find? (fun v => decide (v.key = k)) = none := by
        rw [List.find?_eq_none]
        intro x hx e
        exact n1 (by rw [h]; exact List.mem_map.2 ⟨x, hx, by simpa using e⟩)
      rw [hn] at ih'
      simp [h] at ih' ⊢
      exact ih'
    · rw [List.filter_cons_of_pos (by simpa using h), List.find?_cons]
      simp only [h, decide_false, List.length_cons] at ih' ⊢
      omega
theorem RelT.put {T : Tx} {P : PT} (h : RelT T P) (key val : ByteArray) (gone : Bool) (hg : gone = true → val = ⟨#[]⟩) : RelT { T with ws := putA key (!gone, val) T.ws } { P with ws := writeM P.ws ⟨key, 0, val, gone⟩ } := by
  refine ⟨h.st, fun k => ?_, ?_, ?_, putA_nodup _ _ _ h.nd, fun v hv => ?_, h.ks, h.ps⟩
  · simp only
    rw [getA_put]
    simp only [writeM, List.find?_append]
    by_cases e : k = key
    · subst e
      have : (lessK P.ws k).find? (fun v => decide (v.key = k)) = none := by
        rw [List.find?_eq_none]
        intro v hv
        have := (List.mem_filter.1 hv).2
        simpa using this
      simp [this]
    · have e2 : (lessK P.ws key).find? (fun v => decide (v.key = k)) = P.ws.find? (fun v => decide (v.key = k)) := by
        unfold lessK
        rw [List.find?_filter]
        congr 1
        funext v
        by_cases hv : v.key = k
        · simp [hv, e]
        · simp [hv]
      rw [if_neg e, e2, h.ws k]
      have : ¬ key = k := fun h => e h.symm
      simp [this]
  · simp only [writeM]
    rw [putA_length, h.ws key, Option.isSome_map, List.length_append]
    have h1 := lessK_length key h.wn
    have h2 := h.wl
    cases hx : (P.ws.find? (fun v => decide (v.key = key))).isSome
    · rw [hx] at h1; simp at h1 ⊢; omega
    · rw [hx] at h1; simp at h1 ⊢; omega
  · simp only [writeM]
    rw [List.map_append, List.nodup_append]
    refine ⟨lessK_nodup key h.wn, by simp, fun a ha b hb => ?_⟩
    obtain ⟨v, hv, rfl⟩ := List.mem_map.1 ha
    have e1 : b = key := by simpa using hb
    have := (List.mem_filter.1 hv).2
    rw [e1]
    simpa using this
  · rcases List.mem_append.1 hv with hv | hv
    · exact h.ng v (List.mem_filter.1 hv).1
    · have : v = ⟨key, 0, val, gone⟩ := by simpa using hv
      subst this
      exact hg
end Go.Proofs.YtkfjafndplmdkaaGreat
namespace Go.Proofs.YtkfjafndplmdkaaGreat
open Go.RowKit Go.Sort
theorem ok_post {st st' : PSt} {n : Nat} {w w' : World} {W' : PW} {num : Int} {fd : Bool} {vl : ByteArray} (hp : st'.p = st.p) (hI : Inv w' st' (n + 1)) (hR : Rel st' W') (hc : Chg (fun b => b ∈ st.blocks) w w') (hk : Kept st st' w) :
    StepPost st n w (⟨0, num, fd, vl, [], [], []⟩, W') (.returned (ansV 0 num fd vl (.slice none 0 0))) w' :=
  ⟨st', hp, hI, hR, hc, hk, Or.inl ⟨rfl, rfl, none, 0, 0, none, 0, 0, rfl, noItems _ _ _ _, noDecs _ _ _ _, (fun g hg => by cases hg), (fun g hg => by cases hg)⟩⟩
theorem vl_le {w : World} {st : PSt} {n : Nat} (h : Inv w st n) : st.V.length ≤ 100 := by
  have aux : ∀ V : List (ByteArray × VEnt), (∀ p ∈ V, p.2.vs ≠ []) → V.length ≤ sumV V := by
    intro V
    induction V with
    | nil => intro _; simp
    | cons p r ih =>
      intro hv
      rw [sumV_cons, List.length_cons]
      have h1 := ih (fun q hq => hv q (by simp [hq]))
      have h2 : 0 < p.2.vs.length := List.length_pos_iff.2 (hv p (by simp))
      omega
  have := aux st.V h.vn
  have := h.vsum
  omega
theorem get_step {st : PSt} {n : Nat} {w : World} {o : OpM} {W : PW} (h : Inv w st n) (hr : Rel st W) (ho : o.ok) (hk : o.kind = 2) : Calls Tryz.prog 58 #[.pointer (some ⟨st.p, 0, none⟩), o.v] w (StepPost st n w (stepR W o)) := by
  refine of_step h hr ho (by omega) (by omega) (fun c hN => get_none _ _ _ o c w hN) (fun k T P e1 e2 hT e4 hrq e6 hq hqd => ?_)
  unfold ofM
  by_cases hb : o.key.size < 1 ∨ 8 < o.key.size
  · rw [if_pos ⟨Or.inl hk, hb⟩]
    refine (get_key _ _ _ _ o w h.plays ho.t e6 (by have := (h.txs T hT).cells.1; rw [hqd] at this; exact this) hb).mono ?_
    rintro e w' ⟨rfl, hc⟩
    exact err_post h hr hc (by decide)
  · rw [if_neg (fun hx => hb hx.2), if_pos hk]
    obtain ⟨o1, o2⟩ := h.own hT
    have hvl := versOf_le o.key st.V
    have hvs := h.vsum
    refine (get_ok _ _ _ _ st.V T _ o w h.plays ho.t e6 hqd (by omega) (by omega) (h.txs T hT) h.store (by omega) ⟨Ne.symm o1.2.1, Ne.symm o1.2.2.2.1, o1.2.2.2.2.2, o2.1, o2.2.1, o2.2.2.1⟩).mono ?_
    rintro e w' ⟨rfl, hT', hc⟩
    have hok := h.ok T hT
    obtain ⟨q1, q2⟩ := h.upd (T' := { T with ks := putA o.key () T.ks }) hT rfl rfl rfl hT' hc (fun b e => by subst e; simp [Tx.blocks]) ⟨hok.lo, hok.hi, by have := hok.len; simp only; omega, by have := hok.kl; have := putA_len o.key () T.ks; simp only; omega, by have := hok.pl; simp only; omega, hok.keys⟩
    obtain ⟨s1, s2, _⟩ := seen_sees hr hrq.1 o.key
    have hR' := hr.upd (T' := { T with ks := putA o.key () T.ks }) (P' := { P with ks := P.ks ++ [o.key] }) (by rw [e4]; exact e1) e2 hrq rfl rfl ⟨hrq.1.st, hrq.1.ws, hrq.1.wl, hrq.1.wn, hrq.1.nd, hrq.1.ng, set_iff hrq.1.ks o.key, hrq.1.ps⟩
    rw [s1, s2]
    exact ok_post (st' := { st with txs := repl { T with ks := putA o.key () T.ks } st.txs }) rfl q1 hR' (hc.mono (fun i _ e => by subst e; exact PSt.mem_tx hT (by simp [Tx.blocks]))) (fun b hb => Or.inl (q2 ▸ hb))
theorem scan_step {st : PSt} {n : Nat} {w : World} {o : OpM} {W : PW} (h : Inv w st n) (hr : Rel st W) (hn : n ≤ 10000000) (ho : o.ok) (hk : o.kind = 3) : Calls Tryz.prog 59 #[.pointer (some ⟨st.p, 0, none⟩), o.v] w (StepPost st n w (stepR W o)) := by
  refine of_step h hr ho (by omega) (by omega) (fun c hN => scan_none _ _ _ o c w hN) (fun k T P e1 e2 hT e4 hrq e6 hq hqd => ?_)
  unfold ofM
  rw [if_neg (by omega), if_neg (by omega), if_pos hk]
  obtain ⟨o1, o2⟩ := h.own hT
  have hok := h.ok T hT
  have hvs := h.vsum
  refine (scan_ok _ _ _ _ st.V T _ o w h.plays ho.t e6 hqd ho.key (h.txs T hT) h.store (by have := hok.len; omega) (by have := vl_le h; omega) (fun key => by have := versOf_le key st.V; omega) (fun q hq => by have := hok.keys q hq; unfold maxLen; omega) (fun q hq => by have := h.vk q hq; unfold maxLen; omega) ⟨Ne.symm o1.2.2.1, Ne.symm o1.2.2.2.2.1, Ne.symm o1.2.2.2.2.2, o2.2.2.2.1, o2.2.2.2.2.1, o2.2.2.2.2.2.1⟩).mono ?_
  rintro e w' ⟨a, k', c, rfl, hrow, hT', hc⟩
  obtain ⟨q1, q2⟩ := h.upd (T' := { T with ps := putA o.key () T.ps }) hT rfl rfl rfl hT' hc (fun b e => by subst e; simp [Tx.blocks]) ⟨hok.lo, hok.hi, by have := hok.len; simp only; omega, by have := hok.kl; simp only; omega, by have := hok.pl; have := putA_len o.key () T.ps; simp only; omega, hok.keys⟩
  have hR' := hr.upd (T' := { T with ps := putA o.key () T.ps }) (P' := { P with ps := P.ps ++ [o.key] }) (by rw [e4]; exact e1) e2 hrq rfl rfl ⟨hrq.1.st, hrq.1.ws, hrq.1.wl, hrq.1.wn, hrq.1.nd, hrq.1.ng, hrq.1.ks, set_iff hrq.1.ps o.key⟩
  rw [items_eq hr hrq.1 h.vn h.store.vs.nodup o.key] at hrow
  refine ⟨{ st with txs := repl { T with ps := putA o.key () T.ps } st.txs }, rfl, q1, hR', hc.mono (fun i _ e => by subst e; exact PSt.mem_tx hT (by simp [Tx.blocks])), fun b hb => Or.inl (q2 ▸ hb), Or.inl ⟨rfl, rfl, a, k', c, none, 0, 0, rfl, hrow, noDecs _ _ _ _, (fun g hg hm => ?_), (fun g hg => by cases hg)⟩⟩
  have h3 := h.there g (q2 ▸ hm)
  have h4 := (hrow.lt g hg).1
  omega
theorem putA_sizes {key : ByteArray} {c : Bool × ByteArray} {ws : List (ByteArray × (Bool × ByteArray))} (hw : ∀ q ∈ ws, q.1.size ≤ 8) (hk : key.size ≤ 8) : ∀ q ∈ putA key c ws, q.1.size ≤ 8 := fun q hq => by
  rcases putA_keys key c ws q hq with rfl | hq
  · exact hk
  · exact hw q hq
theorem put_step {st : PSt} {n : Nat} {w : World} {o : OpM} {W : PW} (h : Inv w st n) (hr : Rel st W) (ho : o.ok) (hk : o.kind = 4) : Calls Tryz.prog 60 #[.pointer (some ⟨st.p, 0, none⟩), o.v] w (StepPost st n w (stepR W o)) := by
  refine of_step h hr ho (by omega) (by omega) (fun c hN => put_none _ _ _ o c w hN) (fun k T P e1 e2 hT e4 hrq e6 hq hqd => ?_)
  have hqc : w.cell? ⟨T.tb, 0, none⟩ = some (.bool false) := by have := (h.txs T hT).cells.1; rw [hqd] at this; exact this
  unfold ofM
  by_cases hb : o.key.size < 1 ∨ 8 < o.key.size
  · rw [if_pos ⟨Or.inr (Or.inl hk), hb⟩]
    refine (put_key _ _ _ _ o w h.plays ho.t e6 hqc hb).mono ?_
    rintro e w' ⟨rfl, hc⟩
    exact err_post h hr hc (by decide)
  · rw [if_neg (fun hx => hb hx.2), if_neg (by omega), if_neg (by omega), if_pos hk]
    by_cases hv : 20 < o.val.size
    · rw [if_pos hv]
      refine (put_value _ _ _ _ o w h.plays ho.t e6 hqc (by omega) (by omega) hv).mono ?_
      rintro e w' ⟨rfl, hc⟩
      exact err_post h hr hc (by decide)
    · rw [if_neg hv]
      obtain ⟨o1, o2⟩ := h.own hT
      refine (put_ok _ _ _ T _ o w h.plays ho.t e6 hqd (by omega) (by omega) (by omega) (h.txs T hT) ⟨Ne.symm o1.1, o1.2.2.2.1, o1.2.2.2.2.1⟩).mono ?_
      rintro e w' ⟨rfl, hT', hc⟩
      have hok := h.ok T hT
      obtain ⟨q1, q2⟩ := h.upd (T' := { T with ws := putA o.key (true, o.val) T.ws }) hT rfl rfl rfl hT' hc (fun b e => by subst e; simp [Tx.blocks]) ⟨hok.lo, hok.hi, by have := hok.len; have := putA_len o.key (true, o.val) T.ws; simp only; omega, by have := hok.kl; simp only; omega, by have := hok.pl; simp only; omega, putA_sizes hok.keys (by omega)⟩
      have hR' := hr.upd (T' := { T with ws := putA o.key (true, o.val) T.ws }) (by rw [e4]; exact e1) e2 hrq rfl rfl (hrq.1.put o.key o.val false (by simp))
      exact ok_post (st' := { st with txs := repl { T with ws := putA o.key (true, o.val) T.ws } st.txs }) rfl q1 hR' (hc.mono (fun i _ e => by subst e; exact PSt.mem_tx hT (by simp [Tx.blocks]))) (fun b hb => Or.inl (q2 ▸ hb))
theorem del_step {st : PSt} {n : Nat} {w : World} {o : OpM} {W : PW} (h : Inv w st n) (hr : Rel st W) (ho : o.ok) (hk : o.kind = 5) : Calls Tryz.prog 61 #[.pointer (some ⟨st.p, 0, none⟩), o.v] w (StepPost st n w (stepR W o)) := by
  refine of_step h hr ho (by omega) (by omega) (fun c hN => del_none _ _ _ o c w hN) (fun k T P e1 e2 hT e4 hrq e6 hq hqd => ?_)
  have hqc : w.cell? ⟨T.tb, 0, none⟩ = some (.bool false) := by have := (h.txs T hT).cells.1; rw [hqd] at this; exact this
  unfold ofM
  by_cases hb : o.key.size < 1 ∨ 8 < o.key.size
  · rw [if_pos ⟨Or.inr (Or.inr hk), hb⟩]
    refine (del_key _ _ _ _ o w h.plays ho.t e6 hqc hb).mono ?_
    rintro e w' ⟨rfl, hc⟩
    exact err_post h hr hc (by decide)
  · rw [if_neg (fun hx => hb hx.2), if_neg (by omega), if_neg (by omega), if_neg (by omega), if_pos hk]
    obtain ⟨o1, o2⟩ := h.own hT
    refine (del_ok _ _ _ T _ o w h.plays ho.t e6 hqd (by omega) (by omega) (h.txs T hT) ⟨Ne.symm o1.1, o1.2.2.2.1, o1.2.2.2.2.1⟩).mono ?_
    rintro e w' ⟨rfl, hT', hc⟩
    have hok := h.ok T hT
    obtain ⟨q1, q2⟩ := h.upd (T' := { T with ws := putA o.key noCell T.ws }) hT rfl rfl rfl hT' hc (fun b e => by subst e; simp [Tx.blocks]) ⟨hok.lo, hok.hi, by have := hok.len; have := putA_len o.key noCell T.ws; simp only; omega, by have := hok.kl; simp only; omega, by have := hok.pl; simp only; omega, putA_sizes hok.keys (by omega)⟩
    have hR' := hr.upd (T' := { T with ws := putA o.key noCell T.ws }) (by rw [e4]; exact e1) e2 hrq rfl rfl (hrq.1.put o.key ⟨#[]⟩ true (fun _ => rfl))
    exact ok_post (st' := { st with txs := repl { T with ws := putA o.key noCell T.ws } st.txs }) rfl q1 hR' (hc.mono (fun i _ e => by subst e; exact PSt.mem_tx hT (by simp [Tx.blocks]))) (fun b hb => Or.inl (q2 ▸ hb))
theorem drop_step {st : PSt} {n : Nat} {w : World} {o : OpM} {W : PW} (h : Inv w st n) (hr : Rel st W) (ho : o.ok) (hk : o.kind = 6) : Calls Tryz.prog 62 #[.pointer (some ⟨st.p, 0, none⟩), o.v] w (StepPost st n w (stepR W o)) := by
  refine of_step h hr ho (by omega) (by omega) (fun c hN => drop_none _ _ _ o c w hN) (fun k T P e1 e2 hT e4 hrq e6 hq hqd => ?_)
  have hqc : w.cell? ⟨T.tb, 0, none⟩ = some (.bool false) := by have := (h.txs T hT).cells.1; rw [hqd] at this; exact this
  unfold ofM
  rw [if_neg (by omega), if_neg (by omega), if_neg (by omega), if_neg (by omega), if_neg (by omega), if_pos hk]
  refine (drop_ok _ _ _ _ o w h.plays ho.t e6 hqc).mono ?_
  rintro e w' ⟨rfl, hm, hc⟩
  obtain ⟨hfx, hvf, htf, _, _, _⟩ := h.lie
  have hPt : P.start = o.t := hrq.1.st ▸ e4
  have hsub := flat_sub Tx.blocks (drp_sub o.t st.txs)
  have hbs : ({ st with txs := drp o.t st.txs } : PSt).blocks.Sublist st.blocks := (List.Sublist.refl _).append ((List.Sublist.refl _).append hsub)
  have nS : ∀ (i : Nat) (b : Nat), st.fix[i]? = some b → i ≠ 8 → b ≠ st.om := fun i b hi h8 => fix_ne hfx i 8 hi rfl h8
  have hR' : Rel { st with txs := drp o.t st.txs } { W with ts := W.ts.filter (fun x => decide (x.start ≠ P.start)) } := by
    rw [hPt]
    exact ⟨hr.clock, hr.low, hr.txs.drop RelQ.start hr.nd, hr.q, hr.rows, hr.rn, hr.V, hr.Lg, (List.filter_sublist.map _).nodup hr.nd, fun X hX => hr.le X (List.mem_filter.1 hX).1, hr.qn⟩
  refine ok_post (st' := { st with txs := drp o.t st.txs }) rfl ⟨(hc.block _ (lt_of_block h.pl) (nS 0 _ rfl (by decide))).trans h.pl, (hc.block _ (lt_of_block h.ck) (nS 1 _ rfl (by decide))).trans h.ck, h.store.chg hc (nS 2 _ rfl (by decide)) (nS 3 _ rfl (by decide)) (fun b hb e => hvf b hb (by simp [PSt.fix, e])), h.orc.chg hc (nS 4 _ rfl (by decide)) (nS 5 _ rfl (by decide)), (hc.block _ (lt_of_block h.qu) (nS 6 _ rfl (by decide))).trans h.qu, (hc.block _ (lt_of_block h.chn) (nS 7 _ rfl (by decide))).trans h.chn, ?_, fun X hX => (h.txs X ((drp_sub o.t st.txs).subset hX)).kept hc (fun b hb e => (htf X ((drp_sub o.t st.txs).subset hX) b hb).1 (by simp [PSt.fix, e])), hbs.nodup h.apart, h.lo, by have := h.hi; simp only; omega, Nat.le_trans (drp_sub o.t st.txs).length_le h.six, fun X hX => (h.ok X ((drp_sub o.t st.txs).subset hX)).up (by simp only; omega) (by omega), h.q3, fun e he => ?_, h.r6, h.rk, h.vsum, h.vk, h.vn⟩ hR' (hc.mono (fun i _ e => by subst e; exact PSt.mem_fix (by simp [PSt.fix]))) (fun b hb => Or.inl (hbs.subset hb))
  · show mapAt w' Tryz.prog 3 mkI mkP st.om (numsOf (drp o.t st.txs))
    rw [drp_nums]
    exact hm
  · obtain ⟨X, hX, x1, x2⟩ := h.qok e he
    refine ⟨X, drp_mem o.t hX (fun e3 => hq ?_), x1, x2⟩
    rw [hr.q]
    exact List.mem_map.2 ⟨e, he, by rw [← x1, e3]⟩
theorem commit_step {st : PSt} {n : Nat} {w : World} {o : OpM} {W : PW} (h : Inv w st n) (hr : Rel st W) (ho : o.ok) (hk : o.kind = 7) : Calls Tryz.prog 63 #[.pointer (some ⟨st.p, 0, none⟩), o.v] w (StepPost st n w (stepR W o)) := by
  have c3 : w.cell? ⟨st.p, 3, none⟩ = some (.pointer (some ⟨st.qb, 0, none⟩)) := cell_of h.pl rfl
  refine of_step h hr ho (by omega) (by omega) (fun c hN => pcommit_none _ _ _ o c st.qb w hN c3) (fun k T P e1 e2 hT e4 hrq e6 hq hqd => ?_)
  unfold ofM
  rw [if_neg (by omega), if_neg (by omega), if_neg (by omega), if_neg (by omega), if_neg (by omega), if_neg (by omega)]
  have hql : W.q.length = st.q.length := by rw [hr.q]; simp
  have hPt : P.start = o.t := hrq.1.st ▸ e4
  by_cases hf : W.q.length = 3
  · rw [if_pos hf]
    refine (pcommit_full _ _ T st.sb _ o st.qb st.ch st.qs st.qr _ w h.plays ho.t e6 (h.txs T hT) hqd c3 h.qu h.chn (by simp; omega)).mono ?_
    rintro e w' ⟨rfl, hc⟩
    exact err_post h hr hc (by decide)
  · rw [if_neg hf]
    obtain ⟨o1, o2⟩ := h.own hT
    have hq3 := h.q3
    refine (pcommit_ok _ _ T st.sb _ o st.qb st.ch st.qs st.qr _ w h.plays ho.t e6 (h.txs T hT) hqd c3 h.qu h.chn (by simp; omega) ⟨o1.1, o1.2.1, o1.2.2.1, o2.2.2.2.2.2.2.1, o2.2.2.2.2.2.2.2.1, o2.2.2.2.2.2.2.2.2⟩).mono ?_
    rintro e w' ⟨rfl, hch, hT', hc⟩
    obtain ⟨hfx, hvf, htf, _, _, hD⟩ := h.lie
    have hS := h.starts
    have hok := h.ok T hT
    have fl : (repl { T with queued := true } st.txs).flatMap Tx.blocks = st.txs.flatMap Tx.blocks := by
      rw [List.flatMap_def, List.flatMap_def, repl_same (T := T) (T' := { T with queued := true }) rfl Tx.blocks rfl _ hS hT]
    have hbl : ({ st with q := st.q ++ [(T.start, T.tb)], qs := st.qs + 1, txs := repl { T with queued := true } st.txs } : PSt).blocks = st.blocks := by
      unfold PSt.blocks
      simp only [fl]
      rfl
    have nS : ∀ (i : Nat) (b : Nat), st.fix[i]? = some b → i ≠ 7 → ¬ (b = st.ch ∨ b = T.tb) := fun i b hi h7 hx => by
      rcases hx with e | e
      · exact fix_ne hfx i 7 hi rfl h7 e
      · exact (htf T hT T.tb (by simp [Tx.blocks])).1 (e ▸ List.mem_of_getElem? hi)
    have nV : ∀ b ∈ vBlocks st.V, ¬ (b = st.ch ∨ b = T.tb) := fun b hb hx => by
      rcases hx with e | e
      · exact hvf b hb (by simp [PSt.fix, e])
      · exact (htf T hT T.tb (by simp [Tx.blocks])).2 (e ▸ hb)
    have hnums : numsOf (repl { T with queued := true } st.txs) = numsOf st.txs := repl_same (T := T) (T' := { T with queued := true }) rfl (fun T => (T.start, T.tb)) rfl _ hS hT
    have hR' : Rel { st with q := st.q ++ [(T.start, T.tb)], qs := st.qs + 1, txs := repl { T with queued := true } st.txs } { W with q := W.q ++ [P.start] } := by
      refine ⟨hr.clock, hr.low, ?_, ?_, hr.rows, hr.rn, hr.V, hr.Lg, hr.nd, hr.le, ?_⟩
      · have key : ∀ {a : List Tx} {b : List PT}, SameL (RelQ W.q) a b → (a.map (·.start)).Nodup → T ∈ a → SameL (RelQ (W.q ++ [P.start])) (repl { T with queued := true } a) b := by
          intro a
          induction a with
          | nil => intro b _ _ hm; simp at hm
          | cons X r ih =>
            intro b hs hn hm
            cases b with
            | nil => exact hs.elim
            | cons Q q =>
              simp only [List.map_cons, List.nodup_cons] at hn
              by_cases hx : X.start = T.start
              · have hxT : X = T := by
                  rcases List.mem_cons.1 hm with e | e
                  · exact e.symm
                  · exact absurd (List.mem_map.2 ⟨T, e, hx.symm⟩) hn.1
                have e3 : repl { T with queued := true } (X :: r) = { T with queued := true } :: r := by simp only [repl]; rw [if_pos hx]
                rw [e3]
                have hQ : Q.start = P.start := by rw [← hs.1.1.st, hx, e4, hPt]
                refine ⟨⟨?_, ?_⟩, hs.2.imp (fun Y hY Z _ hr' => ⟨hr'.1, ?_⟩)⟩
                · have := hs.1.1
                  rw [hxT] at this
                  exact ⟨this.st, this.ws, this.wl, this.wn, this.nd, this.ng, this.ks, this.ps⟩
                · simp [hQ]
                · have hne : Z.start ≠ P.start := fun e5 => hn.1 (List.mem_map.2 ⟨Y, hY, by rw [hr'.1.st, e5, ← hQ, ← hs.1.1.st]⟩)
                  rw [hr'.2]
                  exact decide_eq_decide.2 (by simp [hne])
              · have hTr : T ∈ r := by
                  rcases List.mem_cons.1 hm with e | e
                  · exact absurd (by rw [e]) hx
                  · exact e
                have e3 : repl { T with queued := true } (X :: r) = X :: repl { T with queued := true } r := by simp only [repl]; rw [if_neg hx]
                rw [e3]
                have hne : Q.start ≠ P.start := fun e5 => hx (by rw [hs.1.1.st, e5, hPt, e4])
                refine ⟨⟨hs.1.1, ?_⟩, ih hs.2 hn.2 hTr⟩
                rw [hs.1.2]
                exact decide_eq_decide.2 (by simp [hne])
        exact key hr.txs hS hT
      · show W.q ++ [P.start] = (st.q ++ [(T.start, T.tb)]).map Prod.fst
        rw [hr.q, List.map_append, hrq.1.st]
        rfl
      · show (W.q ++ [P.start]).Nodup
        rw [List.nodup_append]
        refine ⟨hr.qn, by simp, fun a ha b hb => ?_⟩
        have e5 : b = P.start := by simpa using hb
        rw [e5, hPt]
        exact fun e6 => hq (e6 ▸ ha)
    refine ok_post (st' := { st with q := st.q ++ [(T.start, T.tb)], qs := st.qs + 1, txs := repl { T with queued := true } st.txs }) rfl ⟨(hc.block _ (lt_of_block h.pl) (nS 0 _ rfl (by decide))).trans h.pl, (hc.block _ (lt_of_block h.ck) (nS 1 _ rfl (by decide))).trans h.ck, h.store.chg hc (nS 2 _ rfl (by decide)) (nS 3 _ rfl (by decide)) nV, h.orc.chg hc (nS 4 _ rfl (by decide)) (nS 5 _ rfl (by decide)), (hc.block _ (lt_of_block h.qu) (nS 6 _ rfl (by decide))).trans h.qu, ?_, ?_, fun X hX => ?_, hbl ▸ h.apart, h.lo, by have := h.hi; simp; omega, by simp only; rw [repl_len]; exact h.six, fun X hX => ?_, by simp; omega, fun e he => ?_, h.r6, h.rk, h.vsum, h.vk, h.vn⟩ hR' (hc.mono (fun i _ e => ?_)) (fun b hb => Or.inl (hbl ▸ hb))
    · simp only [List.map_append, List.map_cons, List.map_nil]
      simpa using hch
    · show mapAt w' Tryz.prog 3 mkI mkP st.om (numsOf (repl { T with queued := true } st.txs))
      rw [hnums]
      exact h.om.of_block (hc.block _ h.om.lt (nS 8 _ rfl (by decide)))
    · rcases repl_mem hS hX with rfl | ⟨hX, hne⟩
      · exact hT'
      · refine (h.txs X hX).kept hc (fun b hb hx => ?_)
        rcases hx with e | e
        · exact (htf X hX b hb).1 (by simp [PSt.fix, e])
        · exact hD X hX T hT hne b hb (by rw [e]; simp [Tx.blocks])
    · rcases repl_mem hS hX with rfl | ⟨hX, hne⟩
      · exact ⟨hok.lo, hok.hi, by have := hok.len; simp only; omega, by have := hok.kl; simp only; omega, by have := hok.pl; simp only; omega, hok.keys⟩
      · exact (h.ok X hX).up (by simp only; omega) (by omega)
    · have hm : (e.1, e.2) ∈ numsOf (repl { T with queued := true } st.txs) := by
        rw [hnums]
        rcases List.mem_append.1 he with he | he
        · obtain ⟨X, hX, x1, x2⟩ := h.qok e he
          exact List.mem_map.2 ⟨X, hX, by rw [x1, x2]⟩
        · have : e = (T.start, T.tb) := by simpa using he
          subst this
          exact List.mem_map.2 ⟨T, hT, rfl⟩
      obtain ⟨Y, hY, hy⟩ := List.mem_map.1 hm
      exact ⟨Y, hY, congrArg Prod.fst hy, congrArg Prod.snd hy⟩
    · rcases e with e | e
      · subst e; exact PSt.mem_fix (by simp [PSt.fix])
      · subst e; exact PSt.mem_tx hT (by simp [Tx.blocks])
end Go.Proofs.YtkfjafndplmdkaaGreat
