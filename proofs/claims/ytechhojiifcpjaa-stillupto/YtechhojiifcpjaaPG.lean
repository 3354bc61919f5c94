import Derived.Test.YtechhojiifcpjaaPF
namespace Go.Proofs.Ytechhojiifcpjaa
open Go.RowKit Go.Sort
open Go.Maps (Keyed)
theorem fix_eq {st st' : PSt} (h : st'.fix = st.fix) : st'.p = st.p ∧ st'.cb = st.cb ∧ st'.sb = st.sb ∧ st'.vm = st.vm ∧ st'.ob = st.ob ∧ st'.rb = st.rb ∧ st'.qb = st.qb ∧ st'.ch = st.ch ∧ st'.om = st.om := by
  simp only [PSt.fix, List.cons.injEq, and_true] at h
  obtain ⟨h1, h2, h3, h4, h5, h6, h7, h8, h9⟩ := h
  exact ⟨h1, h2, h3, h4, h5, h6, h7, h8, h9⟩
def StepPost (st : PSt) (n : Nat) (w : World) (r : AnsM × PW) (e : Ending) (w' : World) : Prop :=
  ∃ st' : PSt, st'.p = st.p ∧ Inv w' st' (n + 1) ∧ Rel st' r.2 ∧ Chg (fun b => b ∈ st.blocks) w w' ∧ Kept st st' w ∧
   ((r.1.code = 0 ∧ r.1.sums = [] ∧ ∃ a k c a2 k2 c2, e = .returned (ansW 0 r.1.number r.1.found r.1.value (.slice a k c) (.slice a2 k2 c2) (.slice none 0 0)) ∧ w'.ownsRow w.heap.size 53 2 (.slice a k c) r.1.items.length (itemCells r.1.items) ∧ w'.ownsRow w.heap.size 42 3 (.slice a2 k2 c2) r.1.done.length (decCells r.1.done) ∧
      (∀ g, (Value.slice a k c).ownBlock = some g → g ∉ st'.blocks) ∧ (∀ g, (Value.slice a2 k2 c2).ownBlock = some g → g ∉ st'.blocks)) ∨
    (∃ c, c ≠ 0 ∧ r.1 = errA c ∧ e = errE c))
theorem err_post {st : PSt} {n : Nat} {w w' : World} {c : Int} {W : PW} (h : Inv w st n) (hr : Rel st W) (hc : Chg nobody w w') (h0 : c ≠ 0) : StepPost st n w (errA c, W) (errE c) w' :=
  ⟨st, rfl, h.chg hc (fun _ _ hf => hf) (by omega), hr, hc.any _, kept_refl _ _, Or.inr ⟨c, h0, rfl, rfl⟩⟩
theorem noItems (w : World) (b : Nat) (e : TypeId) (size : Nat) : w.ownsRow b e size (.slice none 0 0) ([] : List (ByteArray × ByteArray)).length (itemCells []) := World.ownsRow_nil _ _ _ _
theorem noDecs (w : World) (b : Nat) (e : TypeId) (size : Nat) : w.ownsRow b e size (.slice none 0 0) ([] : List Dec).length (decCells []) := World.ownsRow_nil _ _ _ _
set_option maxHeartbeats 400000 in
theorem flush_bad {st : PSt} {n : Nat} {w : World} {o : OpM} {W : PW} (h : Inv w st n) (hr : Rel st W) (hb : o.n < 0 ∨ 100 < o.n) : Calls Try.prog 34 #[.pointer (some ⟨st.p, 0, none⟩), o.v] w (StepPost st n w (errA 11, W)) := by
  have HI : Hid (Inv w st n ∧ Rel st W) := ⟨h, hr⟩
  have h2 := mustBeCount_no o.n (two w o) hb
  clear h hr hb
  go_enter Try.func34, Try.ntmps34
  go_wp2_with (go_at_call 45; refine h2.mono ?_; rintro e w' ⟨rfl, hw'⟩; replace hw' := hw'.symm; subst hw')
  exact ⟨rfl, err_post HI.out.1 HI.out.2 (two_chg w o) (by decide)⟩
theorem start_inj : ∀ {txs : List Tx} {X Y : Tx}, (txs.map (·.start)).Nodup → X ∈ txs → Y ∈ txs → X.start = Y.start → X = Y
  | Z :: r, X, Y, hn, hX, hY, e => by
    simp only [List.map_cons, List.nodup_cons] at hn
    rcases List.mem_cons.1 hX with e1 | hX
    · rcases List.mem_cons.1 hY with e2 | hY
      · rw [e1, e2]
      · exact absurd (List.mem_map.2 ⟨Y, hY, by rw [← e1, e]⟩) hn.1
    · rcases List.mem_cons.1 hY with e2 | hY
      · exact absurd (List.mem_map.2 ⟨X, hX, by rw [← e2, e]⟩) hn.1
      · exact start_inj hn.2 hX hY e
theorem flush_fin {st st' : PSt} {n N : Nat} {w w2 wr w' : World} {W W' : PW} {ds : List Dec} {a2 : Option Addr} {c2 : Nat} (h : Inv w st n) (hI : Inv wr st' n) (hR : Rel st' W') (hW : Chg nobody w w2) (hz : w2.heap.size = w.heap.size + 2) (hrow : wr.ownsRow w2.heap.size 42 3 (.slice a2 ds.length c2) ds.length (decCells ds)) (hfl : flushM N W = (ds, W')) (hc : Chg (fun b => b ∈ st.blocks) w2 wr) (hk : Kept st st' w2) (hfx : st'.fix = st.fix) (hg : ∀ g, (Value.slice a2 ds.length c2).ownBlock = some g → g ∉ st'.blocks)
    (hc7 : Chg (fun b => b = w.heap.size + 1) wr w') : StepPost st n w (⟨0, 0, false, ⟨#[]⟩, [], (flushM N W).1, []⟩, (flushM N W).2) (.returned (ansW 0 0 false ⟨#[]⟩ (.slice none 0 0) (.slice a2 ds.length c2) (.slice none 0 0))) w' := by
  rw [hfl]
  refine ⟨st', (fix_eq hfx).1, hI.chg hc7 (fun b hb e => ?_) (by omega), hR, ((hW.any _).trans hc).andThen hc7 (fun i hi (e : i = _) => by omega), fun b hb => (hk b hb).imp id (fun h => by omega), Or.inl ⟨rfl, rfl, none, 0, 0, a2, ds.length, c2, rfl, noItems _ _ _ _, ownsRow_base (ownsRow_chg hrow hc7 (fun g hgg (e : g = _) => by have := (hrow.lt g hgg).1; omega)) (by omega), (fun g hg' => by cases hg'), hg⟩⟩
  rcases hk b hb with h1 | h1
  · have := h.there b h1; omega
  · omega
theorem flush_next {st st' : PSt} {n N j : Nat} {w2 wr w3 w4 w5 : World} {W W' : PW} {ds : List Dec} {a2 : Option Addr} {k2 : Nat} {v' : Value} {t : Int} {q' : List (Int × Nat)} {P : PT} {c : Int} {V' : List (ByteArray × VEnt)} {rows' : List (ByteArray × Int)} {low' : Int} {o : Obj}
    (hWq : W'.q = t :: q'.map Prod.fst) (hfind : W'.ts.find? (fun T => T.start == t) = some P) (hrow : wr.ownsRow w2.heap.size 42 3 (.slice a2 ds.length k2) ds.length (decCells ds)) (hdl : ds.length ≤ j) (hjN : j < N) (hfl : flushM N W = (ds ++ (flushM (N - j) W').1, (flushM (N - j) W').2)) (hc : Chg (fun b => b ∈ st.blocks) w2 wr) (hk : Kept st st' w2) (hfx : st'.fix = st.fix) (hg : ∀ g, (Value.slice a2 ds.length k2).ownBlock = some g → g ∉ st'.blocks)
    (hc3 : Chg (fun b => b = st'.ch ∨ b = st'.om) wr w3) (hsub : ∀ b ∈ ({ st' with q := q', qr := st'.qr + 1, txs := drp t st'.txs } : PSt).blocks, b ∈ st'.blocks)
    (hI4 : Inv w4 { st' with q := q', qr := st'.qr + 1, txs := drp t st'.txs, clock := c, V := V', rows := rows', low := low' } n) (hR4 : Rel { st' with q := q', qr := st'.qr + 1, txs := drp t st'.txs, clock := c, V := V', rows := rows', low := low' } (decideM (outM W' t (q'.map Prod.fst)) P).2) (hc4 : Chg (fun b => b ∈ ({ st' with q := q', qr := st'.qr + 1, txs := drp t st'.txs } : PSt).blocks) w3 w4) (hk4 : Kept { st' with q := q', qr := st'.qr + 1, txs := drp t st'.txs } { st' with q := q', qr := st'.qr + 1, txs := drp t st'.txs, clock := c, V := V', rows := rows', low := low' } w3)
    (hown : w5.ownsRow w2.heap.size 42 3 v' (ds.length + 1) (decCells ds ++ decCell (decideM (outM W' t (q'.map Prod.fst)) P).1)) (hg5 : (w4.alloc o).grownBy w5 (Value.slice a2 ds.length k2).ownBlock) (hwh : v'.ownBlock = (Value.slice a2 ds.length k2).ownBlock ∨ v'.ownBlock = some (w4.alloc o).heap.size) :
    Fl w2 st W n N (j + 1) v' w5 := by
  have hgl : ∀ g, (Value.slice a2 ds.length k2).ownBlock = some g → w2.heap.size ≤ g ∧ g < wr.heap.size := fun g e => hrow.lt g e
  have z3 := hc3.size
  have z4 := hc4.size
  have z2 := hc.size
  have hgn : ∀ g, (Value.slice a2 ds.length k2).ownBlock = some g → g ∉ ({ st' with q := q', qr := st'.qr + 1, txs := drp t st'.txs, clock := c, V := V', rows := rows', low := low' } : PSt).blocks := fun g e hm => by
    rcases hk4 g hm with h1 | h1
    · exact hg g e (hsub g h1)
    · have := hgl g e; omega
  have hc5 : Chg (fun b => (Value.slice a2 ds.length k2).ownBlock = some b) w4 w5 := ((Chg.refl _ w4).alloc o).grown hg5 (fun k e => Or.inl e)
  have hstb : ∀ b ∈ st'.blocks, b ∈ st.blocks ∨ w2.heap.size ≤ b := hk
  have hfb : ∀ b ∈ st'.fix, b ∈ st.blocks := fun b hb => PSt.mem_fix (hfx ▸ hb)
  refine ⟨_, _, ds ++ [(decideM (outM W' t (q'.map Prod.fst)) P).1], hI4.chg hc5 (fun b hb e => hgn b e hb) (Nat.le_refl _), hR4, ?_, by simp; omega, ?_, ?_, fun b hb => ?_, hfx, fun g e hm => ?_⟩
  · rw [decCells_snoc, List.length_append]; exact hown
  · rw [hfl, show N - j = (N - (j + 1)) + 1 by omega, flushM_cons _ _ hWq hfind]
    simp
  · refine ((hc.andThen hc3 (fun i hi h => ?_)).andThen hc4 (fun i hi h => ?_)).andThen hc5 (fun i hi h => ?_)
    · rcases h with e | e
      · exact hfb i (by simp [PSt.fix, e])
      · exact hfb i (by simp [PSt.fix, e])
    · rcases hstb i (hsub i h) with h1 | h1
      · exact h1
      · omega
    · have := hgl i h; omega
  · rcases hk4 b hb with h1 | h1
    · exact hstb b (hsub b h1)
    · exact Or.inr (by omega)
  · rcases hwh with e1 | e1
    · exact hgn g (e1 ▸ e) hm
    · rw [e1] at e
      have := hI4.there g hm
      have e2 : (w4.alloc o).heap.size = g := Option.some.inj e
      simp at e2
      omega
set_option maxRecDepth 100000 in
set_option maxHeartbeats 4000000 in
theorem flush_ok {st : PSt} {n : Nat} {w : World} {o : OpM} {W : PW} (h : Inv w st n) (hr : Rel st W) (hn : n ≤ 100000000) (h0 : 0 ≤ o.n) (h1 : o.n ≤ 100) :
    Calls Try.prog 34 #[.pointer (some ⟨st.p, 0, none⟩), o.v] w (StepPost st n w (⟨0, 0, false, ⟨#[]⟩, [], (flushM o.n.toNat W).1, []⟩, (flushM o.n.toNat W).2)) := by
  obtain ⟨i0, hi, hz0, hz1, hz2⟩ := info_parts infoDec
  obtain ⟨kd, ot, ky, vl, on⟩ := o
  simp only at h0 h1 ⊢
  obtain ⟨N, rfl⟩ : ∃ N : Nat, on = (N : Int) := ⟨on.toNat, by omega⟩
  have hN100 : N ≤ 100 := by omega
  rw [Int.toNat_natCast]
  have h2 := mustBeCount_ok N (two w ⟨kd, ot, ky, vl, N⟩) h0 h1
  have HI : Hid (Inv w st n ∧ Rel st W ∧ n ≤ 100000000) := ⟨h, hr, hn⟩
  have HW : Hid (Chg nobody w (two w ⟨kd, ot, ky, vl, N⟩) ∧ (two w ⟨kd, ot, ky, vl, N⟩).heap.size = w.heap.size + 2 ∧ (two w ⟨kd, ot, ky, vl, N⟩).heap[w.heap.size + 1]? = some ans0) := ⟨two_chg w _, by simp, by simpa using (MapKept.heap_alloc (w.alloc (.cells #[.int .i64 kd, .int .i64 ot, .string ky, .string vl, .int .i64 N] 28)) ans0).1⟩
  have cN : (two w ⟨kd, ot, ky, vl, N⟩).cell? ⟨w.heap.size, 4, none⟩ = some (.int .i64 N) := by simp [go_sem]
  have HS : Hid (Fl (two w ⟨kd, ot, ky, vl, N⟩) st W n N 0 (.slice none 0 0) (two w ⟨kd, ot, ky, vl, N⟩)) := ⟨st, W, [], h.chg (two_chg w _) (fun _ _ hf => hf) (Nat.le_refl _), hr, World.ownsRow_nil _ _ _ _, by simp, by simp, (Chg.refl _ _), fun b hb => Or.inl hb, rfl, fun g hg => by cases hg⟩
  have HP : Hid (∀ w' r, r = (⟨0, 0, false, ⟨#[]⟩, [], (flushM N W).1, []⟩, (flushM N W).2) → ∀ e, StepPost st n w r e w' → StepPost st n w (⟨0, 0, false, ⟨#[]⟩, [], (flushM N W).1, []⟩, (flushM N W).2) e w') := fun _ _ hr _ h => hr ▸ h
  obtain ⟨R, hR⟩ : ∃ R : AnsM × PW, (⟨0, 0, false, ⟨#[]⟩, [], (flushM N W).1, []⟩, (flushM N W).2) = R := ⟨_, rfl⟩
  rw [hR]
  have HR : Hid ((⟨0, 0, false, ⟨#[]⟩, [], (flushM N W).1, []⟩, (flushM N W).2) = R) := hR
  clear h hr hn h0 h1 HP hR
  go_enter Try.func34, Try.ntmps34
  go_wp2_with (first | (go_at_call 45; refine h2.mono ?_; rintro e w' ⟨rfl, hw'⟩; replace hw' := hw'.symm; subst hw') | fail)
  clear h2
  generalize two w ⟨kd, ot, ky, vl, N⟩ = w2 at *
  go_loopw [5, 13] (fun v i wr => ∃ j : Nat, j ≤ N ∧ i = .int .i64 j ∧ Hid (Fl w2 st W n N j v wr)) (fun _ i _ => N - (intOf i).toNat)
  case atStart => exact ⟨0, Nat.zero_le _, rfl, HS.out⟩
  case round =>
    obtain ⟨j, hj, rfl, HF⟩ := hrel
    obtain ⟨st', W', ds, hI, hRr, hrow, hdl, hfl, hc, hk, hfx, hg⟩ := HF.out.it
    obtain ⟨a2, k2, rfl⟩ := row_form hrow
    have hwz := HW.out.2.1
    have hres : wr.heap[w.heap.size + 1]? = some ans0 := (hc.block _ (by omega) (fun hm => by have := HI.out.1.there _ hm; omega)).trans HW.out.2.2
    have HX : Hid (Inv wr st' n ∧ Rel st' W' ∧ wr.ownsRow w2.heap.size 42 3 (.slice a2 ds.length k2) ds.length (decCells ds) ∧ ds.length ≤ j ∧ flushM N W = (ds ++ (flushM (N - j) W').1, (flushM (N - j) W').2) ∧ Chg (fun b => b ∈ st.blocks) w2 wr ∧ Kept st st' w2 ∧ st'.fix = st.fix ∧ (∀ g, (Value.slice a2 ds.length k2).ownBlock = some g → g ∉ st'.blocks) ∧ wr.heap[w.heap.size + 1]? = some ans0) := ⟨hI, hRr, hrow, hdl, hfl, hc, hk, hfx, hg, hres⟩
    have HEND : Hid (N - j = 0 ∨ W'.q = [] → ∀ w', Chg (fun b => b = w.heap.size + 1) wr w' → StepPost st n w R (.returned (ansW 0 0 false ⟨#[]⟩ (.slice none 0 0) (.slice a2 ds.length k2) (.slice none 0 0))) w') := fun hor w' hc7 => by
      have e1 : flushM N W = (ds, W') := by
        rw [hfl]
        rcases hor with e | e
        · rw [e]; simp [flushM]
        · rw [flushM_nil _ _ e]; simp
      rw [← HR.out]
      exact flush_fin HI.out.1 hI hRr HW.out.1 HW.out.2.1 hrow e1 hc hk hfx hg hc7
    obtain ⟨k0, k1, kk2, k3, k4, k5, k6, kf⟩ := cells7 hres
    have hdz : Hid (ds.length ≤ j) := hdl
    have hdl' : ds.length ≤ 100 := by omega
    clear hI hRr hrow hfl hc hk hfx hg hres hdl HS
    by_cases hjN : j < N
    · have hb : decide ((j : Int) < (N : Int)) = true := decide_eq_true (by omega)
      have fxe := fix_eq HX.out.2.2.2.2.2.2.2.1
      have c3 : wr.cell? ⟨st.p, 3, none⟩ = some (.pointer (some ⟨st'.qb, 0, none⟩)) := by rw [← fxe.1]; exact cell_of HX.out.1.pl rfl
      cases hq : st'.q with
      | nil =>
        have hchn := HX.out.1.chn
        rw [hq] at hchn
        have hT := qTake_none st'.qb st'.ch st'.qs st'.qr wr (cell_of HX.out.1.qu rfl) hchn
        have HWq : Hid (W'.q = []) := by have := HX.out.2.1.q; rw [hq] at this; exact this
        clear hq hchn fxe
        go_wp2_with (first | (go_at_call 46; refine hT.mono ?_; rintro e w' ⟨rfl, hw'⟩; replace hw' := hw'.symm; subst hw'))
        obtain ⟨r0, r1, r2, r3, r4, r5, r6⟩ := set7 HX.out.2.2.2.2.2.2.2.2.2 rfl (.int .i64 0) (.int .i64 0) (.bool false) (.string ⟨#[]⟩) (.slice none 0 0) (.slice a2 ds.length k2) (.slice none 0 0)
        have hc7 := (chg_set7 wr (w.heap.size + 1) (.int .i64 0) (.int .i64 0) (.bool false) (.string ⟨#[]⟩) (.slice none 0 0) (.slice a2 ds.length k2) (.slice none 0 0))
        exact bodyPost_ret (v := ansW 0 0 false ⟨#[]⟩ (.slice none 0 0) (.slice a2 ds.length k2) (.slice none 0 0)) (by simp [results, Try.results34, go_sem, r0, r1, r2, r3, r4, r5, r6]) rfl (HEND.out (Or.inr HWq.out) _ hc7)
      | cons qe q' =>
        obtain ⟨t, tb⟩ := qe
        obtain ⟨hI, hRr, hrow, hdl, hfl, hc, hk, hfx, hg, hres⟩ := HX.out
        have hchn := hI.chn
        rw [hq] at hchn
        have hTk := qTake_some st'.qb st'.ch st'.qs st'.qr tb (q'.map (fun e : Int × Nat => mkP e.2)) wr (cell_of hI.qu rfl) hchn
        obtain ⟨T, hTm, hTt, hTb⟩ := hI.qok (t, tb) (by rw [hq]; simp)
        simp only at hTt hTb
        obtain ⟨hWq, hR1⟩ := hRr.take (qr := st'.qr + 1) hq
        obtain ⟨P, hfind, hrt⟩ : ∃ P, W'.ts.find? (fun X => X.start == t) = some P ∧ RelT T P := by
          rcases hRr.txs.find RelQ.start t with ⟨e1, _, _⟩ | ⟨k, T2, P, e1, e2, _, _, e5, e6, e7, _⟩
          · have : (t, tb) ∈ numsOf st'.txs := List.mem_map.2 ⟨T, hTm, by rw [hTt, hTb]⟩
            rw [getA_of_mem hI.om.nodup this] at e1
            cases e1
          · have : T2 = T := start_inj hI.starts e2 hTm (by rw [e7, hTt])
            subst this
            exact ⟨P, e5, e6.1⟩
        have hca := chg_setChan wr st'.ch 3 (q'.map (fun e => mkP e.2)).toArray false st'.qs (st'.qr + 1) false
        have hcha : (wr.setChan st'.ch 3 (q'.map (fun e => mkP e.2)).toArray false st'.qs (st'.qr + 1) false).heap[st'.ch]? = some (.chan 3 (q'.map (fun e => mkP e.2)).toArray false st'.qs (st'.qr + 1) false) := Conc.heap_setChan _ _ _ _ _ _ _ _ (lt_of_block hchn)
        obtain ⟨hfxn, _, htf, _, _, _⟩ := hI.lie
        have hoc : st'.om ≠ st'.ch := fix_ne hfxn 8 7 rfl rfl (by decide)
        have hpc : st'.p ≠ st'.ch := fix_ne hfxn 0 7 rfl rfl (by decide)
        have hoa : mapAt (wr.setChan st'.ch 3 (q'.map (fun e => mkP e.2)).toArray false st'.qs (st'.qr + 1) false) Try.prog 3 mkI mkP st'.om (numsOf st'.txs) := hI.om.of_block (hca.block _ hI.om.lt hoc)
        have hTa := (hI.txs T hTm).kept hca (fun b hb e => (htf T hTm b hb).1 (by simp [PSt.fix, e]))
        have hpa := (hca.block _ (lt_of_block hI.pl) hpc).trans hI.pl
        generalize wr.setChan st'.ch 3 (q'.map (fun e => mkP e.2)).toArray false st'.qs (st'.qr + 1) false = wa at *
        have htI : isInt t := by
          have h1 := (hI.ok T hTm).lo
          have h2 := (hI.ok T hTm).hi
          have h3 := hI.hi
          have h4 := HI.out.2.2
          unfold isInt
          omega
        have hs := start_any tb t wa.drew (by have := hTa.cells.2.1; rw [hTb, hTt] at this; exact this)
        obtain ⟨w3, hrun3, hm3, hg3, _⟩ := (hoa.of_block (w' := wa.drew) rfl).drop keyI mkI_inj Try.underlying67 (a := t) (keyOfI htI) 0
        simp only [mkI] at hrun3
        have hc03 : Chg (fun b => b = st'.om) wa w3 := ((Chg.refl _ _).drew).grown hg3 (fun k e => Or.inl (by cases e; rfl))
        have hc3 : Chg (fun b => b = st'.ch ∨ b = st'.om) wr w3 := (hca.mono (fun _ _ e => Or.inl e)).trans (hc03.mono (fun _ _ e => Or.inr e))
        have hch3 := (hc03.block _ (lt_of_block hcha) (fun e => hoc e.symm)).trans hcha
        have hqn : (st'.q.map Prod.fst).Nodup := by rw [← hRr.q]; exact hRr.qn
        obtain ⟨hI3, hT3, hTn, hsub⟩ := hI.take hq hTm hTt hqn hc3 hch3 hm3
        have hql : st'.q.length = q'.length + 1 := by rw [hq]; simp
        have hDec := decide_step hI3 hR1 hT3 hTn hrt (hI.ok T hTm) (by have := hI.hi; simp only; omega) HI.out.2.2
        have fob : st'.ob = st.ob := fxe.2.2.2.2.1
        have hpo3 : st'.p ≠ st'.om := fix_ne hfxn 0 8 rfl rfl (by decide)
        have cp4 : wa.cell? ⟨st.p, 4, none⟩ = some (.map (some st'.om)) := by rw [← fxe.1]; exact cell_of hpa rfl
        have cp2 : w3.cell? ⟨st.p, 2, none⟩ = some (.pointer (some ⟨st'.ob, 0, none⟩)) := by rw [← fxe.1]; exact cell_of hI3.pl rfl
        have HD : Hid (∀ w4 c V' rows' low', Inv w4 { st' with q := q', qr := st'.qr + 1, txs := drp t st'.txs, clock := c, V := V', rows := rows', low := low' } n → Rel { st' with q := q', qr := st'.qr + 1, txs := drp t st'.txs, clock := c, V := V', rows := rows', low := low' } (decideM (outM W' t (q'.map Prod.fst)) P).2 → Chg (fun b => b ∈ ({ st' with q := q', qr := st'.qr + 1, txs := drp t st'.txs } : PSt).blocks) w3 w4 → Kept { st' with q := q', qr := st'.qr + 1, txs := drp t st'.txs } { st' with q := q', qr := st'.qr + 1, txs := drp t st'.txs, clock := c, V := V', rows := rows', low := low' } w3 →
            w4.ownsRow w2.heap.size 42 3 (.slice a2 ds.length k2) ds.length (decCells ds) ∧ w2.heap.size ≤ w4.heap.size ∧ ∀ (ob : Obj) v' w5, w5.ownsRow w2.heap.size 42 3 v' (ds.length + 1) (decCells ds ++ decCell (decideM (outM W' t (q'.map Prod.fst)) P).1) → (w4.alloc ob).grownBy w5 (Value.slice a2 ds.length k2).ownBlock → (v'.ownBlock = (Value.slice a2 ds.length k2).ownBlock ∨ v'.ownBlock = some (w4.alloc ob).heap.size) → Fl w2 st W n N (j + 1) v' w5) := fun w4 c V' rows' low' g1 g2 g3 g4 => by
          refine ⟨ownsRow_chg (ownsRow_chg hrow hc3 (fun g e hx => hg g e ?_)) g3 (fun g e hx => hg g e (hsub g hx)), ?_, fun ob v' w5 g5 g6 g7 => flush_next hWq hfind hrow hdl hjN hfl hc hk hfx hg hc3 hsub g1 g2 g3 g4 g5 g6 g7⟩
          · rcases hx with e | e
            · exact PSt.mem_fix (by simp [PSt.fix, e])
            · exact PSt.mem_fix (by simp [PSt.fix, e])
          · have := hc.size; have := hc3.size; have := g3.size; omega
        rw [hTb] at hDec
        generalize (decideM (outM W' t (q'.map Prod.fst)) P) = dd at *
        clear hI hRr hrow hdl hfl hc hk hfx hg hres hchn hTm hTt hTb hWq hR1 hfind hrt hca hcha hfxn htf hoc hpc hoa hTa hpa htI hm3 hg3 hc03 hc3 hch3 hqn hI3 hT3 hTn hsub hql fob hpo3 hq fxe HEND
        go_wp2_with (first | (go_at_call 46; refine hTk.mono ?_; rintro e w' ⟨rfl, hw'⟩; replace hw' := hw'.symm; subst hw') | fail)
        go_region_with (go_at_call 47; refine hs.mono ?_; rintro e w' ⟨rfl, hw'⟩; replace hw' := hw'.symm; subst hw')
        all_goals
          go_wp2_with fail
          refine hDec.mono ?_
          rintro e w4 ⟨rfl, c, V', rows', low', g1, g2, g3, g4⟩
          obtain ⟨hrow4, hz4, HN⟩ := HD.out w4 c V' rows' low' g1 g2 g3 g4
          have HNN : Hid (∀ (ob : Obj) v' w5, w5.ownsRow w2.heap.size 42 3 v' (ds.length + 1) (decCells ds ++ decCell dd.1) → (w4.alloc ob).grownBy w5 (Value.slice a2 ds.length k2).ownBlock → (v'.ownBlock = (Value.slice a2 ds.length k2).ownBlock ∨ v'.ownBlock = some (w4.alloc ob).heap.size) → Fl w2 st W n N (j + 1) v' w5) := HN
          clear g1 g2 g3 g4 HN hDec HD hs hTk cp2 cp4 hrun3
          obtain ⟨⟨dn, dc, dt⟩, dW⟩ := dd
          simp only [decV]
          go_wp2_with (at_builtin; refine wpList_append_where rfl _ _ 31 rfl w2.heap.size 42 i0 (.agg #[.int .i64 0, .int .i64 0, .int .i64 0]) 3 24 Try.underlying31 hi hz0 hz1 hz2 rfl (by decide) _ _ _ rfl (hrow4.alloc _) ⟨w4.heap.size, 0, none⟩ 1 1 [.int .i64 dn, .int .i64 dc, .int .i64 dt] rfl rfl (cells_new w4 #[.int .i64 dn, .int .i64 dc, .int .i64 dt] 42) (dec_one ⟨dn, dc, dt⟩) (by unfold maxLen; omega) (by omega) (by simp; omega) ?_; intro v' w5 hown5 hg5 hwh5; go_frame)
          go_roundw
        all_goals first
          | exact ⟨j + 1, by omega, by go_num, HNN.out _ _ _ hown5 hg5 hwh5⟩
          | (simp [intOf]; omega)
    · have hb : decide ((j : Int) < (N : Int)) = false := decide_eq_false (by omega)
      have hNj : Hid (N - j = 0) := by show N - j = 0; omega
      go_wp2
      obtain ⟨r0, r1, r2, r3, r4, r5, r6⟩ := set7 HX.out.2.2.2.2.2.2.2.2.2 rfl (.int .i64 0) (.int .i64 0) (.bool false) (.string ⟨#[]⟩) (.slice none 0 0) (.slice a2 ds.length k2) (.slice none 0 0)
      have hc7 := (chg_set7 wr (w.heap.size + 1) (.int .i64 0) (.int .i64 0) (.bool false) (.string ⟨#[]⟩) (.slice none 0 0) (.slice a2 ds.length k2) (.slice none 0 0))
      exact bodyPost_ret (v := ansW 0 0 false ⟨#[]⟩ (.slice none 0 0) (.slice a2 ds.length k2) (.slice none 0 0)) (by simp [results, Try.results34, go_sem, r0, r1, r2, r3, r4, r5, r6]) rfl (HEND.out (Or.inl hNj.out) _ hc7)
end Go.Proofs.Ytechhojiifcpjaa
