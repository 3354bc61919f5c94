import Derived.Test.YtkfjafndplmdkaaGreatSI
import Derived.Test.YtkfjafndplmdkaaGreatXB
namespace Go.Proofs.YtkfjafndplmdkaaGreat
open Go.RowKit Go.Sort
theorem dec_at {w : World} {base g cap n : Nat} {l : List Dec} (h : w.ownsRow base 44 3 (.slice (some ⟨g, 0, none⟩) n cap) n (decCells l)) (i : Nat) (hi : i < l.length) :
    w.cell? ⟨g, i * 3, none⟩ = some (.int .i64 l[i].num) ∧ w.cell? ⟨g, i * 3 + 1, none⟩ = some (.int .i64 l[i].code) ∧ w.cell? ⟨g, i * 3 + 2, none⟩ = some (.int .i64 l[i].time) := by
  have g0 : ∀ r u, r < 3 → (decCell l[i])[r]? = some u → w.cell? ⟨g, i * 3 + r, none⟩ = some u := fun r u hr hu => row_cells h _ u (by unfold decCells; rw [flat_at decCell (fun _ => rfl) l i r hi hr]; exact hu)
  exact ⟨g0 0 _ (by omega) rfl, g0 1 _ (by omega) rfl, g0 2 _ (by omega) rfl⟩
/-- what Serial's second half needs. -/
def SerHalf (w : World) (ad : Option Addr) (cap : Nat) (ops : List OpM) (g c : Nat) (sl : List Sl3) (As : List AnsM) (w2 : World) : Prop :=
  SrcOps w2 (.slice ad ops.length cap) ops ∧ w2.ownsRow w.heap.size 36 7 (.slice (some ⟨g, 0, none⟩) ops.length c) ops.length (ansCells As sl) ∧ ItemsAt w2 w.heap.size As sl ∧ Chg nobody w w2
theorem redone_at {w1 w2 wd wb : World} {ad : Option Addr} {cap g c bs : Nat} {ops : List OpM} {sl : List Sl3} {As : List AnsM} {x : Sl} {l : Tbl} {V : View} {wf : List Ver} {T : Obj} {number : Int} (hH : SerHalf w1 ad cap ops g c sl As w2) (hC : Chg nobody w2 wd) (hT : TblAt wb wd.heap.size bs x l) (hB : Chg (fun b => b = wd.heap.size) (wd.alloc T) wb) (hne : ops ≠ []) (hlen : As.length = ops.length) (hn : ops.length ≤ 1048576) (hll : l.length ≤ ops.length) (hR : Tracks V wf l [] (logOf (ops.zip As) number)) (q : Nat) :
    Calls Tryz.prog 23 #[.pointer (some ⟨wd.heap.size, 0, none⟩), .slice ad ops.length cap, .slice (some ⟨g, 0, none⟩) ops.length c, .int .i64 number] (wb.drewN q) fun e w' => e = .returned (.bool true) ∧ ∃ x' l' bs', TblAt w' wd.heap.size bs' x' l' ∧ TblIs l' (seesV wf V) ∧ Chg (fun k => k = wd.heap.size) wb w' := by
  obtain ⟨hsrc, hra, hit, hc2⟩ := hH
  rcases hsrc.at with e | ⟨b, off, cap', e, hcap, hops, hbl⟩
  · exact absurd e hne
  · cases e
    have hcw : Chg (fun b => b = wd.heap.size) w2 (wb.drewN q) := (((hC.any _).trans ((Chg.refl _ _).alloc T)).trans hB).trans (chg_drewN _ _ _)
    have hsz := hC.size
    have hszb := hB.size
    have hgl := (hra.lt g rfl).2
    have hwd : wd.heap.size < (wb.drewN q).heap.size := by
      have : (wb.drewN q).heap.size = wb.heap.size := rfl
      rw [this]
      simp at hszb
      omega
    have hcells : ∀ j (hj : j < ops.length), ∃ y base, StepCells (wb.drewN q) b off g j ops[j] (As[j]'(by omega)) y base ∧ (∀ g, (slV y).ownBlock = some g → ¬ g = wd.heap.size) := fun j hj => by
      have hjA : j < As.length := by omega
      obtain ⟨o0, o1, o2, o3, o4⟩ := hops j hj
      obtain ⟨a0, a1, a2, a3, a4, a5⟩ := ans_cells hit.1 hra j hjA
      have hrw := (hit.at j hjA).1
      have hy : ∀ g, (slV (sl[j]'(by rw [hit.1]; exact hjA)).1).ownBlock = some g → ¬ g = wd.heap.size := fun g hg e => by have := (hrw.lt g hg).2; omega
      have hst : StepCells w2 b off g j ops[j] As[j] (sl[j]'(by rw [hit.1]; exact hjA)).1 w1.heap.size := ⟨o0, o1, o2, o3, o4, a0, a2, a3, a4, hrw⟩
      exact ⟨_, _, hst.chg hcw hbl (by omega) hgl (by omega) hy, hy⟩
    have ht : TblAt (wb.drewN q) wd.heap.size bs x l := ⟨hT.c, hT.f, hT.r⟩
    have := redone_some wd.heap.size b off cap g c bs ops As x l V wf [] (wb.drewN q) number hlen hcells (by have : (wb.drewN q).heap.size = wb.heap.size := rfl; simp at hszb; omega) (by omega) (by have : (wb.drewN q).heap.size = wb.heap.size := rfl; simp at hszb; omega) (by omega) hwd (by omega) ht hR
    rw [hlen] at this
    refine this.mono ?_
    rintro e w' ⟨rfl, x', l', bs', h1, h2, h3, h4⟩
    exact ⟨rfl, x', l', bs', h1, h2, (chg_drewN _ wb q).trans h4⟩
set_option maxRecDepth 100000 in
set_option maxHeartbeats 8000000 in
theorem serial_walk {w : World} {ad : Option Addr} {cap : Nat} {ops : List OpM} (hS : SrcOps w (.slice ad ops.length cap) ops) (hok : ∀ o ∈ ops, o.ok) (hn : ops.length ≤ 1048576) :
    Calls Tryz.prog 7 #[.slice ad ops.length cap] w fun e w' => e = .returned (.bool true) ∧ Chg nobody w w' := by
  obtain ⟨i0, hi, hz0, hz1, hz2⟩ := info_parts infoDec
  have HS : Hid (SrcOps w (.slice ad ops.length cap) ops ∧ ∀ o ∈ ops, o.ok) := ⟨hS, hok⟩
  clear hS hok
  go_enter Tryz.func7, Tryz.ntmps7
  go_wp2_with fail
  refine (deciding_any _).mono ?_
  rintro e w1 ⟨rfl, hc1⟩
  go_wp2_with fail
  refine (run_src (HS.out.1.chg hc1) HS.out.2 (by omega)).mono ?_
  rintro e w2 ⟨g, c, sl, rfl, hrow, hit, hc2⟩
  obtain ⟨H, hinv⟩ := serial_inv ops
  have HI : Hid (SInv (ops.zip (ansP p0 ops)) (toldD (ansP p0 ops)) H (stP p0 ops)) := hinv
  have hlen : (ansP p0 ops).length = ops.length := ansP_len ops p0
  have HH : Hid (SerHalf w1 ad cap ops g c sl (ansP p0 ops) w2 ∧ Chg nobody w w1) := ⟨⟨(HS.out.1.chg hc1).chg hc2, hrow, hit, hc2⟩, hc1⟩
  have HD : Hid (∀ A ∈ ansP p0 ops, A.done.length ≤ 100) := dones_len ops p0
  clear hinv hrow hit hc1 hc2
  generalize hAs : ansP p0 ops = As at *
  have HAs : Hid (ansP p0 ops = As) := hAs
  clear hAs
  go_wp2
  go_loopw [5, 6] (fun v i wr => ∃ j : Nat, j ≤ ops.length ∧ i = .int .i64 j ∧ wr.ownsRow w2.heap.size 44 3 v (toldD (As.take j)).length (decCells (toldD (As.take j))) ∧ Hid (Chg nobody w2 wr)) (fun _ i _ => ops.length - (intOf i).toNat)
  case atStart => exact ⟨0, Nat.zero_le _, rfl, World.ownsRow_nil _ _ _ _, Chg.refl _ _⟩
  case round =>
    obtain ⟨j, hj, rfl, hrow, HC⟩ := hrel
    by_cases hlt : j < ops.length
    · have hjA : j < As.length := by omega
      obtain ⟨hsrc, hra, hit, hc2⟩ := HH.out.1
      have hl := hit.1
      have a5 := (ans_cells hl (row_new hra HC.out) j hjA).2.2.2.2.2
      have hdr := (hit.at j hjA).2.1
      have hdl := HD.out As[j] (List.getElem_mem hjA)
      have HT : Hid (toldD (As.take (j + 1)) = toldD (As.take j) ++ okD As[j].done) := told_take As j hjA
      have htl : (toldD (As.take j)).length ≤ 200000000 := by
        have h1 := told_len (As.take j) (fun A hA => HD.out A (List.mem_of_mem_take hA))
        have h2 : (As.take j).length ≤ j := List.length_take_le _ _
        omega
      obtain ⟨da, dc, hdv⟩ := row_form hdr
      rw [hdv] at a5 hdr
      have HA5 : Hid (∀ wq, Chg nobody w2 wq → wq.cell? ⟨g, j * 7 + 5, none⟩ = some (.slice da As[j].done.length dc)) := fun wq hq => by
        rw [← hdv]
        exact (ans_cells hl (row_new hra hq) j hjA).2.2.2.2.2
      have HDR : Hid (w2.ownsRow w1.heap.size 44 3 (.slice da As[j].done.length dc) As[j].done.length (decCells As[j].done)) := hdr
      clear hdr hdv hsrc hra hit hc2 hl
      generalize As[j].done = dl at *
      generalize toldD (As.take j) = T0 at *
      go_wp2
      go_loopw [5, 7] (fun v i wr' => ∃ k : Nat, k ≤ dl.length ∧ i = .int .i64 k ∧ wr'.ownsRow w2.heap.size 44 3 v (T0 ++ okD (dl.take k)).length (decCells (T0 ++ okD (dl.take k))) ∧ Hid (Chg nobody w2 wr')) (fun _ i _ => dl.length - (intOf i).toNat)
      case atStart => exact ⟨0, Nat.zero_le _, rfl, by simpa [okD] using hrow, HC.out⟩
      case round =>
        obtain ⟨k, hk, rfl, hrow2, HC2⟩ := hrel
        have a5' := HA5.out wr HC2.out
        by_cases hkl : k < dl.length
        · obtain ⟨gd, rfl, _, hgd, _, _⟩ := row_open HDR.out (by omega)
          obtain ⟨d0, d1, d2⟩ := dec_at (row_new HDR.out HC2.out) k hkl
          have HO : Hid (okD (dl.take (k + 1)) = okD (dl.take k) ++ (if dl[k].code = 0 then [dl[k]] else [])) := okD_take dl k hkl
          have hol : (okD (dl.take k)).length ≤ 100 := by
            have h1 : (okD (dl.take k)).length ≤ (dl.take k).length := List.length_filter_le _ _
            have h2 : (dl.take k).length ≤ dl.length := List.length_take_le' _ _
            omega
          have hwz := HC2.out.size
          generalize dl[k] = d at *
          by_cases hcode : d.code = 0
          · have hcb : (d.code == 0) = true := beq_iff_eq.2 hcode
            rw [if_pos hcode] at HO
            clear hcode
            obtain ⟨av, cv, rfl⟩ := row_form hrow2
            have hll : (T0 ++ okD (dl.take k)).length ≤ 200000100 := by rw [List.length_append]; omega
            have HR2 : Hid (wr.ownsRow w2.heap.size 44 3 (.slice av (T0 ++ okD (dl.take k)).length cv) (T0 ++ okD (dl.take k)).length (decCells (T0 ++ okD (dl.take k)))) := hrow2
            generalize hTT : T0 ++ okD (dl.take k) = TT at *
            have HTT : Hid (TT = T0 ++ okD (dl.take k)) := hTT.symm
            clear hTT
            clear hrow2
            go_wp2_with (at_builtin; refine wpList_append_own _ rfl _ _ 33 rfl w2.heap.size 44 i0 (.agg #[.int .i64 0, .int .i64 0, .int .i64 0]) 3 24 Tryz.underlying33 hi hz0 hz1 hz2 rfl (by decide) _ _ _ rfl (HR2.out.alloc _) ⟨wr.heap.size, 0, none⟩ 1 1 (decCell d) rfl rfl (cells_new wr #[.int .i64 d.num, .int .i64 d.code, .int .i64 d.time] 44) (dec_one d) (by unfold maxLen; omega) (by omega) (by simp; omega) ?_; intro v' w4 hown' hg3 _; go_frame)
            go_roundw
            case rel =>
              refine ⟨k + 1, by omega, by go_num, ?_, (HC2.out.alloc _).grown hg3 (fun b e => Or.inr (HR2.out.lt b e).1)⟩
              rw [HO.out, ← List.append_assoc, ← HTT.out, decCells_snoc, List.length_append]
              exact hown'
            case measure => simp [intOf]; omega
          · have hcb : (d.code == 0) = false := beq_eq_false_iff_ne.2 hcode
            rw [if_neg hcode, List.append_nil] at HO
            clear hcode
            go_wp2
            go_roundw
            case rel => exact ⟨k + 1, by omega, by go_num, by rw [HO.out]; exact hrow2, HC2.out⟩
            case measure => simp [intOf]; omega
        · have hkd : k = dl.length := by omega
          subst hkd
          rw [List.take_length] at hrow2
          go_wp2
          go_roundw
          case rel => exact ⟨j + 1, by omega, by go_num, by rw [HT.out]; exact hrow2, HC2.out⟩
          case measure => simp [intOf]; omega
    · have hjl : j = ops.length := by omega
      subst hjl
      rw [← hlen, List.take_length] at hrow
      generalize hwd : wr = wd at *
      clear hwd wr
      obtain ⟨av, cv, rfl⟩ := row_form hrow
      have hDl : (toldD As).length ≤ 200000000 := by
        have h1 := told_len As HD.out
        omega
      have HNE : Hid ((toldD As) ≠ [] → ops ≠ []) := fun h e => h (by
        have : As = [] := List.eq_nil_of_length_eq_zero (by rw [hlen, e]; rfl)
        rw [this]
        rfl)
      have HDn : Hid (wd.ownsRow w2.heap.size 44 3 (.slice av (toldD As).length cv) (toldD As).length (decCells (toldD As))) := hrow
      clear hrow hj HD
      generalize toldD As = D at *
      have HTZ : Hid (TblIs [] (viewM H 0) ∧ upTo D 0 = 0) := ⟨tbl_zero HI.out, upTo_none (fun d hd => by have := (HI.out.dn d hd).1; omega)⟩
      go_wp2
      go_loopw [9, 10] (fun lv nv wq => ∃ (n : Nat) (last : Int) (x : Sl) (l : Tbl) (bs : Nat), n ≤ D.length ∧ nv = .int .i64 n ∧ lv = .int .i64 last ∧ Hid (upTo D last = n ∧ TblAt wq wd.heap.size bs x l ∧ TblIs l (viewM H last) ∧ Chg (fun b => b = wd.heap.size) (wd.alloc (.cells #[.slice none 0 0] 47)) wq)) (fun _ nv _ => D.length - (intOf nv).toNat)
      case atStart =>
        refine ⟨0, 0, (none, 0, 0), [], 0, Nat.zero_le _, rfl, rfl, ⟨HTZ.out.2, ⟨?_, ?_, World.ownsRow_nil _ _ _ _⟩, HTZ.out.1, Chg.refl _ _⟩⟩
        · simp [go_sem, slV]
        · exact unfrozen_of (MapKept.heap_alloc wd _).1 0
      case round =>
        obtain ⟨n, last, x, l, bs, hnD, rfl, rfl, HB⟩ := hrel
        generalize hwb : wr = wb at *
        clear hwb wr
        by_cases hnl : n < D.length
        · obtain ⟨gD, rfl, hgb, hgD, _, _⟩ := row_open HDn.out (by omega)
          have HDC : Hid (∀ q i (h : i < D.length), (wb.drewN q).cell? ⟨gD, i * 3, none⟩ = some (.int .i64 D[i].num) ∧ (wb.drewN q).cell? ⟨gD, i * 3 + 2, none⟩ = some (.int .i64 D[i].time)) := fun q i h => by
            have hrw : wb.ownsRow w2.heap.size 44 3 (.slice (some ⟨gD, 0, none⟩) D.length cv) D.length (decCells D) := ownsRow_chg (HDn.out.alloc _) HB.out.2.2.2 (fun b hb (e : b = _) => by
              have h1 : gD = b := by simpa [Value.ownBlock] using hb
              omega)
            obtain ⟨c0, _, c2⟩ := dec_at hrw i h
            exact ⟨c0, c2⟩
          go_wp2
          go_loopw [11, 12] (fun bv iv wq => ∃ (i : Nat) (best : Int) (q : Nat), i ≤ D.length ∧ iv = .int .i64 i ∧ bv = .int .i64 best ∧ Hid (Best D last i best) ∧ wq = wb.drewN q) (fun _ iv _ => D.length - (intOf iv).toNat)
          case atStart => exact ⟨0, -1, 0, Nat.zero_le _, rfl, rfl, Best.start _ _, rfl⟩
          case round =>
            obtain ⟨i, best, q, hiD, rfl, rfl, HBest, hwy⟩ := hrel
            have HWY : Hid (wr = wb.drewN q) := hwy
            clear hwy
            by_cases hil : i < D.length
            · have ci : wr.cell? ⟨gD, i * 3 + 2, none⟩ = some (.int .i64 D[i].time) := by rw [HWY.out]; exact (HDC.out q i hil).2
              by_cases t1 : last < D[i].time
              · rcases HBest.out.lo with rfl | ⟨b, rfl, hbi, hbD⟩
                · have HN : Hid (Best D last (i + 1) i) := HBest.out.take hil t1 (Or.inl rfl)
                  generalize D[i].time = ti at *
                  clear HBest
                  go_wp2
                  go_quiet (fail)
                  go_wp2
                  go_roundw
                  case rel => exact ⟨i + 1, i, q + nq, by omega, by go_num, rfl, HN.out, by rw [HWY.out, World.drewN_drewN]⟩
                  case measure => simp [intOf]; omega
                · have cb : wr.cell? ⟨gD, b * 3 + 2, none⟩ = some (.int .i64 D[b].time) := by rw [HWY.out]; exact (HDC.out q b hbD).2
                  have hb0 : ¬ ((b : Int) < 0) := by omega
                  by_cases t2 : D[i].time < D[b].time
                  · have HN : Hid (Best D last (i + 1) i) := HBest.out.take hil t1 (Or.inr ⟨b, hbD, rfl, t2⟩)
                    generalize D[i].time = ti at *
                    generalize D[b].time = tb at *
                    clear HBest
                    go_wp2
                    go_quiet (fail)
                    go_wp2
                    go_roundw
                    case rel => exact ⟨i + 1, i, q + nq, by omega, by go_num, rfl, HN.out, by rw [HWY.out, World.drewN_drewN]⟩
                    case measure => simp [intOf]; omega
                  · have HN : Hid (Best D last (i + 1) b) := HBest.out.skip hil (Or.inr ⟨b, hbD, rfl, by omega⟩)
                    generalize D[i].time = ti at *
                    generalize D[b].time = tb at *
                    clear HBest
                    go_wp2
                    go_quiet (fail)
                    go_wp2
                    go_roundw
                    case rel => exact ⟨i + 1, b, q + nq, by omega, by go_num, rfl, HN.out, by rw [HWY.out, World.drewN_drewN]⟩
                    case measure => simp [intOf]; omega
              · have HN : Hid (Best D last (i + 1) best) := HBest.out.skip hil (Or.inl (by omega))
                have t1b : decide (last < D[i].time) = false := decide_eq_false t1
                clear t1
                generalize D[i].time = ti at *
                clear HBest
                go_wp2
                go_quiet (fail)
                go_wp2
                go_roundw
                case rel => exact ⟨i + 1, best, q + nq, by omega, by go_num, rfl, HN.out, by rw [HWY.out, World.drewN_drewN]⟩
                case measure => simp [intOf]; omega
            · have hiE : i = D.length := by omega
              subst hiE
              obtain ⟨b, rfl, hbD, hbl, hbm⟩ := HBest.out.found (by rw [HB.out.1]; exact hnl)
              have hb0 : ¬ ((b : Int) < 0) := by omega
              have cbt : wr.cell? ⟨gD, b * 3 + 2, none⟩ = some (.int .i64 D[b].time) := by rw [HWY.out]; exact (HDC.out q b hbD).2
              have hdb := List.getElem_mem hbD
              obtain ⟨htr, hup, hnx⟩ := serial_next HI.out hdb hbl hbm HB.out.2.2.1
              have HRED : Hid (∀ q, Calls Tryz.prog 23 #[.pointer (some ⟨wd.heap.size, 0, none⟩), .slice ad ops.length cap, .slice (some ⟨g, 0, none⟩) ops.length c, .int .i64 D[b].num] (wb.drewN q) fun e w' => e = .returned (.bool true) ∧ ∃ x' l' bs', TblAt w' wd.heap.size bs' x' l' ∧ TblIs l' (viewM H D[b].time) ∧ Chg (fun k => k = wd.heap.size) wb w') := fun q => by
                refine (redone_at HH.out.1 HC.out HB.out.2.1 HB.out.2.2.2 (HNE.out (fun e => by rw [e] at hbD; simp at hbD)) hlen hn (tbl_len HI.out HB.out.2.2.1) htr q).mono ?_
                rintro e w' ⟨rfl, x', l', bs', h1, h2, h3⟩
                exact ⟨rfl, x', l', bs', h1, hnx l' h2, h3⟩
              have HUP : Hid (upTo D D[b].time = n + 1) := by
                show _ = _
                rw [hup, HB.out.1]
              have HNUM : Hid (∀ i (h : i < D.length), i ≠ b → D[i].num ≠ D[b].num) := fun i h hne => by
                rcases Nat.lt_or_gt_of_ne hne with h1 | h1
                · exact (List.pairwise_iff_getElem.1 HI.out.du i b h hbD h1).1
                · exact (List.pairwise_iff_getElem.1 HI.out.du b i hbD h h1).1.symm
              clear htr hup hnx hbl hbm hdb HBest
              generalize D[b].time = tt at *
              generalize hnb : D[b].num = nb at *
              have HNB : Hid (D[b].num = nb) := hnb
              clear hnb
              go_wp2
              go_loopw [13] (fun iv wq => ∃ (i q : Nat), i ≤ D.length ∧ iv = .int .i64 i ∧ wq = wb.drewN q) (fun iv _ => D.length - (intOf iv).toNat)
              case atStart => exact ⟨0, q, Nat.zero_le _, rfl, HWY.out⟩
              case round =>
                obtain ⟨i, q2, hiD2, rfl, hwy2⟩ := hrel
                have HWY2 : Hid (wr = wb.drewN q2) := hwy2
                clear hwy2
                have cbn2 : wr.cell? ⟨gD, b * 3, none⟩ = some (.int .i64 nb) := by rw [← HNB.out, HWY2.out]; exact (HDC.out q2 b hbD).1
                by_cases hil2 : i < D.length
                · have cin : wr.cell? ⟨gD, i * 3, none⟩ = some (.int .i64 D[i].num) := by rw [HWY2.out]; exact (HDC.out q2 i hil2).1
                  by_cases hib : i = b
                  · have e1 : ((i : Int) != (b : Int)) = false := by simp [hib]
                    generalize D[i].num = ni at *
                    go_wp2
                    go_quiet (fail)
                    go_wp2
                    go_roundw
                    case rel => exact ⟨i + 1, q2 + nq, by omega, by go_num, by rw [HWY2.out, World.drewN_drewN]⟩
                    case measure => simp [intOf]; omega
                  · have e1 : ((i : Int) != (b : Int)) = true := by simp; omega
                    have e2 : (D[i].num == nb) = false := beq_eq_false_iff_ne.2 (HNUM.out i hil2 hib)
                    generalize D[i].num = ni at *
                    go_wp2
                    go_quiet (fail)
                    go_wp2
                    go_roundw
                    case rel => exact ⟨i + 1, q2 + nq, by omega, by go_num, by rw [HWY2.out, World.drewN_drewN]⟩
                    case measure => simp [intOf]; omega
                · have hiE2 : i = D.length := by omega
                  subst hiE2
                  have hwy3 := HWY2.out
                  subst hwy3
                  go_wp2_with (go_at_call 23; refine (HRED.out q2).mono ?_; rintro e w9 ⟨rfl, x', l', bs', ht', hti', hc'⟩; have HR : Hid (TblAt w9 wd.heap.size bs' x' l' ∧ TblIs l' (viewM H tt) ∧ Chg (fun k => k = wd.heap.size) wb w9) := ⟨ht', hti', hc'⟩; clear ht' hti' hc')
                  go_roundw
                  case rel => exact ⟨n + 1, tt, x', l', bs', by omega, by go_num, rfl, ⟨HUP.out, HR.out.1, HR.out.2.1, HB.out.2.2.2.trans HR.out.2.2⟩⟩
                  case measure => simp [intOf]; omega
        · have hnE : n = D.length := by omega
          subst hnE
          go_wp2
          go_ret
          refine ⟨rfl, ?_⟩
          have h1 := HH.out
          exact ((h1.2.trans h1.1.2.2.2).trans (HC.out.alloc _)).andThen HB.out.2.2.2 (fun i hi e => by
            have := (h1.2.trans (h1.1.2.2.2.trans HC.out)).size
            omega)
end Go.Proofs.YtkfjafndplmdkaaGreat
