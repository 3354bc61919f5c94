import Derived.Test.YtkfjafndplmdkaaGreatO1
namespace Go.Proofs.YtkfjafndplmdkaaGreat
open Go.RowKit Go.Sort
open Go.Maps (Keyed)
/-- THE ORACLE. -/
structure OrAt (w : World) (ob cb sb rb : Nat) (rows : List (ByteArray × Int)) (low : Int) : Prop where
  o : w.heap[ob]? = some (.cells #[.pointer (some ⟨cb, 0, none⟩), .pointer (some ⟨sb, 0, none⟩), .map (some rb), .int .i64 low] 118)
  r : mapAt w Tryz.prog 9 mkS mkI rb rows
theorem OrAt.chg {w w' : World} {ob cb sb rb : Nat} {rows : List (ByteArray × Int)} {low : Int} {S : Nat → Prop} (h : OrAt w ob cb sb rb rows low) (hc : Chg S w w') (h1 : ¬ S ob) (h2 : ¬ S rb) : OrAt w' ob cb sb rb rows low :=
  ⟨(hc.block _ (lt_of_block h.o) h1).trans h.o, h.r.of_block (hc.block _ h.r.lt h2)⟩
theorem chg_drewN (S : Nat → Prop) (w : World) (n : Nat) : Chg S w (w.drewN n) := ⟨rfl, rfl, rfl, Nat.le_refl _, fun _ _ _ => rfl⟩
set_option maxRecDepth 100000 in
set_option maxHeartbeats 1000000 in
theorem mustRemember_late (ob tb : Nat) (st low : Int) (w : World) (h1 : w.cell? ⟨tb, 1, none⟩ = some (.int .i64 st)) (h3 : w.cell? ⟨ob, 3, none⟩ = some (.int .i64 low)) (hl : ¬ st < low) :
    Calls Tryz.prog 119 #[.pointer (some ⟨ob, 0, none⟩), .pointer (some ⟨tb, 0, none⟩)] w fun e w' => e = .returned (.tuple #[]) ∧ Chg nobody w w' := by
  have hd : decide (st < low) = false := decide_eq_false hl
  have hs := fun n => start_any tb st (w.drewN n) h1
  clear hl
  go_enter Tryz.func119, Tryz.ntmps119
  go_wp2
  go_quiet ((go_at_call 86; exact Calls.quiet_of_same (hs _)))
  go_wp2
  go_end0
  exact ⟨rfl, chg_drewN _ _ _⟩
set_option maxRecDepth 100000 in
set_option maxHeartbeats 1000000 in
theorem mustRemember_read (T : Tx) (ob sb : Nat) (low : Int) (w : World) (hT : TxAt w sb T) (h3 : w.cell? ⟨ob, 3, none⟩ = some (.int .i64 low)) (hl : T.start < low) (h5 : T.ks.length ≤ 1000000000) (h6 : T.ps.length ≤ 1000000000) :
    Calls Tryz.prog 119 #[.pointer (some ⟨ob, 0, none⟩), .pointer (some ⟨T.tb, 0, none⟩)] w fun e w' => e = (if 0 < T.ks.length + T.ps.length then errE 8 else .returned (.tuple #[])) ∧ Chg nobody w w' := by
  have hd : decide (T.start < low) = true := decide_eq_true hl
  obtain ⟨_, h1, _, _, h4, h5'⟩ := hT.cells
  have hs := start_any T.tb T.start w.drew h1
  have hr := hasRead_any T.tb T.kb T.pb T.ks T.ps w.drew h4 h5' (hT.km.of_block rfl) (hT.pm.of_block rfl) h5 h6
  clear hl hT
  by_cases hz : 0 < T.ks.length + T.ps.length
  · rw [if_pos hz]
    have e1 : decide ((T.ks.length : Int) + T.ps.length > 0) = true := decide_eq_true (by omega)
    rw [e1] at hr
    clear e1 hz
    go_enter Tryz.func119, Tryz.ntmps119
    go_wp2
    go_region_with (first | (go_at_call 86; refine hs.mono ?_; rintro e w' ⟨rfl, rfl⟩) | (go_at_call 129; refine hr.mono ?_; rintro e w' ⟨rfl, hch⟩))
    all_goals go_wp2
    all_goals exact ⟨rfl, rfl, (Chg.refl _ _).drew.andThen hch (fun _ _ h => h)⟩
  · rw [if_neg hz]
    have e1 : decide ((T.ks.length : Int) + T.ps.length > 0) = false := decide_eq_false (by omega)
    rw [e1] at hr
    clear e1 hz
    go_enter Tryz.func119, Tryz.ntmps119
    go_wp2
    go_region_with (first | (go_at_call 86; refine hs.mono ?_; rintro e w' ⟨rfl, rfl⟩) | (go_at_call 129; refine hr.mono ?_; rintro e w' ⟨rfl, hch⟩))
    all_goals go_wp2
    all_goals go_end0
    all_goals exact ⟨rfl, (Chg.refl _ _).drew.andThen hch (fun _ _ h => h)⟩
theorem mustRemember_any (T : Tx) (ob sb : Nat) (low : Int) (w : World) (hT : TxAt w sb T) (h3 : w.cell? ⟨ob, 3, none⟩ = some (.int .i64 low)) (h5 : T.ks.length ≤ 1000000000) (h6 : T.ps.length ≤ 1000000000) :
    Calls Tryz.prog 119 #[.pointer (some ⟨ob, 0, none⟩), .pointer (some ⟨T.tb, 0, none⟩)] w fun e w' => e = (if 0 < T.ks.length + T.ps.length ∧ T.start < low then errE 8 else .returned (.tuple #[])) ∧ Chg nobody w w' := by
  by_cases hl : T.start < low
  · refine (mustRemember_read T ob sb low w hT h3 hl h5 h6).mono ?_
    rintro e w' ⟨rfl, hc⟩
    exact ⟨by simp [hl], hc⟩
  · refine (mustRemember_late ob T.tb T.start low w hT.cells.2.1 h3 hl).mono ?_
    rintro e w' ⟨rfl, hc⟩
    exact ⟨by simp [hl], hc⟩
def conflT (rows : List (ByteArray × Int)) (T : Tx) : Bool := rows.any (fun r => decide (T.start < r.2) && hitT T r.1)
theorem conflT_perm {rows rows' : List (ByteArray × Int)} (h : rows.Perm rows') (T : Tx) : conflT rows T = conflT rows' T := by
  unfold conflT
  exact h.any_eq
set_option maxRecDepth 100000 in
set_option maxHeartbeats 1000000 in
theorem mustNotConflict_any (T : Tx) (ob cb sb rb : Nat) (rows : List (ByteArray × Int)) (low : Int) (w : World) (hT : TxAt w sb T) (ho : OrAt w ob cb sb rb rows low) (hk : ∀ r ∈ rows, r.1.size ≤ 1000000) :
    Calls Tryz.prog 120 #[.pointer (some ⟨ob, 0, none⟩), .pointer (some ⟨T.tb, 0, none⟩)] w fun e w' => e = (if conflT rows T = true then errE 9 else .returned (.tuple #[])) ∧ Chg nobody w w' := by
  have hc := cell_of ho.o (i := 2) rfl
  have hm1 := ho.r
  have hbl := hm1.lt
  have HT : Hid (∀ w', Chg nobody w w' → TxAt w' sb T) := fun w' hc => hT.chg hc (fun h => h) (fun h => h) (fun h => h) (fun h => h)
  have HK : Hid (∀ r ∈ rows, r.1.size ≤ 1000000) := hk
  obtain ⟨R, hR⟩ : ∃ R : Ending, (if conflT rows T = true then errE 9 else .returned (.tuple #[])) = R := ⟨_, rfl⟩
  have HR : Hid ((conflT rows T = true → R = errE 9) ∧ (conflT rows T = false → R = .returned (.tuple #[]))) := ⟨fun h => by rw [← hR, if_pos h], fun h => by rw [← hR, if_neg (by rw [h]; simp)]⟩
  rw [hR]
  clear ho hT hk hR
  go_enter Tryz.func120, Tryz.ntmps120
  go_wp2_with (first | (at_range; refine wpList_range_at _ rfl _ 115 rfl 9 3 mkS mkI Tryz.underlying115 rb rows rfl hm1 ?_; intro w0 hrg0 hg0 hs0) | go_in)
  go_frame
  go_loopw [] (fun wr => ∃ (left : List (ByteArray × Int)), rangeAt wr Tryz.prog 9 mkS mkI rb w.heap.size rows left ∧ conflT left T = conflT rows T ∧ (∀ p ∈ left, p ∈ rows) ∧
      Chg nobody w wr ∧ w.heap.size < wr.heap.size)
    (fun wr => wr.rangeLeft rb w.heap.size)
  case atStart => exact ⟨rows, hrg0, rfl, fun p hp => hp, (Chg.refl _ _).grown hg0 (fun k e => by cases e), by omega⟩
  case round =>
    obtain ⟨left, hrg, hcf, hsub, hch, hlt1⟩ := hrel
    have HP : Hid (conflT left T = conflT rows T ∧ ∀ p ∈ left, p ∈ rows) := ⟨hcf, hsub⟩
    clear hcf hsub
    go_wp2_with (first | (at_next; refine wpList_next_at _ rfl _ rfl 9 mkS mkI rb w.heap.size rows left rfl hrg (fun hl0 => ?_) (fun x t left' w2 hp hrg2 hg2 hs2 hen => ?_)) | (at_len; fail))
    · have hss : Hid (R = .returned (.tuple #[])) := HR.out.2 (by rw [← HP.out.1, hl0]; rfl)
      go_wp2_with fail
      go_end0
      exact ⟨hss.out.symm, hch⟩
    · have hlm : Hid (left'.length < left.length) := by have := hp.length_eq; simp at this; show _ < _; omega
      have hsp : conflT left T = ((decide (T.start < t) && hitT T x) || conflT left' T) := by rw [conflT_perm hp]; rfl
      have HX : Hid (conflT rows T = ((decide (T.start < t) && hitT T x) || conflT left' T)) := by show _ = _; rw [← HP.out.1, hsp]
      have HS : Hid ((x, t) ∈ rows ∧ ∀ p ∈ left', p ∈ rows) := ⟨HP.out.2 _ (hp.mem_iff.2 (by simp)), fun p hp' => HP.out.2 _ (hp.mem_iff.2 (by simp [hp']))⟩
      have hchg2 : Chg nobody w w2 := hch.grown hg2 (fun k e => Or.inr (by cases e; omega))
      have HZ : Hid (w.heap.size < w2.heap.size) := by show _ < _; omega
      have c1 := (HT.out _ hchg2).cells.2.1
      have hs := start_any T.tb T.start w2 c1
      have hr := hasReadKey_any T sb x w2 (HT.out _ hchg2) (HK.out _ HS.out.1)
      clear hs2 hp hg2 HP hsp
      by_cases hlt : T.start < t
      · have hd : decide (T.start < t) = true := decide_eq_true hlt
        clear hlt
        cases hx : hitT T x with
        | false =>
          rw [hx] at hr
          have HV : Hid (conflT left' T = conflT rows T) := by have := HX.out; rw [hx, Bool.and_false, Bool.false_or] at this; exact this.symm
          clear hx
          go_wp2_with (first | (go_at_call 86; refine hs.mono ?_; rintro e w' ⟨rfl, rfl⟩) | (go_at_call 130; refine hr.mono ?_; rintro e w4 ⟨rfl, hch4⟩))
          go_roundw
          case rel =>
            have hsz := hch4.size
            exact ⟨left', hrg2.of_block (hch4.block _ hrg2.owns.lt (fun h => h)) (hch4.block _ hrg2.lt (fun h => h)), HV.out, HS.out.2, hchg2.trans hch4, by have := HZ.out; omega⟩
          case measure =>
            have hrg4 := hrg2.of_block (hch4.block _ hrg2.owns.lt (fun h => h)) (hch4.block _ hrg2.lt (fun h => h))
            rw [hrg4.left_eq, hrg.left_eq]; exact hlm.out
        | true =>
          rw [hx] at hr
          have HV : Hid (R = errE 9) := HR.out.1 (by rw [HX.out, hd, hx]; rfl)
          clear hx
          go_wp2_with (first | (go_at_call 86; refine hs.mono ?_; rintro e w' ⟨rfl, rfl⟩) | (go_at_call 130; refine hr.mono ?_; rintro e w4 ⟨rfl, hch4⟩))
          exact ⟨rfl, HV.out.symm, hchg2.trans hch4⟩
      · have hd : decide (T.start < t) = false := decide_eq_false hlt
        have HV : Hid (conflT left' T = conflT rows T) := by have := HX.out; rw [hd, Bool.false_and, Bool.false_or] at this; exact this.symm
        clear hlt
        go_wp2_with (go_at_call 86; refine hs.mono ?_; rintro e w' ⟨rfl, rfl⟩)
        go_roundw
        case rel => exact ⟨left', hrg2, HV.out, HS.out.2, hchg2, HZ.out⟩
        case measure => rw [hrg2.left_eq, hrg.left_eq]; exact hlm.out
set_option maxRecDepth 100000 in
set_option maxHeartbeats 1000000 in
theorem mustHaveRoom_any (ob sb vm : Nat) (V : List (ByteArray × VEnt)) (n : Nat) (w : World) (h1 : w.cell? ⟨ob, 1, none⟩ = some (.pointer (some ⟨sb, 0, none⟩))) (hs : StoreAt w sb vm V) (hv : sumV V ≤ 1000000000) (hn : n ≤ 1000000000) :
    Calls Tryz.prog 121 #[.pointer (some ⟨ob, 0, none⟩), .int .i64 n] w fun e w' => e = (if 100 < sumV V + n then errE 10 else .returned (.tuple #[])) ∧ Chg nobody w w' := by
  have hc := count_any sb vm V w hs hv
  clear hs
  generalize sumV V = m at *
  by_cases h : 100 < m + n
  · rw [if_pos h]
    have hd : decide ((m : Int) + n > 100) = true := decide_eq_true (by omega)
    clear h
    go_enter Tryz.func121, Tryz.ntmps121
    go_wp2_with (go_at_call 91; refine hc.mono ?_; rintro e w' ⟨rfl, hch⟩)
    exact ⟨rfl, rfl, hch⟩
  · rw [if_neg h]
    have hd : decide ((m : Int) + n > 100) = false := decide_eq_false (by omega)
    clear h
    go_enter Tryz.func121, Tryz.ntmps121
    go_wp2_with (go_at_call 91; refine hc.mono ?_; rintro e w' ⟨rfl, hch⟩)
    go_end0
    exact ⟨rfl, hch⟩
end Go.Proofs.YtkfjafndplmdkaaGreat
