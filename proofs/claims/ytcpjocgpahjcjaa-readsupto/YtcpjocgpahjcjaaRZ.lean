import Derived.Test.YtcpjocgpahjcjaaRY
namespace Go.Proofs.Ytcpjocgpahjcjaa
open Go.RowKit Go.Sort
set_option maxRecDepth 100000 in
set_option maxHeartbeats 1000000 in
theorem refRun_zero (ad : Option Addr) (cap : Nat) (w : World) :
    Calls Try.prog 14 #[.slice ad 0 cap] w fun e w' => e = .returned (.slice none 0 0) ∧ Chg nobody w w' := by
  go_enter Try.func14, Try.ntmps14
  go_wp2_with fail
  refine wp_loop_rounds 1 ?_
  rw [rounds_succ]
  go_wp2
  go_ret
  exact ⟨rfl, (Chg.refl _ _).alloc _⟩
theorem refRun_src {w : World} {v : Value} {ops : List OpM} (h : SrcOps w v ops) (hok : ∀ o ∈ ops, o.kind ≤ 6 ∨ 11 < o.kind) (hn : ops.length ≤ 1500000) :
    Calls Try.prog 14 #[v] w fun e w' => ∃ v, e = .returned v ∧ ∃ sl : List Sl, w'.ownsRow w.heap.size 36 7 v ops.length (ansCells (ansR p0 ops) sl) ∧ ItemsAt w' w.heap.size (ansR p0 ops) sl ∧ Chg nobody w w' := by
  rcases h.at with rfl | ⟨b, off, cap, rfl, hcap, hops, hbl⟩
  · obtain ⟨ad, cap, rfl⟩ := h.len
    refine (refRun_zero ad cap w).mono ?_
    rintro e w' ⟨rfl, hc⟩
    exact ⟨_, rfl, [], World.ownsRow_nil _ _ _ _, ⟨rfl, by simp [ansR]⟩, hc⟩
  · exact refRun_any b off cap ops w hops hbl hok hn
set_option maxRecDepth 100000 in
set_option maxHeartbeats 1000000 in
theorem same_zero (a a' : Option Addr) (c c' : Nat) (w : World) : Calls Try.prog 15 #[.slice a 0 c, .slice a' 0 c'] w fun e w' => e = .returned (.bool true) ∧ w' = w := by
  go_enter Try.func15, Try.ntmps15
  go_wp2
  refine wp_loop_rounds 1 ?_
  rw [rounds_succ]
  go_wp2
  go_ret
  exact ⟨rfl, rfl⟩
theorem same_any {w : World} {g c base base' : Nat} {v : Value} {As : List AnsM} {sla slb : List Sl} (hn : As.length ≤ 1500000) (hra : w.ownsRow base 36 7 (.slice (some ⟨g, 0, none⟩) As.length c) As.length (ansCells As sla)) (hia : ItemsAt w base As sla) (hrb : w.ownsRow base' 36 7 v As.length (ansCells As slb)) (hib : ItemsAt w base' As slb) :
    Calls Try.prog 15 #[.slice (some ⟨g, 0, none⟩) As.length c, v] w fun e w' => e = .returned (.bool true) ∧ Chg nobody w w' := by
  rcases hrb.2 with ⟨rfl, h0⟩ | ⟨g', c', cur, rfl, _⟩
  · rw [h0]
    refine (same_zero _ _ _ _ w).mono ?_
    rintro e w' ⟨rfl, rfl⟩
    exact ⟨rfl, Chg.refl _ _⟩
  · refine (same_some g g' c c' base base' As sla slb w hn hra hia hrb hib).mono ?_
    rintro e w' ⟨rfl, n, rfl⟩
    exact ⟨rfl, rfl, rfl, rfl, Nat.le_refl _, fun _ _ _ => rfl⟩
def keepR (o : OpM) : Bool := decide (o.kind < 7) || decide (11 < o.kind)
def readsM (ys : List OpM) : List OpM := ys.filter keepR
theorem readsM_take (ys : List OpM) (j : Nat) (h : j < ys.length) : readsM (ys.take (j + 1)) = readsM (ys.take j) ++ (if keepR ys[j] then [ys[j]] else []) := by
  unfold readsM
  rw [List.take_succ_eq_append_getElem h, List.filter_append]
  cases hk : keepR ys[j] <;> simp [hk]
theorem readsM_len (ys : List OpM) : (readsM ys).length ≤ ys.length := List.length_filter_le _ _
theorem readsM_ok (ys : List OpM) : ∀ o ∈ readsM ys, o.kind ≤ 6 ∨ 11 < o.kind := fun o ho => by
  have := (List.mem_filter.1 ho).2
  unfold keepR at this
  simp at this
  omega
/-- what lies behind the filter. -/
theorem tail_ok {w w' : World} {v : Value} {ys : List OpM} (hok : ∀ o ∈ ys, o.ok) (hn : ys.length ≤ 1048576) (hrow : w'.ownsRow w.heap.size 30 5 v (readsM ys).length (opCells (readsM ys))) :
    SrcOps w' v (readsM ys) ∧ (∀ o ∈ readsM ys, o.ok) ∧ (readsM ys).length ≤ 1048576 :=
  ⟨src_of_row hrow, fun o ho => hok o (List.mem_filter.1 ho).1, Nat.le_trans (readsM_len ys) hn⟩
set_option maxRecDepth 100000 in
set_option maxHeartbeats 1000000 in
theorem runs_some (b off cap : Nat) (ys : List OpM) (w : World) (hops : OpsAt w b off ys) (hbl : b < w.heap.size) (hok : ∀ o ∈ ys, o.ok) (hn : ys.length ≤ 1048576) :
    Calls Try.prog 6 #[.slice (some ⟨b, off, none⟩) ys.length cap, .int .i64 7, .int .i64 11] w fun e w' => e = .returned (.bool true) ∧ Chg nobody w w' := by
  obtain ⟨i0, hi, hz0, hz1, hz2⟩ := info_parts info30
  have HO : Hid (OpsAt w b off ys ∧ b < w.heap.size ∧ ∀ o ∈ ys, o.ok) := ⟨hops, hbl, hok⟩
  clear hops hbl hok
  go_enter Try.func6, Try.ntmps6
  go_wp2_with fail
  go_loopw [7, 8] (fun v i wr => ∃ j : Nat, j ≤ ys.length ∧ i = .int .i64 j ∧ wr.ownsRow w.heap.size 30 5 v (readsM (ys.take j)).length (opCells (readsM (ys.take j))) ∧ Chg nobody w wr) (fun _ i _ => ys.length - (intOf i).toNat)
  case atStart => exact ⟨0, Nat.zero_le _, rfl, World.ownsRow_nil _ _ _ _, Chg.refl _ _⟩
  case round =>
    obtain ⟨j, hj, rfl, hrow, hc⟩ := hrel
    by_cases hlt : j < ys.length
    · obtain ⟨hops, hbl, _⟩ := HO.out
      obtain ⟨o0, o1, o2, o3, o4⟩ := hops j hlt
      have hcl : ∀ i, wr.cell? ⟨b, i, none⟩ = w.cell? ⟨b, i, none⟩ := fun i => hc.below.cell (p := ⟨b, i, none⟩) hbl
      rw [← hcl] at o0 o1 o2 o3 o4
      have HT : Hid (readsM (ys.take (j + 1)) = readsM (ys.take j) ++ (if keepR ys[j] then [ys[j]] else [])) := readsM_take ys j hlt
      have hol : (readsM (ys.take j)).length ≤ j := Nat.le_trans (readsM_len _) (List.length_take_le _ _)
      have hsz : w.heap.size ≤ wr.heap.size := hc.size
      have HC : Hid (Chg nobody w wr) := hc
      clear hcl hops hbl hc
      generalize ys[j] = o at *
      have hsplit : (decide (o.kind < 7) = true) ∨ (decide (o.kind < 7) = false ∧ decide (11 < o.kind) = true) ∨ (decide (o.kind < 7) = false ∧ decide (11 < o.kind) = false) := by
        by_cases h1 : o.kind < 7
        · exact Or.inl (decide_eq_true h1)
        · by_cases h2 : 11 < o.kind
          · exact Or.inr (Or.inl ⟨decide_eq_false h1, decide_eq_true h2⟩)
          · exact Or.inr (Or.inr ⟨decide_eq_false h1, decide_eq_false h2⟩)
      rcases hsplit with b1 | ⟨b1, b2⟩ | ⟨b1, b2⟩
      · have HK : Hid (keepR o = true) := by show keepR o = true; simp [keepR, b1]
        go_wp2_with (at_builtin; refine wpList_append_own _ rfl _ _ 22 rfl w.heap.size 30 i0 (OpM.v ⟨0, 0, ⟨#[]⟩, ⟨#[]⟩, 0⟩) 5 56 Try.underlying22 hi hz0 hz1 hz2 rfl (by decide) _ _ _ rfl (hrow.alloc _) ⟨wr.heap.size, 0, none⟩ 1 1 o.vals rfl rfl (cells_new wr #[.int .i64 o.kind, .int .i64 o.t, .string o.key, .string o.val, .int .i64 o.n] 30) (vals_one o) (by unfold maxLen; omega) (by omega) (by simp; omega) ?_; intro v' w1 hown1 hg1 _; go_frame)
        go_roundw
        case rel =>
          refine ⟨j + 1, by omega, by go_num, ?_, (HC.out.alloc _).grown hg1 (fun k e => Or.inr (hrow.lt k e).1)⟩
          rw [HT.out, HK.out, if_pos rfl, opCells_append]
          simpa [opCells] using hown1
        case measure => simp [intOf]; omega
      · have HK : Hid (keepR o = true) := by show keepR o = true; simp [keepR, b2]
        go_wp2_with (at_builtin; refine wpList_append_own _ rfl _ _ 22 rfl w.heap.size 30 i0 (OpM.v ⟨0, 0, ⟨#[]⟩, ⟨#[]⟩, 0⟩) 5 56 Try.underlying22 hi hz0 hz1 hz2 rfl (by decide) _ _ _ rfl (hrow.alloc _) ⟨wr.heap.size, 0, none⟩ 1 1 o.vals rfl rfl (cells_new wr #[.int .i64 o.kind, .int .i64 o.t, .string o.key, .string o.val, .int .i64 o.n] 30) (vals_one o) (by unfold maxLen; omega) (by omega) (by simp; omega) ?_; intro v' w1 hown1 hg1 _; go_frame)
        go_roundw
        case rel =>
          refine ⟨j + 1, by omega, by go_num, ?_, (HC.out.alloc _).grown hg1 (fun k e => Or.inr (hrow.lt k e).1)⟩
          rw [HT.out, HK.out, if_pos rfl, opCells_append]
          simpa [opCells] using hown1
        case measure => simp [intOf]; omega
      · have HK : Hid (keepR o = false) := by show keepR o = false; simp [keepR, b1, b2]
        go_wp2
        go_roundw
        case rel =>
          refine ⟨j + 1, by omega, by go_num, ?_, HC.out⟩
          rw [HT.out, HK.out]
          simpa using hrow
        case measure => simp [intOf]; omega
    · have hjl : j = ys.length := by omega
      subst hjl
      rw [List.take_length] at hrow
      obtain ⟨hsrc, hok', hlen⟩ := tail_ok HO.out.2.2 hn hrow
      have HA : Hid (SrcOps wr u7 (readsM ys) ∧ (∀ o ∈ readsM ys, o.ok) ∧ (∀ o ∈ readsM ys, o.kind ≤ 6 ∨ 11 < o.kind) ∧ Chg nobody w wr ∧ ansM s0 (readsM ys) = ansR p0 (readsM ys)) := ⟨hsrc, hok', readsM_ok ys, hc, ans_same _ rel0⟩
      clear hrow hsrc hok' hc HO
      generalize readsM ys = zs at *
      go_wp2_with fail
      refine (run_src HA.out.1 HA.out.2.1 (by omega)).mono ?_
      rintro e w2 ⟨g, ca, sla, rfl, hra, hia, hc2⟩
      have HB : Hid (w2.ownsRow wr.heap.size 36 7 (.slice (some ⟨g, 0, none⟩) zs.length ca) zs.length (ansCells (ansM s0 zs) sla) ∧ ItemsAt w2 wr.heap.size (ansM s0 zs) sla ∧ Chg nobody wr w2) := ⟨hra, hia, hc2⟩
      clear hra hia hc2
      go_wp2_with fail
      refine (refRun_src (HA.out.1.chg HB.out.2.2) HA.out.2.2.1 (by omega)).mono ?_
      rintro e w3 ⟨v, rfl, slb, hrb, hib, hc3⟩
      have ha := HA.out.2.2.2.2
      have hla : (ansR p0 zs).length = zs.length := ansR_len zs p0
      have HS := same_any (w := w3) (g := g) (c := ca) (v := v) (As := ansR p0 zs) (sla := sla) (slb := slb) (by rw [hla]; omega) (by rw [hla]; have := ownsRow_chg HB.out.1 hc3 (fun _ _ h => h); rw [ha] at this; exact this) (by have := HB.out.2.1.keep hc3 (fun _ _ _ _ h => h); rw [ha] at this; exact this) (by rw [hla]; exact hrb) hib
      rw [hla] at HS
      have HF : Hid (Chg nobody w w3) := (HA.out.2.2.2.1.trans HB.out.2.2).trans hc3
      clear hrb hib hc3 ha hla
      go_wp2_with fail
      refine HS.mono ?_
      rintro e w4 ⟨rfl, hc4⟩
      go_wp2
      go_ret
      exact ⟨rfl, HF.out.trans hc4⟩
end Go.Proofs.Ytcpjocgpahjcjaa
