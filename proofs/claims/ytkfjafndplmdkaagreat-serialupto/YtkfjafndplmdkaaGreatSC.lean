import Derived.Test.YtkfjafndplmdkaaGreatTO
import Derived.Test.YtkfjafndplmdkaaGreatSB
namespace Go.Proofs.YtkfjafndplmdkaaGreat
open Go.RowKit Go.Sort
/-- A table in memory. -/
structure TblAt (w : World) (tb base : Nat) (x : Sl) (l : Tbl) : Prop where
  c : w.cell? ⟨tb, 0, none⟩ = some (slV x)
  f : w.frozen? ⟨tb, 0, none⟩ = false
  r : w.ownsRow base 66 2 (slV x) l.length (itemCells l)
/-- a value and whether there is one. -/
def gotT (o : Option ByteArray) : Value := .tuple #[.string (o.getD ⟨#[]⟩), .bool o.isSome]
theorem beq_no {a b : ByteArray} (h : ¬ a = b) : (a.toList == b.toList) = false := by
  rw [beq_eq_false_iff_ne, ByteArray.toList_eq, ByteArray.toList_eq]
  exact fun e => h (toList_inj e)
set_option maxRecDepth 100000 in
set_option maxHeartbeats 1000000 in
theorem tget_some (tb g c base : Nat) (l : Tbl) (key : ByteArray) (w : World) (h : TblAt w tb base (some ⟨g, 0, none⟩, l.length, c) l) (hl : l.length ≤ 100000000) :
    Calls Tryz.prog 33 #[.pointer (some ⟨tb, 0, none⟩), .string key] w fun e w' => e = .returned (gotT (getA key l)) ∧ ∃ n, w' = w.drewN n := by
  obtain ⟨hc, hf, hr⟩ := h
  simp only [slV] at hc hr
  have hcell : ∀ j (hj : j < l.length), w.cell? ⟨g, j * 2, none⟩ = some (.string l[j].1) ∧ w.cell? ⟨g, j * 2 + 1, none⟩ = some (.string l[j].2) := fun j hj => by
    have := itemCells_at l j hj
    exact ⟨(hr.cellAt _ (by omega)).trans this.1, (hr.cellAt _ (by omega)).trans this.2⟩
  have HC : Hid (∀ j (hj : j < l.length), w.cell? ⟨g, j * 2, none⟩ = some (.string l[j].1) ∧ w.cell? ⟨g, j * 2 + 1, none⟩ = some (.string l[j].2)) := hcell
  have HD : Hid (∀ j (hj : j < l.length), getA key (l.drop j) = if l[j].1 = key then some l[j].2 else getA key (l.drop (j + 1))) := fun j hj => by
    rw [List.drop_eq_getElem_cons hj]
    rfl
  clear hr hcell hf
  go_enter Tryz.func33, Tryz.ntmps33
  go_wp2
  go_loopw [6] (fun i wr => ∃ (j m : Nat), j ≤ l.length ∧ i = .int .i64 j ∧ wr = w.drewN m ∧ Hid (getA key l = getA key (l.drop j))) (fun i _ => l.length - (intOf i).toNat)
  case atStart => exact ⟨0, 0, Nat.zero_le _, rfl, rfl, rfl⟩
  case round =>
    obtain ⟨j, m, hj, rfl, rfl, hg⟩ := hrel
    by_cases hlt : j < l.length
    · obtain ⟨o0, o1⟩ := HC.out j hlt
      have hd := HD.out j hlt
      generalize l[j].1 = k at *
      generalize l[j].2 = v at *
      by_cases hk : k = key
      · subst hk
        rw [if_pos rfl] at hd
        have hfin : Hid (getA k l = some v) := hg.out.trans hd
        clear hd hg
        go_wp2
        exact bodyPost_ret (v := .tuple #[.string v, .bool true]) (by simp [results, Tryz.results33, go_sem]) rfl ⟨by rw [hfin.out]; rfl, m, rfl⟩
      · rw [if_neg hk] at hd
        replace hk := beq_no hk
        have hg1 : Hid (getA key l = getA key (l.drop (j + 1))) := hg.out.trans hd
        clear hd hg
        go_wp2
        go_roundw
        case rel => exact ⟨j + 1, m, by omega, by go_num, rfl, hg1⟩
        case measure => simp [intOf]; omega
    · have hjl : j = l.length := by omega
      have hg1 : Hid (getA key l = none) := hg.out.trans (by rw [hjl, List.drop_length]; rfl)
      clear hg
      go_wp2
      exact bodyPost_ret (v := .tuple #[.string ⟨#[]⟩, .bool false]) (by simp [results, Tryz.results33, go_sem]) rfl ⟨by rw [hg1.out]; rfl, m, rfl⟩
set_option maxHeartbeats 400000 in
theorem tget_zero (tb c : Nat) (a : Option Addr) (key : ByteArray) (w : World) (hc : w.cell? ⟨tb, 0, none⟩ = some (.slice a 0 c)) :
    Calls Tryz.prog 33 #[.pointer (some ⟨tb, 0, none⟩), .string key] w fun e w' => e = .returned (gotT none) ∧ w' = w := by
  go_enter Tryz.func33, Tryz.ntmps33
  go_wp2
  refine wp_loop_rounds 1 ?_
  rw [rounds_succ]
  go_wp2
  exact bodyPost_ret (v := .tuple #[.string ⟨#[]⟩, .bool false]) (by simp [results, Tryz.results33, go_sem]) rfl ⟨rfl, rfl⟩
theorem tget_any {tb base : Nat} {x : Sl} {l : Tbl} (key : ByteArray) {w : World} (h : TblAt w tb base x l) (hl : l.length ≤ 100000000) :
    Calls Tryz.prog 33 #[.pointer (some ⟨tb, 0, none⟩), .string key] w fun e w' => e = .returned (gotT (getA key l)) ∧ ∃ n, w' = w.drewN n := by
  obtain ⟨a, k, c⟩ := x
  rcases h.r.2 with ⟨e, h0⟩ | ⟨g, cap, cur, e, _⟩
  · have hc := h.c
    rw [e] at hc
    have hl0 : l = [] := List.eq_nil_of_length_eq_zero h0
    subst hl0
    refine (tget_zero tb 0 none key w hc).mono ?_
    rintro e w' ⟨rfl, rfl⟩
    exact ⟨rfl, 0, rfl⟩
  · simp only [slV, Value.slice.injEq] at e
    obtain ⟨rfl, rfl, rfl⟩ := e
    exact tget_some _ _ _ _ _ key w h hl
theorem item_one (k v : ByteArray) : ∀ u ∈ [Value.string k, .string v], u.oneCell' = true := by
  intro u hu
  simp only [List.mem_cons, List.not_mem_nil, or_false] at hu
  rcases hu with rfl | rfl <;> rfl
theorem row_sl {w : World} {base : Nat} {e : TypeId} {size n : Nat} {v : Value} {xs : List Value} (h : w.ownsRow base e size v n xs) : ∃ ad c, v = .slice ad n c := by
  rcases h.2 with ⟨rfl, rfl⟩ | ⟨g, cap, cur, rfl, _⟩
  · exact ⟨_, _, rfl⟩
  · exact ⟨_, _, rfl⟩
def lessT (l : Tbl) (key : ByteArray) : Tbl := l.filter (fun p => decide (p.1 ≠ key))
theorem lessT_take (l : Tbl) (key : ByteArray) (j : Nat) (h : j < l.length) : lessT (l.take (j + 1)) key = lessT (l.take j) key ++ (if l[j].1 = key then [] else [(l[j].1, l[j].2)]) := by
  unfold lessT
  rw [List.take_succ_eq_append_getElem h, List.filter_append]
  by_cases hk : l[j].1 = key <;> simp [hk]
theorem lessT_len (l : Tbl) (key : ByteArray) : (lessT l key).length ≤ l.length := List.length_filter_le _ _
set_option maxRecDepth 100000 in
set_option maxHeartbeats 1000000 in
theorem tset_some (tb g c base : Nat) (l : Tbl) (key val : ByteArray) (gone : Bool) (w : World) (h : TblAt w tb base (some ⟨g, 0, none⟩, l.length, c) l) (hl : l.length ≤ 10000000) (hb : tb < w.heap.size) :
    Calls Tryz.prog 35 #[.pointer (some ⟨tb, 0, none⟩), .string key, .string val, .bool gone] w fun e w' => e = .returned (.tuple #[]) ∧ ∃ x, TblAt w' tb w.heap.size x (setT l key val gone) ∧ Chg (fun b => b = tb) w w' := by
  obtain ⟨i0, hi, hz0, hz1, hz2⟩ := info_parts infoItem
  obtain ⟨hc, hf, hr⟩ := h
  simp only [slV] at hc hr
  have hcell : ∀ j (hj : j < l.length), w.cell? ⟨g, j * 2, none⟩ = some (.string l[j].1) ∧ w.cell? ⟨g, j * 2 + 1, none⟩ = some (.string l[j].2) := fun j hj => by
    have := itemCells_at l j hj
    exact ⟨(hr.cellAt _ (by omega)).trans this.1, (hr.cellAt _ (by omega)).trans this.2⟩
  have HFR : Hid (w.frozen? ⟨tb, 0, none⟩ = false) := hf
  clear hf
  have HC : Hid (g < w.heap.size ∧ w.cell? ⟨tb, 0, none⟩ = some (.slice (some ⟨g, 0, none⟩) l.length c) ∧ ∀ j (hj : j < l.length), w.cell? ⟨g, j * 2, none⟩ = some (.string l[j].1) ∧ w.cell? ⟨g, j * 2 + 1, none⟩ = some (.string l[j].2)) := ⟨(hr.lt g rfl).2, hc, hcell⟩
  clear hr hcell
  go_enter Tryz.func35, Tryz.ntmps35
  go_wp2
  go_loopw [8, 9] (fun v i wr => ∃ j : Nat, j ≤ l.length ∧ i = .int .i64 j ∧ wr.ownsRow w.heap.size 66 2 v (lessT (l.take j) key).length (itemCells (lessT (l.take j) key)) ∧ Chg nobody w wr) (fun _ i _ => l.length - (intOf i).toNat)
  case atStart => exact ⟨0, Nat.zero_le _, rfl, World.ownsRow_nil _ _ _ _, Chg.refl _ _⟩
  case round =>
    obtain ⟨j, hj, rfl, hrow, hch⟩ := hrel
    by_cases hlt : j < l.length
    · obtain ⟨hg, hc0, hcell⟩ := HC.out
      obtain ⟨o0, o1⟩ := hcell j hlt
      have hcl : ∀ b i, b < w.heap.size → wr.cell? ⟨b, i, none⟩ = w.cell? ⟨b, i, none⟩ := fun b i hb => hch.below.cell (p := ⟨b, i, none⟩) hb
      rw [← hcl _ _ hg] at o0 o1
      have hc1 : wr.cell? ⟨tb, 0, none⟩ = some (.slice (some ⟨g, 0, none⟩) l.length c) := (hcl _ _ hb).trans hc0
      have HT : Hid (lessT (l.take (j + 1)) key = lessT (l.take j) key ++ (if l[j].1 = key then [] else [(l[j].1, l[j].2)])) := lessT_take l key j hlt
      have hol : (lessT (l.take j) key).length ≤ j := Nat.le_trans (lessT_len _ _) (List.length_take_le _ _)
      have hsz : w.heap.size ≤ wr.heap.size := hch.size
      have HCH : Hid (Chg nobody w wr) := hch
      clear hcl hcell hg hch hc hc0
      generalize l[j].1 = k at *
      generalize l[j].2 = v0 at *
      by_cases hk : k = key
      · subst hk
        rw [if_pos rfl] at HT
        go_wp2
        go_roundw
        case rel => exact ⟨j + 1, by omega, by go_num, by rw [HT.out, List.append_nil]; exact hrow, HCH.out⟩
        case measure => simp [intOf]; omega
      · rw [if_neg hk] at HT
        replace hk := beq_no hk
        go_wp2_with (at_builtin; refine wpList_append_own _ rfl _ _ 32 rfl w.heap.size 66 i0 (.agg #[.string ⟨#[]⟩, .string ⟨#[]⟩]) 2 32 Tryz.underlying32 hi hz0 hz1 hz2 rfl (by decide) _ _ _ rfl (hrow.alloc _) ⟨wr.heap.size, 0, none⟩ 1 1 [.string k, .string v0] rfl rfl (cells_new wr #[.string k, .string v0] 66) (item_one k v0) (by unfold maxLen; omega) (by omega) (by simp; omega) ?_; intro v' w1 hown1 hg1 _; go_frame)
        go_roundw
        case rel =>
          refine ⟨j + 1, by omega, by go_num, ?_, (HCH.out.alloc _).grown hg1 (fun k e => Or.inr (hrow.lt k e).1)⟩
          rw [HT.out]
          simpa [itemCells] using hown1
        case measure => simp [intOf]; omega
    · have hjl : j = l.length := by omega
      obtain ⟨hg, hc0, hcell⟩ := HC.out
      have hc1 : wr.cell? ⟨tb, 0, none⟩ = some (.slice (some ⟨g, 0, none⟩) l.length c) := (hch.below.cell (p := ⟨tb, 0, none⟩) hb).trans hc0
      have hsz : w.heap.size ≤ wr.heap.size := hch.size
      have hol : (lessT l key).length ≤ l.length := lessT_len _ _
      subst hjl
      rw [List.take_length] at hrow
      have hf1 : wr.frozen? ⟨tb, 0, none⟩ = false := ((bcell hch).2 _ _ hb).trans HFR.out
      have HCH : Hid (Chg nobody w wr) := hch
      clear hcell hg hch hc
      have HFIN : Hid (∀ (w1 : World) (l' : Tbl) (ad : Option Addr) (n c2 : Nat), Chg nobody w w1 → w1.cell? ⟨tb, 0, none⟩ = some (.slice (some ⟨g, 0, none⟩) l.length c) → w1.frozen? ⟨tb, 0, none⟩ = false → w1.ownsRow w.heap.size 66 2 (.slice ad n c2) l'.length (itemCells l') → ∃ x, TblAt (w1.setCell ⟨tb, 0, none⟩ (.slice ad n c2)) tb w.heap.size x l' ∧ Chg (fun b => b = tb) w (w1.setCell ⟨tb, 0, none⟩ (.slice ad n c2))) := fun w1 l' ad n c2 h1 h2 hz h3 => by
        refine ⟨(ad, n, c2), ⟨World.cell?_setCell_same _ _ _ h2, by simp [hz], ownsRow_chg h3 (chg_set w1 tb 0 _) (fun g e hg => ?_)⟩, Chg.setCell (S := fun b => b = tb) (h1.any _) (p := ⟨tb, 0, none⟩) (Or.inl rfl) _⟩
        have := (h3.lt g e).1
        omega
      cases gone
      · go_wp2_with (at_builtin; refine wpList_append_own _ rfl _ _ 32 rfl w.heap.size 66 i0 (.agg #[.string ⟨#[]⟩, .string ⟨#[]⟩]) 2 32 Tryz.underlying32 hi hz0 hz1 hz2 rfl (by decide) _ _ _ rfl (hrow.alloc _) ⟨wr.heap.size, 0, none⟩ 1 1 [.string key, .string val] rfl rfl (cells_new wr #[.string key, .string val] 66) (item_one key val) (by unfold maxLen; omega) (by omega) (by simp; omega) ?_; intro v' w1 hown1 hg1 _; obtain ⟨ad, c2, rfl⟩ := row_sl hown1; have hcw : Chg nobody w w1 := (HCH.out.alloc _).grown hg1 (fun k e => Or.inr (hrow.lt k e).1); have hc2 : w1.cell? ⟨tb, 0, none⟩ = some (.slice (some ⟨g, 0, none⟩) l.length c) := (hcw.below.cell (p := ⟨tb, 0, none⟩) hb).trans hc0; have hf2 : w1.frozen? ⟨tb, 0, none⟩ = false := ((bcell hcw).2 _ _ hb).trans HFR.out)
        go_end0
        refine ⟨rfl, HFIN.out w1 (setT l key val false) _ _ _ hcw hc2 hf2 ?_⟩
        have e : setT l key val false = lessT l key ++ [(key, val)] := rfl
        rw [e]
        simpa [itemCells] using hown1
      · obtain ⟨ad, c2, rfl⟩ := row_sl hrow
        go_wp2
        go_end0
        refine ⟨rfl, HFIN.out wr (setT l key val true) _ _ _ HCH.out hc1 hf1 ?_⟩
        have e : setT l key val true = lessT l key := List.append_nil _
        rw [e]
        exact hrow
end Go.Proofs.YtkfjafndplmdkaaGreat
