import Derived.Test.YtkfjafndplmdkaaGreatSE
namespace Go.Proofs.YtkfjafndplmdkaaGreat
open Go.RowKit Go.Sort
set_option maxRecDepth 100000 in
set_option maxHeartbeats 2000000 in
theorem scanned_none (tb g c base c2 : Nat) (a2 : Option Addr) (l : Tbl) (pre : ByteArray) (w : World) (h : TblAt w tb base (some ⟨g, 0, none⟩, l.length, c) l) (hl : l.length ≤ 10000000)
    (hn : countT l pre = 0) :
    Calls Tryz.prog 34 #[.pointer (some ⟨tb, 0, none⟩), .string pre, .slice a2 0 c2] w fun e w' => e = .returned (.bool true) ∧ ∃ n, w' = w.drewN n := by
  have HT : Hid (TblAt w tb base (some ⟨g, 0, none⟩, l.length, c) l) := h
  obtain ⟨hc, hf, hr⟩ := h
  simp only [slV] at hc hr
  have HC : Hid (∀ j (hj : j < l.length), w.cell? ⟨g, j * 2, none⟩ = some (.string l[j].1)) := fun j hj => (hr.cellAt _ (by omega)).trans (itemCells_at l j hj).1
  clear hr hf
  go_enter Tryz.func34, Tryz.ntmps34
  go_wp2
  go_loopw [7, 8] (fun n i wr => ∃ j : Nat, j ≤ l.length ∧ i = .int .i64 j ∧ n = .int .i64 (countT (l.take j) pre : Nat) ∧ wr = w) (fun _ i _ => l.length - (intOf i).toNat)
  case atStart => exact ⟨0, Nat.zero_le _, rfl, rfl, rfl⟩
  case round =>
    obtain ⟨j, hj, rfl, rfl, hwr⟩ := hrel
    replace hwr := hwr.symm
    subst hwr
    by_cases hlt : j < l.length
    · have o0 := HC.out j hlt
      have HN : Hid (countT (l.take (j + 1)) pre = countT (l.take j) pre + (if pk pre l[j].1 = true then 1 else 0)) := countT_take l pre j hlt
      have hcl : countT (l.take j) pre ≤ 10000000 := Nat.le_trans (countT_le _ _) (Nat.le_trans (List.length_take_le _ _) (by omega))
      have hpk := extract_pk pre l[j].1
      generalize l[j].1 = k at *
      generalize countT (l.take j) pre = m at *
      by_cases hsz : pre.size ≤ k.size
      · have hsi : (pre.size : Int) ≤ (k.size : Int) := by omega
        by_cases he : k.extract 0 pre.size = pre
        · have hb := (ba_t he).2
          rw [if_pos (hpk.2 ⟨hsz, he⟩)] at HN
          clear hpk he
          go_wp2
          go_roundw
          case rel => exact ⟨j + 1, by omega, by go_num, by rw [HN.out]; go_num, trivial⟩
          case measure => simp [intOf]; omega
        · have hb := (ba_f he).2
          rw [if_neg (fun hh => he (hpk.1 hh).2)] at HN
          clear hpk he
          go_wp2
          go_roundw
          case rel => exact ⟨j + 1, by omega, by go_num, by rw [HN.out]; rfl, trivial⟩
          case measure => simp [intOf]; omega
      · have hsi : ¬ (pre.size : Int) ≤ (k.size : Int) := by omega
        rw [if_neg (fun hh => hsz (hpk.1 hh).1)] at HN
        clear hpk
        go_wp2
        go_roundw
        case rel => exact ⟨j + 1, by omega, by go_num, by rw [HN.out]; rfl, trivial⟩
        case measure => simp [intOf]; omega
    · have hjl : j = l.length := by omega
      subst hjl
      rw [List.take_length, hn]
      go_wp2
      refine wp_loop_rounds 1 ?_
      rw [rounds_succ]
      go_wp2
      go_ret
      exact ⟨rfl, 0, rfl⟩
set_option maxRecDepth 100000 in
set_option maxHeartbeats 1000000 in
theorem scanned_zero (tb c c2 : Nat) (a a2 : Option Addr) (pre : ByteArray) (w : World) (hc : w.cell? ⟨tb, 0, none⟩ = some (.slice a 0 c)) :
    Calls Tryz.prog 34 #[.pointer (some ⟨tb, 0, none⟩), .string pre, .slice a2 0 c2] w fun e w' => e = .returned (.bool true) ∧ ∃ n, w' = w.drewN n := by
  go_enter Tryz.func34, Tryz.ntmps34
  go_wp2
  refine wp_loop_rounds 1 ?_
  rw [rounds_succ]
  go_wp2
  refine wp_loop_rounds 1 ?_
  rw [rounds_succ]
  go_wp2
  go_ret
  exact ⟨rfl, 0, rfl⟩
theorem scanned_any {tb base base2 : Nat} {x y : Sl} {l items : Tbl} {pre : ByteArray} {w : World} (h : TblAt w tb base x l) (hl : l.length ≤ 10000000)
    (h2 : w.ownsRow base2 66 2 (slV y) items.length (itemCells items)) (hi : items.length ≤ 10000000)
    (hasc : Asc (items.map Prod.fst)) (hall : ∀ p ∈ items, getA p.1 l = some p.2 ∧ pk pre p.1 = true) (hn : countT l pre = items.length) :
    Calls Tryz.prog 34 #[.pointer (some ⟨tb, 0, none⟩), .string pre, slV y] w fun e w' => e = .returned (.bool true) ∧ ∃ n, w' = w.drewN n := by
  obtain ⟨a, k, c⟩ := x
  obtain ⟨a2, k2, c2⟩ := y
  rcases h.r.2 with ⟨e, h0⟩ | ⟨g, cap, cur, e, _⟩
  · have hc := h.c
    rw [e] at hc
    have hl0 : l = [] := List.eq_nil_of_length_eq_zero h0
    subst hl0
    have hi0 : items.length = 0 := by rw [← hn]; rfl
    rw [hi0] at h2
    obtain ⟨ad, c3, e2⟩ := row_sl h2
    rw [e2]
    exact scanned_zero tb 0 c3 none ad pre w hc
  · simp only [slV, Value.slice.injEq] at e
    obtain ⟨rfl, rfl, rfl⟩ := e
    rcases h2.2 with ⟨e2, h02⟩ | ⟨g2, cap2, cur2, e2, _⟩
    · rw [e2]
      exact scanned_none _ _ _ _ 0 none l pre w h hl (by rw [hn, h02])
    · rw [e2]
      rw [e2] at h2
      exact scanned_some _ _ _ _ _ _ _ l items pre w h hl h2 hi hasc hall hn
end Go.Proofs.YtkfjafndplmdkaaGreat
