import Derived.Test.YtkfjafndplmdkaaGreatSD
namespace Go.Proofs.YtkfjafndplmdkaaGreat
open Go.RowKit Go.Sort
theorem countT_take (l : Tbl) (pre : ByteArray) (j : Nat) (h : j < l.length) : countT (l.take (j + 1)) pre = countT (l.take j) pre + (if pk pre l[j].1 = true then 1 else 0) := by
  unfold countT
  rw [List.take_succ_eq_append_getElem h, List.filter_append, List.length_append]
  by_cases hk : pk pre l[j].1 = true <;> simp [hk]
theorem countT_le (l : Tbl) (pre : ByteArray) : countT l pre ≤ l.length := List.length_filter_le _ _
set_option maxRecDepth 100000 in
set_option maxHeartbeats 2000000 in
theorem scanned_some (tb g c base g2 c2 base2 : Nat) (l items : Tbl) (pre : ByteArray) (w : World) (h : TblAt w tb base (some ⟨g, 0, none⟩, l.length, c) l) (hl : l.length ≤ 10000000)
    (h2 : w.ownsRow base2 66 2 (.slice (some ⟨g2, 0, none⟩) items.length c2) items.length (itemCells items)) (hi : items.length ≤ 10000000)
    (hasc : Asc (items.map Prod.fst)) (hall : ∀ p ∈ items, getA p.1 l = some p.2 ∧ pk pre p.1 = true) (hn : countT l pre = items.length) :
    Calls Tryz.prog 34 #[.pointer (some ⟨tb, 0, none⟩), .string pre, .slice (some ⟨g2, 0, none⟩) items.length c2] w fun e w' => e = .returned (.bool true) ∧ ∃ n, w' = w.drewN n := by
  have HT : Hid (TblAt w tb base (some ⟨g, 0, none⟩, l.length, c) l) := h
  obtain ⟨hc, hf, hr⟩ := h
  simp only [slV] at hc hr
  have HC : Hid (∀ j (hj : j < l.length), w.cell? ⟨g, j * 2, none⟩ = some (.string l[j].1)) := fun j hj => (hr.cellAt _ (by omega)).trans (itemCells_at l j hj).1
  have HI : Hid (∀ j (hj : j < items.length), w.cell? ⟨g2, j * 2, none⟩ = some (.string items[j].1) ∧ w.cell? ⟨g2, j * 2 + 1, none⟩ = some (.string items[j].2) ∧ Hid (∀ m, Calls Tryz.prog 33 #[.pointer (some ⟨tb, 0, none⟩), .string items[j].1] (w.drewN m) fun e w' => e = .returned (.tuple #[.string items[j].2, .bool true]) ∧ ∃ n, w' = (w.drewN m).drewN n) ∧ (pre.size : Int) ≤ (items[j].1.size : Int) ∧ ((items[j].1.extract 0 pre.size).toList == pre.toList) = true ∧ Hid (∀ i (hi : i < j), items[i].1.data.toList < items[j].1.data.toList)) := fun j hj => by
    have hit := itemCells_at items j hj
    obtain ⟨g1, p1⟩ := hall items[j] (List.getElem_mem hj)
    obtain ⟨p2, p3⟩ := (extract_pk pre _).1 p1
    refine ⟨(h2.cellAt _ (by omega)).trans hit.1, (h2.cellAt _ (by omega)).trans hit.2, fun m => ?_, by omega, (ba_t p3).2, fun i hi => ?_⟩
    · have ht : TblAt (w.drewN m) tb base (some ⟨g, 0, none⟩, l.length, c) l := ⟨HT.out.c, HT.out.f, HT.out.r⟩
      refine (tget_any items[j].1 ht (by omega)).mono ?_
      rw [g1]
      exact fun e w' h => h
    · have := List.pairwise_iff_getElem.1 hasc i j (by simp; omega) (by simpa using hj) hi
      simpa using this
  clear hr hf hasc hall h2
  go_enter Tryz.func34, Tryz.ntmps34
  go_wp2
  go_loopw [7, 8] (fun n i wr => ∃ j : Nat, j ≤ l.length ∧ i = .int .i64 j ∧ n = .int .i64 (countT (l.take j) pre : Nat) ∧ wr = w) (fun _ i _ => l.length - (intOf i).toNat)
  case atStart => exact ⟨0, Nat.zero_le _, rfl, rfl, rfl⟩
  case round =>
    obtain ⟨j, hj, rfl, rfl, hwr⟩ := hrel
    replace hwr := hwr.symm
    subst hwr
    by_cases hlt : j < l.length
    · have o0 := HC.out j hlt
      have HN : Hid (countT (l.take (j + 1)) pre = countT (l.take j) pre + (if pk pre l[j].1 = true then 1 else 0)) := countT_take l pre j hlt
      have hcl : countT (l.take j) pre ≤ 10000000 := Nat.le_trans (countT_le _ _) (Nat.le_trans (List.length_take_le _ _) (by omega))
      have hpk := extract_pk pre l[j].1
      generalize l[j].1 = k at *
      generalize countT (l.take j) pre = m at *
      by_cases hsz : pre.size ≤ k.size
      · have hsi : (pre.size : Int) ≤ (k.size : Int) := by omega
        by_cases he : k.extract 0 pre.size = pre
        · have hb := (ba_t he).2
          rw [if_pos (hpk.2 ⟨hsz, he⟩)] at HN
          clear hpk he
          go_wp2
          go_roundw
          case rel => exact ⟨j + 1, by omega, by go_num, by rw [HN.out]; go_num, trivial⟩
          case measure => simp [intOf]; omega
        · have hb := (ba_f he).2
          rw [if_neg (fun hh => he (hpk.1 hh).2)] at HN
          clear hpk he
          go_wp2
          go_roundw
          case rel => exact ⟨j + 1, by omega, by go_num, by rw [HN.out]; rfl, trivial⟩
          case measure => simp [intOf]; omega
      · have hsi : ¬ (pre.size : Int) ≤ (k.size : Int) := by omega
        rw [if_neg (fun hh => hsz (hpk.1 hh).1)] at HN
        clear hpk
        go_wp2
        go_roundw
        case rel => exact ⟨j + 1, by omega, by go_num, by rw [HN.out]; rfl, trivial⟩
        case measure => simp [intOf]; omega
    · have hjl : j = l.length := by omega
      subst hjl
      rw [List.take_length, hn]
      go_wp2
      go_loopw [10] (fun i wr => ∃ (j m : Nat), j ≤ items.length ∧ i = .int .i64 j ∧ wr = w.drewN m) (fun i _ => items.length - (intOf i).toNat)
      case atStart => exact ⟨0, 0, Nat.zero_le _, rfl, rfl⟩
      case round =>
        obtain ⟨j, m, hj, rfl, rfl⟩ := hrel
        by_cases hlt2 : j < items.length
        · obtain ⟨o0, o1, HG, hsi, hb, HP⟩ := HI.out j hlt2
          generalize items[j].1 = k at *
          generalize items[j].2 = v at *
          by_cases h0 : j = 0
          · subst h0
            go_wp2_with (go_at_call 33; refine (HG.out m).mono ?_; rintro e w' ⟨rfl, n, rfl⟩)
            go_roundw
            case rel => exact ⟨1, m + n, by omega, rfl, rfl⟩
            case measure => simp [intOf]; omega
          · obtain ⟨i, rfl⟩ : ∃ i, j = i + 1 := ⟨j - 1, by omega⟩
            obtain ⟨q0, _, _, _, _, _⟩ := HI.out i (by omega)
            have hlt3 := ltB_t (HP.out i (by omega))
            generalize items[i].1 = q at *
            go_wp2_with (go_at_call 33; refine (HG.out m).mono ?_; rintro e w' ⟨rfl, n, rfl⟩)
            go_roundw
            case rel => exact ⟨i + 2, m + n, by omega, by go_num, rfl⟩
            case measure => simp [intOf]; omega
        · go_wp2
          go_ret
          exact ⟨rfl, m, rfl⟩
end Go.Proofs.YtkfjafndplmdkaaGreat
