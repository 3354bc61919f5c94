import Derived.Test.YtkfjafndplmdkaaGreatT3
import Derived.Test.YtkfjafndplmdkaaGreatO3
namespace Go.Proofs.YtkfjafndplmdkaaGreat
open Go.RowKit Go.Sort
abbrev VP : Type := Int × (Bool × ByteArray)
/-- is a version read at one of these times? (the next one's time: b) -/
def readV (times : List Int) (a b : Int) : Bool := times.any (fun t => decide (a ≤ t) && decide (t < b))
def keepV (times : List Int) : List VP → List VP
  | [] => []
  | [v] => [v]
  | v :: u :: r => if readV times v.1 u.1 then v :: keepV times (u :: r) else keepV times (u :: r)
theorem keepV_len (times : List Int) : ∀ l : List VP, (keepV times l).length ≤ l.length
  | [] => Nat.le_refl _
  | [v] => Nat.le_refl _
  | v :: u :: r => by
    have ih := keepV_len times (u :: r)
    simp only [keepV]
    split
    · simp only [List.length_cons] at ih ⊢; omega
    · simp only [List.length_cons] at ih ⊢; omega
theorem keepV_ne (times : List Int) : ∀ l : List VP, l ≠ [] → keepV times l ≠ []
  | [], h => h
  | [v], _ => by simp [keepV]
  | v :: u :: r, _ => by
    simp only [keepV]
    split
    · simp
    · exact keepV_ne times (u :: r) (by simp)
theorem keepV_drop (times : List Int) (L : List VP) (i : Nat) (h : i + 1 < L.length) : keepV times (L.drop i) = (if readV times L[i].1 L[i + 1].1 then [L[i]] else []) ++ keepV times (L.drop (i + 1)) := by
  rw [List.drop_eq_getElem_cons (show i < L.length by omega), List.drop_eq_getElem_cons h]
  simp only [keepV]
  split <;> simp
theorem keepV_last (times : List Int) (L : List VP) (i : Nat) (h : i < L.length) (hl : i + 1 = L.length) : keepV times (L.drop i) = [L[i]] := by
  rw [List.drop_eq_getElem_cons h, List.drop_eq_nil_of_le (by omega)]
  rfl
set_option maxRecDepth 100000 in
set_option maxHeartbeats 1000000 in
theorem needed1_any (bv bl bi g cap n i : Nat) (a b t : Int) (w : World) (h1 : w.cell? ⟨bv, 0, none⟩ = some (.int .i64 a)) (h2 : w.cell? ⟨bl, 0, none⟩ = some (.slice (some ⟨g, 0, none⟩) n cap)) (h3 : w.cell? ⟨bi, 0, none⟩ = some (.int .i64 i)) (hi : i + 1 < n) (hn : n ≤ 2000000) (h4 : w.cell? ⟨g, (i + 1) * 3, none⟩ = some (.int .i64 b)) :
    Calls Tryz.prog 124 #[.int .i64 t, .pointer (some ⟨bv, 0, none⟩), .pointer (some ⟨bl, 0, none⟩), .pointer (some ⟨bi, 0, none⟩)] w fun e w' => e = .returned (.bool (decide (a ≤ t) && decide (t < b))) ∧ w' = w := by
  by_cases ha : a ≤ t
  · have b1 : decide (a ≤ t) = true := decide_eq_true ha
    rw [b1]
    obtain ⟨c, hc⟩ : ∃ c, decide (t < b) = c := ⟨_, rfl⟩
    rw [hc]
    clear ha
    go_enter Tryz.func124, Tryz.ntmps124
    go_wp2
    go_ret
    exact ⟨by simp, rfl⟩
  · have b1 : decide (a ≤ t) = false := decide_eq_false ha
    rw [b1]
    clear ha
    go_enter Tryz.func124, Tryz.ntmps124
    go_wp2
    go_ret
    exact ⟨by simp, rfl⟩
set_option maxRecDepth 100000 in
set_option maxHeartbeats 1000000 in
theorem indexFunc_any (ad : Option Addr) (capt bv bl bi : Nat) (times : List Int) (p : Int → Bool) (w : World) (hrow : w.ownsRow 0 3 1 (.slice ad times.length capt) times.length (times.map (fun n => Value.int .i64 n))) (hl : times.length ≤ 1000000)
    (hp : ∀ t, Calls Tryz.prog 124 #[.int .i64 t, .pointer (some ⟨bv, 0, none⟩), .pointer (some ⟨bl, 0, none⟩), .pointer (some ⟨bi, 0, none⟩)] w fun e w' => e = .returned (.bool (p t)) ∧ w' = w) :
    Calls Tryz.prog 132 #[.slice ad times.length capt, .func (.func 124) #[] #[.pointer (some ⟨bv, 0, none⟩), .pointer (some ⟨bl, 0, none⟩), .pointer (some ⟨bi, 0, none⟩)]] w fun e w' => ∃ r : Int, e = .returned (.int .i64 r) ∧ decide (0 ≤ r) = times.any p ∧ w' = w := by
  have HC : Hid (∀ j (h : j < times.length), ∃ g, ad = some ⟨g, 0, none⟩ ∧ w.cell? ⟨g, j, none⟩ = some (.int .i64 times[j])) := fun j h => by
    obtain ⟨g, rfl, _, _, _, hc⟩ := row_open hrow (by omega)
    exact ⟨g, rfl, hc j _ (by simp [List.getElem?_eq_getElem h])⟩
  have HP : Hid (∀ t, Calls Tryz.prog 124 #[.int .i64 t, .pointer (some ⟨bv, 0, none⟩), .pointer (some ⟨bl, 0, none⟩), .pointer (some ⟨bi, 0, none⟩)] w fun e w' => e = .returned (.bool (p t)) ∧ w' = w) := hp
  clear hp hrow
  go_enter Tryz.func132, Tryz.ntmps132
  go_wp2
  go_loop [8] (fun i => ∃ j : Nat, j ≤ times.length ∧ i = .int .i64 j ∧ Hid (∀ x ∈ times.take j, p x = false)) (fun i => times.length - (intOf i).toNat)
  case atStart => exact ⟨0, by omega, rfl, by intro x hx; simp at hx⟩
  case round =>
    obtain ⟨j, hj, rfl, HN⟩ := hrel
    by_cases hlt : j < times.length
    · obtain ⟨g, rfl, cj⟩ := HC.out j hlt
      have hcall := HP.out times[j]
      have HT : Hid (times.take (j + 1) = times.take j ++ [times[j]] ∧ times[j] ∈ times) := ⟨List.take_succ_eq_append_getElem hlt, List.getElem_mem hlt⟩
      generalize times[j] = t at *
      cases hpt : p t with
      | true =>
        rw [hpt] at hcall
        have HA : Hid (times.any p = true) := List.any_eq_true.2 ⟨t, HT.out.2, hpt⟩
        clear hpt
        go_wp2_with (go_at_call 124; refine hcall.mono ?_; rintro e w2 ⟨rfl, rfl⟩)
        go_ret
        exact ⟨(j : Int), rfl, by rw [HA.out]; simp, rfl⟩
      | false =>
        rw [hpt] at hcall
        have HA : Hid (p t = false) := hpt
        clear hpt
        go_wp2_with (go_at_call 124; refine hcall.mono ?_; rintro e w2 ⟨rfl, rfl⟩)
        go_round
        case rel =>
          refine ⟨j + 1, by omega, by go_num, ?_⟩
          intro x hx
          rw [HT.out.1] at hx
          rcases List.mem_append.1 hx with hx | hx
          · exact HN.out x hx
          · rw [List.mem_singleton.1 hx]; exact HA.out
        case measure => simp [intOf]; omega
    · have hjl : j = times.length := by omega
      subst hjl
      have HA : Hid (times.any p = false) := by
        have := HN.out
        rw [List.take_length] at this
        show times.any p = false
        rw [List.any_eq_false]
        intro x hx
        rw [this x hx]; simp
      go_wp2
      go_ret
      exact ⟨-1, rfl, by rw [HA.out]; decide, rfl⟩
set_option maxRecDepth 100000 in
set_option maxHeartbeats 1000000 in
theorem containsFunc_any (ad : Option Addr) (capt bv bl bi : Nat) (times : List Int) (p : Int → Bool) (w : World) (hrow : w.ownsRow 0 3 1 (.slice ad times.length capt) times.length (times.map (fun n => Value.int .i64 n))) (hl : times.length ≤ 1000000)
    (hp : ∀ t, Calls Tryz.prog 124 #[.int .i64 t, .pointer (some ⟨bv, 0, none⟩), .pointer (some ⟨bl, 0, none⟩), .pointer (some ⟨bi, 0, none⟩)] w fun e w' => e = .returned (.bool (p t)) ∧ w' = w) :
    Calls Tryz.prog 125 #[.slice ad times.length capt, .func (.func 124) #[] #[.pointer (some ⟨bv, 0, none⟩), .pointer (some ⟨bl, 0, none⟩), .pointer (some ⟨bi, 0, none⟩)]] w fun e w' => e = .returned (.bool (times.any p)) ∧ w' = w := by
  have h1 := indexFunc_any ad capt bv bl bi times p w hrow hl hp
  generalize times.any p = c at *
  clear hp hrow
  go_enter Tryz.func125, Tryz.ntmps125
  go_wp2_with (go_at_call 132; refine h1.mono ?_; rintro e w2 ⟨r, rfl, hr, rfl⟩)
  go_ret
  exact ⟨by first | rfl | simp [hr], rfl⟩
end Go.Proofs.YtkfjafndplmdkaaGreat
namespace Go.Proofs.YtkfjafndplmdkaaGreat
open Go.RowKit Go.Sort
theorem infoVerN : (Tryz.prog.info? 167).map (fun i => (i.zero, i.size, i.bytes)) = some (some (.agg #[.int .i64 0, .bool false, .string ⟨#[]⟩]), 3, 32) := by kernel_rfl
abbrev nw (w : World) (j : Int) (a : Int) (f : Bool) (u : ByteArray) : World := (w.alloc (.cells #[.int .i64 j] 3)).alloc (.cells #[.int .i64 a, .bool f, .string u] 167)
theorem nw_chg (w : World) (j a : Int) (f : Bool) (u : ByteArray) : Chg nobody w (nw w j a f u) := ((Chg.refl nobody w).alloc _).alloc _
theorem nw_cells (w : World) (j a : Int) (f : Bool) (u : ByteArray) : (nw w j a f u).cell? ⟨w.heap.size, 0, none⟩ = some (.int .i64 j) ∧ (nw w j a f u).cell? ⟨w.heap.size + 1, 0, none⟩ = some (.int .i64 a) ∧ (nw w j a f u).cell? ⟨w.heap.size + 1, 1, none⟩ = some (.bool f) ∧ (nw w j a f u).cell? ⟨w.heap.size + 1, 2, none⟩ = some (.string u) := by
  refine ⟨?_, ?_, ?_, ?_⟩ <;> simp [go_sem]
theorem row_new {w w' : World} {base : Nat} {e : TypeId} {size : Nat} {v : Value} {n : Nat} {xs : List Value} (h : w.ownsRow base e size v n xs) (hc : Chg nobody w w') : w'.ownsRow base e size v n xs := ownsRow_chg h hc (fun _ _ hf => hf)
set_option maxRecDepth 100000 in
set_option maxHeartbeats 2000000 in
theorem needed_any (g cap capt : Nat) (ad : Option Addr) (L : List VP) (times : List Int) (w : World) (hL : w.ownsRow 0 167 3 (.slice (some ⟨g, 0, none⟩) L.length cap) L.length (vCells L)) (hT : w.ownsRow 0 3 1 (.slice ad times.length capt) times.length (times.map (fun n => Value.int .i64 n))) (hl : L.length ≤ 1000) (htl : times.length ≤ 1000) :
    Calls Tryz.prog 111 #[.slice (some ⟨g, 0, none⟩) L.length cap, .slice ad times.length capt] w fun e w' => ∃ v, e = .returned v ∧ w'.ownsRow w.heap.size 167 3 v (keepV times L).length (vCells (keepV times L)) ∧ Chg nobody w w' := by
  obtain ⟨i0, hi, hz0, hz1, hz2⟩ := info_parts infoVerN
  have HCell : Hid (∀ w', Chg nobody w w' → ∀ i (h : i < L.length), w'.cell? ⟨g, i * 3, none⟩ = some (.int .i64 L[i].1) ∧ w'.cell? ⟨g, i * 3 + 1, none⟩ = some (.bool L[i].2.1) ∧ w'.cell? ⟨g, i * 3 + 2, none⟩ = some (.string L[i].2.2)) := fun w' hc i h => v_at (row_new hL hc) i h
  have HBox : Hid (∀ w', Chg nobody (w.alloc (.cells #[.slice (some ⟨g, 0, none⟩) L.length cap] 155)) w' → w'.cell? ⟨w.heap.size, 0, none⟩ = some (.slice (some ⟨g, 0, none⟩) L.length cap)) := fun w' hc => by
    rw [(bcell hc).1 _ _ (by simp)]
    simp [go_sem]
  have HCF : Hid (∀ wr wz j (h : j + 1 < L.length), Chg nobody (w.alloc (.cells #[.slice (some ⟨g, 0, none⟩) L.length cap] 155)) wz → wz.cell? ⟨wr + 1, 0, none⟩ = some (.int .i64 L[j].1) → wz.cell? ⟨wr, 0, none⟩ = some (.int .i64 j) →
      Calls Tryz.prog 125 #[.slice ad times.length capt, .func (.func 124) #[] #[.pointer (some ⟨wr + 1, 0, none⟩), .pointer (some ⟨w.heap.size, 0, none⟩), .pointer (some ⟨wr, 0, none⟩)]] wz fun e w' => e = .returned (.bool (readV times L[j].1 L[j + 1].1)) ∧ w' = wz) := fun wr wz j h hc h1 h2 => by
    have hc' : Chg nobody w wz := ((Chg.refl nobody w).alloc _).trans hc
    refine containsFunc_any ad capt (wr + 1) w.heap.size wr times (fun t => decide (L[j].1 ≤ t) && decide (t < L[j + 1].1)) wz (row_new hT hc') (by omega) (fun t => ?_)
    exact needed1_any (wr + 1) w.heap.size wr g cap L.length j _ _ t wz h1 (HBox.out wz hc) h2 h (by omega) (HCell.out wz hc' (j + 1) h).1
  have hmf : ∀ (fn : Fn) (first cap : Array Value) (w : World), (Instr.makeFunc fn first cap).run Tryz.prog w = .ok (.func fn first cap) w := fun _ _ _ _ => rfl
  clear hL hT
  go_enter Tryz.func111, Tryz.ntmps111
  go_wp2
  go_loopw [5, 11] (fun v i wr => ∃ (j : Nat) (K : List VP), j ≤ L.length ∧ i = .int .i64 j ∧ Hid (K ++ keepV times (L.drop j) = keepV times L) ∧ wr.ownsRow (w.heap.size + 1) 167 3 v K.length (vCells K) ∧ K.length ≤ j ∧ Chg nobody (w.alloc (.cells #[.slice (some ⟨g, 0, none⟩) L.length cap] 155)) wr) (fun _ i _ => L.length - (intOf i).toNat)
  case atStart => exact ⟨0, [], Nat.zero_le _, rfl, (by show _ = _; simp), World.ownsRow_nil _ _ _ _, Nat.le_refl _, Chg.refl _ _⟩
  case round =>
    obtain ⟨j, K, hj, rfl, HK, hrow, hkl, hch⟩ := hrel
    obtain ⟨a0, k0, rfl⟩ := row_form hrow
    by_cases hlt : j < L.length
    · have hcw : Chg nobody w wr := ((Chg.refl nobody w).alloc _).trans hch
      obtain ⟨c0, c1, c2⟩ := HCell.out wr hcw j hlt
      have hbx := HBox.out wr hch
      have hsz : w.heap.size + 1 ≤ wr.heap.size := by have := hch.size; simpa using this
      have hb2 : ∀ o o', ((wr.alloc o).alloc o').cell? ⟨w.heap.size, 0, none⟩ = some (.slice (some ⟨g, 0, none⟩) L.length cap) := fun o o' => by rw [World.cell?_alloc_past _ _ _ (by simp; omega), World.cell?_alloc_past _ _ _ (by show w.heap.size < wr.heap.size; omega)]; exact hbx
      by_cases hl1 : j + 1 < L.length
      · have HD : Hid (keepV times (L.drop j) = (if readV times L[j].1 L[j + 1].1 then [L[j]] else []) ++ keepV times (L.drop (j + 1))) := keepV_drop times L j hl1
        have hcf := HCF.out wr.heap.size (nw wr j L[j].1 L[j].2.1 L[j].2.2) j hl1 (hch.trans (nw_chg _ _ _ _ _)) (nw_cells _ _ _ _ _).2.1 (nw_cells _ _ _ _ _).1
        have b1 : decide ((j : Int) < (L.length : Int)) = true := decide_eq_true (by omega)
        have b2 : ((j : Int) == (L.length : Int) - 1) = false := beq_eq_false_iff_ne.2 (by omega)
        generalize L[j + 1] = y at *
        generalize hx : L[j] = x at *
        obtain ⟨a, f, u⟩ := x
        simp only at hcf c0 c1 c2 HD
        have HNW : Hid (Chg nobody wr (nw wr j a f u) ∧ (nw wr j a f u).cell? ⟨wr.heap.size + 1, 0, none⟩ = some (.int .i64 a) ∧ (nw wr j a f u).cell? ⟨wr.heap.size + 1, 1, none⟩ = some (.bool f) ∧ (nw wr j a f u).cell? ⟨wr.heap.size + 1, 2, none⟩ = some (.string u)) := ⟨nw_chg _ _ _ _ _, (nw_cells _ _ _ _ _).2⟩
        cases hrd : readV times a y.1 with
        | true =>
          rw [hrd] at hcf
          have HE : Hid ((K ++ [(a, (f, u))]) ++ keepV times (L.drop (j + 1)) = keepV times L) := by
            have h1 := HD.out
            rw [hrd, if_pos rfl] at h1
            show _ = _
            rw [← HK.out, h1, List.append_assoc]
          clear hrd HD HK hx
          go_wp2_with (first
            | (go_at_call 125; refine hcf.mono ?_; rintro e w2 ⟨rfl, hw2⟩; have HW2 : Hid (Chg nobody wr w2) := (by show Chg _ _ _; rw [hw2]; exact HNW.out.1); have d0 : w2.cell? ⟨wr.heap.size + 1, 0, none⟩ = some (.int .i64 a) := (by rw [hw2]; exact HNW.out.2.1); have d1 : w2.cell? ⟨wr.heap.size + 1, 1, none⟩ = some (.bool f) := (by rw [hw2]; exact HNW.out.2.2.1); have d2 : w2.cell? ⟨wr.heap.size + 1, 2, none⟩ = some (.string u) := (by rw [hw2]; exact HNW.out.2.2.2); clear hw2)
            | (at_builtin; refine wpList_append_own _ rfl _ _ 155 rfl (w.heap.size + 1) 167 i0 (.agg #[.int .i64 0, .bool false, .string ⟨#[]⟩]) 3 32 Tryz.underlying155 hi hz0 hz1 hz2 rfl (by decide) _ _ _ rfl ((row_new hrow HW2.out).alloc _) ⟨w2.heap.size, 0, none⟩ 1 1 (vCell (a, (f, u))) rfl rfl (cells_new w2 #[.int .i64 a, .bool f, .string u] 167) (by simp [vCell, Value.oneCell']) (by unfold maxLen; omega) (by omega) (by have := HW2.out.size; simp; omega) ?_; intro v' w4 hown' hg3 _; go_frame))
          go_roundw
          case rel =>
            refine ⟨j + 1, K ++ [(a, (f, u))], by omega, by go_num, HE.out, ?_, by simp; omega, ?_⟩
            · simpa [vCells] using hown'
            · exact ((hch.trans HW2.out).alloc _).grown hg3 (fun k e => Or.inr (by have := (hrow.lt k e).1; simp; omega))
          case measure => simp [intOf]; omega
        | false =>
          rw [hrd] at hcf
          have HE : Hid (K ++ keepV times (L.drop (j + 1)) = keepV times L) := by
            have h1 := HD.out
            rw [hrd, if_neg (by simp)] at h1
            show _ = _
            rw [← HK.out, h1, List.nil_append]
          clear hrd HD HK hx
          go_wp2_with (first
            | (go_at_call 125; refine hcf.mono ?_; rintro e w2 ⟨rfl, hw2⟩; have HW2 : Hid (Chg nobody wr w2) := (by show Chg _ _ _; rw [hw2]; exact HNW.out.1); clear hw2))
          go_roundw
          case rel => exact ⟨j + 1, K, by omega, by go_num, HE.out, row_new hrow HW2.out, by omega, hch.trans HW2.out⟩
          case measure => simp [intOf]; omega
      · have hjl : j + 1 = L.length := by omega
        have HE : Hid ((K ++ [L[j]]) ++ keepV times (L.drop (j + 1)) = keepV times L) := by
          have h1 := keepV_last times L j hlt hjl
          show _ = _
          rw [← HK.out, h1, List.drop_eq_nil_of_le (by omega)]
          simp [keepV]
        have b1 : decide ((j : Int) < (L.length : Int)) = true := decide_eq_true (by omega)
        have b2 : ((j : Int) == (L.length : Int) - 1) = true := beq_iff_eq.2 (by omega)
        generalize hx : L[j] = x at *
        obtain ⟨a, f, u⟩ := x
        simp only at c0 c1 c2
        have HNW : Hid (Chg nobody wr (nw wr j a f u)) := nw_chg _ _ _ _ _
        have HNEW : Hid (∀ k u', (vCell (a, (f, u)))[k]? = some u' → ((nw wr j a f u).alloc (.cells #[.int .i64 a, .bool f, .string u] 167)).cell? ((⟨wr.heap.size + 1 + 1, 0, none⟩ : Addr).add k) = some u') := fun k u' hk => by
          have h1 := cells_new (nw wr j a f u) #[.int .i64 a, .bool f, .string u] 167 k u' hk
          have e1 : (nw wr j a f u).heap.size = wr.heap.size + 1 + 1 := by simp
          rw [e1] at h1
          exact h1
        clear HK hx
        go_wp2_with (first
            | (at_builtin; refine wpList_append_own _ rfl _ _ 155 rfl (w.heap.size + 1) 167 i0 (.agg #[.int .i64 0, .bool false, .string ⟨#[]⟩]) 3 32 Tryz.underlying155 hi hz0 hz1 hz2 rfl (by decide) _ _ _ rfl ((row_new hrow HNW.out).alloc _) ⟨wr.heap.size + 1 + 1, 0, none⟩ 1 1 (vCell (a, (f, u))) rfl rfl HNEW.out (by simp [vCell, Value.oneCell']) (by unfold maxLen; omega) (by omega) (by simp; omega) ?_; intro v' w4 hown' hg3 _; go_frame))
        go_roundw
        case rel =>
          refine ⟨j + 1, K ++ [(a, (f, u))], by omega, by go_num, HE.out, ?_, by simp; omega, ?_⟩
          · simpa [vCells] using hown'
          · exact ((hch.trans HNW.out).alloc _).grown hg3 (fun k e => Or.inr (by have := (hrow.lt k e).1; simp; omega))
        case measure => simp [intOf]; omega
    · have hjl : j = L.length := by omega
      have HE : Hid (K = keepV times L) := by
        have h1 := HK.out
        rw [List.drop_eq_nil_of_le (by omega)] at h1
        have h2 : K = keepV times L := (by simpa [keepV] using h1)
        exact h2
      have b1 : decide ((j : Int) < (L.length : Int)) = false := decide_eq_false (by omega)
      go_wp2
      go_ret
      refine ⟨_, rfl, ?_, ((Chg.refl nobody w).alloc _).trans hch⟩
      rw [← HE.out]
      exact ownsRow_base hrow (Nat.le_succ _)
end Go.Proofs.YtkfjafndplmdkaaGreat
namespace Go.Proofs.YtkfjafndplmdkaaGreat
open Go.RowKit Go.Sort
open Go.Maps (Keyed)
theorem sum_put {x : ByteArray} {e E : VEnt} : ∀ {V : List (ByteArray × VEnt)}, getA x V = some e → sumV (putA x E V) + e.vs.length = sumV V + E.vs.length
  | [], h => by simp [getA] at h
  | p :: r, h => by
    unfold getA at h
    unfold putA
    by_cases hp : p.1 = x
    · rw [if_pos hp] at h ⊢
      cases h
      rw [sumV_cons, sumV_cons]
      simp only
      omega
    · rw [if_neg hp] at h ⊢
      have ih := sum_put (E := E) h
      rw [sumV_cons, sumV_cons]
      omega
theorem keys_put {x : ByteArray} {e : VEnt} (E : VEnt) : ∀ {V : List (ByteArray × VEnt)}, getA x V = some e → (putA x E V).map Prod.fst = V.map Prod.fst
  | [], h => by simp [getA] at h
  | p :: r, h => by
    unfold getA at h
    unfold putA
    by_cases hp : p.1 = x
    · rw [if_pos hp, List.map_cons, List.map_cons, hp]
    · rw [if_neg hp] at h ⊢
      rw [List.map_cons, List.map_cons, keys_put E h]
theorem blocks_put {x : ByteArray} {e : VEnt} (E : VEnt) : ∀ {V : List (ByteArray × VEnt)}, getA x V = some e → ∀ b ∈ vBlocks (putA x E V), b = E.vb ∨ b ∈ vBlocks V
  | [], h => by simp [getA] at h
  | p :: r, h => by
    intro b hb
    unfold getA at h
    unfold putA at hb
    by_cases hp : p.1 = x
    · rw [if_pos hp] at hb
      simp only [vBlocks, List.map_cons, List.mem_cons] at hb ⊢
      rcases hb with hb | hb
      · exact Or.inl hb
      · exact Or.inr (Or.inr hb)
    · rw [if_neg hp] at h hb
      simp only [vBlocks, List.map_cons, List.mem_cons] at hb ⊢
      rcases hb with hb | hb
      · exact Or.inr (Or.inl hb)
      · rcases blocks_put E h b hb with h1 | h1
        · exact Or.inl h1
        · exact Or.inr (Or.inr h1)
theorem blocks_put_nodup {x : ByteArray} {e : VEnt} {E : VEnt} : ∀ {V : List (ByteArray × VEnt)}, getA x V = some e → (vBlocks V).Nodup → E.vb ∉ vBlocks V → (vBlocks (putA x E V)).Nodup
  | [], h, _, _ => by simp [getA] at h
  | p :: r, h, nd, hn => by
    unfold getA at h
    unfold putA
    simp only [vBlocks, List.map_cons, List.nodup_cons, List.mem_cons, not_or] at nd hn
    by_cases hp : p.1 = x
    · rw [if_pos hp]
      simp only [vBlocks, List.map_cons, List.nodup_cons]
      exact ⟨hn.2, nd.2⟩
    · rw [if_neg hp] at h ⊢
      simp only [vBlocks, List.map_cons, List.nodup_cons]
      refine ⟨fun hb => ?_, blocks_put_nodup h nd.2 hn.2⟩
      rcases blocks_put E h _ hb with h1 | h1
      · exact hn.1 h1.symm
      · exact nd.1 h1
theorem versOf_putN {x : ByteArray} {E : VEnt} (k : ByteArray) (V : List (ByteArray × VEnt)) : versOf k (putA x E V) = if k = x then E.vs else versOf k V := by
  unfold versOf
  rw [getA_put]
  by_cases h : k = x
  · rw [if_pos h, if_pos h]
  · rw [if_neg h, if_neg h]
theorem row_ne_map {α β : Type} {P : Program} {k : TypeId} {mk : α → Value} {vl : β → Value} {w : World} {b : Nat} {l : List (α × β)} {base : Nat} {e : TypeId} {size : Nat} {v : Value} {m : Nat} {xs : List Value}
    (h : w.ownsRow base e size v m xs) (hm : mapAt w P k mk vl b l) : ∀ g, v.ownBlock = some g → g ≠ b := by
  obtain ⟨_, _, hb, _⟩ := hm
  rcases h.2 with ⟨rfl, _⟩ | ⟨g, cap, cur, rfl, _, hg, _⟩
  · intro g e; cases e
  · intro g' e1 e2
    have : g = g' := by simpa [Value.ownBlock] using e1
    subst this
    subst e2
    rw [hb] at hg
    cases hg
/-- some keys are cleaned. -/
def ClS (w : World) (sb vm : Nat) (V : List (ByteArray × VEnt)) (times : List Int) (done : List (List UInt8)) (gone : Nat) (wr : World) : Prop :=
  ∃ V', StoreAt wr sb vm V' ∧ V'.map Prod.fst = V.map Prod.fst ∧ (∀ k : ByteArray, versOf k V' = if k.data.toList ∈ done then keepV times (versOf k V) else versOf k V) ∧ gone + sumV V' = sumV V ∧ (vBlocks V').Nodup ∧
    (∀ b ∈ vBlocks V', (b ∈ vBlocks V ∨ w.heap.size ≤ b) ∧ b ≠ sb ∧ b ≠ vm) ∧ (∀ p ∈ V', p.2.vs ≠ []) ∧ Chg (fun b => b = vm) w wr
theorem ClS.next {w wr w2 w3 : World} {sb vm : Nat} {V V' : List (ByteArray × VEnt)} {times : List Int} {done : List (List UInt8)} {gone g c : Nat} {x : ByteArray} {e : VEnt}
    (hs : StoreAt wr sb vm V') (hk : V'.map Prod.fst = V.map Prod.fst) (hv : ∀ k : ByteArray, versOf k V' = if k.data.toList ∈ done then keepV times (versOf k V) else versOf k V) (hg : gone + sumV V' = sumV V) (hnd : (vBlocks V').Nodup)
    (hb : ∀ b ∈ vBlocks V', (b ∈ vBlocks V ∨ w.heap.size ≤ b) ∧ b ≠ sb ∧ b ≠ vm) (hn : ∀ p ∈ V', p.2.vs ≠ []) (hc : Chg (fun b => b = vm) w wr) (he : getA x V' = some e) (hx : x.data.toList ∉ done) (hsv : sb ≠ vm)
    (hc2 : Chg nobody wr w2) (hrow : w2.ownsRow wr.heap.size 167 3 (.slice (some ⟨g, 0, none⟩) (keepV times e.vs).length c) (keepV times e.vs).length (vCells (keepV times e.vs)))
    (hm3 : mapAt w3 Tryz.prog 9 mkS mkV vm (putA x ⟨g, c, keepV times e.vs⟩ V')) (hc3 : Chg (fun b => b = vm) w2 w3) : ClS w sb vm V times (done ++ [x.data.toList]) (gone + (e.vs.length - (keepV times e.vs).length)) w3 := by
  have hgl := hrow.lt g rfl
  have hsz := hc.size
  have hlv : ∀ b ∈ vBlocks V', b < wr.heap.size := hs.lts
  have hgn : g ∉ vBlocks V' := fun h => by have := hlv g h; omega
  have hsb := lt_of_block hs.st
  have hvm := hs.vs.lt
  have hce : Chg (fun b => b = vm) wr w3 := (hc2.any _).trans hc3
  have hem : (x, e) ∈ V' := getA_mem he
  have hve : versOf x V' = e.vs := by unfold versOf; rw [he]
  have hve2 : e.vs = versOf x V := by rw [← hve, hv x, if_neg hx]
  refine ⟨_, ⟨(hce.block sb hsb hsv).trans hs.st, hm3, fun p hp => ?_⟩, by rw [keys_put _ he, hk], fun k => ?_, ?_, blocks_put_nodup he hnd hgn, fun b hb' => ?_, fun p hp => ?_, hc.trans (hce)⟩
  · rcases putA_mem_ne hs.vs.nodup hp with rfl | ⟨hp, _⟩
    · exact ownsRow_base (ownsRow_chg hrow hc3 (fun g' e1 e2 => by have : g = g' := by simpa [Value.ownBlock] using e1
                                                                   omega)) (Nat.zero_le _)
    · refine ownsRow_chg (hs.rows p hp) hce (fun g' e1 e2 => ?_)
      have : p.2.vb = g' := by simpa [Value.ownBlock] using e1
      exact (hb p.2.vb (List.mem_map.2 ⟨p, hp, rfl⟩)).2.2 (this.trans e2)
  · rw [versOf_putN]
    by_cases hkx : k = x
    · subst hkx
      rw [if_pos rfl, if_pos (by simp), hve2]
    · rw [if_neg hkx, hv k]
      have : k.data.toList ∈ done ++ [x.data.toList] ↔ k.data.toList ∈ done := by
        rw [List.mem_append, List.mem_singleton]
        exact ⟨fun h => h.elim id (fun h => absurd (toList_inj h) hkx), Or.inl⟩
      simp only [this]
  · have h1 := sum_put (E := ⟨g, c, keepV times e.vs⟩) he
    have h2 := keepV_len times e.vs
    simp only at h1
    omega
  · rcases blocks_put _ he b hb' with rfl | h1
    · exact ⟨Or.inr (by omega), by omega, by omega⟩
    · exact hb b h1
  · rcases putA_mem_ne hs.vs.nodup hp with rfl | ⟨hp, _⟩
    · exact keepV_ne times e.vs (hn _ hem)
    · exact hn p hp
set_option maxRecDepth 100000 in
set_option maxHeartbeats 2000000 in
theorem clean_any (sb vm : Nat) (V : List (ByteArray × VEnt)) (times : List Int) (ad : Option Addr) (capt : Nat) (w : World) (hs : StoreAt w sb vm V) (hT : w.ownsRow 0 3 1 (.slice ad times.length capt) times.length (times.map (fun n => Value.int .i64 n)))
    (hsum : sumV V ≤ 100) (htl : times.length ≤ 1000) (hvk : ∀ p ∈ V, p.1.size ≤ 8) (hvn : ∀ p ∈ V, p.2.vs ≠ []) (hnd : (sb :: vm :: vBlocks V).Nodup) :
    Calls Tryz.prog 90 #[.pointer (some ⟨sb, 0, none⟩), .slice ad times.length capt] w fun e w' => ∃ gone : Nat, e = .returned (.int .i64 gone) ∧ ClS w sb vm V times (coll ⟨#[]⟩ V) gone w' := by
  obtain ⟨n1, n2⟩ := List.nodup_cons.1 hnd
  obtain ⟨n3, n4⟩ := List.nodup_cons.1 n2
  have hsv : sb ≠ vm := fun e => n1 (by simp [e])
  have hlen : V.length ≤ 100 := by
    have : ∀ V : List (ByteArray × VEnt), (∀ p ∈ V, p.2.vs ≠ []) → V.length ≤ sumV V := by
      intro V
      induction V with
      | nil => intro _; simp
      | cons p r ih =>
        intro h
        have h1 := ih (fun q hq => h q (by simp [hq]))
        have h2 : 0 < p.2.vs.length := List.length_pos_iff.2 (h p (by simp))
        rw [sumV_cons, List.length_cons]
        omega
    have := this V hvn
    omega
  have hkeys := storeKeys_any sb vm V ⟨#[]⟩ w hs (by omega)
  have HS0 : Hid (ClS w sb vm V times [] 0 w) := ⟨V, hs, rfl, fun k => by simp, by simp, n4, fun b hb => ⟨Or.inl hb, fun e => n1 (by simp [← e, hb]), fun e => n3 (by rw [← e]; exact hb)⟩, hvn, Chg.refl _ _⟩
  have HT : Hid (∀ wr, Chg (fun b => b = vm) w wr → wr.ownsRow 0 3 1 (.slice ad times.length capt) times.length (times.map (fun n => Value.int .i64 n))) := fun wr hc => ownsRow_chg hT hc (row_ne_map hT hs.vs)
  have HV : Hid ((V.map Prod.fst).Nodup ∧ (∀ p ∈ V, p.1.size ≤ 8) ∧ vm < w.heap.size ∧ sumV V ≤ 100) := ⟨hs.vs.nodup, hvk, hs.vs.lt, hsum⟩
  have HL : Hid (V.length ≤ 100) := hlen
  clear hs hT hvk hvn hnd n1 n2 n3 n4 hlen
  go_enter Tryz.func90, Tryz.ntmps90
  go_wp2_with (go_at_call 110; refine hkeys.mono ?_; rintro e w1 ⟨v, rfl, ss, hperm, hrow, hc1⟩; obtain ⟨ad1, cs, rfl⟩ := row_form hrow)
  have hssl : ss.length ≤ 100 := by
    have h1 := hperm.length_eq
    have h2 := coll_len ⟨#[]⟩ V
    have h3 : V.length ≤ 100 := HL.out
    omega
  have HSS : Hid (ss.Nodup ∧ (∀ s ∈ ss, ∃ p ∈ V, p.1.data.toList = s) ∧ ss.Perm (coll ⟨#[]⟩ V)) := by
    have hnd : (coll ⟨#[]⟩ V).Nodup := by
      unfold coll
      have h1 := HV.out.1.filter (pk ⟨#[]⟩)
      unfold List.Nodup at h1 ⊢
      rw [List.pairwise_map]
      exact h1.imp (fun h e => h (toList_inj e))
    refine ⟨hperm.nodup_iff.2 hnd, fun s hs => ?_, hperm⟩
    have h1 := hperm.mem_iff.1 hs
    unfold coll at h1
    obtain ⟨k, hk, rfl⟩ := List.mem_map.1 h1
    obtain ⟨p, hp, rfl⟩ := List.mem_map.1 (List.mem_filter.1 hk).1
    exact ⟨p, hp, rfl⟩
  have HROW : Hid (w1.ownsRow w.heap.size 9 1 (.slice ad1 ss.length cs) ss.length (ss.map encStr) ∧ Chg nobody w w1) := ⟨hrow, hc1⟩
  have HS1 : Hid (ClS w sb vm V times [] 0 w1) := by
    obtain ⟨V', q1, q2, q3, q4, q5, q6, q7, q8⟩ := HS0.out
    exact ⟨V', q1.chg hc1 (fun h => h) (fun h => h) (fun _ _ h => h), q2, q3, q4, q5, q6, q7, q8.trans (hc1.any _)⟩
  clear hperm hrow hc1 HS0 hkeys
  go_loopw [5, 13] (fun n i wr => ∃ (j gone : Nat), j ≤ ss.length ∧ i = .int .i64 j ∧ n = .int .i64 gone ∧ Hid (ClS w sb vm V times (ss.take j) gone wr ∧ Chg (fun b => b = vm) w1 wr)) (fun _ i _ => ss.length - (intOf i).toNat)
  case atStart => exact ⟨0, 0, Nat.zero_le _, rfl, rfl, ⟨HS1.out, Chg.refl _ _⟩⟩
  case round =>
    obtain ⟨j, gone, hj, rfl, rfl, HC⟩ := hrel
    by_cases hlt : j < ss.length
    · obtain ⟨⟨V', q1, q2, q3, q4, q5, q6, q7, q8⟩, hcw⟩ := HC.out
      have hrw : wr.ownsRow w.heap.size 9 1 (.slice ad1 ss.length cs) ss.length (ss.map encStr) := ownsRow_chg HROW.out.1 hcw (fun g hg (e : g = vm) => by have := (HROW.out.1.lt g hg).1; have := HV.out.2.2.1; omega)
      obtain ⟨gs, rfl, _, _, _, hcs⟩ := row_open hrw (by omega)
      obtain ⟨p, hpV, hps⟩ := HSS.out.2.1 ss[j] (List.getElem_mem hlt)
      have cj : wr.cell? ⟨gs, j, none⟩ = some (.string p.1) := hcs j _ (by simp [List.getElem?_eq_getElem hlt, ← hps, encStr_of])
      have hxs : p.1.size ≤ maxLen := by have := HV.out.2.1 p hpV; unfold maxLen; omega
      have hkm : p.1 ∈ V'.map Prod.fst := by rw [q2]; exact List.mem_map.2 ⟨p, hpV, rfl⟩
      obtain ⟨e, he⟩ : ∃ e, getA p.1 V' = some e := Option.isSome_iff_exists.1 ((getA_isSome _ _).2 hkm)
      have hnot : p.1.data.toList ∉ ss.take j := by
        rw [hps]
        intro hm
        obtain ⟨i, hi, he⟩ := List.getElem_of_mem hm
        rw [List.length_take] at hi
        rw [List.getElem_take] at he
        exact (List.pairwise_iff_getElem.1 HSS.out.1) i j (by omega) hlt (by omega) he
      have htk : ss.take (j + 1) = ss.take j ++ [p.1.data.toList] := by rw [hps]; exact List.take_succ_eq_append_getElem hlt
      obtain ⟨ad2, cap2, hlook, hrow2, _, hE, _⟩ := q1.looks p.1
      obtain ⟨rfl, rfl⟩ := hE e he
      have hve : versOf p.1 V' = e.vs := by unfold versOf; rw [he]
      rw [hve] at hlook hrow2
      have hlk := hlook wr rfl hxs
      have hel : e.vs.length ≤ 100 := by
        have h1 := sum_put (E := ⟨0, 0, []⟩) he
        have h2 := HV.out.2.2.2
        simp only [List.length_nil] at h1
        omega
      have hg100 : gone ≤ 100 := by have := HV.out.2.2.2; omega
      have hkl := keepV_len times e.vs
      have hnd := needed_any e.vb e.cap capt ad e.vs times wr hrow2 (HT.out wr q8) (by omega) htl
      have hc0 : wr.cell? ⟨sb, 0, none⟩ = some (.map (some vm)) := cell_of q1.st rfl
      have hsb0 := lt_of_block q1.st
      have hpos : 0 < (keepV times e.vs).length := List.length_pos_iff.2 (keepV_ne times e.vs (q7 _ (getA_mem he)))
      have HMU : Hid (∀ (w2 : World) (g c : Nat), Chg nobody wr w2 → w2.ownsRow wr.heap.size 167 3 (.slice (some ⟨g, 0, none⟩) (keepV times e.vs).length c) (keepV times e.vs).length (vCells (keepV times e.vs)) →
          ∃ w3, (Instr.mapUpdate 104 (.map (some vm)) (.string p.1) (.slice (some ⟨g, 0, none⟩) (keepV times e.vs).length c)).run Tryz.prog w2 = .ok () w3 ∧ ClS w sb vm V times (ss.take (j + 1)) (gone + (e.vs.length - (keepV times e.vs).length)) w3 ∧ Chg (fun b => b = vm) w2 w3) := fun w2 g c hc2 hrow3 => by
        obtain ⟨w3, r1, r2, r3, _⟩ := (q1.vs.of_block (hc2.block vm q1.vs.lt (fun h => h))).store keyS mkS_inj Tryz.underlying104 (a := p.1) (keyOfS hxs) ⟨g, c, keepV times e.vs⟩
        have hc3 : Chg (fun b => b = vm) w2 w3 := (Chg.refl _ _).grown r3 (fun k e => Or.inl (by cases e; rfl))
        exact ⟨w3, r1, htk ▸ ClS.next q1 q2 q3 q4 q5 q6 q7 q8 he hnot hsv hc2 hrow3 r2 hc3, hc3⟩
      have HCW : Hid (Chg (fun b => b = vm) w1 wr) := hcw
      clear hlook hrow2 hE q1 q2 q3 q4 q5 q6 q7 q8 hcw hrw hcs hps hkm he hnot htk hve hpV HC
      generalize (keepV times e.vs).length = kn at *
      generalize e.vs.length = ln at *
      generalize p.1 = x at *
      go_wp2_with (first
        | (go_at_call 111; refine hnd.mono ?_; rintro e2 w2 ⟨v2, rfl, hrow3, hc2⟩; obtain ⟨ad3, cs3, rfl⟩ := row_form hrow3; obtain ⟨g3, rfl, _, _, _, _⟩ := row_open hrow3 hpos; obtain ⟨w3, hmu, hcl, hc3⟩ := HMU.out w2 g3 cs3 hc2 hrow3; have HR : Hid (ClS w sb vm V times (ss.take (j + 1)) (gone + (ln - kn)) w3 ∧ Chg (fun b => b = vm) w1 w3) := ⟨hcl, (HCW.out.trans (hc2.any _)).trans hc3⟩; have hc0' : w2.cell? ⟨sb, 0, none⟩ = some (.map (some vm)) := (by rw [(bcell hc2).1 _ _ hsb0]; exact hc0); clear hcl hc3 hrow3))
      go_roundw
      case rel => exact ⟨j + 1, gone + (ln - kn), by omega, by go_num, by (first | (go_num; done) | (congr 1; omega)), HR.out⟩
      case measure => simp [intOf]; omega
    · have hjl : j = ss.length := by omega
      subst hjl
      go_wp2
      go_ret
      refine ⟨gone, rfl, ?_⟩
      obtain ⟨V', q1, q2, q3, q4, q5, q6, q7, q8⟩ := HC.out.1
      refine ⟨V', q1, q2, fun k => ?_, q4, q5, q6, q7, q8⟩
      rw [q3 k, List.take_length]
      simp only [HSS.out.2.2.mem_iff]
end Go.Proofs.YtkfjafndplmdkaaGreat
