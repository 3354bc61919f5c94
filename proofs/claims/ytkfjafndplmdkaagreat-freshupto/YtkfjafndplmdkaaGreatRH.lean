import Derived.Test.YtkfjafndplmdkaaGreatTO
namespace Go.Proofs.YtkfjafndplmdkaaGreat
open Go.RowKit Go.Sort
def Ver.cells (v : Ver) : List Value := [.string v.key, .int .i64 v.time, .string v.val, .bool v.gone]
def verCells (l : List Ver) : List Value := l.flatMap Ver.cells
theorem ver_at {w : World} {base g cap n : Nat} {l : List Ver} (h : w.ownsRow base 103 4 (.slice (some ⟨g, 0, none⟩) n cap) n (verCells l)) (i : Nat) (hi : i < l.length) :
    w.cell? ⟨g, i * 4, none⟩ = some (.string l[i].key) ∧ w.cell? ⟨g, i * 4 + 1, none⟩ = some (.int .i64 l[i].time) ∧ w.cell? ⟨g, i * 4 + 2, none⟩ = some (.string l[i].val) ∧ w.cell? ⟨g, i * 4 + 3, none⟩ = some (.bool l[i].gone) := by
  have g0 : ∀ r u, r < 4 → (l[i].cells)[r]? = some u → w.cell? ⟨g, i * 4 + r, none⟩ = some u := fun r u hr hu => row_cells h _ u (by unfold verCells; rw [flat_at Ver.cells (fun _ => rfl) l i r hi hr]; exact hu)
  exact ⟨g0 0 _ (by omega) rfl, g0 1 _ (by omega) rfl, g0 2 _ (by omega) rfl, g0 3 _ (by omega) rfl⟩
set_option maxHeartbeats 400000 in
theorem no_any (c : Int) (w : World) : Calls Tryz.prog 49 #[.int .i64 c] w fun e w' => e = .returned (ansV c 0 false ⟨#[]⟩ (.slice none 0 0)) ∧ Chg nobody w w' := by
  go_enter Tryz.func49, Tryz.ntmps49
  go_wp2
  exact bodyPost_ret (v := ansV c 0 false ⟨#[]⟩ (.slice none 0 0)) (by simp [results, Tryz.results49, go_sem]) rfl ⟨rfl, (Chg.refl _ _).alloc _⟩
def findI (ss : List Int) (n : Int) : Int := match ss.findIdx? (· == n) with | some j => j | none => -1
theorem findI_hit {ss : List Int} {n : Int} {k : Nat} (h : k < ss.length) (he : ss[k] = n) (hn : ∀ i (h : i < ss.length), i < k → ss[i] ≠ n) : findI ss n = k := by
  unfold findI
  rw [List.findIdx?_eq_some_iff_getElem.2 ⟨h, by simpa using he, fun j hj => by simpa using hn j (by omega) hj⟩]
theorem findI_miss {ss : List Int} {n : Int} (hn : ∀ i (h : i < ss.length), ss[i] ≠ n) : findI ss n = -1 := by
  unfold findI
  rw [List.findIdx?_eq_none_iff.2 (fun x hx => by obtain ⟨i, h, rfl⟩ := List.getElem_of_mem hx; simpa using hn i h)]
set_option maxHeartbeats 1000000 in
theorem find_any (wb c : Nat) (ad : Option Addr) (ss : List Int) (n : Int) (w : World) (hl : ss.length ≤ 2000000) (h2 : w.cell? ⟨wb, 2, none⟩ = some (.slice ad ss.length c)) (hc : 0 < ss.length → ∃ g, ad = some ⟨g, 0, none⟩ ∧ ∀ j (h : j < ss.length), w.cell? ⟨g, j * 4, none⟩ = some (.int .i64 ss[j])) :
    Calls Tryz.prog 50 #[.pointer (some ⟨wb, 0, none⟩), .int .i64 n] w fun e w' => e = .returned (.int .i64 (findI ss n)) ∧ w' = w := by
  have HC : Hid (0 < ss.length → ∃ g, ad = some ⟨g, 0, none⟩ ∧ ∀ j (h : j < ss.length), w.cell? ⟨g, j * 4, none⟩ = some (.int .i64 ss[j])) := hc
  clear hc
  go_enter Tryz.func50, Tryz.ntmps50
  go_wp2
  go_loop [5] (fun i => ∃ k : Nat, k ≤ ss.length ∧ i = .int .i64 k ∧ Hid (∀ i (h : i < ss.length), i < k → ss[i] ≠ n)) (fun i => ss.length - (intOf i).toNat)
  case atStart => exact ⟨0, Nat.zero_le _, rfl, fun i _ h => by omega⟩
  case round =>
    obtain ⟨k, hk, rfl, HN⟩ := hrel
    by_cases hlt : k < ss.length
    · obtain ⟨g, rfl, hcg⟩ := HC.out (by omega)
      have hce := hcg k hlt
      clear hcg
      by_cases he : ss[k] = n
      · have hb : (ss[k] == n) = true := beq_iff_eq.2 he
        have HE : Hid (ss[k] = n) := he
        clear he
        go_wp2
        go_ret
        exact ⟨congrArg (fun x => Ending.returned (Value.int .i64 x)) (findI_hit hlt HE.out HN.out).symm, rfl⟩
      · have hb : (ss[k] == n) = false := beq_eq_false_iff_ne.2 he
        have HE : Hid (ss[k] ≠ n) := he
        clear he
        go_wp2
        go_round
        case rel => exact ⟨k + 1, by omega, by go_num, fun i h hi => by
          by_cases hik : i = k
          · subst hik; exact HE.out
          · exact HN.out i h (by omega)⟩
        case measure => simp [intOf]; omega
    · go_wp2
      go_ret
      exact ⟨congrArg (fun x => Ending.returned (Value.int .i64 x)) (findI_miss (fun i h => HN.out i h (by omega))).symm, rfl⟩
set_option maxHeartbeats 1000000 in
theorem queued_any (wb c : Nat) (ad : Option Addr) (ss : List Int) (n : Int) (w : World) (hl : ss.length ≤ 2000000) (h2 : w.cell? ⟨wb, 3, none⟩ = some (.slice ad ss.length c)) (hc : 0 < ss.length → ∃ g, ad = some ⟨g, 0, none⟩ ∧ ∀ j (h : j < ss.length), w.cell? ⟨g, j, none⟩ = some (.int .i64 ss[j])) :
    Calls Tryz.prog 51 #[.pointer (some ⟨wb, 0, none⟩), .int .i64 n] w fun e w' => e = .returned (.bool (decide (n ∈ ss))) ∧ w' = w := by
  have HC : Hid (0 < ss.length → ∃ g, ad = some ⟨g, 0, none⟩ ∧ ∀ j (h : j < ss.length), w.cell? ⟨g, j, none⟩ = some (.int .i64 ss[j])) := hc
  clear hc
  go_enter Tryz.func51, Tryz.ntmps51
  go_wp2
  go_loop [5] (fun i => ∃ k : Nat, k ≤ ss.length ∧ i = .int .i64 k ∧ Hid (∀ i (h : i < ss.length), i < k → ss[i] ≠ n)) (fun i => ss.length - (intOf i).toNat)
  case atStart => exact ⟨0, Nat.zero_le _, rfl, fun i _ h => by omega⟩
  case round =>
    obtain ⟨k, hk, rfl, HN⟩ := hrel
    by_cases hlt : k < ss.length
    · obtain ⟨g, rfl, hcg⟩ := HC.out (by omega)
      have hce := hcg k hlt
      clear hcg
      by_cases he : ss[k] = n
      · have hb : (ss[k] == n) = true := beq_iff_eq.2 he
        have HE : Hid (ss[k] = n) := he
        clear he
        go_wp2
        go_ret
        exact ⟨congrArg (fun x => Ending.returned (Value.bool x)) (show decide (n ∈ ss) = true from decide_eq_true (by rw [← HE.out]; exact List.getElem_mem _)).symm, rfl⟩
      · have hb : (ss[k] == n) = false := beq_eq_false_iff_ne.2 he
        have HE : Hid (ss[k] ≠ n) := he
        clear he
        go_wp2
        go_round
        case rel => exact ⟨k + 1, by omega, by go_num, fun i h hi => by
          by_cases hik : i = k
          · subst hik; exact HE.out
          · exact HN.out i h (by omega)⟩
        case measure => simp [intOf]; omega
    · go_wp2
      go_ret
      exact ⟨congrArg (fun x => Ending.returned (Value.bool x)) (show decide (n ∈ ss) = false from decide_eq_false (fun hm => by
        obtain ⟨i, h, he⟩ := List.getElem_of_mem hm
        exact HN.out i h (by omega) he)).symm, rfl⟩
end Go.Proofs.YtkfjafndplmdkaaGreat
namespace Go.Proofs.YtkfjafndplmdkaaGreat
open Go.RowKit Go.Sort
theorem atM_hit {L : List Ver} {key : ByteArray} {t : Int} {k : Nat} (h : k < L.length) (h1 : L[k].key = key) (h2 : L[k].time ≤ t) (hn : ∀ i (h : i < L.length), k < i → ¬ (L[i].key = key ∧ L[i].time ≤ t)) : atM L key t = (L[k].val, !L[k].gone) := by
  unfold atM
  have e : L = L.take k ++ L[k] :: L.drop (k + 1) := by
    rw [← List.drop_eq_getElem_cons h, List.take_append_drop]
  have hf : L.reverse.find? (fun v => decide (v.key = key) && decide (v.time ≤ t)) = some L[k] := by
    generalize hx : L[k] = x at *
    rw [e, List.reverse_append, List.reverse_cons, List.append_assoc, List.find?_append, List.find?_eq_none.2]
    · simp [h1, h2]
    · intro v hv
      obtain ⟨i, hi, rfl⟩ := List.getElem_of_mem (List.mem_reverse.1 hv)
      rw [List.length_drop] at hi
      have := hn (k + 1 + i) (by omega) (by omega)
      simpa using this
  rw [hf]
theorem atM_miss {L : List Ver} {key : ByteArray} {t : Int} (hn : ∀ i (h : i < L.length), ¬ (L[i].key = key ∧ L[i].time ≤ t)) : atM L key t = (⟨#[]⟩, false) := by
  unfold atM
  rw [List.find?_eq_none.2]
  intro v hv
  obtain ⟨i, hi, rfl⟩ := List.getElem_of_mem (List.mem_reverse.1 hv)
  simpa using hn i hi
set_option maxHeartbeats 1000000 in
theorem at_any (wb c base : Nat) (ad : Option Addr) (L : List Ver) (key : ByteArray) (t : Int) (w : World) (hl : L.length ≤ 2000000) (h1 : w.cell? ⟨wb, 1, none⟩ = some (.slice ad L.length c)) (hr : w.ownsRow base 103 4 (.slice ad L.length c) L.length (verCells L)) :
    Calls Tryz.prog 95 #[.pointer (some ⟨wb, 0, none⟩), .string key, .int .i64 t] w fun e w' => e = .returned (.tuple #[.string (atM L key t).1, .bool (atM L key t).2]) ∧ Chg nobody w w' := by
  have HC : Hid (w.ownsRow base 103 4 (.slice ad L.length c) L.length (verCells L)) := hr
  clear hr
  go_enter Tryz.func95, Tryz.ntmps95
  go_wp2
  go_loop [8] (fun i => ∃ k : Nat, k ≤ L.length ∧ i = .int .i64 ((k : Int) - 1) ∧ Hid (∀ i (h : i < L.length), k ≤ i → ¬ (L[i].key = key ∧ L[i].time ≤ t))) (fun i => (intOf i + 1).toNat)
  case atStart => exact ⟨L.length, Nat.le_refl _, by go_num, fun i h hh => by omega⟩
  case round =>
    obtain ⟨k, hk, rfl, HN⟩ := hrel
    cases k with
    | zero =>
      have hb : decide ((0 : Int) ≤ ((0 : Nat) : Int) - 1) = false := by decide
      go_wp2
      have e := atM_miss (L := L) (key := key) (t := t) (fun i h => HN.out i h (by omega))
      exact bodyPost_ret (v := .tuple #[.string ⟨#[]⟩, .bool false]) (by simp [results, Tryz.results95, go_sem]) rfl ⟨by rw [e], Chg.refl _ _⟩
    | succ k =>
      rw [show ((k + 1 : Nat) : Int) - 1 = (k : Int) by omega]
      have hlt : k < L.length := by omega
      have hb : decide ((0 : Int) ≤ (k : Int)) = true := by simp
      obtain ⟨g, rfl, _, _, _, _⟩ := row_open HC.out (by omega)
      obtain ⟨c0, c1, c2, c3⟩ := ver_at HC.out k hlt
      have HX := @atM_hit L key t k hlt
      have HS : Hid (∀ i (h : i < L.length), k < i → ¬ (L[i].key = key ∧ L[i].time ≤ t)) := fun i h hi => HN.out i h (by omega)
      have HT : Hid (¬ (L[k].key = key ∧ L[k].time ≤ t) → ∀ i (h : i < L.length), k ≤ i → ¬ (L[i].key = key ∧ L[i].time ≤ t)) := fun hn i h hi => by
        by_cases hik : i = k
        · subst hik; exact hn
        · exact HS.out i h (by omega)
      by_cases he : L[k].key = key
      · by_cases ht : L[k].time ≤ t
        · have hv := HX he ht HS.out
          have HV : Hid (atM L key t = (L[k].val, !L[k].gone)) := hv
          obtain ⟨b1, b1'⟩ := ba_t he
          have b2 : decide (L[k].time ≤ t) = true := decide_eq_true ht
          clear he ht hv HX HT
          generalize L[k] = x at *
          go_wp2
          go_region
          go_wp2
          exact bodyPost_ret (v := .tuple #[.string x.val, .bool (!x.gone)]) (by simp [results, Tryz.results95, go_sem]) rfl ⟨by rw [HV.out], (Chg.refl _ _).drew⟩
        · have HV : Hid (¬ (L[k].key = key ∧ L[k].time ≤ t)) := fun h => ht h.2
          obtain ⟨b1, b1'⟩ := ba_t he
          have b2 : decide (L[k].time ≤ t) = false := decide_eq_false ht
          clear he ht HX
          go_wp2
          go_round
          case rel => exact ⟨k, by omega, by go_num, HT.out HV.out⟩
          case measure => simp [intOf]
      · have HV : Hid (¬ (L[k].key = key ∧ L[k].time ≤ t)) := fun h => he h.1
        obtain ⟨b1, b1'⟩ := ba_f he
        clear he HX
        go_wp2
        go_round
        case rel => exact ⟨k, by omega, by go_num, HT.out HV.out⟩
        case measure => simp [intOf]
theorem seesM_hit {ws L : List Ver} {key : ByteArray} {t : Int} {k : Nat} (h : k < ws.length) (h1 : ws[k].key = key) (hn : ∀ i (h : i < ws.length), i < k → ws[i].key ≠ key) : seesM ws L t key = (ws[k].val, !ws[k].gone) := by
  unfold seesM
  have hf : ws.find? (fun v => decide (v.key = key)) = some ws[k] := by
    rw [List.find?_eq_some_iff_getElem]
    exact ⟨by simpa using h1, k, h, rfl, fun j hj => by simpa using hn j (by omega) hj⟩
  rw [hf]
theorem seesM_miss {ws L : List Ver} {key : ByteArray} {t : Int} (hn : ∀ i (h : i < ws.length), ws[i].key ≠ key) : seesM ws L t key = atM L key t := by
  unfold seesM
  rw [List.find?_eq_none.2]
  intro v hv
  obtain ⟨i, hi, rfl⟩ := List.getElem_of_mem hv
  simpa using hn i hi
set_option maxHeartbeats 1000000 in
theorem rsees_any (wb c base base' cw : Nat) (ad adw : Option Addr) (L ws : List Ver) (key : ByteArray) (t : Int) (kv pv : Value) (w : World) (hl : L.length ≤ 2000000) (hlw : ws.length ≤ 2000000) (h1 : w.cell? ⟨wb, 1, none⟩ = some (.slice ad L.length c)) (hr : w.ownsRow base 103 4 (.slice ad L.length c) L.length (verCells L)) (hw : w.ownsRow base' 103 4 (.slice adw ws.length cw) ws.length (verCells ws)) :
    Calls Tryz.prog 68 #[.pointer (some ⟨wb, 0, none⟩), .agg #[.int .i64 t, .slice adw ws.length cw, kv, pv], .string key] w fun e w' => e = .returned (.tuple #[.string (seesM ws L t key).1, .bool (seesM ws L t key).2]) ∧ Chg nobody w w' := by
  have hwb : wb < w.heap.size := lt_of_cell h1
  have h1' : (w.alloc (.cells #[.int .i64 t, .slice adw ws.length cw, kv, pv] 97)).cell? ⟨wb, 1, none⟩ = some (.slice ad L.length c) := by rw [World.cell?_alloc_past _ _ _ hwb]; exact h1
  have HC : Hid ((w.alloc (.cells #[.int .i64 t, .slice adw ws.length cw, kv, pv] 97)).ownsRow base 103 4 (.slice ad L.length c) L.length (verCells L) ∧ (w.alloc (.cells #[.int .i64 t, .slice adw ws.length cw, kv, pv] 97)).ownsRow base' 103 4 (.slice adw ws.length cw) ws.length (verCells ws) ∧ Chg nobody w (w.alloc (.cells #[.int .i64 t, .slice adw ws.length cw, kv, pv] 97))) := ⟨hr.alloc _, hw.alloc _, (Chg.refl _ _).alloc _⟩
  have e0 := cell_of (heap_new (w := w) (o := .cells #[.int .i64 t, .slice adw ws.length cw, kv, pv] 97) rfl) (i := 0) rfl
  have e1 := cell_of (heap_new (w := w) (o := .cells #[.int .i64 t, .slice adw ws.length cw, kv, pv] 97) rfl) (i := 1) rfl
  clear hr hw h1
  generalize hs : w.heap.size = s at *
  have HS : Hid (w.heap.size = s) := hs
  go_enter Tryz.func68, Tryz.ntmps68
  go_wp2
  generalize w.alloc (.cells #[.int .i64 t, .slice adw ws.length cw, kv, pv] 97) = W at *
  go_loop [8] (fun i => ∃ k : Nat, k ≤ ws.length ∧ i = .int .i64 k ∧ Hid (∀ i (h : i < ws.length), i < k → ws[i].key ≠ key)) (fun i => ws.length - (intOf i).toNat)
  case atStart => exact ⟨0, Nat.zero_le _, rfl, fun i _ h => by omega⟩
  case round =>
    obtain ⟨k, hk, rfl, HN⟩ := hrel
    by_cases hlt : k < ws.length
    · obtain ⟨g, rfl, _, _, _, _⟩ := row_open HC.out.2.1 (by omega)
      obtain ⟨c0, c1, c2, c3⟩ := ver_at HC.out.2.1 k hlt
      by_cases he : ws[k].key = key
      · have HV : Hid (seesM ws L t key = (ws[k].val, !ws[k].gone)) := seesM_hit hlt he HN.out
        obtain ⟨b1, b1'⟩ := ba_t he
        clear he
        generalize ws[k] = x at *
        go_wp2
        go_region
        go_wp2
        exact bodyPost_ret (v := .tuple #[.string x.val, .bool (!x.gone)]) (by simp [results, Tryz.results68, go_sem]) rfl ⟨by rw [HV.out], HC.out.2.2.drew⟩
      · obtain ⟨b1, b1'⟩ := ba_f he
        have HE : Hid (ws[k].key ≠ key) := he
        clear he
        go_wp2
        go_round
        case rel => exact ⟨k + 1, by omega, by go_num, fun i h hi => by
          by_cases hik : i = k
          · subst hik; exact HE.out
          · exact HN.out i h (by omega)⟩
        case measure => simp [intOf]; omega
    · have HV : Hid (seesM ws L t key = atM L key t) := seesM_miss (fun i h => HN.out i h (by omega))
      go_wp2_with fail
      refine (at_any wb c base ad L key t _ hl h1' HC.out.1).mono ?_
      rintro e w' ⟨rfl, hch⟩
      go_wp2
      exact bodyPost_ret (v := .tuple #[.string (atM L key t).1, .bool (atM L key t).2]) (by simp [results, Tryz.results68, go_sem]) rfl ⟨by rw [HV.out], HC.out.2.2.trans hch⟩
end Go.Proofs.YtkfjafndplmdkaaGreat
namespace Go.Proofs.YtkfjafndplmdkaaGreat
open Go.RowKit Go.Sort
def Ver.v (x : Ver) : Value := .agg #[.string x.key, .int .i64 x.time, .string x.val, .bool x.gone]
def Ver.zero : Ver := ⟨⟨#[]⟩, 0, ⟨#[]⟩, false⟩
theorem info72 : (Tryz.prog.info? 103).map (fun i => (i.zero, i.size, i.bytes)) = some (some Ver.zero.v, 4, 48) := by kernel_rfl
theorem ver_one (x : Ver) : ∀ u ∈ x.cells, u.oneCell' = true := by
  intro u hu
  simp only [Ver.cells, List.mem_cons, List.not_mem_nil, or_false] at hu
  rcases hu with rfl | rfl | rfl | rfl <;> rfl
theorem verCells_append (a b : List Ver) : verCells (a ++ b) = verCells a ++ verCells b := by simp [verCells]
theorem verCells_one (x : Ver) : verCells [x] = x.cells := by simp [verCells]
theorem lessK_take (l : List Ver) (key : ByteArray) (j : Nat) (h : j < l.length) : lessK (l.take (j + 1)) key = lessK (l.take j) key ++ (if l[j].key = key then [] else [l[j]]) := by
  unfold lessK
  rw [List.take_succ_eq_append_getElem h, List.filter_append]
  by_cases hk : l[j].key = key <;> simp [hk]
theorem lessK_len (l : List Ver) (key : ByteArray) : (lessK l key).length ≤ l.length := List.length_filter_le _ _
set_option maxRecDepth 100000 in
set_option maxHeartbeats 1000000 in
theorem rwrite_any (base cw : Nat) (adw : Option Addr) (ws : List Ver) (x : Ver) (w : World) (hlw : ws.length ≤ 2000000) (hw : w.ownsRow base 103 4 (.slice adw ws.length cw) ws.length (verCells ws)) :
    Calls Tryz.prog 70 #[.slice adw ws.length cw, x.v] w fun e w' => ∃ v, e = .returned v ∧ w'.ownsRow w.heap.size 103 4 v (writeM ws x).length (verCells (writeM ws x)) ∧ Chg nobody w w' := by
  obtain ⟨i0, hi, hz0, hz1, hz2⟩ := info_parts info72
  unfold Ver.v
  have HC : Hid ((w.alloc (.cells #[.string x.key, .int .i64 x.time, .string x.val, .bool x.gone] 103)).ownsRow base 103 4 (.slice adw ws.length cw) ws.length (verCells ws) ∧ Chg nobody w (w.alloc (.cells #[.string x.key, .int .i64 x.time, .string x.val, .bool x.gone] 103)) ∧ (w.alloc (.cells #[.string x.key, .int .i64 x.time, .string x.val, .bool x.gone] 103)).heap[w.heap.size]? = some (.cells #[.string x.key, .int .i64 x.time, .string x.val, .bool x.gone] 103)) := ⟨hw.alloc _, (Chg.refl _ _).alloc _, heap_new rfl⟩
  clear hw
  generalize hs : w.heap.size = s at *
  have HS : Hid (w.heap.size = s) := hs
  go_enter Tryz.func70, Tryz.ntmps70
  go_wp2
  generalize w.alloc (.cells #[.string x.key, .int .i64 x.time, .string x.val, .bool x.gone] 103) = W at *
  clear hs
  go_loopw [5, 6] (fun v i wr => ∃ j : Nat, j ≤ ws.length ∧ i = .int .i64 j ∧ wr.ownsRow W.heap.size 103 4 v (lessK (ws.take j) x.key).length (verCells (lessK (ws.take j) x.key)) ∧ Chg nobody W wr) (fun _ i _ => ws.length - (intOf i).toNat)
  case atStart => exact ⟨0, Nat.zero_le _, rfl, World.ownsRow_nil _ _ _ _, Chg.refl _ _⟩
  case round =>
    obtain ⟨j, hj, rfl, hrow, hc⟩ := hrel
    have hsz : W.heap.size ≤ wr.heap.size := hc.size
    have hsl : s < W.heap.size := lt_of_block HC.out.2.2
    have hbx : wr.heap[s]? = some (.cells #[.string x.key, .int .i64 x.time, .string x.val, .bool x.gone] 103) := (hc.block s hsl (fun h => h)).trans HC.out.2.2
    have x0 := cell_of hbx (i := 0) rfl
    have x1 := cell_of hbx (i := 1) rfl
    have x2 := cell_of hbx (i := 2) rfl
    have x3 := cell_of hbx (i := 3) rfl
    have HH : Hid (Chg nobody W wr) := hc
    clear hc hbx
    have hol : (lessK (ws.take j) x.key).length ≤ j := Nat.le_trans (lessK_len _ _) (List.length_take_le _ _)
    by_cases hlt : j < ws.length
    · have HR : Hid (wr.ownsRow base 103 4 (.slice adw ws.length cw) ws.length (verCells ws)) := ownsRow_chg HC.out.1 HH.out (fun _ _ h => h)
      obtain ⟨g, rfl, _, _, _, _⟩ := row_open HR.out (by omega)
      obtain ⟨c0, c1, c2, c3⟩ := ver_at HR.out j hlt
      have HT : Hid (lessK (ws.take (j + 1)) x.key = lessK (ws.take j) x.key ++ (if ws[j].key = x.key then [] else [ws[j]])) := lessK_take ws x.key j hlt
      by_cases he : ws[j].key = x.key
      · obtain ⟨b1, b1'⟩ := ba_t he
        have HE : Hid (ws[j].key = x.key) := he
        clear he
        go_wp2
        go_region
        go_wp2
        go_roundw
        case rel =>
          refine ⟨j + 1, by omega, by go_num, ?_, HH.out.drew⟩
          rw [HT.out, if_pos HE.out]
          simpa using row_drew hrow
        case measure => simp [intOf]; omega
      · obtain ⟨b1, b1'⟩ := ba_f he
        have HE : Hid (ws[j].key ≠ x.key) := he
        clear he
        generalize ws[j] = y at *
        go_wp2
        go_region
        go_wp2_with (at_builtin; refine wpList_append_own _ rfl _ _ 75 rfl W.heap.size 103 i0 Ver.zero.v 4 48 Tryz.underlying75 hi hz0 hz1 hz2 rfl (by decide) _ _ _ rfl ((row_drew hrow).alloc _) ⟨wr.heap.size, 0, none⟩ 1 1 y.cells rfl rfl (cells_new wr.drew #[.string y.key, .int .i64 y.time, .string y.val, .bool y.gone] 103) (ver_one y) (by unfold maxLen; omega) (by omega) (by simp; omega) ?_; intro v' w1 hown1 hg1 _; go_frame)
        go_roundw
        case rel =>
          refine ⟨j + 1, by omega, by go_num, ?_, (HH.out.drew.alloc _).grown hg1 (fun k e => Or.inr (hrow.lt k e).1)⟩
          rw [HT.out, if_neg HE.out, verCells_append, verCells_one]
          simpa using hown1
        case measure => simp [intOf]; omega
    · have hjl : j = ws.length := by omega
      subst hjl
      rw [List.take_length] at hrow hol
      go_wp2_with (at_builtin; refine wpList_append_own _ rfl _ _ 75 rfl W.heap.size 103 i0 Ver.zero.v 4 48 Tryz.underlying75 hi hz0 hz1 hz2 rfl (by decide) _ _ _ rfl (hrow.alloc _) ⟨wr.heap.size, 0, none⟩ 1 1 x.cells rfl rfl (cells_new wr #[.string x.key, .int .i64 x.time, .string x.val, .bool x.gone] 103) (ver_one x) (by unfold maxLen; omega) (by omega) (by simp; omega) ?_; intro v' w1 hown1 hg1 _)
      go_ret
      refine ⟨_, rfl, ?_, (HC.out.2.1.trans (HH.out.alloc _)).grown hg1 (fun k e => Or.inr (by have := (hrow.lt k e).1; have := HS.out; omega))⟩
      unfold writeM
      rw [verCells_append, verCells_one]
      refine ownsRow_base (base := W.heap.size) ?_ (by omega)
      simpa using hown1
end Go.Proofs.YtkfjafndplmdkaaGreat
namespace Go.Proofs.YtkfjafndplmdkaaGreat
open Go.RowKit Go.Sort
theorem pk_eq (p s : ByteArray) : pk p s = (decide (p.size ≤ s.size) && ((s.extract 0 p.size).toList == p.toList)) := (Lib.hasPrefix_raw s p).symm
set_option maxHeartbeats 1000000 in
theorem begins_any (s p : ByteArray) (w : World) :
    Calls Tryz.prog 96 #[.string s, .string p] w fun e w' => e = .returned (.bool (pk p s)) ∧ w' = w := by
  by_cases hl : p.size ≤ s.size
  · have b1 : decide ((p.size : Int) ≤ (s.size : Int)) = true := decide_eq_true (by omega)
    by_cases he : s.extract 0 p.size = p
    · obtain ⟨b2, b3⟩ := ba_t he
      have HV : Hid (pk p s = true) := (by rw [pk_eq, b3]; simpa using hl : pk p s = true)
      clear he
      go_enter Tryz.func96, Tryz.ntmps96
      go_wp2
      go_ret
      exact ⟨congrArg (fun x => Ending.returned (Value.bool x)) HV.out.symm, rfl⟩
    · obtain ⟨b2, b3⟩ := ba_f he
      have HV : Hid (pk p s = false) := (by rw [pk_eq, b3]; simp : pk p s = false)
      clear he
      go_enter Tryz.func96, Tryz.ntmps96
      go_wp2
      go_ret
      exact ⟨congrArg (fun x => Ending.returned (Value.bool x)) HV.out.symm, rfl⟩
  · have b1 : decide ((p.size : Int) ≤ (s.size : Int)) = false := decide_eq_false (by omega)
    have HV : Hid (pk p s = false) := (by rw [pk_eq]; simp [hl] : pk p s = false)
    go_enter Tryz.func96, Tryz.ntmps96
    go_wp2
    go_ret
    exact ⟨congrArg (fun x => Ending.returned (Value.bool x)) HV.out.symm, rfl⟩
def strCells (l : List ByteArray) : List Value := l.map .string
theorem str_one (l : List ByteArray) : ∀ u ∈ strCells l, u.oneCell' = true := by
  intro u hu
  obtain ⟨x, _, rfl⟩ := List.mem_map.1 hu
  rfl
theorem asc_insert {l : List ByteArray} {s : ByteArray} {k : Nat} (hk : k ≤ l.length) (hl : Asc l) (h1 : ∀ i (h : i < l.length), i < k → ltB l[i] s) (h2 : ∀ i (h : i < l.length), k ≤ i → ltB s l[i]) : Asc (l.take k ++ [s] ++ l.drop k) := by
  unfold Asc at *
  rw [List.append_assoc, List.pairwise_append]
  have e : l.take k ++ l.drop k = l := List.take_append_drop k l
  rw [← e, List.pairwise_append] at hl
  obtain ⟨p1, p2, p3⟩ := hl
  have q1 : ∀ x ∈ l.take k, ltB x s := fun x hx => by
    obtain ⟨i, hi, rfl⟩ := List.getElem_of_mem hx
    rw [List.length_take] at hi
    simpa using h1 i (by omega) (by omega)
  have q2 : ∀ x ∈ l.drop k, ltB s x := fun x hx => by
    obtain ⟨i, hi, rfl⟩ := List.getElem_of_mem hx
    rw [List.length_drop] at hi
    simpa using h2 (k + i) (by omega) (by omega)
  refine ⟨p1, ?_, fun x hx y hy => ?_⟩
  · simp only [List.singleton_append, List.pairwise_cons]
    exact ⟨q2, p2⟩
  · simp only [List.singleton_append, List.mem_cons] at hy
    rcases hy with rfl | hy
    · exact q1 x hx
    · exact p3 x hx y hy
theorem mem_insert {l : List ByteArray} {s : ByteArray} {k : Nat} (x : ByteArray) : x ∈ l.take k ++ [s] ++ l.drop k ↔ x = s ∨ x ∈ l := by
  have e : x ∈ l ↔ x ∈ l.take k ∨ x ∈ l.drop k := by rw [← List.mem_append, List.take_append_drop]
  rw [e]
  simp only [List.mem_append, List.mem_singleton]
  constructor
  · rintro ((h | h) | h)
    · exact Or.inr (Or.inl h)
    · exact Or.inl h
    · exact Or.inr (Or.inr h)
  · rintro (h | h | h)
    · exact Or.inl (Or.inr h)
    · exact Or.inl (Or.inl h)
    · exact Or.inr h
theorem str_at {w : World} {base g cap n : Nat} {l : List ByteArray} (h : w.ownsRow base 9 1 (.slice (some ⟨g, 0, none⟩) n cap) n (strCells l)) (i : Nat) (hi : i < l.length) : w.cell? ⟨g, i, none⟩ = some (.string l[i]) :=
  row_cells h i _ (by simp [strCells, List.getElem?_eq_getElem hi])
set_option maxRecDepth 100000 in
set_option maxHeartbeats 1000000 in
theorem put_some (g cap base : Nat) (l : List ByteArray) (s : ByteArray) (w : World) (hn : l.length ≤ 8000000) (hl : Asc l) (hr : w.ownsRow base 9 1 (.slice (some ⟨g, 0, none⟩) l.length cap) l.length (strCells l)) (hb : base ≤ w.heap.size) :
    Calls Tryz.prog 97 #[.slice (some ⟨g, 0, none⟩) l.length cap, .string s] w fun e w' => ∃ v, e = .returned v ∧ ∃ l', w'.ownsRow base 9 1 v l'.length (strCells l') ∧ Asc l' ∧ (∀ x, x ∈ l' ↔ x = s ∨ x ∈ l) ∧ l'.length ≤ l.length + 1 ∧ v ≠ .slice none 0 0 ∧ Chg nobody w w' := by
  obtain ⟨i0, hi, hz0, hz1, hz2⟩ := info_parts info9
  have HC : Hid (w.ownsRow base 9 1 (.slice (some ⟨g, 0, none⟩) l.length cap) l.length (strCells l) ∧ Asc l) := ⟨hr, hl⟩
  have hcap : l.length ≤ cap := by
    rcases hr.2 with ⟨e, _⟩ | ⟨_, _, _, e, _, _, h, _⟩
    · cases e
    · cases e; exact h
  clear hr hl
  go_enter Tryz.func97, Tryz.ntmps97
  go_wp2
  go_loop [5, 6] (fun a i => ∃ k m : Nat, k ≤ l.length ∧ i = .int .i64 k ∧ a = .int .i64 m ∧ m ≤ k ∧ Hid ((∀ i (h : i < l.length), i < k → l[i] ≠ s) ∧ (∀ i (h : i < l.length), i < m → ltB l[i] s) ∧ (∀ i (h : i < l.length), m ≤ i → i < k → ltB s l[i]))) (fun _ i => l.length - (intOf i).toNat)
  case atStart => exact ⟨0, 0, Nat.zero_le _, rfl, rfl, Nat.le_refl _, fun i _ h => by omega, fun i _ h => by omega, fun i _ _ h => by omega⟩
  case round =>
    obtain ⟨k, m, hk, rfl, rfl, hmk, HN⟩ := hrel
    by_cases hlt : k < l.length
    · have hce := str_at HC.out.1 k hlt
      by_cases he : l[k] = s
      · obtain ⟨b1, b1'⟩ := ba_t he
        have HE : Hid (l[k] = s) := he
        clear he
        go_wp2
        go_ret
        exact ⟨_, rfl, l, HC.out.1, HC.out.2, fun x => ⟨Or.inr, fun h => h.elim (fun e => by rw [e, ← HE.out]; exact List.getElem_mem _) id⟩, by omega, (fun e => by cases e), Chg.refl _ _⟩
      · obtain ⟨b1, b1'⟩ := ba_f he
        by_cases hs : ltB l[k] s
        · have b2 := ltB_t hs
          have HE : Hid (l[k] ≠ s ∧ ltB l[k] s) := ⟨he, hs⟩
          clear he hs
          go_wp2
          go_round
          case rel =>
            obtain ⟨n1, n2, n3⟩ := HN.out
            refine ⟨k + 1, k + 1, by omega, by go_num, by go_num, Nat.le_refl _, fun i h hi => ?_, fun i h hi => ?_, fun i h h1 h2 => by omega⟩
            · by_cases hik : i = k
              · subst hik; exact HE.out.1
              · exact n1 i h (by omega)
            · by_cases hik : i = k
              · subst hik; exact HE.out.2
              · have := List.pairwise_iff_getElem.1 HC.out.2 i k h hlt (by omega)
                exact ltB_trans this HE.out.2
          case measure => simp [intOf]; omega
        · have b2 := ltB_f hs
          have HE : Hid (l[k] ≠ s ∧ ltB s l[k]) := ⟨he, ltB_tri hs he⟩
          clear he hs
          go_wp2
          go_round
          case rel =>
            obtain ⟨n1, n2, n3⟩ := HN.out
            refine ⟨k + 1, m, by omega, by go_num, rfl, by omega, fun i h hi => ?_, n2, fun i h h1 h2 => ?_⟩
            · by_cases hik : i = k
              · subst hik; exact HE.out.1
              · exact n1 i h (by omega)
            · by_cases hik : i = k
              · subst hik; exact HE.out.2
              · exact n3 i h h1 (by omega)
          case measure => simp [intOf]; omega
    · have hkl : k = l.length := by omega
      subst hkl
      have HF : Hid (Asc (l.take m ++ [s] ++ l.drop m) ∧ ∀ x, x ∈ l.take m ++ [s] ++ l.drop m ↔ x = s ∨ x ∈ l) := ⟨asc_insert hmk HC.out.2 HN.out.2.1 (fun i h hi => HN.out.2.2 i h hi h), mem_insert⟩
      have HY0 : Hid ((∀ j u, (strCells (l.take m))[j]? = some u → w.cell? ((⟨g, 0, none⟩ : Addr).add j) = some u) ∧ ∀ j u, (strCells (l.drop m))[j]? = some u → w.cell? ((⟨g, m, none⟩ : Addr).add j) = some u) := by
        have hx : ∀ i (h : i < l.length), w.cell? ⟨g, i, none⟩ = some (.string l[i]) := fun i h => str_at HC.out.1 i h
        constructor
        · intro j u hu
          have hj := (List.getElem?_eq_some_iff.1 hu).1
          simp only [strCells, List.length_map, List.length_take] at hj
          rw [addr_add, Nat.zero_add, hx j (by omega)]
          simpa [strCells, List.getElem?_take, show j < m by omega, List.getElem?_eq_getElem (show j < l.length by omega)] using hu
        · intro j u hu
          have hj := (List.getElem?_eq_some_iff.1 hu).1
          simp only [strCells, List.length_map, List.length_drop] at hj
          rw [addr_add, hx (m + j) (by omega)]
          simpa [strCells, List.getElem?_drop, List.getElem?_eq_getElem (show m + j < l.length by omega)] using hu
      by_cases hm0 : m = 0
      · subst hm0
        have HY : Hid ((∀ j u, (strCells [])[j]? = some u → w.cell? ((⟨g, 0, none⟩ : Addr).add j) = some u) ∧ ∀ j u, (strCells l)[j]? = some u → w.cell? ((⟨g, 0, none⟩ : Addr).add j) = some u) := ⟨fun j u hu => by simp [strCells] at hu, HY0.out.2⟩
        go_wp2_with (first | (at_builtin; refine wpList_append_own _ rfl _ _ 95 rfl w.heap.size 9 i0 (.string ⟨#[]⟩) 1 16 Tryz.underlying95 hi hz0 hz1 hz2 rfl (by decide) v2 _ _ rfl hown2 ⟨g, 0, none⟩ l.length cap (strCells l) rfl (by simp [strCells]) HY3.out (str_one _) (by unfold maxLen; omega) (by omega) hsz2 ?_; intro v3 w3 hown3 hg3 hnil3) | (at_builtin; refine wpList_append_own _ rfl _ _ 95 rfl w.heap.size 9 i0 (.string ⟨#[]⟩) 1 16 Tryz.underlying95 hi hz0 hz1 hz2 rfl (by decide) v1 _ _ rfl (hown1.alloc _) ⟨w1.heap.size, 0, none⟩ 1 1 [.string s] rfl rfl (cells_new w1 #[.string s] 9) (by simp [Value.oneCell']) (by unfold maxLen; omega) (by omega) (by simp; omega) ?_; intro v2 w2 hown2 hg2 hnil2; have hc2 : Chg nobody w w2 := (hc1.alloc _).grown hg2 (fun k e => Or.inr (hown1.lt k e).1); have hsz2 : w.heap.size ≤ w2.heap.size := hc2.size; have HY3 : Hid (∀ j u, (strCells l)[j]? = some u → w2.cell? ((⟨g, 0, none⟩ : Addr).add j) = some u) := (fun j u hu => by have h0 := HY.out.2 j u hu; rw [hc2.below.cell (lt_of_cell h0)]; exact h0)) | (at_builtin; refine wpList_append_own _ rfl _ _ 95 rfl w.heap.size 9 i0 (.string ⟨#[]⟩) 1 16 Tryz.underlying95 hi hz0 hz1 hz2 rfl (by decide) _ 0 [] rfl (World.ownsRow_nil _ _ _ _) ⟨g, 0, none⟩ 0 cap (strCells []) rfl (by simp [strCells]; try omega) HY.out.1 (str_one _) (by unfold maxLen; omega) (by omega) (Nat.le_refl _) ?_; intro v1 w1 hown1 hg1 _; have hc1 : Chg nobody w w1 := (Chg.refl _ _).grown hg1 (fun k e => by cases e); have hsz1 : w.heap.size ≤ w1.heap.size := hc1.size))
        go_ret
        refine ⟨_, rfl, l.take (0) ++ [s] ++ l.drop (0), ?_, HF.out.1, HF.out.2, by simp; try omega, (fun e => by have := (hnil3.1 e).1; have := (hnil2.1 this).2; omega), hc2.grown hg3 (fun k e => Or.inr (hown2.lt k e).1)⟩
        refine ownsRow_base (base := w.heap.size) ?_ hb
        have e1 : (l.take (0) ++ [s] ++ l.drop (0)).length = 0 + 0 + 1 + l.length := by simp; try omega
        have e2 : strCells (l.take (0) ++ [s] ++ l.drop (0)) = [] ++ strCells [] ++ [.string s] ++ strCells l := by simp [strCells]
        rw [e1, e2]
        exact hown3
      · by_cases hcm : cap = m
        · have hml : m = l.length := by omega
          subst hml
          subst hcm
          have HY : Hid ((∀ j u, (strCells l)[j]? = some u → w.cell? ((⟨g, 0, none⟩ : Addr).add j) = some u) ∧ ∀ j u, (strCells [])[j]? = some u → w.cell? ((⟨g, 0, none⟩ : Addr).add j) = some u) := ⟨fun j u hu => HY0.out.1 j u (by rw [List.take_length]; exact hu), fun j u hu => by simp [strCells] at hu⟩
          go_wp2_with (first | (at_builtin; refine wpList_append_own _ rfl _ _ 95 rfl w.heap.size 9 i0 (.string ⟨#[]⟩) 1 16 Tryz.underlying95 hi hz0 hz1 hz2 rfl (by decide) v2 _ _ rfl hown2 ⟨g, 0, none⟩ 0 0 (strCells []) rfl (by simp [strCells]) HY3.out (str_one _) (by unfold maxLen; omega) (by omega) hsz2 ?_; intro v3 w3 hown3 hg3 hnil3) | (at_builtin; refine wpList_append_own _ rfl _ _ 95 rfl w.heap.size 9 i0 (.string ⟨#[]⟩) 1 16 Tryz.underlying95 hi hz0 hz1 hz2 rfl (by decide) v1 _ _ rfl (hown1.alloc _) ⟨w1.heap.size, 0, none⟩ 1 1 [.string s] rfl rfl (cells_new w1 #[.string s] 9) (by simp [Value.oneCell']) (by unfold maxLen; omega) (by omega) (by simp; omega) ?_; intro v2 w2 hown2 hg2 hnil2; have hc2 : Chg nobody w w2 := (hc1.alloc _).grown hg2 (fun k e => Or.inr (hown1.lt k e).1); have hsz2 : w.heap.size ≤ w2.heap.size := hc2.size; have HY3 : Hid (∀ j u, (strCells [])[j]? = some u → w2.cell? ((⟨g, 0, none⟩ : Addr).add j) = some u) := (fun j u hu => by have h0 := HY.out.2 j u hu; rw [hc2.below.cell (lt_of_cell h0)]; exact h0)) | (at_builtin; refine wpList_append_own _ rfl _ _ 95 rfl w.heap.size 9 i0 (.string ⟨#[]⟩) 1 16 Tryz.underlying95 hi hz0 hz1 hz2 rfl (by decide) _ 0 [] rfl (World.ownsRow_nil _ _ _ _) ⟨g, 0, none⟩ l.length l.length (strCells l) rfl (by simp [strCells]; try omega) HY.out.1 (str_one _) (by unfold maxLen; omega) (by omega) (Nat.le_refl _) ?_; intro v1 w1 hown1 hg1 _; have hc1 : Chg nobody w w1 := (Chg.refl _ _).grown hg1 (fun k e => by cases e); have hsz1 : w.heap.size ≤ w1.heap.size := hc1.size))
          go_ret
          refine ⟨_, rfl, l.take (l.length) ++ [s] ++ l.drop (l.length), ?_, HF.out.1, HF.out.2, by simp; try omega, (fun e => by have := (hnil3.1 e).1; have := (hnil2.1 this).2; omega), hc2.grown hg3 (fun k e => Or.inr (hown2.lt k e).1)⟩
          refine ownsRow_base (base := w.heap.size) ?_ hb
          have e1 : (l.take (l.length) ++ [s] ++ l.drop (l.length)).length = 0 + l.length + 1 + 0 := by simp; try omega
          have e2 : strCells (l.take (l.length) ++ [s] ++ l.drop (l.length)) = [] ++ strCells l ++ [.string s] ++ strCells [] := by simp [strCells]
          rw [e1, e2]
          exact hown3
        · have HY := HY0
          go_wp2_with (first | (at_builtin; refine wpList_append_own _ rfl _ _ 95 rfl w.heap.size 9 i0 (.string ⟨#[]⟩) 1 16 Tryz.underlying95 hi hz0 hz1 hz2 rfl (by decide) v2 _ _ rfl hown2 ⟨g, m, none⟩ (l.length - m) (cap - m) (strCells (l.drop m)) rfl (by simp [strCells]) HY3.out (str_one _) (by unfold maxLen; omega) (by omega) hsz2 ?_; intro v3 w3 hown3 hg3 hnil3) | (at_builtin; refine wpList_append_own _ rfl _ _ 95 rfl w.heap.size 9 i0 (.string ⟨#[]⟩) 1 16 Tryz.underlying95 hi hz0 hz1 hz2 rfl (by decide) v1 _ _ rfl (hown1.alloc _) ⟨w1.heap.size, 0, none⟩ 1 1 [.string s] rfl rfl (cells_new w1 #[.string s] 9) (by simp [Value.oneCell']) (by unfold maxLen; omega) (by omega) (by simp; omega) ?_; intro v2 w2 hown2 hg2 hnil2; have hc2 : Chg nobody w w2 := (hc1.alloc _).grown hg2 (fun k e => Or.inr (hown1.lt k e).1); have hsz2 : w.heap.size ≤ w2.heap.size := hc2.size; have HY3 : Hid (∀ j u, (strCells (l.drop m))[j]? = some u → w2.cell? ((⟨g, m, none⟩ : Addr).add j) = some u) := (fun j u hu => by have h0 := HY.out.2 j u hu; rw [hc2.below.cell (lt_of_cell h0)]; exact h0)) | (at_builtin; refine wpList_append_own _ rfl _ _ 95 rfl w.heap.size 9 i0 (.string ⟨#[]⟩) 1 16 Tryz.underlying95 hi hz0 hz1 hz2 rfl (by decide) _ 0 [] rfl (World.ownsRow_nil _ _ _ _) ⟨g, 0, none⟩ m cap (strCells (l.take m)) rfl (by simp [strCells]; try omega) HY.out.1 (str_one _) (by unfold maxLen; omega) (by omega) (Nat.le_refl _) ?_; intro v1 w1 hown1 hg1 _; have hc1 : Chg nobody w w1 := (Chg.refl _ _).grown hg1 (fun k e => by cases e); have hsz1 : w.heap.size ≤ w1.heap.size := hc1.size))
          go_ret
          refine ⟨_, rfl, l.take (m) ++ [s] ++ l.drop (m), ?_, HF.out.1, HF.out.2, by simp; try omega, (fun e => by have := (hnil3.1 e).1; have := (hnil2.1 this).2; omega), hc2.grown hg3 (fun k e => Or.inr (hown2.lt k e).1)⟩
          refine ownsRow_base (base := w.heap.size) ?_ hb
          have e1 : (l.take (m) ++ [s] ++ l.drop (m)).length = 0 + m + 1 + (l.length - m) := by simp; try omega
          have e2 : strCells (l.take (m) ++ [s] ++ l.drop (m)) = [] ++ strCells (l.take m) ++ [.string s] ++ strCells (l.drop m) := by simp [strCells]
          rw [e1, e2]
          exact hown3
set_option maxRecDepth 100000 in
set_option maxHeartbeats 1000000 in
theorem put_nil (base : Nat) (s : ByteArray) (w : World) (hb : base ≤ w.heap.size) :
    Calls Tryz.prog 97 #[.slice none 0 0, .string s] w fun e w' => ∃ v, e = .returned v ∧ w'.ownsRow base 9 1 v 1 (strCells [s]) ∧ v ≠ .slice none 0 0 ∧ Chg nobody w w' := by
  obtain ⟨i0, hi, hz0, hz1, hz2⟩ := info_parts info9
  go_enter Tryz.func97, Tryz.ntmps97
  go_wp2
  refine wp_loop_rounds 1 ?_
  rw [rounds_succ]
  go_wp2_with (first | (at_builtin; refine wpList_append_own_none rfl _ _ 95 rfl w.heap.size 9 i0 1 Tryz.underlying95 hi v2 _ _ rfl hown2 rfl ?_) | (at_builtin; refine wpList_append_own _ rfl _ _ 95 rfl w.heap.size 9 i0 (.string ⟨#[]⟩) 1 16 Tryz.underlying95 hi hz0 hz1 hz2 rfl (by decide) (.slice none 0 0) 0 [] rfl (World.ownsRow_nil _ _ _ _) ⟨w.heap.size, 0, none⟩ 1 1 [.string s] rfl rfl (cells_new w #[.string s] 9) (by simp [Value.oneCell']) (by decide) (by omega) (by simp) ?_; intro v2 w2 hown2 hg2 hnil2) | (at_builtin; refine wpList_append_own_none rfl _ _ 95 rfl w.heap.size 9 i0 1 Tryz.underlying95 hi (.slice none 0 0) 0 [] rfl (World.ownsRow_nil _ _ _ _) rfl ?_))
  go_ret
  exact ⟨_, rfl, ownsRow_base (by simpa [strCells] using hown2) hb, fun e => by have := (hnil2.1 e).2; omega, ((Chg.refl _ _).alloc _).grown hg2 (fun k e => by cases e)⟩
theorem put_any (base : Nat) (v : Value) (l : List ByteArray) (s : ByteArray) (w : World) (hn : l.length ≤ 8000000) (hl : Asc l) (hr : w.ownsRow base 9 1 v l.length (strCells l)) (hb : base ≤ w.heap.size) :
    Calls Tryz.prog 97 #[v, .string s] w fun e w' => ∃ v, e = .returned v ∧ ∃ l', w'.ownsRow base 9 1 v l'.length (strCells l') ∧ Asc l' ∧ (∀ x, x ∈ l' ↔ x = s ∨ x ∈ l) ∧ l'.length ≤ l.length + 1 ∧ v ≠ .slice none 0 0 ∧ Chg nobody w w' := by
  rcases hr.2 with ⟨rfl, h0⟩ | ⟨g, cap, cur, rfl, _⟩
  · have hl0 : l = [] := List.eq_nil_of_length_eq_zero h0
    subst hl0
    refine (put_nil base s w hb).mono ?_
    rintro e w' ⟨v, rfl, h1, h2, h3⟩
    exact ⟨v, rfl, [s], h1, List.pairwise_singleton _ _, by simp, by simp, h2, h3⟩
  · exact put_some g cap base l s w hn hl hr hb
end Go.Proofs.YtkfjafndplmdkaaGreat
namespace Go.Proofs.YtkfjafndplmdkaaGreat
open Go.RowKit Go.Sort
theorem verCells_ones (l : List Ver) : ∀ u ∈ verCells l, u.oneCell' = true := by
  intro u hu
  obtain ⟨x, _, hx⟩ := List.mem_flatMap.1 hu
  exact ver_one x u hx
theorem itemsR_take (ws L : List Ver) (t : Int) (ks : List ByteArray) (j : Nat) (h : j < ks.length) : itemsR ws L t (ks.take (j + 1)) = itemsR ws L t (ks.take j) ++ (itemR ws L t ks[j]).toList := by
  unfold itemsR
  rw [List.take_succ_eq_append_getElem h, List.filterMap_append]
  cases h1 : itemR ws L t ks[j] <;> simp [h1]
theorem itemsR_len (ws L : List Ver) (t : Int) (ks : List ByteArray) : (itemsR ws L t ks).length ≤ ks.length := List.length_filterMap_le _ _
theorem keysOf_hit {all : List Ver} {pre : ByteArray} {j : Nat} (h : j < all.length) {K K' : List ByteArray} (hK : KeysOf (all.take j) pre K) (ha : Asc K') (hm : ∀ x, x ∈ K' ↔ x = all[j].key ∨ x ∈ K) (hp : pk pre all[j].key = true) : KeysOf (all.take (j + 1)) pre K' := by
  refine ⟨ha, fun x => ?_⟩
  rw [hm, hK.2, List.take_succ_eq_append_getElem h]
  simp only [List.mem_append, List.mem_singleton]
  constructor
  · rintro (rfl | ⟨v, hv, e⟩)
    · exact ⟨_, Or.inr rfl, rfl, hp⟩
    · exact ⟨v, Or.inl hv, e⟩
  · rintro ⟨v, hv | rfl, e⟩
    · exact Or.inr ⟨v, hv, e⟩
    · exact Or.inl e.1.symm
theorem keysOf_skip {all : List Ver} {pre : ByteArray} {j : Nat} (h : j < all.length) {K : List ByteArray} (hK : KeysOf (all.take j) pre K) (hp : pk pre all[j].key = false) : KeysOf (all.take (j + 1)) pre K := by
  refine ⟨hK.1, fun x => ?_⟩
  rw [hK.2, List.take_succ_eq_append_getElem h]
  simp only [List.mem_append, List.mem_singleton]
  constructor
  · rintro ⟨v, hv, e⟩
    exact ⟨v, Or.inl hv, e⟩
  · rintro ⟨v, hv | rfl, e⟩
    · exact ⟨v, hv, e⟩
    · rw [e.1] at hp
      rw [hp] at e
      cases e.2
set_option maxRecDepth 100000 in
set_option maxHeartbeats 1000000 in
theorem rscan_any (wb c base base' cw : Nat) (ad adw : Option Addr) (L ws : List Ver) (pre : ByteArray) (t : Int) (kv pv : Value) (w : World) (hl : L.length ≤ 2000000) (hlw : ws.length ≤ 2000000) (h1 : w.cell? ⟨wb, 1, none⟩ = some (.slice ad L.length c)) (hr : w.ownsRow base 103 4 (.slice ad L.length c) L.length (verCells L)) (hw : w.ownsRow base' 103 4 (.slice adw ws.length cw) ws.length (verCells ws)) :
    Calls Tryz.prog 69 #[.pointer (some ⟨wb, 0, none⟩), .agg #[.int .i64 t, .slice adw ws.length cw, kv, pv], .string pre] w fun e w' => ∃ v, e = .returned v ∧ ∃ K, KeysOf (L ++ ws) pre K ∧ w'.ownsRow w.heap.size 66 2 v (itemsR ws L t K).length (itemCells (itemsR ws L t K)) ∧ Chg nobody w w' := by
  obtain ⟨i0, hi, hz0, hz1, hz2⟩ := info_parts info72
  have hwb : wb < w.heap.size := lt_of_cell h1
  have h1' : (w.alloc (.cells #[.int .i64 t, .slice adw ws.length cw, kv, pv] 97)).cell? ⟨wb, 1, none⟩ = some (.slice ad L.length c) := by rw [World.cell?_alloc_past _ _ _ hwb]; exact h1
  have HC : Hid ((w.alloc (.cells #[.int .i64 t, .slice adw ws.length cw, kv, pv] 97)).ownsRow base 103 4 (.slice ad L.length c) L.length (verCells L) ∧ (w.alloc (.cells #[.int .i64 t, .slice adw ws.length cw, kv, pv] 97)).ownsRow base' 103 4 (.slice adw ws.length cw) ws.length (verCells ws) ∧ Chg nobody w (w.alloc (.cells #[.int .i64 t, .slice adw ws.length cw, kv, pv] 97)) ∧ (w.alloc (.cells #[.int .i64 t, .slice adw ws.length cw, kv, pv] 97)).heap[w.heap.size]? = some (.cells #[.int .i64 t, .slice adw ws.length cw, kv, pv] 97)) := ⟨hr.alloc _, hw.alloc _, (Chg.refl _ _).alloc _, heap_new rfl⟩
  clear hr hw h1
  have e1 : (w.alloc (.cells #[.int .i64 t, .slice adw ws.length cw, kv, pv] 97)).cell? ⟨w.heap.size, 1, none⟩ = some (.slice adw ws.length cw) := cell_of HC.out.2.2.2 (i := 1) rfl
  generalize hs : w.heap.size = s at *
  have HS : Hid (w.heap.size = s) := hs
  go_enter Tryz.func69, Tryz.ntmps69
  have hws : (w.alloc (.cells #[.int .i64 t, .slice adw ws.length cw, kv, pv] 97)).heap.size = s + 1 := by rw [← HS.out]; simp
  go_wp2_with (first | (at_builtin; refine wpList_append_rows rfl _ _ 75 rfl (s + 1) 103 i0 Ver.zero.v 4 48 Tryz.underlying75 hi hz0 hz1 hz2 rfl (by decide) a1 _ _ rfl hown1 base' (.slice adw ws.length cw) ws.length (verCells ws) rfl (ownsRow_chg HC.out.2.1 hc1 (fun _ _ h => h)) (verCells_ones ws) (by unfold maxLen; omega) (by omega) (by omega) ?_; intro a2 w2 hown2 hg2; have hc2 : Chg nobody (w.alloc (.cells #[.int .i64 t, .slice adw ws.length cw, kv, pv] 97)) w2 := hc1.grown hg2 (fun k e => Or.inr (by have := (hown1.lt k e).1; omega))) | (at_builtin; refine wpList_append_rows rfl _ _ 75 rfl (s + 1) 103 i0 Ver.zero.v 4 48 Tryz.underlying75 hi hz0 hz1 hz2 rfl (by decide) (.slice none 0 0) 0 [] rfl (World.ownsRow_nil _ _ _ _) base (.slice ad L.length c) L.length (verCells L) rfl HC.out.1 (verCells_ones L) (by unfold maxLen; omega) (by omega) (by omega) ?_; intro a1 w1 hown1 hg1; have hc1 : Chg nobody (w.alloc (.cells #[.int .i64 t, .slice adw ws.length cw, kv, pv] 97)) w1 := (Chg.refl _ _).grown hg1 (fun k e => by cases e); have hz3 := hc1.size; have e1' : w1.cell? ⟨s, 1, none⟩ = some (.slice adw ws.length cw) := by rw [hc1.below.cell (lt_of_cell e1)]; exact e1))
  generalize hall : L ++ ws = all at *
  have hown : w2.ownsRow (s + 1) 103 4 a2 all.length (verCells all) := by rw [← hall, List.length_append, verCells_append]; simpa using hown2
  have hal : all.length ≤ 4000000 := by rw [← hall, List.length_append]; omega
  have HALL : Hid (L ++ ws = all) := hall
  clear hown2 hown1 hall
  obtain ⟨ada, ca, rfl⟩ := row_form hown
  have HA : Hid (w2.ownsRow (s + 1) 103 4 (.slice ada all.length ca) all.length (verCells all) ∧ Chg nobody (w.alloc (.cells #[.int .i64 t, .slice adw ws.length cw, kv, pv] 97)) w2) := ⟨hown, hc2⟩
  clear hown hc2 hg2 hg1 hc1 e1'
  go_loopw [7, 9] (fun kv i wr => ∃ j : Nat, j ≤ all.length ∧ i = .int .i64 j ∧ ∃ K, wr.ownsRow w2.heap.size 9 1 kv K.length (strCells K) ∧ KeysOf (all.take j) pre K ∧ K.length ≤ j ∧ Chg nobody w2 wr) (fun _ i _ => all.length - (intOf i).toNat)
  case atStart => exact ⟨0, Nat.zero_le _, rfl, [], World.ownsRow_nil _ _ _ _, ⟨List.Pairwise.nil, by simp⟩, Nat.le_refl _, Chg.refl _ _⟩
  case round =>
    obtain ⟨j, hj, rfl, K, hrow, hK, hKl, hc⟩ := hrel
    by_cases hlt : j < all.length
    · have HR : Hid (wr.ownsRow (s + 1) 103 4 (.slice ada all.length ca) all.length (verCells all)) := ownsRow_chg HA.out.1 hc (fun _ _ h => h)
      obtain ⟨g, rfl, _, _, _, _⟩ := row_open HR.out (by omega)
      obtain ⟨c0, _, _, _⟩ := ver_at HR.out j hlt
      have HB := begins_any all[j].key pre wr
      have HP := put_any w2.heap.size u7 K all[j].key wr (by omega) hK.1 hrow hc.size
      have HK := @keysOf_hit all pre j hlt K
      have HK' := @keysOf_skip all pre j hlt K
      have HJ : Hid (wr.ownsRow w2.heap.size 9 1 u7 K.length (strCells K) ∧ KeysOf (all.take j) pre K ∧ Chg nobody w2 wr) := ⟨hrow, hK, hc⟩
      clear hrow hK hc HR
      generalize all[j].key = key at *
      cases hp : pk pre key
      · rw [hp] at HB
        have HX : Hid (KeysOf (all.take (j + 1)) pre K) := HK' HJ.out.2.1 hp
        clear HK HK' hp HP
        go_wp2_with fail
        refine HB.mono ?_
        rintro e w' ⟨rfl, hw'⟩
        replace hw' := hw'.symm
        subst hw'
        go_wp2
        go_roundw
        case rel => exact ⟨j + 1, by omega, by go_num, K, HJ.out.1, HX.out, by omega, HJ.out.2.2⟩
        case measure => simp [intOf]; omega
      · rw [hp] at HB
        have HX : Hid (∀ K', Asc K' → (∀ x, x ∈ K' ↔ x = key ∨ x ∈ K) → KeysOf (all.take (j + 1)) pre K') := fun K' h1 h2 => HK HJ.out.2.1 h1 h2 hp
        clear HK HK' hp
        go_wp2_with fail
        refine HB.mono ?_
        rintro e w' ⟨rfl, hw'⟩
        replace hw' := hw'.symm
        subst hw'
        go_wp2_with fail
        refine HP.mono ?_
        rintro e w4 ⟨kv', rfl, K', hrow', hasc, hmem, hlen, _, hch⟩
        have HZ : Hid (KeysOf (all.take (j + 1)) pre K' ∧ Chg nobody w2 w4) := ⟨HX.out K' hasc hmem, HJ.out.2.2.trans hch⟩
        clear hasc hmem hch HX
        go_wp2
        go_roundw
        case rel => exact ⟨j + 1, by omega, by go_num, K', hrow', HZ.out.1, by omega, HZ.out.2⟩
        case measure => simp [intOf]; omega
    · have hjl : j = all.length := by omega
      subst hjl
      rw [List.take_length] at hK
      obtain ⟨jo, hjo, ho0, ho1, ho2⟩ := info_parts infoItem
      obtain ⟨adk, ck, rfl⟩ := row_form hrow
      have HJ : Hid (wr.ownsRow w2.heap.size 9 1 (.slice adk K.length ck) K.length (strCells K) ∧ KeysOf all pre K ∧ Chg nobody (w.alloc (.cells #[.int .i64 t, .slice adw ws.length cw, kv, pv] 97)) wr) := ⟨hrow, hK, HA.out.2.trans hc⟩
      clear hrow hK hc HA
      go_wp2_with fail
      obtain ⟨W3, hW3⟩ : ∃ x, x = wr := ⟨_, rfl⟩
      subst hW3
      go_loopw [11, 12] (fun v i wr' => ∃ j : Nat, j ≤ K.length ∧ i = .int .i64 j ∧ wr'.ownsRow W3.heap.size 66 2 v (itemsR ws L t (K.take j)).length (itemCells (itemsR ws L t (K.take j))) ∧ Chg nobody W3 wr') (fun _ i _ => K.length - (intOf i).toNat)
      case atStart => exact ⟨0, Nat.zero_le _, rfl, World.ownsRow_nil _ _ _ _, Chg.refl _ _⟩
      case round =>
        obtain ⟨j, hj, rfl, hrow, hc⟩ := hrel
        by_cases hlt : j < K.length
        · have HR : Hid (wr.ownsRow w2.heap.size 9 1 (.slice adk K.length ck) K.length (strCells K)) := ownsRow_chg HJ.out.1 hc (fun _ _ h => h)
          obtain ⟨g, rfl, _, _, _, _⟩ := row_open HR.out (by omega)
          have k0 := str_at HR.out j hlt
          have hcw := HJ.out.2.2.trans hc
          have HL : Hid (wr.ownsRow base 103 4 (.slice ad L.length c) L.length (verCells L) ∧ wr.ownsRow base' 103 4 (.slice adw ws.length cw) ws.length (verCells ws)) := ⟨ownsRow_chg HC.out.1 hcw (fun _ _ h => h), ownsRow_chg HC.out.2.1 hcw (fun _ _ h => h)⟩
          have hbs : wr.heap[s]? = some (.cells #[.int .i64 t, .slice adw ws.length cw, kv, pv] 97) := (hcw.block s (lt_of_block HC.out.2.2.2) (fun h => h)).trans HC.out.2.2.2
          have x0 := cell_of hbs (i := 0) rfl
          have x1 := cell_of hbs (i := 1) rfl
          have x2 := cell_of hbs (i := 2) rfl
          have x3 := cell_of hbs (i := 3) rfl
          have h1'' : wr.cell? ⟨wb, 1, none⟩ = some (.slice ad L.length c) := by rw [hcw.below.cell (lt_of_cell h1')]; exact h1'
          have HT : Hid (itemsR ws L t (K.take (j + 1)) = itemsR ws L t (K.take j) ++ (itemR ws L t K[j]).toList) := itemsR_take ws L t K j hlt
          have hil : (itemsR ws L t (K.take j)).length ≤ j := Nat.le_trans (itemsR_len ws L t _) (List.length_take_le _ _)
          have HH : Hid (Chg nobody W3 wr) := hc
          have hsz : W3.heap.size ≤ wr.heap.size := hc.size
          clear hcw hbs hc HR
          have HI : Hid (itemR ws L t K[j] = if (seesM ws L t K[j]).2 then some (K[j], (seesM ws L t K[j]).1) else none) := rfl
          generalize K[j] = key at *
          obtain ⟨u, f, huf⟩ : ∃ u f, seesM ws L t key = (u, f) := ⟨_, _, rfl⟩
          have HSE : ∀ w9 : World, w9.cell? ⟨wb, 1, none⟩ = some (.slice ad L.length c) → w9.ownsRow base 103 4 (.slice ad L.length c) L.length (verCells L) → w9.ownsRow base' 103 4 (.slice adw ws.length cw) ws.length (verCells ws) → Calls Tryz.prog 68 #[.pointer (some ⟨wb, 0, none⟩), .agg #[.int .i64 t, .slice adw ws.length cw, kv, pv], .string key] w9 fun e w' => e = .returned (.tuple #[.string u, .bool f]) ∧ Chg nobody w9 w' := fun w9 q1 q2 q3 => by
            have := rsees_any wb c base base' cw ad adw L ws key t kv pv w9 hl hlw q1 q2 q3
            rw [huf] at this
            exact this
          rw [huf] at HI
          have HSH : Hid (∀ w9 : World, w9.cell? ⟨wb, 1, none⟩ = some (.slice ad L.length c) → w9.ownsRow base 103 4 (.slice ad L.length c) L.length (verCells L) → w9.ownsRow base' 103 4 (.slice adw ws.length cw) ws.length (verCells ws) → Calls Tryz.prog 68 #[.pointer (some ⟨wb, 0, none⟩), .agg #[.int .i64 t, .slice adw ws.length cw, kv, pv], .string key] w9 fun e w' => e = .returned (.tuple #[.string u, .bool f]) ∧ Chg nobody w9 w') := HSE
          clear HSE huf
          go_wp2
          go_region_with (go_at_call 68; refine (HSH.out _ (by exact h1'') (by exact HL.out.1) (by exact HL.out.2)).mono ?_; rintro e w4 ⟨rfl, hch⟩)
          all_goals
            have hch' : Chg nobody wr w4 := ⟨hch.os, hch.tape, hch.output, hch.size, hch.block⟩
            have hrow4 := ownsRow_chg hrow hch' (fun _ _ h => h)
            have k4 : w4.cell? ⟨g, j, none⟩ = some (.string key) := by rw [hch'.below.cell (lt_of_cell k0)]; exact k0
            have hsz4 : wr.heap.size ≤ w4.heap.size := hch'.size
            have HH4 : Hid (Chg nobody W3 w4) := HH.out.trans hch'
            clear hch hch' k0 x0 x1 x2 x3 h1'' HH
            cases f
            · go_wp2
              go_roundw
              case rel =>
                refine ⟨j + 1, by omega, by go_num, ?_, HH4.out⟩
                rw [HT.out, HI.out]
                simpa using hrow4
              case measure => simp [intOf]; omega
            · go_wp2_with (at_builtin; refine wpList_append_own _ rfl _ _ 32 rfl W3.heap.size 66 jo (.agg #[.string ⟨#[]⟩, .string ⟨#[]⟩]) 2 32 Tryz.underlying32 hjo ho0 ho1 ho2 rfl (by decide) _ _ _ rfl (hrow4.alloc _) ⟨w4.heap.size, 0, none⟩ 1 1 [.string key, .string u] rfl rfl (cells_new w4 #[.string key, .string u] 66) (by simp [Value.oneCell']) (by unfold maxLen; omega) (by omega) (by simp; omega) ?_; intro v' w5 hown5 hg5 _; go_frame)
              go_roundw
              case rel =>
                refine ⟨j + 1, by omega, by go_num, ?_, (HH4.out.alloc _).grown hg5 (fun k e => Or.inr (hrow4.lt k e).1)⟩
                rw [HT.out, HI.out, if_pos rfl, Option.toList_some, itemCells_snoc]
                simpa using hown5
              case measure => simp [intOf]; omega
        · go_wp2
          go_ret
          have hjl : j = K.length := by omega
          subst hjl
          rw [List.take_length] at hrow
          refine ⟨_, rfl, K, by rw [HALL.out]; exact HJ.out.2.1, ownsRow_base hrow ?_, (HC.out.2.2.1.trans HJ.out.2.2).trans hc⟩
          have := HJ.out.2.2.size
          omega
end Go.Proofs.YtkfjafndplmdkaaGreat
namespace Go.Proofs.YtkfjafndplmdkaaGreat
open Go.RowKit Go.Sort
/-- A transaction of the reference, with where its lists lie. -/
structure RT where
  start : Int
  ws : List Ver
  wa : Option Addr
  wc : Nat
  ks : List ByteArray
  ka : Option Addr
  kc : Nat
  ps : List ByteArray
  pa : Option Addr
  pc : Nat
def RT.cells (T : RT) : List Value := [.int .i64 T.start, .slice T.wa T.ws.length T.wc, .slice T.ka T.ks.length T.kc, .slice T.pa T.ps.length T.pc]
def RT.v (T : RT) : Value := .agg #[.int .i64 T.start, .slice T.wa T.ws.length T.wc, .slice T.ka T.ks.length T.kc, .slice T.pa T.ps.length T.pc]
def RT.zero : RT := ⟨0, [], none, 0, [], none, 0, [], none, 0⟩
def rtCells (l : List RT) : List Value := l.flatMap RT.cells
theorem info66 : (Tryz.prog.info? 97).map (fun i => (i.zero, i.size, i.bytes)) = some (some RT.zero.v, 4, 80) := by kernel_rfl
theorem rt_one (x : RT) : ∀ u ∈ x.cells, u.oneCell' = true := by
  intro u hu
  simp only [RT.cells, List.mem_cons, List.not_mem_nil, or_false] at hu
  rcases hu with rfl | rfl | rfl | rfl <;> rfl
theorem rtCells_append (a b : List RT) : rtCells (a ++ b) = rtCells a ++ rtCells b := by simp [rtCells]
theorem rtCells_one (x : RT) : rtCells [x] = x.cells := by simp [rtCells]
theorem rt_at {w : World} {base g cap n : Nat} {l : List RT} (h : w.ownsRow base 97 4 (.slice (some ⟨g, 0, none⟩) n cap) n (rtCells l)) (i : Nat) (hi : i < l.length) :
    w.cell? ⟨g, i * 4, none⟩ = some (.int .i64 l[i].start) ∧ w.cell? ⟨g, i * 4 + 1, none⟩ = some (.slice l[i].wa l[i].ws.length l[i].wc) ∧ w.cell? ⟨g, i * 4 + 2, none⟩ = some (.slice l[i].ka l[i].ks.length l[i].kc) ∧ w.cell? ⟨g, i * 4 + 3, none⟩ = some (.slice l[i].pa l[i].ps.length l[i].pc) := by
  have g0 : ∀ r u, r < 4 → (l[i].cells)[r]? = some u → w.cell? ⟨g, i * 4 + r, none⟩ = some u := fun r u hr hu => row_cells h _ u (by unfold rtCells; rw [flat_at RT.cells (fun _ => rfl) l i r hi hr]; exact hu)
  exact ⟨g0 0 _ (by omega) rfl, g0 1 _ (by omega) rfl, g0 2 _ (by omega) rfl, g0 3 _ (by omega) rfl⟩
/-- without those of a number. -/
def lessRT (l : List RT) (n : Int) : List RT := l.filter (fun x => decide (x.start ≠ n))
theorem lessRT_take (l : List RT) (n : Int) (j : Nat) (h : j < l.length) : lessRT (l.take (j + 1)) n = lessRT (l.take j) n ++ (if l[j].start = n then [] else [l[j]]) := by
  unfold lessRT
  rw [List.take_succ_eq_append_getElem h, List.filter_append]
  by_cases hk : l[j].start = n <;> simp [hk]
theorem lessRT_len (l : List RT) (n : Int) : (lessRT l n).length ≤ l.length := List.length_filter_le _ _
set_option maxRecDepth 100000 in
set_option maxHeartbeats 1000000 in
theorem leave_any (wb base oc : Nat) (oa : Option Addr) (ts : List RT) (n : Int) (v0 v1 v3 v4 v5 : Value) (w : World) (hl : ts.length ≤ 2000000)
    (hb : w.heap[wb]? = some (.cells #[v0, v1, .slice oa ts.length oc, v3, v4, v5] 79)) (ho : w.ownsRow base 97 4 (.slice oa ts.length oc) ts.length (rtCells ts)) :
    Calls Tryz.prog 71 #[.pointer (some ⟨wb, 0, none⟩), .int .i64 n] w fun e w' => e = .returned (.tuple #[]) ∧ ∃ v, w'.heap[wb]? = some (.cells #[v0, v1, v, v3, v4, v5] 79) ∧ w'.ownsRow w.heap.size 97 4 v (lessRT ts n).length (rtCells (lessRT ts n)) ∧ Chg (fun b => b = wb) w w' := by
  obtain ⟨i0, hi, hz0, hz1, hz2⟩ := info_parts info66
  have HC : Hid (w.heap[wb]? = some (.cells #[v0, v1, .slice oa ts.length oc, v3, v4, v5] 79) ∧ w.ownsRow base 97 4 (.slice oa ts.length oc) ts.length (rtCells ts)) := ⟨hb, ho⟩
  clear hb ho
  go_enter Tryz.func71, Tryz.ntmps71
  go_wp2
  go_loopw [4, 5] (fun v i wr => ∃ j : Nat, j ≤ ts.length ∧ i = .int .i64 j ∧ wr.ownsRow w.heap.size 97 4 v (lessRT (ts.take j) n).length (rtCells (lessRT (ts.take j) n)) ∧ Chg nobody w wr) (fun _ i _ => ts.length - (intOf i).toNat)
  case atStart => exact ⟨0, Nat.zero_le _, rfl, World.ownsRow_nil _ _ _ _, Chg.refl _ _⟩
  case round =>
    obtain ⟨j, hj, rfl, hrow, hc⟩ := hrel
    have hsz : w.heap.size ≤ wr.heap.size := hc.size
    have hwl := lt_of_block HC.out.1
    have hbx : wr.heap[wb]? = some (.cells #[v0, v1, .slice oa ts.length oc, v3, v4, v5] 79) := (hc.block wb hwl (fun h => h)).trans HC.out.1
    have x2 := cell_of hbx (i := 2) rfl
    have hol : (lessRT (ts.take j) n).length ≤ j := Nat.le_trans (lessRT_len _ _) (List.length_take_le _ _)
    by_cases hlt : j < ts.length
    · have HH : Hid (Chg nobody w wr) := hc
      have HR : Hid (wr.ownsRow base 97 4 (.slice oa ts.length oc) ts.length (rtCells ts)) := ownsRow_chg HC.out.2 hc (fun _ _ h => h)
      clear hc hbx
      obtain ⟨g, rfl, _, _, _, _⟩ := row_open HR.out (by omega)
      obtain ⟨c0, c1, c2, c3⟩ := rt_at HR.out j hlt
      have HT : Hid (lessRT (ts.take (j + 1)) n = lessRT (ts.take j) n ++ (if ts[j].start = n then [] else [ts[j]])) := lessRT_take ts n j hlt
      by_cases he : ts[j].start = n
      · have b1 : (ts[j].start != n) = false := by simp [he]
        have HE : Hid (ts[j].start = n) := he
        clear he
        go_wp2
        go_roundw
        case rel =>
          refine ⟨j + 1, by omega, by go_num, ?_, HH.out⟩
          rw [HT.out, if_pos HE.out]
          simpa using hrow
        case measure => simp [intOf]; omega
      · have b1 : (ts[j].start != n) = true := by simp [he]
        have HE : Hid (ts[j].start ≠ n) := he
        clear he
        generalize ts[j] = y at *
        go_wp2_with (at_builtin; refine wpList_append_own _ rfl _ _ 76 rfl w.heap.size 97 i0 RT.zero.v 4 80 Tryz.underlying76 hi hz0 hz1 hz2 rfl (by decide) _ _ _ rfl (hrow.alloc _) ⟨wr.heap.size, 0, none⟩ 1 1 y.cells rfl rfl (cells_new wr #[.int .i64 y.start, .slice y.wa y.ws.length y.wc, .slice y.ka y.ks.length y.kc, .slice y.pa y.ps.length y.pc] 97) (rt_one y) (by unfold maxLen; omega) (by omega) (by simp; omega) ?_; intro v' w1 hown1 hg1 _; go_frame)
        go_roundw
        case rel =>
          refine ⟨j + 1, by omega, by go_num, ?_, (HH.out.alloc _).grown hg1 (fun k e => Or.inr (hrow.lt k e).1)⟩
          rw [HT.out, if_neg HE.out, rtCells_append, rtCells_one]
          simpa using hown1
        case measure => simp [intOf]; omega
    · have hjl : j = ts.length := by omega
      subst hjl
      rw [List.take_length] at hrow hol
      have HH : Hid (Chg nobody w wr ∧ wr.heap[wb]? = some (.cells #[v0, v1, .slice oa ts.length oc, v3, v4, v5] 79)) := ⟨hc, hbx⟩
      have hf := unfrozen_of hbx 2
      clear hc hbx
      obtain ⟨av, cv, rfl⟩ := row_form hrow
      go_wp2
      go_end0
      refine ⟨rfl, .slice av (lessRT ts n).length cv, ?_, ?_, ?_⟩
      · have := heap_setCell_same wr wb 2 _ 79 (.slice av (lessRT ts n).length cv) HH.out.2
        simpa using this
      · have hcs : Chg (fun b => b = wb) wr (wr.setCell ⟨wb, 2, none⟩ (.slice av (lessRT ts n).length cv)) := chg_set1 _ _ _ _
        exact ownsRow_chg hrow hcs (fun k hk e => by have := (hrow.lt k hk).1; have := e; omega)
      · exact (HH.out.1.any _).trans (chg_set1 _ _ _ _)
end Go.Proofs.YtkfjafndplmdkaaGreat
namespace Go.Proofs.YtkfjafndplmdkaaGreat
open Go.RowKit Go.Sort
def RT.wv (T : RT) : Value := .slice T.wa T.ws.length T.wc
def RT.kv (T : RT) : Value := .slice T.ka T.ks.length T.kc
def RT.pv (T : RT) : Value := .slice T.pa T.ps.length T.pc
def RT.blocks (T : RT) : List Nat := vb T.wv ++ vb T.kv ++ vb T.pv
structure RTAt (w : World) (T : RT) : Prop where
  wr : w.ownsRow 0 103 4 T.wv T.ws.length (verCells T.ws)
  kr : w.ownsRow 0 9 1 T.kv T.ks.length (strCells T.ks)
  pr : w.ownsRow 0 9 1 T.pv T.ps.length (strCells T.ps)
/-- The reference's world. -/
structure RSt where
  wb : Nat
  clock : Int
  L : List Ver
  la : Option Addr
  lc : Nat
  ts : List RT
  oa : Option Addr
  oc : Nat
  q : List Int
  qa : Option Addr
  qc : Nat
  rows : List (ByteArray × Int)
  ra : Option Addr
  rc : Nat
  low : Int
def RSt.lv (S : RSt) : Value := .slice S.la S.L.length S.lc
def RSt.ov (S : RSt) : Value := .slice S.oa S.ts.length S.oc
def RSt.qv (S : RSt) : Value := .slice S.qa S.q.length S.qc
def RSt.rv (S : RSt) : Value := .slice S.ra S.rows.length S.rc
def RSt.others (S : RSt) : List Nat := vb S.lv ++ vb S.qv ++ vb S.rv
def RSt.blocks (S : RSt) : List Nat := S.wb :: (S.others ++ vb S.ov) ++ S.ts.flatMap RT.blocks
structure RInv (w : World) (S : RSt) : Prop where
  wb : w.heap[S.wb]? = some (.cells #[.int .i64 S.clock, S.lv, S.ov, S.qv, S.rv, .int .i64 S.low] 79)
  lr : w.ownsRow 0 103 4 S.lv S.L.length (verCells S.L)
  or : w.ownsRow 0 97 4 S.ov S.ts.length (rtCells S.ts)
  qr : w.ownsRow 0 3 1 S.qv S.q.length (S.q.map (.int .i64 ·))
  rr : w.ownsRow 0 158 2 S.rv S.rows.length (S.rows.flatMap fun p => [.string p.1, .int .i64 p.2])
  ts : ∀ T ∈ S.ts, RTAt w T
  nd : S.blocks.Nodup
theorem RTAt.chg {w w' : World} {T : RT} {S : Nat → Prop} (h : RTAt w T) (hc : Chg S w w') (hs : ∀ b ∈ T.blocks, ¬ S b) : RTAt w' T :=
  ⟨ownsRow_chg h.wr hc (fun g e => hs g (by simp [RT.blocks, vb_mem, e])), ownsRow_chg h.kr hc (fun g e => hs g (by simp [RT.blocks, vb_mem, e])), ownsRow_chg h.pr hc (fun g e => hs g (by simp [RT.blocks, vb_mem, e]))⟩
theorem RTAt.lt {w : World} {T : RT} (h : RTAt w T) : ∀ b ∈ T.blocks, b < w.heap.size := by
  intro b hb
  simp only [RT.blocks, List.mem_append, vb_mem] at hb
  rcases hb with (hb | hb) | hb
  · exact (h.wr.lt b hb).2
  · exact (h.kr.lt b hb).2
  · exact (h.pr.lt b hb).2
theorem RInv.lt {w : World} {S : RSt} (h : RInv w S) : ∀ b ∈ S.blocks, b < w.heap.size := by
  intro b hb
  simp only [RSt.blocks, RSt.others, List.mem_append, List.mem_cons, vb_mem, List.mem_flatMap] at hb
  rcases hb with (rfl | ((hb | hb) | hb) | hb) | ⟨T, hT, hb⟩
  · exact lt_of_block h.wb
  · exact (h.lr.lt b hb).2
  · exact (h.qr.lt b hb).2
  · exact (h.rr.lt b hb).2
  · exact (h.or.lt b hb).2
  · exact (h.ts T hT).lt b hb
theorem RInv.chg {w w' : World} {S : RSt} {P : Nat → Prop} (h : RInv w S) (hc : Chg P w w') (hs : ∀ b ∈ S.blocks, ¬ P b) : RInv w' S := by
  have hm : ∀ {v : Value} {g : Nat}, vb v ⊆ S.blocks → v.ownBlock = some g → ¬ P g := fun hv e => hs _ (hv (vb_mem.2 e))
  refine ⟨(hc.block _ (lt_of_block h.wb) (hs _ (by simp [RSt.blocks]))).trans h.wb, ownsRow_chg h.lr hc (fun g e => hm ?_ e), ownsRow_chg h.or hc (fun g e => hm ?_ e), ownsRow_chg h.qr hc (fun g e => hm ?_ e), ownsRow_chg h.rr hc (fun g e => hm ?_ e), fun T hT => (h.ts T hT).chg hc (fun b hb => hs b ?_), h.nd⟩
  · intro x hx; simp [RSt.blocks, RSt.others, hx]
  · intro x hx; simp [RSt.blocks, hx]
  · intro x hx; simp [RSt.blocks, RSt.others, hx]
  · intro x hx; simp [RSt.blocks, RSt.others, hx]
  · simp only [RSt.blocks, List.mem_append, List.mem_flatMap]
    exact Or.inr ⟨T, hT, hb⟩
end Go.Proofs.YtkfjafndplmdkaaGreat
namespace Go.Proofs.YtkfjafndplmdkaaGreat
open Go.RowKit Go.Sort
theorem RInv.setTx {w w' : World} {S : RSt} {k : Nat} {T' : RT} (h : RInv w S) (hk : k < S.ts.length) (hc : Chg (fun b => b ∈ vb S.ov ∨ b ∈ S.ts[k].blocks) w w') (ho : w'.ownsRow 0 97 4 S.ov S.ts.length (rtCells (S.ts.set k T'))) (hT : RTAt w' T') (hb : ∀ b ∈ T'.blocks, b ∈ S.ts[k].blocks ∨ w.heap.size ≤ b) (hn : T'.blocks.Nodup) :
    RInv w' { S with ts := S.ts.set k T' } ∧ (∀ b ∈ ({ S with ts := S.ts.set k T' } : RSt).blocks, b ∈ S.blocks ∨ w.heap.size ≤ b) ∧ Chg (fun b => b ∈ S.blocks) w w' := by
  have hlt := h.lt
  have e1 : S.ts = S.ts.take k ++ S.ts[k] :: S.ts.drop (k + 1) := by rw [← List.drop_eq_getElem_cons hk, List.take_append_drop]
  have e2 : S.ts.set k T' = S.ts.take k ++ T' :: S.ts.drop (k + 1) := by rw [List.set_eq_take_append_cons_drop, if_pos hk]
  have hov : ({ S with ts := S.ts.set k T' } : RSt).ov = S.ov := by simp [RSt.ov]
  have hbl : S.blocks = (S.wb :: (S.others ++ vb S.ov) ++ (S.ts.take k).flatMap RT.blocks) ++ (S.ts[k].blocks ++ (S.ts.drop (k + 1)).flatMap RT.blocks) := by
    have e3 : S.ts.flatMap RT.blocks = (S.ts.take k).flatMap RT.blocks ++ (S.ts[k].blocks ++ (S.ts.drop (k + 1)).flatMap RT.blocks) := by
      conv => lhs; rw [e1]
      rw [List.flatMap_append, List.flatMap_cons]
    unfold RSt.blocks
    rw [e3]
    simp only [List.append_assoc, List.cons_append]
  have hbl' : ({ S with ts := S.ts.set k T' } : RSt).blocks = (S.wb :: (S.others ++ vb S.ov) ++ (S.ts.take k).flatMap RT.blocks) ++ (T'.blocks ++ (S.ts.drop (k + 1)).flatMap RT.blocks) := by
    show S.wb :: (S.others ++ vb ({ S with ts := S.ts.set k T' } : RSt).ov) ++ (S.ts.set k T').flatMap RT.blocks = _
    rw [hov, e2]
    simp
  have hnd := h.nd
  rw [hbl] at hnd hlt
  have hA : ∀ b ∈ S.wb :: (S.others ++ vb S.ov) ++ (S.ts.take k).flatMap RT.blocks, b < w.heap.size := fun b hb => hlt b (List.mem_append.2 (Or.inl hb))
  have hB : ∀ b ∈ (S.ts.drop (k + 1)).flatMap RT.blocks, b < w.heap.size := fun b hb => hlt b (List.mem_append.2 (Or.inr (List.mem_append.2 (Or.inr hb))))
  have hnd' := nodup_swap (n := w.heap.size) hnd hn hb hA hB
  -- what is apart
  obtain ⟨n1, n2, n3⟩ := List.nodup_append.1 hnd
  obtain ⟨m1, m2, m3⟩ := List.nodup_append.1 n2
  obtain ⟨p1, p2, p3⟩ := List.nodup_append.1 n1
  have p1' : (S.wb :: (S.others ++ vb S.ov)).Nodup := p1
  obtain ⟨q1, q2⟩ := List.nodup_cons.1 p1'
  obtain ⟨r1, r2, r3⟩ := List.nodup_append.1 q2
  have apT : ∀ b ∈ S.wb :: (S.others ++ vb S.ov) ++ (S.ts.take k).flatMap RT.blocks, b ∉ S.ts[k].blocks := fun b hb hm => n3 b hb b (List.mem_append.2 (Or.inl hm)) rfl
  have apO : ∀ b ∈ S.others, b ∉ vb S.ov := fun b hb hm => r3 b hb b hm rfl
  have no1 : S.wb ∉ vb S.ov := fun hm => q1 (List.mem_append.2 (Or.inr hm))
  have keepRow : ∀ {e : TypeId} {size : Nat} {v : Value} {n : Nat} {xs : List Value}, w.ownsRow 0 e size v n xs → vb v ⊆ S.others → w'.ownsRow 0 e size v n xs := fun hr hv =>
    ownsRow_chg hr hc (fun g e => by
      have hg := hv (vb_mem.2 e)
      rintro (h1 | h1)
      · exact apO g hg h1
      · exact apT g (by simp [hg]) h1)
  refine ⟨⟨?_, keepRow h.lr ?_, ?_, keepRow h.qr ?_, keepRow h.rr ?_, ?_, ?_⟩, ?_, ?_⟩
  · rw [hov]
    refine (hc.block _ (lt_of_block h.wb) ?_).trans h.wb
    rintro (h1 | h1)
    · exact no1 h1
    · exact apT _ (by simp) h1
  · intro x hx; replace hx : x ∈ vb S.lv := hx; simp [RSt.others, hx]
  · rw [hov]; simpa using ho
  · intro x hx; replace hx : x ∈ vb S.qv := hx; simp [RSt.others, hx]
  · intro x hx; replace hx : x ∈ vb S.rv := hx; simp [RSt.others, hx]
  · intro T hTm
    have hTm' : T ∈ S.ts.take k ++ T' :: S.ts.drop (k + 1) := by rw [← e2]; exact hTm
    rw [List.mem_append, List.mem_cons] at hTm'
    rcases hTm' with h1 | rfl | h1
    · refine (h.ts T (List.mem_of_mem_take h1)).chg hc (fun b hb' => ?_)
      have hbm : b ∈ (S.ts.take k).flatMap RT.blocks := List.mem_flatMap.2 ⟨T, h1, hb'⟩
      rintro (h2 | h2)
      · exact p3 b (List.mem_cons_of_mem _ (List.mem_append.2 (Or.inr h2))) b hbm rfl
      · exact apT b (List.mem_append.2 (Or.inr hbm)) h2
    · exact hT
    · refine (h.ts T (List.mem_of_mem_drop h1)).chg hc (fun b hb' => ?_)
      have hbm : b ∈ (S.ts.drop (k + 1)).flatMap RT.blocks := List.mem_flatMap.2 ⟨T, h1, hb'⟩
      rintro (h2 | h2)
      · exact n3 b (by simp [h2]) b (List.mem_append.2 (Or.inr hbm)) rfl
      · exact m3 b h2 b hbm rfl
  · rw [hbl']; exact hnd'
  · rw [hbl', hbl]
    intro b hb'
    rcases List.mem_append.1 hb' with h1 | h1
    · exact Or.inl (List.mem_append.2 (Or.inl h1))
    · rcases List.mem_append.1 h1 with h2 | h2
      · rcases hb b h2 with h3 | h3
        · exact Or.inl (List.mem_append.2 (Or.inr (List.mem_append.2 (Or.inl h3))))
        · exact Or.inr h3
      · exact Or.inl (List.mem_append.2 (Or.inr (List.mem_append.2 (Or.inr h2))))
  · refine hc.mono (fun i _ hi => ?_)
    rw [hbl]
    rcases hi with h1 | h1
    · simp [h1]
    · simp [h1]
end Go.Proofs.YtkfjafndplmdkaaGreat
