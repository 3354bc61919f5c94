import Derived.Test.YtcpjocgpahjcjaaRA
namespace Go.Proofs.Ytcpjocgpahjcjaa
open Go.RowKit Go.Sort
theorem ba_t {a b : ByteArray} (h : a = b) : (a == b) = true ∧ (a.toList == b.toList) = true := ⟨(MapKept.bytes_beq a b).2 h, by rw [h]; exact beq_self_eq_true _⟩
theorem ba_f {a b : ByteArray} (h : a ≠ b) : (a == b) = false ∧ (a.toList == b.toList) = false := ⟨by rw [← Bool.not_eq_true]; exact fun e => h ((MapKept.bytes_beq a b).1 e), by rw [← Bool.not_eq_true, beq_iff_eq, ByteArray.toList_eq, ByteArray.toList_eq]; exact fun e => h (toList_inj e)⟩
/-- What a key has at a time: value, and whether it has one. -/
def atM (L : List Ver) (key : ByteArray) (t : Int) : ByteArray × Bool := match L.reverse.find? (fun v => decide (v.key = key) && decide (v.time ≤ t)) with | some v => (v.val, !v.gone) | none => (⟨#[]⟩, false)
theorem atM_hit {L : List Ver} {key : ByteArray} {t : Int} {k : Nat} (h : k < L.length) (h1 : L[k].key = key) (h2 : L[k].time ≤ t) (hn : ∀ i (h : i < L.length), k < i → ¬ (L[i].key = key ∧ L[i].time ≤ t)) : atM L key t = (L[k].val, !L[k].gone) := by
  unfold atM
  have e : L = L.take k ++ L[k] :: L.drop (k + 1) := by
    rw [← List.drop_eq_getElem_cons h, List.take_append_drop]
  have hf : L.reverse.find? (fun v => decide (v.key = key) && decide (v.time ≤ t)) = some L[k] := by
    generalize hx : L[k] = x at *
    rw [e, List.reverse_append, List.reverse_cons, List.append_assoc, List.find?_append, List.find?_eq_none.2]
    · simp [h1, h2]
    · intro v hv
      obtain ⟨i, hi, rfl⟩ := List.getElem_of_mem (List.mem_reverse.1 hv)
      rw [List.length_drop] at hi
      have := hn (k + 1 + i) (by omega) (by omega)
      simpa using this
  rw [hf]
theorem atM_miss {L : List Ver} {key : ByteArray} {t : Int} (hn : ∀ i (h : i < L.length), ¬ (L[i].key = key ∧ L[i].time ≤ t)) : atM L key t = (⟨#[]⟩, false) := by
  unfold atM
  rw [List.find?_eq_none.2]
  intro v hv
  obtain ⟨i, hi, rfl⟩ := List.getElem_of_mem (List.mem_reverse.1 hv)
  simpa using hn i hi
set_option maxHeartbeats 1000000 in
theorem at_any (wb c base : Nat) (ad : Option Addr) (L : List Ver) (key : ByteArray) (t : Int) (w : World) (hl : L.length ≤ 2000000) (h1 : w.cell? ⟨wb, 1, none⟩ = some (.slice ad L.length c)) (hr : w.ownsRow base 72 4 (.slice ad L.length c) L.length (verCells L)) :
    Calls Try.prog 52 #[.pointer (some ⟨wb, 0, none⟩), .string key, .int .i64 t] w fun e w' => e = .returned (.tuple #[.string (atM L key t).1, .bool (atM L key t).2]) ∧ Chg nobody w w' := by
  have HC : Hid (w.ownsRow base 72 4 (.slice ad L.length c) L.length (verCells L)) := hr
  clear hr
  go_enter Try.func52, Try.ntmps52
  go_wp2
  go_loop [8] (fun i => ∃ k : Nat, k ≤ L.length ∧ i = .int .i64 ((k : Int) - 1) ∧ Hid (∀ i (h : i < L.length), k ≤ i → ¬ (L[i].key = key ∧ L[i].time ≤ t))) (fun i => (intOf i + 1).toNat)
  case atStart => exact ⟨L.length, Nat.le_refl _, by go_num, fun i h hh => by omega⟩
  case round =>
    obtain ⟨k, hk, rfl, HN⟩ := hrel
    cases k with
    | zero =>
      have hb : decide ((0 : Int) ≤ ((0 : Nat) : Int) - 1) = false := by decide
      go_wp2
      have e := atM_miss (L := L) (key := key) (t := t) (fun i h => HN.out i h (by omega))
      exact bodyPost_ret (v := .tuple #[.string ⟨#[]⟩, .bool false]) (by simp [results, Try.results52, go_sem]) rfl ⟨by rw [e], Chg.refl _ _⟩
    | succ k =>
      rw [show ((k + 1 : Nat) : Int) - 1 = (k : Int) by omega]
      have hlt : k < L.length := by omega
      have hb : decide ((0 : Int) ≤ (k : Int)) = true := by simp
      obtain ⟨g, rfl, _, _, _, _⟩ := row_open HC.out (by omega)
      obtain ⟨c0, c1, c2, c3⟩ := ver_at HC.out k hlt
      have HX := @atM_hit L key t k hlt
      have HS : Hid (∀ i (h : i < L.length), k < i → ¬ (L[i].key = key ∧ L[i].time ≤ t)) := fun i h hi => HN.out i h (by omega)
      have HT : Hid (¬ (L[k].key = key ∧ L[k].time ≤ t) → ∀ i (h : i < L.length), k ≤ i → ¬ (L[i].key = key ∧ L[i].time ≤ t)) := fun hn i h hi => by
        by_cases hik : i = k
        · subst hik; exact hn
        · exact HS.out i h (by omega)
      by_cases he : L[k].key = key
      · by_cases ht : L[k].time ≤ t
        · have hv := HX he ht HS.out
          have HV : Hid (atM L key t = (L[k].val, !L[k].gone)) := hv
          obtain ⟨b1, b1'⟩ := ba_t he
          have b2 : decide (L[k].time ≤ t) = true := decide_eq_true ht
          clear he ht hv HX HT
          generalize L[k] = x at *
          go_wp2
          go_region
          go_wp2
          exact bodyPost_ret (v := .tuple #[.string x.val, .bool (!x.gone)]) (by simp [results, Try.results52, go_sem]) rfl ⟨by rw [HV.out], (Chg.refl _ _).drew⟩
        · have HV : Hid (¬ (L[k].key = key ∧ L[k].time ≤ t)) := fun h => ht h.2
          obtain ⟨b1, b1'⟩ := ba_t he
          have b2 : decide (L[k].time ≤ t) = false := decide_eq_false ht
          clear he ht HX
          go_wp2
          go_round
          case rel => exact ⟨k, by omega, by go_num, HT.out HV.out⟩
          case measure => simp [intOf]
      · have HV : Hid (¬ (L[k].key = key ∧ L[k].time ≤ t)) := fun h => he h.1
        obtain ⟨b1, b1'⟩ := ba_f he
        clear he HX
        go_wp2
        go_round
        case rel => exact ⟨k, by omega, by go_num, HT.out HV.out⟩
        case measure => simp [intOf]
/-- What a transaction sees. -/
def seesM (ws L : List Ver) (start : Int) (key : ByteArray) : ByteArray × Bool := match ws.find? (fun v => decide (v.key = key)) with | some v => (v.val, !v.gone) | none => atM L key start
theorem seesM_hit {ws L : List Ver} {key : ByteArray} {t : Int} {k : Nat} (h : k < ws.length) (h1 : ws[k].key = key) (hn : ∀ i (h : i < ws.length), i < k → ws[i].key ≠ key) : seesM ws L t key = (ws[k].val, !ws[k].gone) := by
  unfold seesM
  have hf : ws.find? (fun v => decide (v.key = key)) = some ws[k] := by
    rw [List.find?_eq_some_iff_getElem]
    exact ⟨by simpa using h1, k, h, rfl, fun j hj => by simpa using hn j (by omega) hj⟩
  rw [hf]
theorem seesM_miss {ws L : List Ver} {key : ByteArray} {t : Int} (hn : ∀ i (h : i < ws.length), ws[i].key ≠ key) : seesM ws L t key = atM L key t := by
  unfold seesM
  rw [List.find?_eq_none.2]
  intro v hv
  obtain ⟨i, hi, rfl⟩ := List.getElem_of_mem hv
  simpa using hn i hi
set_option maxHeartbeats 1000000 in
theorem rsees_any (wb c base base' cw : Nat) (ad adw : Option Addr) (L ws : List Ver) (key : ByteArray) (t : Int) (kv pv : Value) (w : World) (hl : L.length ≤ 2000000) (hlw : ws.length ≤ 2000000) (h1 : w.cell? ⟨wb, 1, none⟩ = some (.slice ad L.length c)) (hr : w.ownsRow base 72 4 (.slice ad L.length c) L.length (verCells L)) (hw : w.ownsRow base' 72 4 (.slice adw ws.length cw) ws.length (verCells ws)) :
    Calls Try.prog 38 #[.pointer (some ⟨wb, 0, none⟩), .agg #[.int .i64 t, .slice adw ws.length cw, kv, pv], .string key] w fun e w' => e = .returned (.tuple #[.string (seesM ws L t key).1, .bool (seesM ws L t key).2]) ∧ Chg nobody w w' := by
  have hwb : wb < w.heap.size := lt_of_cell h1
  have h1' : (w.alloc (.cells #[.int .i64 t, .slice adw ws.length cw, kv, pv] 66)).cell? ⟨wb, 1, none⟩ = some (.slice ad L.length c) := by rw [World.cell?_alloc_past _ _ _ hwb]; exact h1
  have HC : Hid ((w.alloc (.cells #[.int .i64 t, .slice adw ws.length cw, kv, pv] 66)).ownsRow base 72 4 (.slice ad L.length c) L.length (verCells L) ∧ (w.alloc (.cells #[.int .i64 t, .slice adw ws.length cw, kv, pv] 66)).ownsRow base' 72 4 (.slice adw ws.length cw) ws.length (verCells ws) ∧ Chg nobody w (w.alloc (.cells #[.int .i64 t, .slice adw ws.length cw, kv, pv] 66))) := ⟨hr.alloc _, hw.alloc _, (Chg.refl _ _).alloc _⟩
  have e0 := cell_of (heap_new (w := w) (o := .cells #[.int .i64 t, .slice adw ws.length cw, kv, pv] 66) rfl) (i := 0) rfl
  have e1 := cell_of (heap_new (w := w) (o := .cells #[.int .i64 t, .slice adw ws.length cw, kv, pv] 66) rfl) (i := 1) rfl
  clear hr hw h1
  generalize hs : w.heap.size = s at *
  have HS : Hid (w.heap.size = s) := hs
  go_enter Try.func38, Try.ntmps38
  go_wp2
  generalize w.alloc (.cells #[.int .i64 t, .slice adw ws.length cw, kv, pv] 66) = W at *
  go_loop [8] (fun i => ∃ k : Nat, k ≤ ws.length ∧ i = .int .i64 k ∧ Hid (∀ i (h : i < ws.length), i < k → ws[i].key ≠ key)) (fun i => ws.length - (intOf i).toNat)
  case atStart => exact ⟨0, Nat.zero_le _, rfl, fun i _ h => by omega⟩
  case round =>
    obtain ⟨k, hk, rfl, HN⟩ := hrel
    by_cases hlt : k < ws.length
    · obtain ⟨g, rfl, _, _, _, _⟩ := row_open HC.out.2.1 (by omega)
      obtain ⟨c0, c1, c2, c3⟩ := ver_at HC.out.2.1 k hlt
      by_cases he : ws[k].key = key
      · have HV : Hid (seesM ws L t key = (ws[k].val, !ws[k].gone)) := seesM_hit hlt he HN.out
        obtain ⟨b1, b1'⟩ := ba_t he
        clear he
        generalize ws[k] = x at *
        go_wp2
        go_region
        go_wp2
        exact bodyPost_ret (v := .tuple #[.string x.val, .bool (!x.gone)]) (by simp [results, Try.results38, go_sem]) rfl ⟨by rw [HV.out], HC.out.2.2.drew⟩
      · obtain ⟨b1, b1'⟩ := ba_f he
        have HE : Hid (ws[k].key ≠ key) := he
        clear he
        go_wp2
        go_round
        case rel => exact ⟨k + 1, by omega, by go_num, fun i h hi => by
          by_cases hik : i = k
          · subst hik; exact HE.out
          · exact HN.out i h (by omega)⟩
        case measure => simp [intOf]; omega
    · have HV : Hid (seesM ws L t key = atM L key t) := seesM_miss (fun i h => HN.out i h (by omega))
      go_wp2_with fail
      refine (at_any wb c base ad L key t _ hl h1' HC.out.1).mono ?_
      rintro e w' ⟨rfl, hch⟩
      go_wp2
      exact bodyPost_ret (v := .tuple #[.string (atM L key t).1, .bool (atM L key t).2]) (by simp [results, Try.results38, go_sem]) rfl ⟨by rw [HV.out], HC.out.2.2.trans hch⟩
end Go.Proofs.Ytcpjocgpahjcjaa
