import Derived.Test.YtkfjafndplmdkaaGreatTA
namespace Go.Proofs.YtkfjafndplmdkaaGreat
open Go.RowKit Go.Sort
open Go.Maps (Keyed)
set_option maxHeartbeats 400000 in
theorem put_none (p om : Nat) (l : List (Int × Nat)) (o : OpM) (c : Int) (w : World) (h : Named w p om l o.t c) :
    Calls Tryz.prog 60 #[.pointer (some ⟨p, 0, none⟩), o.v] w fun e w' => e = errE c ∧ Chg nobody w w' := by
  have h2 := h.calls (two w o) (two_chg w o)
  clear h
  go_enter Tryz.func60, Tryz.ntmps60
  go_wp2_with (go_at_call 76; refine h2.mono ?_; rintro e w' ⟨rfl, rfl⟩)
  exact ⟨rfl, rfl, two_chg w o⟩
set_option maxHeartbeats 400000 in
theorem put_key (p om tb : Nat) (l : List (Int × Nat)) (o : OpM) (w : World) (h : Plays w p om l) (hn : isInt o.t) (hg : getA o.t l = some tb) (hq : w.cell? ⟨tb, 0, none⟩ = some (.bool false)) (hk : o.key.size < 1 ∨ 8 < o.key.size) :
    Calls Tryz.prog 60 #[.pointer (some ⟨p, 0, none⟩), o.v] w fun e w' => e = errE 4 ∧ Chg nobody w w' := by
  have h2 := (h.chg (two_chg w o)).named_yes hn hg (((two_chg w o).below.cell (p := ⟨tb, 0, none⟩) (lt_of_cell hq)).trans hq)
  have h3 := mustBeKey_no o.key (two w o) hk
  clear h hg hk
  go_enter Tryz.func60, Tryz.ntmps60
  go_wp2_with (first | (go_at_call 76; refine h2.mono ?_; rintro e w' ⟨rfl, rfl⟩) | (go_at_call 77; refine h3.mono ?_; rintro e w' ⟨rfl, rfl⟩))
  exact ⟨rfl, rfl, two_chg w o⟩
set_option maxHeartbeats 400000 in
theorem put_value (p om tb : Nat) (l : List (Int × Nat)) (o : OpM) (w : World) (h : Plays w p om l) (hn : isInt o.t) (hg : getA o.t l = some tb) (hq : w.cell? ⟨tb, 0, none⟩ = some (.bool false)) (hk : 1 ≤ o.key.size) (hk8 : o.key.size ≤ 8) (hv : 20 < o.val.size) :
    Calls Tryz.prog 60 #[.pointer (some ⟨p, 0, none⟩), o.v] w fun e w' => e = errE 5 ∧ Chg nobody w w' := by
  have h2 := (h.chg (two_chg w o)).named_yes hn hg (((two_chg w o).below.cell (p := ⟨tb, 0, none⟩) (lt_of_cell hq)).trans hq)
  have h3 := mustBeKey_ok o.key (two w o) hk hk8
  have h4 := mustBeValue_no o.val (two w o) hv
  clear h hg hk hk8 hv
  go_enter Tryz.func60, Tryz.ntmps60
  go_wp2_with (first | (go_at_call 76; refine h2.mono ?_; rintro e w' ⟨rfl, rfl⟩) | (go_at_call 77; refine h3.mono ?_; rintro e w' ⟨rfl, rfl⟩) | (go_at_call 80; refine h4.mono ?_; rintro e w' ⟨rfl, rfl⟩))
  exact ⟨rfl, rfl, two_chg w o⟩
theorem res_two {w w3 : World} {o : OpM} {S : Nat → Prop} (hc3 : Chg S (two w o) w3) (hs : ¬ S (w.heap.size + 1)) : w3.heap[w.heap.size + 1]? = some ans0 ∧ w.heap.size + 1 < w3.heap.size := by
  refine ⟨?_, by have := hc3.size; simp at this; omega⟩
  rw [hc3.block _ (by simp) hs]
  simpa using (MapKept.heap_alloc (w.alloc (.cells #[.int .i64 o.kind, .int .i64 o.t, .string o.key, .string o.val, .int .i64 o.n] 30)) ans0).1
theorem TxAt.wrote {w w3 : World} {sb : Nat} {T : Tx} {ws : List (ByteArray × (Bool × ByteArray))} (hT : TxAt w sb T) (hm : mapAt w3 Tryz.prog 9 mkS mkC T.wb ws) (hc : Chg (fun b => b = T.wb) w w3) (hne : T.wb ≠ T.tb ∧ T.wb ≠ T.kb ∧ T.wb ≠ T.pb) : TxAt w3 sb { T with ws := ws } :=
  ⟨(hc.block _ (lt_of_block hT.tx) (Ne.symm hne.1)).trans hT.tx, hm, hT.km.of_block (hc.block _ hT.km.lt (Ne.symm hne.2.1)), hT.pm.of_block (hc.block _ hT.pm.lt (Ne.symm hne.2.2))⟩
set_option maxHeartbeats 1000000 in
theorem put_ok (p sb om : Nat) (T : Tx) (l : List (Int × Nat)) (o : OpM) (w : World) (h : Plays w p om l) (hn : isInt o.t) (hg : getA o.t l = some T.tb) (hqq : T.queued = false) (hk : 1 ≤ o.key.size) (hk8 : o.key.size ≤ 8) (hv : o.val.size ≤ 20) (hT : TxAt w sb T) (hne : T.wb ≠ T.tb ∧ T.wb ≠ T.kb ∧ T.wb ≠ T.pb) :
    Calls Tryz.prog 60 #[.pointer (some ⟨p, 0, none⟩), o.v] w fun e w' => e = .returned (ansV 0 0 false ⟨#[]⟩ (.slice none 0 0)) ∧ TxAt w' sb { T with ws := putA o.key (true, o.val) T.ws } ∧ Chg (fun b => b = T.wb) w w' := by
  have h2 := (h.chg (two_chg w o)).named_yes hn hg (by have := (hT.chg (two_chg w o) (fun h => h) (fun h => h) (fun h => h) (fun h => h)).cells.1; rw [hqq] at this; exact this)
  have h3 := mustBeKey_ok o.key (two w o) hk hk8
  have h3' := mustBeValue_ok o.val (two w o) hv
  have hT2 := hT.chg (two_chg w o) (fun h => h) (fun h => h) (fun h => h) (fun h => h)
  have h4 := txPut_any T.tb T.wb T.ws o.key o.val (two w o) (by omega) (by omega) hT2.cells.2.2.2.1 hT2.wm
  have HK : Hid (TxAt (two w o) sb T ∧ T.tb < w.heap.size ∧ T.wb < w.heap.size ∧ T.kb < w.heap.size ∧ T.pb < w.heap.size) := ⟨hT2, lt_of_block hT.tx, hT.wm.lt, hT.km.lt, hT.pm.lt⟩
  clear h hg hT hT2
  go_enter Tryz.func60, Tryz.ntmps60
  go_wp2_with (first | (go_at_call 76; refine h2.mono ?_; rintro e w' ⟨rfl, rfl⟩) | (go_at_call 77; refine h3.mono ?_; rintro e w' ⟨rfl, rfl⟩) | (go_at_call 80; refine h3'.mono ?_; rintro e w' ⟨rfl, rfl⟩) | fail)
  refine h4.mono ?_
  rintro e w3 ⟨rfl, hm3, hc3⟩
  obtain ⟨hT2, hk'⟩ := HK.out
  obtain ⟨hres, hz3⟩ := res_two hc3 (by omega)
  have HF : Hid (TxAt w3 sb { T with ws := putA o.key (true, o.val) T.ws } ∧ Chg (fun b => b = T.wb) w w3 ∧ w3.heap[w.heap.size + 1]? = some ans0) := ⟨hT2.wrote hm3 hc3 hne, ((two_chg w o).any _).andThen hc3 (fun _ _ h => h), hres⟩
  obtain ⟨k0, k1, k2, k3, k4, k5, k6, kf⟩ := cells7 hres
  clear hm3 hc3 hres h2 h3 h3' h4 hT2 hk' hne
  go_wp2
  obtain ⟨hT3, hc3, hres⟩ := HF.out
  obtain ⟨_, hk⟩ := HK.out
  obtain ⟨r0, r1, r2, r3, r4, r5, r6⟩ := set7 hres rfl (.int .i64 0) (.int .i64 0) (.bool false) (.string ⟨#[]⟩) (.slice none 0 0) (.slice none 0 0) (.slice none 0 0)
  have hc7 := (chg_set7 w3 (w.heap.size + 1) (.int .i64 0) (.int .i64 0) (.bool false) (.string ⟨#[]⟩) (.slice none 0 0) (.slice none 0 0) (.slice none 0 0))
  refine bodyPost_ret (v := ansV 0 0 false ⟨#[]⟩ (.slice none 0 0)) (by simp [results, Tryz.results60, go_sem, r0, r1, r2, r3, r4, r5, r6]) rfl ⟨rfl, hT3.chg hc7 ?_ ?_ ?_ ?_, hc3.andThen hc7 (fun i hi h => by omega)⟩
  all_goals simp only
  all_goals omega
set_option maxHeartbeats 400000 in
theorem del_none (p om : Nat) (l : List (Int × Nat)) (o : OpM) (c : Int) (w : World) (h : Named w p om l o.t c) :
    Calls Tryz.prog 61 #[.pointer (some ⟨p, 0, none⟩), o.v] w fun e w' => e = errE c ∧ Chg nobody w w' := by
  have h2 := h.calls (two w o) (two_chg w o)
  clear h
  go_enter Tryz.func61, Tryz.ntmps61
  go_wp2_with (go_at_call 76; refine h2.mono ?_; rintro e w' ⟨rfl, rfl⟩)
  exact ⟨rfl, rfl, two_chg w o⟩
set_option maxHeartbeats 400000 in
theorem del_key (p om tb : Nat) (l : List (Int × Nat)) (o : OpM) (w : World) (h : Plays w p om l) (hn : isInt o.t) (hg : getA o.t l = some tb) (hq : w.cell? ⟨tb, 0, none⟩ = some (.bool false)) (hk : o.key.size < 1 ∨ 8 < o.key.size) :
    Calls Tryz.prog 61 #[.pointer (some ⟨p, 0, none⟩), o.v] w fun e w' => e = errE 4 ∧ Chg nobody w w' := by
  have h2 := (h.chg (two_chg w o)).named_yes hn hg (((two_chg w o).below.cell (p := ⟨tb, 0, none⟩) (lt_of_cell hq)).trans hq)
  have h3 := mustBeKey_no o.key (two w o) hk
  clear h hg hk
  go_enter Tryz.func61, Tryz.ntmps61
  go_wp2_with (first | (go_at_call 76; refine h2.mono ?_; rintro e w' ⟨rfl, rfl⟩) | (go_at_call 77; refine h3.mono ?_; rintro e w' ⟨rfl, rfl⟩))
  exact ⟨rfl, rfl, two_chg w o⟩
set_option maxHeartbeats 1000000 in
theorem del_ok (p sb om : Nat) (T : Tx) (l : List (Int × Nat)) (o : OpM) (w : World) (h : Plays w p om l) (hn : isInt o.t) (hg : getA o.t l = some T.tb) (hqq : T.queued = false) (hk : 1 ≤ o.key.size) (hk8 : o.key.size ≤ 8) (hT : TxAt w sb T) (hne : T.wb ≠ T.tb ∧ T.wb ≠ T.kb ∧ T.wb ≠ T.pb) :
    Calls Tryz.prog 61 #[.pointer (some ⟨p, 0, none⟩), o.v] w fun e w' => e = .returned (ansV 0 0 false ⟨#[]⟩ (.slice none 0 0)) ∧ TxAt w' sb { T with ws := putA o.key noCell T.ws } ∧ Chg (fun b => b = T.wb) w w' := by
  have h2 := (h.chg (two_chg w o)).named_yes hn hg (by have := (hT.chg (two_chg w o) (fun h => h) (fun h => h) (fun h => h) (fun h => h)).cells.1; rw [hqq] at this; exact this)
  have h3 := mustBeKey_ok o.key (two w o) hk hk8
  have hT2 := hT.chg (two_chg w o) (fun h => h) (fun h => h) (fun h => h) (fun h => h)
  have h4 := txDel_any T.tb T.wb T.ws o.key (two w o) (by omega) hT2.cells.2.2.2.1 hT2.wm
  have HK : Hid (TxAt (two w o) sb T ∧ T.tb < w.heap.size ∧ T.wb < w.heap.size ∧ T.kb < w.heap.size ∧ T.pb < w.heap.size) := ⟨hT2, lt_of_block hT.tx, hT.wm.lt, hT.km.lt, hT.pm.lt⟩
  clear h hg hT hT2
  go_enter Tryz.func61, Tryz.ntmps61
  go_wp2_with (first | (go_at_call 76; refine h2.mono ?_; rintro e w' ⟨rfl, rfl⟩) | (go_at_call 77; refine h3.mono ?_; rintro e w' ⟨rfl, rfl⟩) | fail)
  refine h4.mono ?_
  rintro e w3 ⟨rfl, hm3, hc3⟩
  obtain ⟨hT2, hk'⟩ := HK.out
  obtain ⟨hres, hz3⟩ := res_two hc3 (by omega)
  have HF : Hid (TxAt w3 sb { T with ws := putA o.key noCell T.ws } ∧ Chg (fun b => b = T.wb) w w3 ∧ w3.heap[w.heap.size + 1]? = some ans0) := ⟨hT2.wrote hm3 hc3 hne, ((two_chg w o).any _).andThen hc3 (fun _ _ h => h), hres⟩
  obtain ⟨k0, k1, k2, k3, k4, k5, k6, kf⟩ := cells7 hres
  clear hm3 hc3 hres h2 h3 h4 hT2 hk' hne
  go_wp2
  obtain ⟨hT3, hc3, hres⟩ := HF.out
  obtain ⟨_, hk⟩ := HK.out
  obtain ⟨r0, r1, r2, r3, r4, r5, r6⟩ := set7 hres rfl (.int .i64 0) (.int .i64 0) (.bool false) (.string ⟨#[]⟩) (.slice none 0 0) (.slice none 0 0) (.slice none 0 0)
  have hc7 := (chg_set7 w3 (w.heap.size + 1) (.int .i64 0) (.int .i64 0) (.bool false) (.string ⟨#[]⟩) (.slice none 0 0) (.slice none 0 0) (.slice none 0 0))
  refine bodyPost_ret (v := ansV 0 0 false ⟨#[]⟩ (.slice none 0 0)) (by simp [results, Tryz.results61, go_sem, r0, r1, r2, r3, r4, r5, r6]) rfl ⟨rfl, hT3.chg hc7 ?_ ?_ ?_ ?_, hc3.andThen hc7 (fun i hi h => by omega)⟩
  all_goals simp only
  all_goals omega
end Go.Proofs.YtkfjafndplmdkaaGreat
