import Derived.Test.YtkfjafndplmdkaaGreatT9
namespace Go.Proofs.YtkfjafndplmdkaaGreat
open Go.RowKit Go.Sort
open Go.Maps (Keyed)
/-- What the steps of a transaction ask of the player: whatever new memory there is besides. -/
structure Plays (w : World) (p om : Nat) (l : List (Int × Nat)) : Prop where
  c4 : w.cell? ⟨p, 4, none⟩ = some (.map (some om))
  m : mapAt w Tryz.prog 3 mkI mkP om l
theorem Plays.chg {w w' : World} {p om : Nat} {l : List (Int × Nat)} (h : Plays w p om l) (hc : Chg nobody w w') : Plays w' p om l :=
  ⟨(hc.below.cell (p := ⟨p, 4, none⟩) (lt_of_cell h.c4)).trans h.c4, h.m.of_block (hc.block _ h.m.lt (fun h => h))⟩
theorem Plays.named_no {w : World} {p om : Nat} {l : List (Int × Nat)} (h : Plays w p om l) {n : Int} (hn : isInt n) (hg : getA n l = none) : Calls Tryz.prog 76 #[.pointer (some ⟨p, 0, none⟩), .int .i64 n] w fun e w' => e = errE 2 ∧ w' = w := Go.Proofs.YtkfjafndplmdkaaGreat.named_no p om l n w hn h.c4 h.m hg
theorem Plays.named_queued {w : World} {p om tb : Nat} {l : List (Int × Nat)} (h : Plays w p om l) {n : Int} (hn : isInt n) (hg : getA n l = some tb) (hq : w.cell? ⟨tb, 0, none⟩ = some (.bool true)) : Calls Tryz.prog 76 #[.pointer (some ⟨p, 0, none⟩), .int .i64 n] w fun e w' => e = errE 3 ∧ w' = w := Go.Proofs.YtkfjafndplmdkaaGreat.named_queued p om tb l n w hn h.c4 h.m hg hq
theorem Plays.named_yes {w : World} {p om tb : Nat} {l : List (Int × Nat)} (h : Plays w p om l) {n : Int} (hn : isInt n) (hg : getA n l = some tb) (hq : w.cell? ⟨tb, 0, none⟩ = some (.bool false)) : Calls Tryz.prog 76 #[.pointer (some ⟨p, 0, none⟩), .int .i64 n] w fun e w' => e = .returned (.pointer (some ⟨tb, 0, none⟩)) ∧ w' = w := Go.Proofs.YtkfjafndplmdkaaGreat.named_yes p om tb l n w hn h.c4 h.m hg hq
/-- what refuses a step that names a transaction: 2, 3 or nothing (0). -/
def Named (w : World) (p om : Nat) (l : List (Int × Nat)) (n c : Int) : Prop := Plays w p om l ∧ isInt n ∧ ((c = 2 ∧ getA n l = none) ∨ (c = 3 ∧ ∃ tb, getA n l = some tb ∧ w.cell? ⟨tb, 0, none⟩ = some (.bool true)))
theorem Named.calls {w : World} {p om : Nat} {l : List (Int × Nat)} {n c : Int} (h : Named w p om l n c) (w' : World) (hc : Chg nobody w w') : Calls Tryz.prog 76 #[.pointer (some ⟨p, 0, none⟩), .int .i64 n] w' fun e w'' => e = errE c ∧ w'' = w' := by
  obtain ⟨h1, hn, ⟨rfl, hg⟩ | ⟨rfl, tb, hg, hq⟩⟩ := h
  · exact (h1.chg hc).named_no hn hg
  · exact (h1.chg hc).named_queued hn hg ((hc.below.cell (p := ⟨tb, 0, none⟩) (lt_of_cell hq)).trans hq)
abbrev two (w : World) (o : OpM) : World := (w.alloc (.cells #[.int .i64 o.kind, .int .i64 o.t, .string o.key, .string o.val, .int .i64 o.n] 30)).alloc ans0
theorem two_chg (w : World) (o : OpM) : Chg nobody w (two w o) := ((Chg.refl _ _).alloc _).alloc _
set_option maxHeartbeats 400000 in
theorem get_none (p om : Nat) (l : List (Int × Nat)) (o : OpM) (c : Int) (w : World) (h : Named w p om l o.t c) :
    Calls Tryz.prog 58 #[.pointer (some ⟨p, 0, none⟩), o.v] w fun e w' => e = errE c ∧ Chg nobody w w' := by
  have h2 := h.calls (two w o) (two_chg w o)
  clear h
  go_enter Tryz.func58, Tryz.ntmps58
  go_wp2_with (go_at_call 76; refine h2.mono ?_; rintro e w' ⟨rfl, rfl⟩)
  exact ⟨rfl, rfl, two_chg w o⟩
set_option maxHeartbeats 400000 in
theorem get_key (p om tb : Nat) (l : List (Int × Nat)) (o : OpM) (w : World) (h : Plays w p om l) (hn : isInt o.t) (hg : getA o.t l = some tb) (hq : w.cell? ⟨tb, 0, none⟩ = some (.bool false)) (hk : o.key.size < 1 ∨ 8 < o.key.size) :
    Calls Tryz.prog 58 #[.pointer (some ⟨p, 0, none⟩), o.v] w fun e w' => e = errE 4 ∧ Chg nobody w w' := by
  have h2 := (h.chg (two_chg w o)).named_yes hn hg (((two_chg w o).below.cell (p := ⟨tb, 0, none⟩) (lt_of_cell hq)).trans hq)
  have h3 := mustBeKey_no o.key (two w o) hk
  clear h hg hk
  go_enter Tryz.func58, Tryz.ntmps58
  go_wp2_with (first | (go_at_call 76; refine h2.mono ?_; rintro e w' ⟨rfl, rfl⟩) | (go_at_call 77; refine h3.mono ?_; rintro e w' ⟨rfl, rfl⟩))
  exact ⟨rfl, rfl, two_chg w o⟩
set_option maxHeartbeats 1000000 in
theorem get_ok (p sb vm om : Nat) (V : List (ByteArray × VEnt)) (T : Tx) (l : List (Int × Nat)) (o : OpM) (w : World) (h : Plays w p om l) (hn : isInt o.t) (hg : getA o.t l = some T.tb) (hqq : T.queued = false) (hk : 1 ≤ o.key.size) (hk8 : o.key.size ≤ 8) (hT : TxAt w sb T) (hs : StoreAt w sb vm V) (hl : (versOf o.key V).length ≤ 2000000) (hne : T.kb ≠ T.tb ∧ T.kb ≠ T.wb ∧ T.kb ≠ T.pb ∧ T.kb ≠ sb ∧ T.kb ≠ vm ∧ T.kb ∉ vBlocks V) :
    Calls Tryz.prog 58 #[.pointer (some ⟨p, 0, none⟩), o.v] w fun e w' => e = .returned (ansV 0 0 (seen T V o.key).1 (seen T V o.key).2 (.slice none 0 0)) ∧ TxAt w' sb { T with ks := putA o.key () T.ks } ∧ Chg (fun b => b = T.kb) w w' := by
  have h2 := (h.chg (two_chg w o)).named_yes hn hg (by have := (hT.chg (two_chg w o) (fun h => h) (fun h => h) (fun h => h) (fun h => h)).cells.1; rw [hqq] at this; exact this)
  have h3 := mustBeKey_ok o.key (two w o) hk hk8
  have hT2 := hT.chg (two_chg w o) (fun h => h) (fun h => h) (fun h => h) (fun h => h)
  have hs2 := hs.chg (two_chg w o) (fun h => h) (fun h => h) (fun _ _ h => h)
  have h4 := txGet_any T sb vm V o.key (two w o) (by unfold maxLen; omega) hT2 hs2 hl hne
  have HK : Hid (T.tb < w.heap.size ∧ T.wb < w.heap.size ∧ T.kb < w.heap.size ∧ T.pb < w.heap.size) := ⟨lt_of_block hT.tx, hT.wm.lt, hT.km.lt, hT.pm.lt⟩
  obtain ⟨f, u, hfu⟩ : ∃ f u, seen T V o.key = (f, u) := ⟨_, _, rfl⟩
  rw [hfu] at h4 ⊢
  clear h hg hT hs hT2 hs2 hne hfu
  go_enter Tryz.func58, Tryz.ntmps58
  go_wp2_with (first | (go_at_call 76; refine h2.mono ?_; rintro e w' ⟨rfl, rfl⟩) | (go_at_call 77; refine h3.mono ?_; rintro e w' ⟨rfl, rfl⟩) | fail)
  refine h4.mono ?_
  rintro e w3 ⟨rfl, hT3, hc3⟩
  have hz3 : w.heap.size + 1 < w3.heap.size := by have := hc3.size; simp at this; omega
  have hres : w3.heap[w.heap.size + 1]? = some ans0 := by
    rw [hc3.block _ (by simp) (by have := HK.out; omega)]
    simpa using (MapKept.heap_alloc (w.alloc (.cells #[.int .i64 o.kind, .int .i64 o.t, .string o.key, .string o.val, .int .i64 o.n] 30)) ans0).1
  have hop : w3.heap[w.heap.size]? = some (.cells #[.int .i64 o.kind, .int .i64 o.t, .string o.key, .string o.val, .int .i64 o.n] 30) := by
    rw [hc3.block _ (by simp; omega) (by have := HK.out; omega), Below.heap_alloc _ _ _ (by simp)]
    exact (MapKept.heap_alloc w _).1
  have HF : Hid (TxAt w3 sb { T with ks := putA o.key () T.ks } ∧ Chg (fun b => b = T.kb) w w3 ∧ w3.heap[w.heap.size + 1]? = some ans0) := ⟨hT3, ((two_chg w o).any _).andThen hc3 (fun _ _ h => h), hres⟩
  obtain ⟨k0, k1, k2, k3, k4, k5, k6, kf⟩ := cells7 hres
  clear hT3 hc3 hres h2 h3 h4 hop
  go_wp2
  obtain ⟨hT3, hc3, hres⟩ := HF.out
  have hk := HK.out
  obtain ⟨r0, r1, r2, r3, r4, r5, r6⟩ := set7 hres rfl (.int .i64 0) (.int .i64 0) (.bool f) (.string u) (.slice none 0 0) (.slice none 0 0) (.slice none 0 0)
  have hc7 := (chg_set7 w3 (w.heap.size + 1) (.int .i64 0) (.int .i64 0) (.bool f) (.string u) (.slice none 0 0) (.slice none 0 0) (.slice none 0 0)).alloc (.cells #[.bool f, .string u] 127)
  refine bodyPost_ret (v := ansV 0 0 f u (.slice none 0 0)) (by simp [results, Tryz.results58, go_sem, hz3, r0, r1, r2, r3, r4, r5, r6]) rfl ⟨rfl, hT3.chg hc7 ?_ ?_ ?_ ?_, hc3.andThen hc7 (fun i hi h => by omega)⟩
  all_goals simp only
  all_goals omega
end Go.Proofs.YtkfjafndplmdkaaGreat
