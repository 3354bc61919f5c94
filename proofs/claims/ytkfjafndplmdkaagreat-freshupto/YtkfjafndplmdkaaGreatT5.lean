import Derived.Test.YtkfjafndplmdkaaGreatT4
namespace Go.Proofs.YtkfjafndplmdkaaGreat
open Go.RowKit Go.Sort
open Go.Maps (Keyed)
/-- A TRANSACTION: its blocks, whether it is queued, its start, what it wrote, which keys and prefixes it read. -/
structure Tx where
  tb : Nat
  wb : Nat
  kb : Nat
  pb : Nat
  queued : Bool
  start : Int
  ws : List (ByteArray × (Bool × ByteArray))
  ks : List (ByteArray × Unit)
  ps : List (ByteArray × Unit)
structure TxAt (w : World) (sb : Nat) (T : Tx) : Prop where
  tx : w.heap[T.tb]? = some (.cells #[.bool T.queued, .int .i64 T.start, .pointer (some ⟨sb, 0, none⟩), .map (some T.wb), .map (some T.kb), .map (some T.pb)] 148)
  wm : mapAt w Tryz.prog 9 mkS mkC T.wb T.ws
  km : mapAt w Tryz.prog 9 mkS mkU T.kb T.ks
  pm : mapAt w Tryz.prog 9 mkS mkU T.pb T.ps
theorem TxAt.cells {w : World} {sb : Nat} {T : Tx} (h : TxAt w sb T) : w.cell? ⟨T.tb, 0, none⟩ = some (.bool T.queued) ∧ w.cell? ⟨T.tb, 1, none⟩ = some (.int .i64 T.start) ∧ w.cell? ⟨T.tb, 2, none⟩ = some (.pointer (some ⟨sb, 0, none⟩)) ∧ w.cell? ⟨T.tb, 3, none⟩ = some (.map (some T.wb)) ∧ w.cell? ⟨T.tb, 4, none⟩ = some (.map (some T.kb)) ∧ w.cell? ⟨T.tb, 5, none⟩ = some (.map (some T.pb)) :=
  ⟨cell_of h.tx rfl, cell_of h.tx rfl, cell_of h.tx rfl, cell_of h.tx rfl, cell_of h.tx rfl, cell_of h.tx rfl⟩
theorem TxAt.chg {w w' : World} {sb : Nat} {T : Tx} {S : Nat → Prop} (h : TxAt w sb T) (hc : Chg S w w') (h1 : ¬ S T.tb) (h2 : ¬ S T.wb) (h3 : ¬ S T.kb) (h4 : ¬ S T.pb) : TxAt w' sb T :=
  ⟨(hc.block _ (lt_of_block h.tx) h1).trans h.tx, h.wm.of_block (hc.block _ h.wm.lt h2), h.km.of_block (hc.block _ h.km.lt h3), h.pm.of_block (hc.block _ h.pm.lt h4)⟩
def seen (T : Tx) (V : List (ByteArray × VEnt)) (key : ByteArray) : Bool × ByteArray := match getA key T.ws with | some c => c | none => atV (versOf key V) T.start
set_option maxHeartbeats 400000 in
theorem sees_own (tb wb : Nat) (ws : List (ByteArray × (Bool × ByteArray))) (key : ByteArray) (c : Bool × ByteArray) (w : World) (hk : key.size ≤ maxLen) (h2 : w.cell? ⟨tb, 3, none⟩ = some (.map (some wb))) (hm : mapAt w Tryz.prog 9 mkS mkC wb ws) (hg : getA key ws = some c) :
    Calls Tryz.prog 101 #[.pointer (some ⟨tb, 0, none⟩), .string key] w fun e w' => e = .returned (.agg #[.bool c.1, .string c.2]) ∧ Chg nobody w w' := by
  have hrun : ∀ o, (Instr.lookup 145 (.map (some wb)) (.string key) true).run Tryz.prog (w.alloc o) = .ok (.tuple #[.agg #[.bool c.1, .string c.2], .bool true]) (w.alloc o) := fun o => by
    have := (hm.of_block (Below.heap_alloc w o wb hm.lt)).look keyS mkS_inj Tryz.underlying145 (zeroC (w.alloc o)) (keyOfS hk)
    rw [hg] at this
    exact this
  have htl : tb < w.heap.size := lt_of_cell h2
  have hc2 : ∀ o, (w.alloc o).cell? ⟨tb, 3, none⟩ = some (.map (some wb)) := fun o => by rw [World.cell?_alloc_past _ _ _ htl]; exact h2
  clear hm hg h2
  go_enter Tryz.func101, Tryz.ntmps101
  go_wp2
  exact bodyPost_ret (v := .agg #[.bool c.1, .string c.2]) (by simp [results, Tryz.results101, go_sem]) rfl ⟨rfl, ((Chg.refl _ _).alloc _).alloc _⟩
set_option maxHeartbeats 1000000 in
theorem sees_store (tb wb sb vm : Nat) (V : List (ByteArray × VEnt)) (st : Int) (ws : List (ByteArray × (Bool × ByteArray))) (key : ByteArray) (w : World) (hk : key.size ≤ maxLen) (h0 : w.cell? ⟨tb, 1, none⟩ = some (.int .i64 st)) (h1 : w.cell? ⟨tb, 2, none⟩ = some (.pointer (some ⟨sb, 0, none⟩))) (h2 : w.cell? ⟨tb, 3, none⟩ = some (.map (some wb))) (hm : mapAt w Tryz.prog 9 mkS mkC wb ws) (hg : getA key ws = none)
    (hs : StoreAt w sb vm V) (hl : (versOf key V).length ≤ 2000000) :
    Calls Tryz.prog 101 #[.pointer (some ⟨tb, 0, none⟩), .string key] w fun e w' => e = .returned (mkC (atV (versOf key V) st)) ∧ Chg nobody w w' := by
  have hrun : ∀ o, (Instr.lookup 145 (.map (some wb)) (.string key) true).run Tryz.prog (w.alloc o) = .ok (.tuple #[.agg #[.bool false, .string ⟨#[]⟩], .bool false]) (w.alloc o) := fun o => by
    have := (hm.of_block (Below.heap_alloc w o wb hm.lt)).look keyS mkS_inj Tryz.underlying145 (zeroC (w.alloc o)) (keyOfS hk)
    rw [hg] at this
    exact this
  have htl : tb < w.heap.size := lt_of_cell h2
  have hc2 : ∀ o, (w.alloc o).cell? ⟨tb, 3, none⟩ = some (.map (some wb)) := fun o => by rw [World.cell?_alloc_past _ _ _ htl]; exact h2
  have hc0 : ∀ o o', ((w.alloc o).alloc o').cell? ⟨tb, 1, none⟩ = some (.int .i64 st) := fun o o' => by rw [World.cell?_alloc_past _ _ _ (by simp; omega), World.cell?_alloc_past _ _ _ htl]; exact h0
  have hc1 : ∀ o o', ((w.alloc o).alloc o').cell? ⟨tb, 2, none⟩ = some (.pointer (some ⟨sb, 0, none⟩)) := fun o o' => by rw [World.cell?_alloc_past _ _ _ (by simp; omega), World.cell?_alloc_past _ _ _ htl]; exact h1
  have HV : Hid (∀ w', Chg nobody w w' → StoreAt w' sb vm V) := fun w' hc => hs.chg hc (fun h => h) (fun h => h) (fun _ _ h => h)
  obtain ⟨f, u, hfu⟩ : ∃ f u, atV (versOf key V) st = (f, u) := ⟨_, _, rfl⟩
  have HX := fun w' (h : StoreAt w' sb vm V) => storeAt_any sb vm V key st w' hk h hl
  rw [hfu] at HX ⊢
  clear hm hg h2 h0 h1 hs hfu hl
  go_enter Tryz.func101, Tryz.ntmps101
  go_wp2
  go_region_with (go_at_call 113; refine (HX _ (HV.out _ (((Chg.refl _ _).alloc _).alloc _).drew)).mono ?_; rintro e w' ⟨rfl, hch⟩; obtain ⟨hcc, hff⟩ := bcell hch)
  all_goals go_wp2
  all_goals
    have r := set2 (w := w') (b := w.heap.size) (u0 := .bool false) (u1 := .string ⟨#[]⟩) (by rw [hcc _ _ (by simp; omega)]; simp [go_sem]) (by rw [hcc _ _ (by simp; omega)]; simp [go_sem]) (.bool f) (.string u)
    exact bodyPost_ret (v := .agg #[.bool f, .string u]) (by simp [results, Tryz.results101, go_sem, r.1, r.2]) rfl ⟨rfl, ((((((Chg.refl _ _).alloc _).alloc _).drew).andThen hch (fun _ _ h => h)).setCell (Or.inr (Nat.le_refl _)) _).setCell (Or.inr (Nat.le_refl _)) _⟩
set_option maxHeartbeats 400000 in
theorem clone_any (s : ByteArray) (w : World) (hs : s.size ≤ 281474976710656) :
    Calls Tryz.prog 105 #[.string s] w fun e w' => e = .returned (.string s) ∧ Chg nobody w w' := by
  go_enter Tryz.func105, Tryz.ntmps105
  go_wp2_with (go_at_call 117; refine (Tryz.stringslite_Clone s _ hs).mono ?_; rintro e w' ⟨rfl, hb⟩)
  go_ret
  exact ⟨rfl, Chg.of_below hb _⟩
set_option maxHeartbeats 1000000 in
theorem write_any (tb wb : Nat) (ws : List (ByteArray × (Bool × ByteArray))) (key v : ByteArray) (f : Bool) (w : World) (hk : key.size ≤ 281474976710656) (h2 : w.cell? ⟨tb, 3, none⟩ = some (.map (some wb))) (hm : mapAt w Tryz.prog 9 mkS mkC wb ws) :
    Calls Tryz.prog 103 #[.pointer (some ⟨tb, 0, none⟩), .string key, .agg #[.bool f, .string v]] w fun e w' => e = .returned (.tuple #[]) ∧ mapAt w' Tryz.prog 9 mkS mkC wb (putA key (f, v) ws) ∧ Chg (fun b => b = wb) w w' := by
  have htl : tb < w.heap.size := lt_of_cell h2
  have hc2 : ∀ o, (w.alloc o).cell? ⟨tb, 3, none⟩ = some (.map (some wb)) := fun o => by rw [World.cell?_alloc_past _ _ _ htl]; exact h2
  have hst : Hid (∀ w' : World, Chg nobody w w' → ∃ w2, (Instr.mapUpdate 145 (.map (some wb)) (.string key) (.agg #[.bool f, .string v])).run Tryz.prog w' = .ok () w2 ∧ mapAt w2 Tryz.prog 9 mkS mkC wb (putA key (f, v) ws) ∧ Chg (fun b => b = wb) w w2) := fun w' hch => by
    obtain ⟨w2, r1, r2, r3, _⟩ := (hm.of_block (hch.block wb hm.lt (fun h => h))).store keyS mkS_inj Tryz.underlying145 (a := key) (keyOfS (by unfold maxLen; omega)) (f, v)
    exact ⟨w2, r1, r2, (hch.any _).grown r3 (fun k e => Or.inl (by cases e; rfl))⟩
  clear hm h2
  go_enter Tryz.func103, Tryz.ntmps103
  go_wp2
  go_region_with (go_at_call 105; refine (clone_any key _ hk).mono ?_; rintro e w' ⟨rfl, hch⟩; obtain ⟨hcc, hff⟩ := bcell hch; obtain ⟨w2, hrun2, hm2, hc3⟩ := hst.out w' ((((Chg.refl _ _).alloc _).drew).andThen hch (fun _ _ h => h)))
  all_goals go_wp2
  all_goals go_end0
  all_goals exact ⟨rfl, hm2, hc3⟩
set_option maxHeartbeats 1000000 in
theorem txPut_any (tb wb : Nat) (ws : List (ByteArray × (Bool × ByteArray))) (key v : ByteArray) (w : World) (hk : key.size ≤ 281474976710656) (hv : v.size ≤ 281474976710656) (h2 : w.cell? ⟨tb, 3, none⟩ = some (.map (some wb))) (hm : mapAt w Tryz.prog 9 mkS mkC wb ws) :
    Calls Tryz.prog 81 #[.pointer (some ⟨tb, 0, none⟩), .string key, .string v] w fun e w' => e = .returned (.tuple #[]) ∧ mapAt w' Tryz.prog 9 mkS mkC wb (putA key (true, v) ws) ∧ Chg (fun b => b = wb) w w' := by
  have htl : tb < w.heap.size := lt_of_cell h2
  have H2 : Hid (∀ w', Chg nobody w w' → w'.cell? ⟨tb, 3, none⟩ = some (.map (some wb))) := fun w' hc => (hc.below.cell (p := ⟨tb, 3, none⟩) htl).trans h2
  have HM : Hid (∀ w', Chg nobody w w' → mapAt w' Tryz.prog 9 mkS mkC wb ws) := fun w' hc => hm.of_block (hc.block wb hm.lt (fun h => h))
  clear hm h2
  go_enter Tryz.func81, Tryz.ntmps81
  go_wp2_with fail
  refine (clone_any v _ hv).mono ?_
  rintro e w1 ⟨rfl, hch⟩
  go_wp2_with fail
  refine (filled_any v _).mono ?_
  rintro e w2 ⟨rfl, rfl⟩
  go_wp2_with fail
  refine (write_any tb wb ws key v true _ hk (H2.out _ (hch.alloc _)) (HM.out _ (hch.alloc _))).mono ?_
  rintro e w3 ⟨rfl, hm3, hc3⟩
  go_wp2_with fail
  go_end0
  exact ⟨rfl, hm3, ((hch.alloc _).any _).andThen hc3 (fun _ _ h => h)⟩
set_option maxHeartbeats 1000000 in
theorem txDel_any (tb wb : Nat) (ws : List (ByteArray × (Bool × ByteArray))) (key : ByteArray) (w : World) (hk : key.size ≤ 281474976710656) (h2 : w.cell? ⟨tb, 3, none⟩ = some (.map (some wb))) (hm : mapAt w Tryz.prog 9 mkS mkC wb ws) :
    Calls Tryz.prog 82 #[.pointer (some ⟨tb, 0, none⟩), .string key] w fun e w' => e = .returned (.tuple #[]) ∧ mapAt w' Tryz.prog 9 mkS mkC wb (putA key noCell ws) ∧ Chg (fun b => b = wb) w w' := by
  go_enter Tryz.func82, Tryz.ntmps82
  go_wp2_with fail
  refine (write_any tb wb ws key ⟨#[]⟩ false _ hk h2 hm).mono ?_
  rintro e w3 ⟨rfl, hm3, hc3⟩
  go_wp2_with fail
  go_end0
  exact ⟨rfl, hm3, hc3⟩
/-- what a transaction sees of a key. -/
theorem sees_any (T : Tx) (sb vm : Nat) (V : List (ByteArray × VEnt)) (key : ByteArray) (w : World) (hk : key.size ≤ maxLen) (hT : TxAt w sb T) (hs : StoreAt w sb vm V) (hl : (versOf key V).length ≤ 2000000) :
    Calls Tryz.prog 101 #[.pointer (some ⟨T.tb, 0, none⟩), .string key] w fun e w' => e = .returned (.agg #[.bool (seen T V key).1, .string (seen T V key).2]) ∧ Chg nobody w w' := by
  obtain ⟨_, c0, c1, c2, _, _⟩ := hT.cells
  unfold seen
  cases hg : getA key T.ws with
  | none => exact sees_store T.tb T.wb sb vm V T.start T.ws key w hk c0 c1 c2 hT.wm hg hs hl
  | some c => exact sees_own T.tb T.wb T.ws key c w hk c2 hT.wm hg
set_option maxHeartbeats 1000000 in
theorem txGet_any (T : Tx) (sb vm : Nat) (V : List (ByteArray × VEnt)) (key : ByteArray) (w : World) (hk : key.size ≤ maxLen) (hT : TxAt w sb T) (hs : StoreAt w sb vm V) (hl : (versOf key V).length ≤ 2000000) (hne : T.kb ≠ T.tb ∧ T.kb ≠ T.wb ∧ T.kb ≠ T.pb ∧ T.kb ≠ sb ∧ T.kb ≠ vm ∧ T.kb ∉ vBlocks V) :
    Calls Tryz.prog 78 #[.pointer (some ⟨T.tb, 0, none⟩), .string key] w fun e w' => e = .returned (.agg #[.bool (seen T V key).1, .string (seen T V key).2]) ∧ TxAt w' sb { T with ks := putA key () T.ks } ∧ Chg (fun b => b = T.kb) w w' := by
  obtain ⟨_, _, _, _, c3, _⟩ := hT.cells
  obtain ⟨sv, hsv⟩ : ∃ sv, seen T V key = sv := ⟨_, rfl⟩
  rw [hsv]
  have HV : Hid (seen T V key = sv) := hsv
  clear hsv
  have htl := lt_of_block hT.tx
  have hc3 : ∀ o, (w.alloc o).cell? ⟨T.tb, 4, none⟩ = some (.map (some T.kb)) := fun o => by rw [World.cell?_alloc_past _ _ _ htl]; exact c3
  have HS : ∀ o, ∃ w2, (Instr.mapUpdate 146 (.map (some T.kb)) (.string key) (.agg #[])).run Tryz.prog (w.alloc o) = .ok () w2 ∧ TxAt w2 sb { T with ks := putA key () T.ks } ∧ StoreAt w2 sb vm V ∧ Chg (fun b => b = T.kb) (w.alloc o) w2 := fun o => by
    have hTo := hT.chg ((Chg.refl nobody w).alloc o) (fun h => h) (fun h => h) (fun h => h) (fun h => h)
    have hso := hs.chg ((Chg.refl nobody w).alloc o) (fun h => h) (fun h => h) (fun _ _ h => h)
    obtain ⟨w2, r1, r2, r3, _⟩ := hTo.km.store keyS mkS_inj Tryz.underlying146 (a := key) (keyOfS hk) ()
    have hcg : Chg (fun b => b = T.kb) (w.alloc o) w2 := (Chg.refl _ _).grown r3 (fun k e => Or.inl (by cases e; rfl))
    exact ⟨w2, r1, ⟨(hcg.block _ (lt_of_block hTo.tx) (Ne.symm hne.1)).trans hTo.tx, hTo.wm.of_block (hcg.block _ hTo.wm.lt (Ne.symm hne.2.1)), r2, hTo.pm.of_block (hcg.block _ hTo.pm.lt (Ne.symm hne.2.2.1))⟩, hso.chg hcg (Ne.symm hne.2.2.2.1) (Ne.symm hne.2.2.2.2.1) (fun b hb e => hne.2.2.2.2.2 (e ▸ hb)), hcg⟩
  obtain ⟨w2, hrun, hT2, hs2, hcg⟩ := HS (.cells #[.bool false, .string ⟨#[]⟩] 127)
  have HI : Hid (TxAt w2 sb { T with ks := putA key () T.ks } ∧ StoreAt w2 sb vm V ∧ Chg (fun b => b = T.kb) (w.alloc (.cells #[.bool false, .string ⟨#[]⟩] 127)) w2 ∧ T.tb < w.heap.size ∧ T.wb < w.heap.size ∧ T.kb < w.heap.size ∧ T.pb < w.heap.size) := ⟨hT2, hs2, hcg, lt_of_block hT.tx, hT.wm.lt, hT.km.lt, hT.pm.lt⟩
  clear hT2 hs2 hcg HS hT hs c3 hne
  go_enter Tryz.func78, Tryz.ntmps78
  go_wp2_with fail
  obtain ⟨hT2, hs2, hcg, l1, l2, l3, l4⟩ := HI.out
  have HSE := sees_any { T with ks := putA key () T.ks } sb vm V key _ hk hT2 hs2 hl
  have e1 : seen { T with ks := putA key () T.ks } V key = seen T V key := rfl
  rw [e1, HV.out] at HSE
  refine HSE.mono ?_
  rintro e w3 ⟨rfl, hc⟩
  have hlt : w.heap.size < w2.heap.size := by have := hcg.size; simp at this; omega
  have hblk : w3.heap[w.heap.size]? = some (.cells #[.bool false, .string ⟨#[]⟩] 127) := by
    rw [hc.block _ hlt (fun h => h), hcg.block _ (by simp) (by omega)]
    exact (MapKept.heap_alloc w _).1
  have k0 := cell_of hblk (i := 0) rfl
  have k1 := cell_of hblk (i := 1) rfl
  have f0 := unfrozen_of hblk 0
  have f1 := unfrozen_of hblk 1
  have hfin : Hid (TxAt w3 sb { T with ks := putA key () T.ks } ∧ Chg (fun b => b = T.kb) w w3) := ⟨hT2.chg hc (fun h => h) (fun h => h) (fun h => h) (fun h => h), (((Chg.refl _ _).alloc _).andThen hcg (fun _ _ h => h)).andThen (hc.any (fun b => b = T.kb)) (fun _ _ h => h)⟩
  clear hc hcg hT2 hs2 hblk HSE
  have r := set2 k0 k1 (.bool sv.1) (.string sv.2)
  go_wp2
  refine bodyPost_ret (v := .agg #[.bool sv.1, .string sv.2]) (by simp [results, Tryz.results78, go_sem, r.1, r.2]) rfl ⟨rfl, ?_, ?_⟩
  · exact hfin.out.1.chg ((chg_set w3 w.heap.size 0 _).trans (chg_set _ w.heap.size 1 _)) (by simp; omega) (by simp; omega) (by simp; omega) (by simp; omega)
  · exact (hfin.out.2.setCell (Or.inr (Nat.le_refl _)) _).setCell (Or.inr (Nat.le_refl _)) _
end Go.Proofs.YtkfjafndplmdkaaGreat
