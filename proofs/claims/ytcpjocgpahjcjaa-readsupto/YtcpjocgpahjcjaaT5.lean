import Derived.Test.YtcpjocgpahjcjaaT4
import Derived.Test.YtcpjocgpahjcjaaShelf
namespace Go.Proofs.Ytcpjocgpahjcjaa
open Go.RowKit
open Go.Maps (Keyed)
set_option maxHeartbeats 400000 in
theorem clone_any (s : ByteArray) (w : World) (hs : s.size ≤ 281474976710656) :
    Calls Try.prog 62 #[.string s] w fun e w' => e = .returned (.string s) ∧ Chg nobody w w' := by
  go_enter Try.func62, Try.ntmps62
  go_wp2_with (go_at_call 69; refine (Try.stringslite_Clone s _ hs).mono ?_; rintro e w' ⟨rfl, hb⟩)
  go_ret
  exact ⟨rfl, Chg.of_below hb _⟩
theorem chg_set (w : World) (b i : Nat) (v : Value) : Chg (fun k => k = b) w (w.setCell ⟨b, i, none⟩ v) := (Chg.refl (fun k => k = b) w).setCell (p := ⟨b, i, none⟩) (Or.inl rfl) v
theorem lt_of_cell {w : World} {a : Addr} {v : Value} (h : w.cell? a = some v) : a.block < w.heap.size := by
  unfold World.cell? at h
  split at h
  · rename_i hh; exact lt_of_block hh
  · cases h
set_option maxHeartbeats 1000000 in
theorem write_any (tb wb : Nat) (ws : List (ByteArray × (Bool × ByteArray))) (key v : ByteArray) (f : Bool) (w : World) (hk : key.size ≤ 281474976710656) (h2 : w.cell? ⟨tb, 2, none⟩ = some (.map (some wb))) (hm : mapAt w Try.prog 9 mkS mkC wb ws) :
    Calls Try.prog 60 #[.pointer (some ⟨tb, 0, none⟩), .string key, .agg #[.bool f, .string v]] w fun e w' => e = .returned (.tuple #[]) ∧ mapAt w' Try.prog 9 mkS mkC wb (putA key (f, v) ws) ∧ Chg (fun b => b = wb) w w' := by
  have htl := lt_of_cell h2
  have hc2 : ∀ o, (w.alloc o).cell? ⟨tb, 2, none⟩ = some (.map (some wb)) := fun o => by rw [World.cell?_alloc_past _ _ _ htl]; exact h2
  have hst : Hid (∀ w' : World, Chg nobody w w' → ∃ w2, (Instr.mapUpdate 100 (.map (some wb)) (.string key) (.agg #[.bool f, .string v])).run Try.prog w' = .ok () w2 ∧ mapAt w2 Try.prog 9 mkS mkC wb (putA key (f, v) ws) ∧ Chg (fun b => b = wb) w w2) := fun w' hch => by
    obtain ⟨w2, r1, r2, r3, _⟩ := (hm.of_block (hch.block wb hm.lt (fun h => h))).store keyS mkS_inj Try.underlying100 (a := key) (keyOfS (by unfold maxLen; omega)) (f, v)
    exact ⟨w2, r1, r2, (hch.any _).grown r3 (fun k e => Or.inl (by cases e; rfl))⟩
  clear hm h2
  go_enter Try.func60, Try.ntmps60
  go_wp2
  go_region_with (go_at_call 62; refine (clone_any key _ hk).mono ?_; rintro e w' ⟨rfl, hch⟩; obtain ⟨hcc, hff⟩ := bcell hch; obtain ⟨w2, hrun2, hm2, hc3⟩ := hst.out w' ((((Chg.refl _ _).alloc _).drew).andThen hch (fun _ _ h => h)))
  all_goals go_wp2
  all_goals go_end0
  all_goals exact ⟨rfl, hm2, hc3⟩
set_option maxHeartbeats 1000000 in
theorem txPut_any (tb wb : Nat) (ws : List (ByteArray × (Bool × ByteArray))) (key v : ByteArray) (w : World) (hk : key.size ≤ 281474976710656) (hv : v.size ≤ 281474976710656) (h2 : w.cell? ⟨tb, 2, none⟩ = some (.map (some wb))) (hm : mapAt w Try.prog 9 mkS mkC wb ws) :
    Calls Try.prog 50 #[.pointer (some ⟨tb, 0, none⟩), .string key, .string v] w fun e w' => e = .returned (.tuple #[]) ∧ mapAt w' Try.prog 9 mkS mkC wb (putA key (true, v) ws) ∧ Chg (fun b => b = wb) w w' := by
  have htl := lt_of_cell h2
  have H2 : Hid (∀ w', Chg nobody w w' → w'.cell? ⟨tb, 2, none⟩ = some (.map (some wb))) := fun w' hc => (hc.below.cell (p := ⟨tb, 2, none⟩) htl).trans h2
  have HM : Hid (∀ w', Chg nobody w w' → mapAt w' Try.prog 9 mkS mkC wb ws) := fun w' hc => hm.of_block (hc.block wb hm.lt (fun h => h))
  clear hm h2
  go_enter Try.func50, Try.ntmps50
  go_wp2_with fail
  refine (clone_any v _ hv).mono ?_
  rintro e w1 ⟨rfl, hch⟩
  go_wp2_with fail
  refine (filled_any v _).mono ?_
  rintro e w2 ⟨rfl, rfl⟩
  go_wp2_with fail
  refine (write_any tb wb ws key v true _ hk (H2.out _ (hch.alloc _)) (HM.out _ (hch.alloc _))).mono ?_
  rintro e w3 ⟨rfl, hm3, hc3⟩
  go_wp2_with fail
  go_end0
  exact ⟨rfl, hm3, ((hch.alloc _).any _).andThen hc3 (fun _ _ h => h)⟩
set_option maxHeartbeats 1000000 in
theorem txDel_any (tb wb : Nat) (ws : List (ByteArray × (Bool × ByteArray))) (key : ByteArray) (w : World) (hk : key.size ≤ 281474976710656) (h2 : w.cell? ⟨tb, 2, none⟩ = some (.map (some wb))) (hm : mapAt w Try.prog 9 mkS mkC wb ws) :
    Calls Try.prog 51 #[.pointer (some ⟨tb, 0, none⟩), .string key] w fun e w' => e = .returned (.tuple #[]) ∧ mapAt w' Try.prog 9 mkS mkC wb (putA key noCell ws) ∧ Chg (fun b => b = wb) w w' := by
  go_enter Try.func51, Try.ntmps51
  go_wp2_with fail
  refine (write_any tb wb ws key ⟨#[]⟩ false _ hk h2 hm).mono ?_
  rintro e w3 ⟨rfl, hm3, hc3⟩
  go_wp2_with fail
  go_end0
  exact ⟨rfl, hm3, hc3⟩
/-- what a transaction sees of a key, the store empty. -/
theorem sees_any (T : Tx) (sb vm : Nat) (key : ByteArray) (w : World) (hk : key.size ≤ maxLen) (hT : TxAt w sb T) (hs : StoreAt w sb vm) :
    Calls Try.prog 58 #[.pointer (some ⟨T.tb, 0, none⟩), .string key] w fun e w' => e = .returned (.agg #[.bool (seen T key).1, .string (seen T key).2]) ∧ Chg nobody w w' := by
  obtain ⟨c0, c1, c2, _, _⟩ := hT.cells
  unfold seen
  cases hg : getA key T.ws with
  | none => exact sees_store T.tb T.wb sb vm T.start T.ws key w hk c0 c1 c2 hT.wm hg hs
  | some c => exact sees_own T.tb T.wb T.ws key c w hk c2 hT.wm hg
set_option maxHeartbeats 1000000 in
theorem txGet_any (T : Tx) (sb vm : Nat) (key : ByteArray) (w : World) (hk : key.size ≤ maxLen) (hT : TxAt w sb T) (hs : StoreAt w sb vm) (hne : T.kb ≠ T.tb ∧ T.kb ≠ T.wb ∧ T.kb ≠ T.pb ∧ T.kb ≠ sb ∧ T.kb ≠ vm) :
    Calls Try.prog 47 #[.pointer (some ⟨T.tb, 0, none⟩), .string key] w fun e w' => e = .returned (.agg #[.bool (seen T key).1, .string (seen T key).2]) ∧ TxAt w' sb { T with ks := putA key () T.ks } ∧ Chg (fun b => b = T.kb) w w' := by
  obtain ⟨_, _, _, c3, _⟩ := hT.cells
  have htl := lt_of_block hT.tx
  have hc3 : ∀ o, (w.alloc o).cell? ⟨T.tb, 3, none⟩ = some (.map (some T.kb)) := fun o => by rw [World.cell?_alloc_past _ _ _ htl]; exact c3
  have HS : ∀ o, ∃ w2, (Instr.mapUpdate 101 (.map (some T.kb)) (.string key) (.agg #[])).run Try.prog (w.alloc o) = .ok () w2 ∧ TxAt w2 sb { T with ks := putA key () T.ks } ∧ StoreAt w2 sb vm ∧ Chg (fun b => b = T.kb) (w.alloc o) w2 := fun o => by
    have hTo := hT.chg ((Chg.refl nobody w).alloc o) (fun h => h) (fun h => h) (fun h => h) (fun h => h)
    have hso := hs.chg ((Chg.refl nobody w).alloc o) (fun h => h) (fun h => h)
    obtain ⟨w2, r1, r2, r3, _⟩ := hTo.km.store keyS mkS_inj Try.underlying101 (a := key) (keyOfS hk) ()
    have hcg : Chg (fun b => b = T.kb) (w.alloc o) w2 := (Chg.refl _ _).grown r3 (fun k e => Or.inl (by cases e; rfl))
    exact ⟨w2, r1, ⟨(hcg.block _ (lt_of_block hTo.tx) (Ne.symm hne.1)).trans hTo.tx, hTo.wm.of_block (hcg.block _ hTo.wm.lt (Ne.symm hne.2.1)), r2, hTo.pm.of_block (hcg.block _ hTo.pm.lt (Ne.symm hne.2.2.1))⟩, hso.chg hcg (Ne.symm hne.2.2.2.1) (Ne.symm hne.2.2.2.2), hcg⟩
  obtain ⟨w2, hrun, hT2, hs2, hcg⟩ := HS (.cells #[.bool false, .string ⟨#[]⟩] 91)
  have HI : Hid (TxAt w2 sb { T with ks := putA key () T.ks } ∧ StoreAt w2 sb vm ∧ Chg (fun b => b = T.kb) (w.alloc (.cells #[.bool false, .string ⟨#[]⟩] 91)) w2 ∧ T.tb < w.heap.size ∧ T.wb < w.heap.size ∧ T.kb < w.heap.size ∧ T.pb < w.heap.size) := ⟨hT2, hs2, hcg, lt_of_block hT.tx, hT.wm.lt, hT.km.lt, hT.pm.lt⟩
  clear hT2 hs2 hcg HS hT hs c3 hne
  go_enter Try.func47, Try.ntmps47
  go_wp2_with fail
  obtain ⟨hT2, hs2, hcg, l1, l2, l3, l4⟩ := HI.out
  refine (sees_any { T with ks := putA key () T.ks } sb vm key _ hk hT2 hs2).mono ?_
  rintro e w3 ⟨rfl, hc⟩
  have hlt : w.heap.size < w2.heap.size := by have := hcg.size; simp at this; omega
  have hblk : w3.heap[w.heap.size]? = some (.cells #[.bool false, .string ⟨#[]⟩] 91) := by
    rw [hc.block _ hlt (fun h => h), hcg.block _ (by simp) (by omega)]
    exact (MapKept.heap_alloc w _).1
  have k0 := cell_of hblk (i := 0) rfl
  have k1 := cell_of hblk (i := 1) rfl
  have f0 := unfrozen_of hblk 0
  have f1 := unfrozen_of hblk 1
  have hfin : Hid (TxAt w3 sb { T with ks := putA key () T.ks } ∧ Chg (fun b => b = T.kb) w w3) := ⟨hT2.chg hc (fun h => h) (fun h => h) (fun h => h) (fun h => h), (((Chg.refl _ _).alloc _).andThen hcg (fun _ _ h => h)).andThen (hc.any (fun b => b = T.kb)) (fun _ _ h => h)⟩
  clear hc hcg hT2 hs2 hblk
  have r := set2 k0 k1 (.bool (seen T key).1) (.string (seen T key).2)
  go_wp2
  refine bodyPost_ret (v := .agg #[.bool (seen T key).1, .string (seen T key).2]) (by simp [results, Try.results47, go_sem, r.1, r.2]) rfl ⟨rfl, ?_, ?_⟩
  · exact hfin.out.1.chg ((chg_set w3 w.heap.size 0 _).trans (chg_set _ w.heap.size 1 _)) (by simp; omega) (by simp; omega) (by simp; omega) (by simp; omega)
  · exact (hfin.out.2.setCell (Or.inr (Nat.le_refl _)) _).setCell (Or.inr (Nat.le_refl _)) _
end Go.Proofs.Ytcpjocgpahjcjaa
