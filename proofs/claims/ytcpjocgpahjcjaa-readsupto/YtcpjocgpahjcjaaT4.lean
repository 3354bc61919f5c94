import Derived.Test.YtcpjocgpahjcjaaT3
import Derived.Deep.RegionWith
namespace Go.Proofs.Ytcpjocgpahjcjaa
open Go.RowKit
open Go.Maps (Keyed)
/-- A TRANSACTION: its blocks, its start, what it wrote, which keys and prefixes it read. -/
structure Tx where
  tb : Nat
  wb : Nat
  kb : Nat
  pb : Nat
  start : Int
  ws : List (ByteArray × (Bool × ByteArray))
  ks : List (ByteArray × Unit)
  ps : List (ByteArray × Unit)
structure TxAt (w : World) (sb : Nat) (T : Tx) : Prop where
  tx : w.heap[T.tb]? = some (.cells #[.int .i64 T.start, .pointer (some ⟨sb, 0, none⟩), .map (some T.wb), .map (some T.kb), .map (some T.pb)] 103)
  wm : mapAt w Try.prog 9 mkS mkC T.wb T.ws
  km : mapAt w Try.prog 9 mkS mkU T.kb T.ks
  pm : mapAt w Try.prog 9 mkS mkU T.pb T.ps
/-- THE STORE, WITHOUT A VERSION. -/
structure StoreAt (w : World) (sb vm : Nat) : Prop where
  st : w.heap[sb]? = some (.cells #[.map (some vm)] 77)
  vs : w.heap[vm]? = some (.map #[] 0)
abbrev noCell : Bool × ByteArray := (false, ⟨#[]⟩)
abbrev seen (T : Tx) (key : ByteArray) : Bool × ByteArray := (getA key T.ws).getD noCell
theorem TxAt.cells {w : World} {sb : Nat} {T : Tx} (h : TxAt w sb T) : w.cell? ⟨T.tb, 0, none⟩ = some (.int .i64 T.start) ∧ w.cell? ⟨T.tb, 1, none⟩ = some (.pointer (some ⟨sb, 0, none⟩)) ∧ w.cell? ⟨T.tb, 2, none⟩ = some (.map (some T.wb)) ∧ w.cell? ⟨T.tb, 3, none⟩ = some (.map (some T.kb)) ∧ w.cell? ⟨T.tb, 4, none⟩ = some (.map (some T.pb)) :=
  ⟨cell_of h.tx rfl, cell_of h.tx rfl, cell_of h.tx rfl, cell_of h.tx rfl, cell_of h.tx rfl⟩
theorem StoreAt.chg {w w' : World} {sb vm : Nat} {S : Nat → Prop} (h : StoreAt w sb vm) (hc : Chg S w w') (h1 : ¬ S sb) (h2 : ¬ S vm) : StoreAt w' sb vm :=
  ⟨(hc.block sb (lt_of_block h.st) h1).trans h.st, (hc.block vm (lt_of_block h.vs) h2).trans h.vs⟩
theorem TxAt.chg {w w' : World} {sb : Nat} {T : Tx} {S : Nat → Prop} (h : TxAt w sb T) (hc : Chg S w w') (h1 : ¬ S T.tb) (h2 : ¬ S T.wb) (h3 : ¬ S T.kb) (h4 : ¬ S T.pb) : TxAt w' sb T :=
  ⟨(hc.block _ (lt_of_block h.tx) h1).trans h.tx, h.wm.of_block (hc.block _ h.wm.lt h2), h.km.of_block (hc.block _ h.km.lt h3), h.pm.of_block (hc.block _ h.pm.lt h4)⟩

set_option maxHeartbeats 400000 in
theorem sees_own (tb wb : Nat) (ws : List (ByteArray × (Bool × ByteArray))) (key : ByteArray) (c : Bool × ByteArray) (w : World) (hk : key.size ≤ maxLen) (h2 : w.cell? ⟨tb, 2, none⟩ = some (.map (some wb))) (hm : mapAt w Try.prog 9 mkS mkC wb ws) (hg : getA key ws = some c) :
    Calls Try.prog 58 #[.pointer (some ⟨tb, 0, none⟩), .string key] w fun e w' => e = .returned (.agg #[.bool c.1, .string c.2]) ∧ Chg nobody w w' := by
  have hrun : ∀ o, (Instr.lookup 100 (.map (some wb)) (.string key) true).run Try.prog (w.alloc o) = .ok (.tuple #[.agg #[.bool c.1, .string c.2], .bool true]) (w.alloc o) := fun o => by
    have := (hm.of_block (Below.heap_alloc w o wb hm.lt)).look keyS mkS_inj Try.underlying100 (zeroC (w.alloc o)) (keyOfS hk)
    rw [hg] at this
    exact this
  have htl : tb < w.heap.size := by
    unfold World.cell? at h2
    split at h2
    · rename_i h; exact lt_of_block h
    · cases h2
  have hc2 : ∀ o, (w.alloc o).cell? ⟨tb, 2, none⟩ = some (.map (some wb)) := fun o => by rw [World.cell?_alloc_past _ _ _ htl]; exact h2
  clear hm hg h2
  go_enter Try.func58, Try.ntmps58
  go_wp2
  exact bodyPost_ret (v := .agg #[.bool c.1, .string c.2]) (by simp [results, Try.results58, go_sem]) rfl ⟨rfl, ((Chg.refl _ _).alloc _).alloc _⟩
set_option maxHeartbeats 1000000 in
theorem sees_store (tb wb sb vm : Nat) (st : Int) (ws : List (ByteArray × (Bool × ByteArray))) (key : ByteArray) (w : World) (hk : key.size ≤ maxLen) (h0 : w.cell? ⟨tb, 0, none⟩ = some (.int .i64 st)) (h1 : w.cell? ⟨tb, 1, none⟩ = some (.pointer (some ⟨sb, 0, none⟩))) (h2 : w.cell? ⟨tb, 2, none⟩ = some (.map (some wb))) (hm : mapAt w Try.prog 9 mkS mkC wb ws) (hg : getA key ws = none)
    (hs : StoreAt w sb vm) :
    Calls Try.prog 58 #[.pointer (some ⟨tb, 0, none⟩), .string key] w fun e w' => e = .returned (.agg #[.bool false, .string ⟨#[]⟩]) ∧ Chg nobody w w' := by
  have hrun : ∀ o, (Instr.lookup 100 (.map (some wb)) (.string key) true).run Try.prog (w.alloc o) = .ok (.tuple #[.agg #[.bool false, .string ⟨#[]⟩], .bool false]) (w.alloc o) := fun o => by
    have := (hm.of_block (Below.heap_alloc w o wb hm.lt)).look keyS mkS_inj Try.underlying100 (zeroC (w.alloc o)) (keyOfS hk)
    rw [hg] at this
    exact this
  have htl : tb < w.heap.size := by
    unfold World.cell? at h2
    split at h2
    · rename_i h; exact lt_of_block h
    · cases h2
  have hc2 : ∀ o, (w.alloc o).cell? ⟨tb, 2, none⟩ = some (.map (some wb)) := fun o => by rw [World.cell?_alloc_past _ _ _ htl]; exact h2
  have hc0 : ∀ o o', ((w.alloc o).alloc o').cell? ⟨tb, 0, none⟩ = some (.int .i64 st) := fun o o' => by rw [World.cell?_alloc_past _ _ _ (by simp; omega), World.cell?_alloc_past _ _ _ htl]; exact h0
  have hc1 : ∀ o o', ((w.alloc o).alloc o').cell? ⟨tb, 1, none⟩ = some (.pointer (some ⟨sb, 0, none⟩)) := fun o o' => by rw [World.cell?_alloc_past _ _ _ (by simp; omega), World.cell?_alloc_past _ _ _ htl]; exact h1
  have hcs : ∀ o o', ((w.alloc o).alloc o').cell? ⟨sb, 0, none⟩ = some (.map (some vm)) := fun o o' => by rw [World.cell?_alloc_past _ _ _ (by have := lt_of_block hs.st; simp; omega), World.cell?_alloc_past _ _ _ (lt_of_block hs.st)]; exact cell_of hs.st rfl
  have hvm : ∀ o o', ((w.alloc o).alloc o').heap[vm]? = some (.map #[] 0) := fun o o' => by rw [Below.heap_alloc _ _ _ (by have := lt_of_block hs.vs; simp; omega), Below.heap_alloc _ _ _ (lt_of_block hs.vs)]; exact hs.vs
  have HV : Hid (∀ o o', ((w.alloc o).alloc o').heap[vm]? = some (.map #[] 0)) := hvm
  clear hm hg h2 h0 h1 hs hvm
  go_enter Try.func58, Try.ntmps58
  go_wp2
  go_region_with (go_at_call 64; refine (storeAt_empty sb vm key st _ hk (by exact hcs _ _) (by exact HV.out _ _)).mono ?_; rintro e w' ⟨rfl, hch⟩; obtain ⟨hcc, hff⟩ := bcell hch)
  all_goals go_wp2
  all_goals
    have r := set2 (w := w') (b := w.heap.size) (u0 := .bool false) (u1 := .string ⟨#[]⟩) (by rw [hcc _ _ (by simp; omega)]; simp [go_sem]) (by rw [hcc _ _ (by simp; omega)]; simp [go_sem]) (.bool false) (.string ⟨#[]⟩)
    exact bodyPost_ret (v := .agg #[.bool false, .string ⟨#[]⟩]) (by simp [results, Try.results58, go_sem, r.1, r.2]) rfl ⟨rfl, ((((((Chg.refl _ _).alloc _).alloc _).drew).andThen hch (fun _ _ h => h)).setCell (Or.inr (Nat.le_refl _)) _).setCell (Or.inr (Nat.le_refl _)) _⟩
end Go.Proofs.Ytcpjocgpahjcjaa
