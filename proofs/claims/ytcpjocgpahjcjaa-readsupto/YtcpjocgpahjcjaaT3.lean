import Derived.Test.YtcpjocgpahjcjaaT2
namespace Go.Proofs.Ytcpjocgpahjcjaa
open Go.RowKit
open Go.Maps (Keyed)
theorem look_empty (w : World) (vm : Nat) (s : ByteArray) (hs : s.size ≤ maxLen) (hb : w.heap[vm]? = some (.map #[] 0)) : (Instr.lookup 75 (.map (some vm)) (.string s) false).run Try.prog w = .ok (.slice none 0 0) w := by
  have hc := keyS.check w true (keyOfS hs)
  simp only [mkS] at hc
  have hf := keyS.find w (keyOfS hs) [] (by simp)
  simp only [mkS] at hf
  rcases hf with ⟨h1, _⟩ | ⟨j, e, _, h2, _⟩
  · simp [Instr.lookup, run_underlying Try.underlying75, MapKept.run_getObj_map hb, hc, h1, Result.andThen]
  · simp at h2
set_option maxHeartbeats 400000 in
theorem storeAt_empty (sb vm : Nat) (s : ByteArray) (t : Int) (w : World) (hs : s.size ≤ maxLen) (hc : w.cell? ⟨sb, 0, none⟩ = some (.map (some vm))) (hb : w.heap[vm]? = some (.map #[] 0)) :
    Calls Try.prog 64 #[.pointer (some ⟨sb, 0, none⟩), .string s, .int .i64 t] w fun e w' => e = .returned (.agg #[.bool false, .string ⟨#[]⟩]) ∧ Chg nobody w w' := by
  have hlt := lt_of_block hb
  have hclt : sb < w.heap.size := by
    unfold World.cell? at hc
    split at hc
    · rename_i h; exact lt_of_block h
    · cases hc
  have hl : ∀ o, (Instr.lookup 75 (.map (some vm)) (.string s) false).run Try.prog (w.alloc o) = .ok (.slice none 0 0) (w.alloc o) := fun o => look_empty _ vm s hs (by rw [Below.heap_alloc _ _ _ hlt]; exact hb)
  have hc' : ∀ o, (w.alloc o).cell? ⟨sb, 0, none⟩ = some (.map (some vm)) := fun o => by rw [World.cell?_alloc_past _ _ _ hclt]; exact hc
  clear hb hs hc
  go_enter Try.func64, Try.ntmps64
  go_wp2
  refine wp_loop_rounds 1 ?_
  rw [rounds_succ]
  go_wp2
  exact bodyPost_ret (v := .agg #[.bool false, .string ⟨#[]⟩]) (by simp [results, Try.results64, go_sem]) rfl ⟨rfl, (Chg.refl _ _).alloc _⟩
end Go.Proofs.Ytcpjocgpahjcjaa
