import Derived.Test.YtkfjafndplmdkaaGreatRows
import Derived.Test.YtkfjafndplmdkaaGreatFrame
import Derived.Test.YtkfjafndplmdkaaGreatB
import Derived.WalkKit
import Derived.WalkSpells
import Derived.WalkLawsBesides
import Derived.Maps.OwnSet
import Derived.Conc.LoneCalls
import Derived.Deep.RegionWith
namespace Go.Proofs.YtkfjafndplmdkaaGreat
open Go.RowKit
open Go.Maps (Keyed)

abbrev mkI (n : Int) : Value := .int .i64 n
abbrev mkP (b : Nat) : Value := .pointer (some ⟨b, 0, none⟩)
abbrev mkS (s : ByteArray) : Value := .string s
abbrev mkC (c : Bool × ByteArray) : Value := .agg #[.bool c.1, .string c.2]
abbrev mkU (_ : Unit) : Value := .agg #[]
theorem mkI_inj (a b : Int) (h : mkI a = mkI b) : a = b := by simpa [mkI] using h
theorem mkS_inj (a b : ByteArray) (h : mkS a = mkS b) : a = b := by simpa [mkS] using h
theorem keyI : Keyed Tryz.prog 3 := Maps.int_keyed Tryz.underlying3
theorem keyS : Keyed Tryz.prog 9 := Maps.string_keyed Tryz.underlying9
theorem zeroP (w : World) : (zeroValue 122).run Tryz.prog w = .ok (.pointer none) w := by kernel_rfl
theorem zeroC (w : World) : (zeroValue 127).run Tryz.prog w = .ok (.agg #[.bool false, .string ⟨#[]⟩]) w := by kernel_rfl
theorem zeroU (w : World) : (zeroValue 149).run Tryz.prog w = .ok (.agg #[]) w := by kernel_rfl
theorem zeroI (w : World) : (zeroValue 3).run Tryz.prog w = .ok (.int .i64 0) w := by kernel_rfl
theorem zeroVs (w : World) : (zeroValue 155).run Tryz.prog w = .ok (.slice none 0 0) w := by kernel_rfl
/-- an int of Go's. -/
def isInt (n : Int) : Prop := -9223372036854775808 ≤ n ∧ n ≤ 9223372036854775807
theorem keyOfI {n : Int} (h : isInt n) : keyOf Tryz.prog 3 (mkI n) = some (.int .i64 n) := Maps.keyOf_int_mk Tryz.underlying3 (WalkArith.wf_i64 h)
theorem keyOfS {s : ByteArray} (h : s.size ≤ maxLen) : keyOf Tryz.prog 9 (mkS s) = some (.string s.data.toList) := WideMaps.keyOf_string_mk Tryz.underlying9 h
/-- The errors: what a step panics with. -/
abbrev errE (c : Int) : Ending := .panicked [{ v := .iface 31 (.int .i64 c), recovered := false }]

set_option maxHeartbeats 400000 in
theorem named_yes (p om tb : Nat) (l : List (Int × Nat)) (n : Int) (w : World) (hn : isInt n) (hc : w.cell? ⟨p, 4, none⟩ = some (.map (some om))) (hm : mapAt w Tryz.prog 3 mkI mkP om l) (hg : getA n l = some tb) (hq : w.cell? ⟨tb, 0, none⟩ = some (.bool false)) :
    Calls Tryz.prog 76 #[.pointer (some ⟨p, 0, none⟩), .int .i64 n] w fun e w' => e = .returned (.pointer (some ⟨tb, 0, none⟩)) ∧ w' = w := by
  have hrun := hm.look keyI mkI_inj Tryz.underlying91 (zeroP w) (keyOfI hn)
  rw [hg] at hrun
  simp only [Option.map_some, Option.getD_some, Option.isSome_some] at hrun
  clear hm hg
  go_enter Tryz.func76, Tryz.ntmps76
  go_wp2
  go_ret
  exact ⟨rfl, rfl⟩
set_option maxHeartbeats 400000 in
theorem named_queued (p om tb : Nat) (l : List (Int × Nat)) (n : Int) (w : World) (hn : isInt n) (hc : w.cell? ⟨p, 4, none⟩ = some (.map (some om))) (hm : mapAt w Tryz.prog 3 mkI mkP om l) (hg : getA n l = some tb) (hq : w.cell? ⟨tb, 0, none⟩ = some (.bool true)) :
    Calls Tryz.prog 76 #[.pointer (some ⟨p, 0, none⟩), .int .i64 n] w fun e w' => e = errE 3 ∧ w' = w := by
  have hrun := hm.look keyI mkI_inj Tryz.underlying91 (zeroP w) (keyOfI hn)
  rw [hg] at hrun
  simp only [Option.map_some, Option.getD_some, Option.isSome_some] at hrun
  clear hm hg
  go_enter Tryz.func76, Tryz.ntmps76
  go_wp2
  exact ⟨rfl, rfl, rfl⟩
set_option maxHeartbeats 400000 in
theorem named_no (p om : Nat) (l : List (Int × Nat)) (n : Int) (w : World) (hn : isInt n) (hc : w.cell? ⟨p, 4, none⟩ = some (.map (some om))) (hm : mapAt w Tryz.prog 3 mkI mkP om l) (hg : getA n l = none) :
    Calls Tryz.prog 76 #[.pointer (some ⟨p, 0, none⟩), .int .i64 n] w fun e w' => e = errE 2 ∧ w' = w := by
  have hrun := hm.look keyI mkI_inj Tryz.underlying91 (zeroP w) (keyOfI hn)
  rw [hg] at hrun
  simp only [Option.map_none, Option.getD_none, Option.isSome_none] at hrun
  clear hm hg
  go_enter Tryz.func76, Tryz.ntmps76
  go_wp2
  exact ⟨rfl, rfl, rfl⟩
set_option maxHeartbeats 400000 in
theorem takeTime_any (p : Nat) (c : Int) (w : World) (h0 : 0 ≤ c) (h1 : c < 1000000000) (hc : w.cell? ⟨p, 0, none⟩ = some (.int .i64 c)) (hf : w.frozen? ⟨p, 0, none⟩ = false) :
    Calls Tryz.prog 74 #[.pointer (some ⟨p, 0, none⟩)] w fun e w' => e = .returned (.int .i64 (c + 1)) ∧ w' = w.setCell ⟨p, 0, none⟩ (.int .i64 (c + 1)) := by
  go_enter Tryz.func74, Tryz.ntmps74
  go_wp2
  go_ret
  exact ⟨rfl, rfl⟩
set_option maxHeartbeats 400000 in
theorem now_any (p : Nat) (c : Int) (w : World) (hc : w.cell? ⟨p, 0, none⟩ = some (.int .i64 c)) :
    Calls Tryz.prog 73 #[.pointer (some ⟨p, 0, none⟩)] w fun e w' => e = .returned (.int .i64 c) ∧ w' = w := by
  go_enter Tryz.func73, Tryz.ntmps73
  go_wp2
  go_ret
  exact ⟨rfl, rfl⟩
set_option maxHeartbeats 400000 in
theorem start_any (p : Nat) (c : Int) (w : World) (hc : w.cell? ⟨p, 1, none⟩ = some (.int .i64 c)) :
    Calls Tryz.prog 86 #[.pointer (some ⟨p, 0, none⟩)] w fun e w' => e = .returned (.int .i64 c) ∧ w' = w := by
  go_enter Tryz.func86, Tryz.ntmps86
  go_wp2
  go_ret
  exact ⟨rfl, rfl⟩
set_option maxHeartbeats 400000 in
theorem writes_any (p wb : Nat) (w : World) (hc : w.cell? ⟨p, 3, none⟩ = some (.map (some wb))) :
    Calls Tryz.prog 118 #[.pointer (some ⟨p, 0, none⟩)] w fun e w' => e = .returned (.map (some wb)) ∧ w' = w := by
  go_enter Tryz.func118, Tryz.ntmps118
  go_wp2
  go_ret
  exact ⟨rfl, rfl⟩
set_option maxHeartbeats 1000000 in
theorem hasRead_any (p kb pb : Nat) (ks ps : List (ByteArray × Unit)) (w : World) (h3 : w.cell? ⟨p, 4, none⟩ = some (.map (some kb))) (h4 : w.cell? ⟨p, 5, none⟩ = some (.map (some pb)))
    (hk : mapAt w Tryz.prog 9 mkS mkU kb ks) (hp : mapAt w Tryz.prog 9 mkS mkU pb ps) (h5 : ks.length ≤ 1000000000) (h6 : ps.length ≤ 1000000000) :
    Calls Tryz.prog 129 #[.pointer (some ⟨p, 0, none⟩)] w fun e w' => e = .returned (.bool (decide ((ks.length : Int) + ps.length > 0))) ∧ Chg nobody w w' := by
  have l1 := fun ty => (hk.of_block (w' := w.drew) rfl).len Tryz.underlying146 ty
  have l2 := fun ty => (hp.of_block (w' := w.drew) rfl).len Tryz.underlying146 ty
  clear hk hp
  go_enter Tryz.func129, Tryz.ntmps129
  go_wp2
  go_region
  all_goals go_wp2
  all_goals go_ret
  all_goals exact ⟨rfl, (Chg.refl _ _).drew⟩

set_option maxHeartbeats 400000 in
theorem mustBeKey_ok (s : ByteArray) (w : World) (h0 : 1 ≤ s.size) (h1 : s.size ≤ 8) :
    Calls Tryz.prog 77 #[.string s] w fun e w' => e = .returned (.tuple #[]) ∧ w' = w := by
  go_enter Tryz.func77, Tryz.ntmps77
  go_wp2
  go_end0
  exact ⟨rfl, rfl⟩
set_option maxHeartbeats 400000 in
theorem mustBeKey_no (s : ByteArray) (w : World) (h0 : s.size < 1 ∨ 8 < s.size) :
    Calls Tryz.prog 77 #[.string s] w fun e w' => e = errE 4 ∧ w' = w := by
  rcases h0 with h | h
  · go_enter Tryz.func77, Tryz.ntmps77
    go_wp2
    exact ⟨rfl, rfl, rfl⟩
  · go_enter Tryz.func77, Tryz.ntmps77
    go_wp2
    exact ⟨rfl, rfl, rfl⟩
set_option maxHeartbeats 400000 in
theorem mustBeValue_ok (s : ByteArray) (w : World) (h1 : s.size ≤ 20) :
    Calls Tryz.prog 80 #[.string s] w fun e w' => e = .returned (.tuple #[]) ∧ w' = w := by
  go_enter Tryz.func80, Tryz.ntmps80
  go_wp2
  go_end0
  exact ⟨rfl, rfl⟩
set_option maxHeartbeats 400000 in
theorem mustBeValue_no (s : ByteArray) (w : World) (h : 20 < s.size) :
    Calls Tryz.prog 80 #[.string s] w fun e w' => e = errE 5 ∧ w' = w := by
  go_enter Tryz.func80, Tryz.ntmps80
  go_wp2
  exact ⟨rfl, rfl, rfl⟩
set_option maxHeartbeats 400000 in
theorem mustBeCount_ok (n : Int) (w : World) (h0 : 0 ≤ n) (h1 : n ≤ 100) :
    Calls Tryz.prog 84 #[.int .i64 n] w fun e w' => e = .returned (.tuple #[]) ∧ w' = w := by
  go_enter Tryz.func84, Tryz.ntmps84
  go_wp2
  go_end0
  exact ⟨rfl, rfl⟩
set_option maxHeartbeats 400000 in
theorem mustBeCount_no (n : Int) (w : World) (h : n < 0 ∨ 100 < n) :
    Calls Tryz.prog 84 #[.int .i64 n] w fun e w' => e = errE 11 ∧ w' = w := by
  rcases h with h | h
  · go_enter Tryz.func84, Tryz.ntmps84
    go_wp2
    exact ⟨rfl, rfl, rfl⟩
  · go_enter Tryz.func84, Tryz.ntmps84
    go_wp2
    exact ⟨rfl, rfl, rfl⟩
set_option maxHeartbeats 400000 in
theorem filled_any (s : ByteArray) (w : World) :
    Calls Tryz.prog 104 #[.string s] w fun e w' => e = .returned (.agg #[.bool true, .string s]) ∧ w' = w.alloc (.cells #[.bool true, .string s] 127) := by
  go_enter Tryz.func104, Tryz.ntmps104
  go_wp2
  exact bodyPost_ret (v := .agg #[.bool true, .string s]) (by simp [results, Tryz.results104, go_sem]) rfl ⟨rfl, rfl⟩
set_option maxHeartbeats 400000 in
theorem storeNew_any (w : World) :
    Calls Tryz.prog 45 #[] w fun e w' => e = .returned (.pointer (some ⟨w.heap.size + 1, 0, none⟩)) ∧ w' = (w.alloc (.map #[] 0)).alloc (.cells #[.map (some w.heap.size)] 106) := by
  have hmm := @run_makeMap Tryz.prog
  go_enter Tryz.func45, Tryz.ntmps45
  go_wp2
  go_ret
  exact ⟨by simp, rfl⟩
set_option maxHeartbeats 400000 in
theorem txNew_any (n : Int) (sb : Nat) (w : World) :
    Calls Tryz.prog 75 #[.int .i64 n, .pointer (some ⟨sb, 0, none⟩)] w fun e w' => e = .returned (.pointer (some ⟨w.heap.size + 3, 0, none⟩)) ∧
      w' = (((w.alloc (.map #[] 0)).alloc (.map #[] 0)).alloc (.map #[] 0)).alloc (.cells #[.bool false, .int .i64 n, .pointer (some ⟨sb, 0, none⟩), .map (some w.heap.size), .map (some (w.heap.size + 1)), .map (some (w.heap.size + 2))] 148) := by
  have hmm := @run_makeMap Tryz.prog
  go_enter Tryz.func75, Tryz.ntmps75
  go_wp2
  go_ret
  exact ⟨by simp, rfl⟩
set_option maxHeartbeats 400000 in
theorem oracleNew_any (cb sb : Nat) (c : Int) (w : World) (hc : w.cell? ⟨cb, 0, none⟩ = some (.int .i64 c)) (hl : cb < w.heap.size) :
    Calls Tryz.prog 55 #[.pointer (some ⟨cb, 0, none⟩), .pointer (some ⟨sb, 0, none⟩)] w fun e w' => e = .returned (.pointer (some ⟨w.heap.size + 1, 0, none⟩)) ∧
      w' = (w.alloc (.map #[] 0)).alloc (.cells #[.pointer (some ⟨cb, 0, none⟩), .pointer (some ⟨sb, 0, none⟩), .map (some w.heap.size), .int .i64 c] 118) := by
  have hmm := @run_makeMap Tryz.prog
  have hn := now_any cb c (w.alloc (.map #[] 0)) (by rw [World.cell?_alloc_past _ _ _ hl]; exact hc)
  go_enter Tryz.func55, Tryz.ntmps55
  go_wp2_with (go_at_call 73; refine hn.mono ?_; rintro e w' ⟨rfl, rfl⟩)
  go_ret
  exact ⟨by simp, rfl⟩
theorem makeQ (w : World) : (Instr.makeChan 119 (.int .i64 3)).run Tryz.prog w = .ok (.chan (some w.heap.size)) (w.alloc (.chan 3 #[] false 0 0 false)) := by
  have h : (Tryz.prog.info? 122).map (·.bytes) = some 8 := by kernel_rfl
  obtain ⟨i, hi, hb⟩ := Option.map_eq_some_iff.1 h
  simpa using Conc.run_makeChan (P := Tryz.prog) (w := w) Tryz.underlying119 hi .i64 3 (by omega) (by rw [hb]; omega)
set_option maxHeartbeats 400000 in
theorem queueNew_any (w : World) :
    Calls Tryz.prog 56 #[] w fun e w' => e = .returned (.pointer (some ⟨w.heap.size + 1, 0, none⟩)) ∧
      w' = (w.alloc (.chan 3 #[] false 0 0 false)).alloc (.cells #[.chan (some w.heap.size)] 121) := by
  have hmm := makeQ
  go_enter Tryz.func56, Tryz.ntmps56
  go_wp2
  go_ret
  exact ⟨by simp, rfl⟩
end Go.Proofs.YtkfjafndplmdkaaGreat
