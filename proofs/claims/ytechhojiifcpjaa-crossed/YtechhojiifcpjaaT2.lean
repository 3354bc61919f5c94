import Derived.Test.YtechhojiifcpjaaRows
import Derived.Test.YtechhojiifcpjaaFrame
import Derived.Test.YtechhojiifcpjaaB
import Derived.WalkKit
import Derived.WalkSpells
import Derived.WalkLawsBesides
import Derived.Maps.OwnSet
import Derived.Conc.LoneCalls
import Derived.Deep.RegionWith
namespace Go.Proofs.Ytechhojiifcpjaa
open Go.RowKit
open Go.Maps (Keyed)

abbrev mkI (n : Int) : Value := .int .i64 n
abbrev mkP (b : Nat) : Value := .pointer (some ⟨b, 0, none⟩)
abbrev mkS (s : ByteArray) : Value := .string s
abbrev mkC (c : Bool × ByteArray) : Value := .agg #[.bool c.1, .string c.2]
abbrev mkU (_ : Unit) : Value := .agg #[]
theorem mkI_inj (a b : Int) (h : mkI a = mkI b) : a = b := by simpa [mkI] using h
theorem mkS_inj (a b : ByteArray) (h : mkS a = mkS b) : a = b := by simpa [mkS] using h
theorem keyI : Keyed Try.prog 3 := Maps.int_keyed Try.underlying3
theorem keyS : Keyed Try.prog 9 := Maps.string_keyed Try.underlying9
theorem zeroP (w : World) : (zeroValue 81).run Try.prog w = .ok (.pointer none) w := by kernel_rfl
theorem zeroC (w : World) : (zeroValue 86).run Try.prog w = .ok (.agg #[.bool false, .string ⟨#[]⟩]) w := by kernel_rfl
theorem zeroU (w : World) : (zeroValue 99).run Try.prog w = .ok (.agg #[]) w := by kernel_rfl
theorem zeroI (w : World) : (zeroValue 3).run Try.prog w = .ok (.int .i64 0) w := by kernel_rfl
theorem zeroVs (w : World) : (zeroValue 112).run Try.prog w = .ok (.slice none 0 0) w := by kernel_rfl
/-- an int of Go's. -/
def isInt (n : Int) : Prop := -9223372036854775808 ≤ n ∧ n ≤ 9223372036854775807
theorem keyOfI {n : Int} (h : isInt n) : keyOf Try.prog 3 (mkI n) = some (.int .i64 n) := Maps.keyOf_int_mk Try.underlying3 (WalkArith.wf_i64 h)
theorem keyOfS {s : ByteArray} (h : s.size ≤ maxLen) : keyOf Try.prog 9 (mkS s) = some (.string s.data.toList) := WideMaps.keyOf_string_mk Try.underlying9 h
/-- The errors: what a step panics with. -/
abbrev errE (c : Int) : Ending := .panicked [{ v := .iface 29 (.int .i64 c), recovered := false }]

set_option maxHeartbeats 400000 in
theorem named_yes (p om tb : Nat) (l : List (Int × Nat)) (n : Int) (w : World) (hn : isInt n) (hc : w.cell? ⟨p, 4, none⟩ = some (.map (some om))) (hm : mapAt w Try.prog 3 mkI mkP om l) (hg : getA n l = some tb) (hq : w.cell? ⟨tb, 0, none⟩ = some (.bool false)) :
    Calls Try.prog 37 #[.pointer (some ⟨p, 0, none⟩), .int .i64 n] w fun e w' => e = .returned (.pointer (some ⟨tb, 0, none⟩)) ∧ w' = w := by
  have hrun := hm.look keyI mkI_inj Try.underlying67 (zeroP w) (keyOfI hn)
  rw [hg] at hrun
  simp only [Option.map_some, Option.getD_some, Option.isSome_some] at hrun
  clear hm hg
  go_enter Try.func37, Try.ntmps37
  go_wp2
  go_ret
  exact ⟨rfl, rfl⟩
set_option maxHeartbeats 400000 in
theorem named_queued (p om tb : Nat) (l : List (Int × Nat)) (n : Int) (w : World) (hn : isInt n) (hc : w.cell? ⟨p, 4, none⟩ = some (.map (some om))) (hm : mapAt w Try.prog 3 mkI mkP om l) (hg : getA n l = some tb) (hq : w.cell? ⟨tb, 0, none⟩ = some (.bool true)) :
    Calls Try.prog 37 #[.pointer (some ⟨p, 0, none⟩), .int .i64 n] w fun e w' => e = errE 3 ∧ w' = w := by
  have hrun := hm.look keyI mkI_inj Try.underlying67 (zeroP w) (keyOfI hn)
  rw [hg] at hrun
  simp only [Option.map_some, Option.getD_some, Option.isSome_some] at hrun
  clear hm hg
  go_enter Try.func37, Try.ntmps37
  go_wp2
  exact ⟨rfl, rfl, rfl⟩
set_option maxHeartbeats 400000 in
theorem named_no (p om : Nat) (l : List (Int × Nat)) (n : Int) (w : World) (hn : isInt n) (hc : w.cell? ⟨p, 4, none⟩ = some (.map (some om))) (hm : mapAt w Try.prog 3 mkI mkP om l) (hg : getA n l = none) :
    Calls Try.prog 37 #[.pointer (some ⟨p, 0, none⟩), .int .i64 n] w fun e w' => e = errE 2 ∧ w' = w := by
  have hrun := hm.look keyI mkI_inj Try.underlying67 (zeroP w) (keyOfI hn)
  rw [hg] at hrun
  simp only [Option.map_none, Option.getD_none, Option.isSome_none] at hrun
  clear hm hg
  go_enter Try.func37, Try.ntmps37
  go_wp2
  exact ⟨rfl, rfl, rfl⟩
set_option maxHeartbeats 400000 in
theorem takeTime_any (p : Nat) (c : Int) (w : World) (h0 : 0 ≤ c) (h1 : c < 1000000000) (hc : w.cell? ⟨p, 0, none⟩ = some (.int .i64 c)) (hf : w.frozen? ⟨p, 0, none⟩ = false) :
    Calls Try.prog 35 #[.pointer (some ⟨p, 0, none⟩)] w fun e w' => e = .returned (.int .i64 (c + 1)) ∧ w' = w.setCell ⟨p, 0, none⟩ (.int .i64 (c + 1)) := by
  go_enter Try.func35, Try.ntmps35
  go_wp2
  go_ret
  exact ⟨rfl, rfl⟩
set_option maxHeartbeats 400000 in
theorem now_any (p : Nat) (c : Int) (w : World) (hc : w.cell? ⟨p, 0, none⟩ = some (.int .i64 c)) :
    Calls Try.prog 26 #[.pointer (some ⟨p, 0, none⟩)] w fun e w' => e = .returned (.int .i64 c) ∧ w' = w := by
  go_enter Try.func26, Try.ntmps26
  go_wp2
  go_ret
  exact ⟨rfl, rfl⟩
set_option maxHeartbeats 400000 in
theorem start_any (p : Nat) (c : Int) (w : World) (hc : w.cell? ⟨p, 1, none⟩ = some (.int .i64 c)) :
    Calls Try.prog 47 #[.pointer (some ⟨p, 0, none⟩)] w fun e w' => e = .returned (.int .i64 c) ∧ w' = w := by
  go_enter Try.func47, Try.ntmps47
  go_wp2
  go_ret
  exact ⟨rfl, rfl⟩
set_option maxHeartbeats 400000 in
theorem writes_any (p wb : Nat) (w : World) (hc : w.cell? ⟨p, 3, none⟩ = some (.map (some wb))) :
    Calls Try.prog 62 #[.pointer (some ⟨p, 0, none⟩)] w fun e w' => e = .returned (.map (some wb)) ∧ w' = w := by
  go_enter Try.func62, Try.ntmps62
  go_wp2
  go_ret
  exact ⟨rfl, rfl⟩
set_option maxHeartbeats 1000000 in
theorem hasRead_any (p kb pb : Nat) (ks ps : List (ByteArray × Unit)) (w : World) (h3 : w.cell? ⟨p, 4, none⟩ = some (.map (some kb))) (h4 : w.cell? ⟨p, 5, none⟩ = some (.map (some pb)))
    (hk : mapAt w Try.prog 9 mkS mkU kb ks) (hp : mapAt w Try.prog 9 mkS mkU pb ps) (h5 : ks.length ≤ 1000000000) (h6 : ps.length ≤ 1000000000) :
    Calls Try.prog 71 #[.pointer (some ⟨p, 0, none⟩)] w fun e w' => e = .returned (.bool (decide ((ks.length : Int) + ps.length > 0))) ∧ Chg nobody w w' := by
  have l1 := fun ty => (hk.of_block (w' := w.drew) rfl).len Try.underlying96 ty
  have l2 := fun ty => (hp.of_block (w' := w.drew) rfl).len Try.underlying96 ty
  clear hk hp
  go_enter Try.func71, Try.ntmps71
  go_wp2
  go_region
  all_goals go_wp2
  all_goals go_ret
  all_goals exact ⟨rfl, (Chg.refl _ _).drew⟩

set_option maxHeartbeats 400000 in
theorem mustBeKey_ok (s : ByteArray) (w : World) (h0 : 1 ≤ s.size) (h1 : s.size ≤ 8) :
    Calls Try.prog 38 #[.string s] w fun e w' => e = .returned (.tuple #[]) ∧ w' = w := by
  go_enter Try.func38, Try.ntmps38
  go_wp2
  go_end0
  exact ⟨rfl, rfl⟩
set_option maxHeartbeats 400000 in
theorem mustBeKey_no (s : ByteArray) (w : World) (h0 : s.size < 1 ∨ 8 < s.size) :
    Calls Try.prog 38 #[.string s] w fun e w' => e = errE 4 ∧ w' = w := by
  rcases h0 with h | h
  · go_enter Try.func38, Try.ntmps38
    go_wp2
    exact ⟨rfl, rfl, rfl⟩
  · go_enter Try.func38, Try.ntmps38
    go_wp2
    exact ⟨rfl, rfl, rfl⟩
set_option maxHeartbeats 400000 in
theorem mustBeValue_ok (s : ByteArray) (w : World) (h1 : s.size ≤ 20) :
    Calls Try.prog 41 #[.string s] w fun e w' => e = .returned (.tuple #[]) ∧ w' = w := by
  go_enter Try.func41, Try.ntmps41
  go_wp2
  go_end0
  exact ⟨rfl, rfl⟩
set_option maxHeartbeats 400000 in
theorem mustBeValue_no (s : ByteArray) (w : World) (h : 20 < s.size) :
    Calls Try.prog 41 #[.string s] w fun e w' => e = errE 5 ∧ w' = w := by
  go_enter Try.func41, Try.ntmps41
  go_wp2
  exact ⟨rfl, rfl, rfl⟩
set_option maxHeartbeats 400000 in
theorem mustBeCount_ok (n : Int) (w : World) (h0 : 0 ≤ n) (h1 : n ≤ 100) :
    Calls Try.prog 45 #[.int .i64 n] w fun e w' => e = .returned (.tuple #[]) ∧ w' = w := by
  go_enter Try.func45, Try.ntmps45
  go_wp2
  go_end0
  exact ⟨rfl, rfl⟩
set_option maxHeartbeats 400000 in
theorem mustBeCount_no (n : Int) (w : World) (h : n < 0 ∨ 100 < n) :
    Calls Try.prog 45 #[.int .i64 n] w fun e w' => e = errE 11 ∧ w' = w := by
  rcases h with h | h
  · go_enter Try.func45, Try.ntmps45
    go_wp2
    exact ⟨rfl, rfl, rfl⟩
  · go_enter Try.func45, Try.ntmps45
    go_wp2
    exact ⟨rfl, rfl, rfl⟩
set_option maxHeartbeats 400000 in
theorem filled_any (s : ByteArray) (w : World) :
    Calls Try.prog 52 #[.string s] w fun e w' => e = .returned (.agg #[.bool true, .string s]) ∧ w' = w.alloc (.cells #[.bool true, .string s] 86) := by
  go_enter Try.func52, Try.ntmps52
  go_wp2
  exact bodyPost_ret (v := .agg #[.bool true, .string s]) (by simp [results, Try.results52, go_sem]) rfl ⟨rfl, rfl⟩
set_option maxHeartbeats 400000 in
theorem storeNew_any (w : World) :
    Calls Try.prog 21 #[] w fun e w' => e = .returned (.pointer (some ⟨w.heap.size + 1, 0, none⟩)) ∧ w' = (w.alloc (.map #[] 0)).alloc (.cells #[.map (some w.heap.size)] 72) := by
  have hmm := @run_makeMap Try.prog
  go_enter Try.func21, Try.ntmps21
  go_wp2
  go_ret
  exact ⟨by simp, rfl⟩
set_option maxHeartbeats 400000 in
theorem txNew_any (n : Int) (sb : Nat) (w : World) :
    Calls Try.prog 36 #[.int .i64 n, .pointer (some ⟨sb, 0, none⟩)] w fun e w' => e = .returned (.pointer (some ⟨w.heap.size + 3, 0, none⟩)) ∧
      w' = (((w.alloc (.map #[] 0)).alloc (.map #[] 0)).alloc (.map #[] 0)).alloc (.cells #[.bool false, .int .i64 n, .pointer (some ⟨sb, 0, none⟩), .map (some w.heap.size), .map (some (w.heap.size + 1)), .map (some (w.heap.size + 2))] 98) := by
  have hmm := @run_makeMap Try.prog
  go_enter Try.func36, Try.ntmps36
  go_wp2
  go_ret
  exact ⟨by simp, rfl⟩
set_option maxHeartbeats 400000 in
theorem oracleNew_any (cb sb : Nat) (c : Int) (w : World) (hc : w.cell? ⟨cb, 0, none⟩ = some (.int .i64 c)) (hl : cb < w.heap.size) :
    Calls Try.prog 22 #[.pointer (some ⟨cb, 0, none⟩), .pointer (some ⟨sb, 0, none⟩)] w fun e w' => e = .returned (.pointer (some ⟨w.heap.size + 1, 0, none⟩)) ∧
      w' = (w.alloc (.map #[] 0)).alloc (.cells #[.pointer (some ⟨cb, 0, none⟩), .pointer (some ⟨sb, 0, none⟩), .map (some w.heap.size), .int .i64 c] 76) := by
  have hmm := @run_makeMap Try.prog
  have hn := now_any cb c (w.alloc (.map #[] 0)) (by rw [World.cell?_alloc_past _ _ _ hl]; exact hc)
  go_enter Try.func22, Try.ntmps22
  go_wp2_with (go_at_call 26; refine hn.mono ?_; rintro e w' ⟨rfl, rfl⟩)
  go_ret
  exact ⟨by simp, rfl⟩
theorem makeQ (w : World) : (Instr.makeChan 77 (.int .i64 3)).run Try.prog w = .ok (.chan (some w.heap.size)) (w.alloc (.chan 3 #[] false 0 0 false)) := by
  have h : (Try.prog.info? 81).map (·.bytes) = some 8 := by kernel_rfl
  obtain ⟨i, hi, hb⟩ := Option.map_eq_some_iff.1 h
  simpa using Conc.run_makeChan (P := Try.prog) (w := w) Try.underlying77 hi .i64 3 (by omega) (by rw [hb]; omega)
set_option maxHeartbeats 400000 in
theorem queueNew_any (w : World) :
    Calls Try.prog 23 #[] w fun e w' => e = .returned (.pointer (some ⟨w.heap.size + 1, 0, none⟩)) ∧
      w' = (w.alloc (.chan 3 #[] false 0 0 false)).alloc (.cells #[.chan (some w.heap.size)] 79) := by
  have hmm := makeQ
  go_enter Try.func23, Try.ntmps23
  go_wp2
  go_ret
  exact ⟨by simp, rfl⟩
end Go.Proofs.Ytechhojiifcpjaa
