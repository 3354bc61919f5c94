import Derived.Test.YtcpjocgpahjcjaaRows
import Derived.Test.YtcpjocgpahjcjaaFrame
import Derived.WalkKit
import Derived.WalkSpells
import Derived.WalkLawsBesides
import Derived.Maps.OwnSet
namespace Go.Proofs.Ytcpjocgpahjcjaa
open Go.RowKit
open Go.Maps (Keyed)

abbrev mkI (n : Int) : Value := .int .i64 n
abbrev mkP (b : Nat) : Value := .pointer (some ⟨b, 0, none⟩)
abbrev mkS (s : ByteArray) : Value := .string s
abbrev mkC (c : Bool × ByteArray) : Value := .agg #[.bool c.1, .string c.2]
abbrev mkU (_ : Unit) : Value := .agg #[]
theorem mkI_inj (a b : Int) (h : mkI a = mkI b) : a = b := by simpa [mkI] using h
theorem mkS_inj (a b : ByteArray) (h : mkS a = mkS b) : a = b := by simpa [mkS] using h
theorem keyI : Keyed Try.prog 3 := Maps.int_keyed Try.underlying3
theorem keyS : Keyed Try.prog 9 := Maps.string_keyed Try.underlying9
theorem zeroP (w : World) : (zeroValue 86).run Try.prog w = .ok (.pointer none) w := by kernel_rfl
theorem zeroC (w : World) : (zeroValue 91).run Try.prog w = .ok (.agg #[.bool false, .string ⟨#[]⟩]) w := by kernel_rfl
theorem zeroU (w : World) : (zeroValue 105).run Try.prog w = .ok (.agg #[]) w := by kernel_rfl
/-- an int of Go's. -/
def isInt (n : Int) : Prop := -9223372036854775808 ≤ n ∧ n ≤ 9223372036854775807
theorem keyOfI {n : Int} (h : isInt n) : keyOf Try.prog 3 (mkI n) = some (.int .i64 n) := Maps.keyOf_int_mk Try.underlying3 (WalkArith.wf_i64 h)
theorem keyOfS {s : ByteArray} (h : s.size ≤ maxLen) : keyOf Try.prog 9 (mkS s) = some (.string s.data.toList) := WideMaps.keyOf_string_mk Try.underlying9 h

set_option maxHeartbeats 400000 in
theorem named_yes (p om tb : Nat) (l : List (Int × Nat)) (n : Int) (w : World) (hn : isInt n) (hc : w.cell? ⟨p, 2, none⟩ = some (.map (some om))) (hm : mapAt w Try.prog 3 mkI mkP om l) (hg : getA n l = some tb) :
    Calls Try.prog 45 #[.pointer (some ⟨p, 0, none⟩), .int .i64 n] w fun e w' => e = .returned (.pointer (some ⟨tb, 0, none⟩)) ∧ w' = w := by
  have hrun := hm.look keyI mkI_inj Try.underlying60 (zeroP w) (keyOfI hn)
  rw [hg] at hrun
  simp only [Option.map_some, Option.getD_some, Option.isSome_some] at hrun
  clear hm hg
  go_enter Try.func45, Try.ntmps45
  go_wp2
  go_ret
  exact ⟨rfl, rfl⟩
set_option maxHeartbeats 400000 in
theorem named_no (p om : Nat) (l : List (Int × Nat)) (n : Int) (w : World) (hn : isInt n) (hc : w.cell? ⟨p, 2, none⟩ = some (.map (some om))) (hm : mapAt w Try.prog 3 mkI mkP om l) (hg : getA n l = none) :
    Calls Try.prog 45 #[.pointer (some ⟨p, 0, none⟩), .int .i64 n] w fun e w' => e = .panicked [{ v := .iface 31 (.int .i64 2), recovered := false }] ∧ w' = w := by
  have hrun := hm.look keyI mkI_inj Try.underlying60 (zeroP w) (keyOfI hn)
  rw [hg] at hrun
  simp only [Option.map_none, Option.getD_none, Option.isSome_none] at hrun
  clear hm hg
  go_enter Try.func45, Try.ntmps45
  go_wp2
  exact ⟨rfl, rfl, rfl⟩
set_option maxHeartbeats 400000 in
theorem takeTime_any (p : Nat) (c : Int) (w : World) (h0 : 0 ≤ c) (h1 : c < 1000000000) (hc : w.cell? ⟨p, 0, none⟩ = some (.int .i64 c)) (hf : w.frozen? ⟨p, 0, none⟩ = false) :
    Calls Try.prog 43 #[.pointer (some ⟨p, 0, none⟩)] w fun e w' => e = .returned (.int .i64 (c + 1)) ∧ w' = w.setCell ⟨p, 0, none⟩ (.int .i64 (c + 1)) := by
  go_enter Try.func43, Try.ntmps43
  go_wp2
  go_ret
  exact ⟨rfl, rfl⟩

set_option maxHeartbeats 400000 in
theorem mustBeKey_ok (s : ByteArray) (w : World) (h0 : 1 ≤ s.size) (h1 : s.size ≤ 8) :
    Calls Try.prog 46 #[.string s] w fun e w' => e = .returned (.tuple #[]) ∧ w' = w := by
  go_enter Try.func46, Try.ntmps46
  go_wp2
  go_end0
  exact ⟨rfl, rfl⟩

set_option maxHeartbeats 400000 in
theorem mustBeKey_no (s : ByteArray) (w : World) (h0 : s.size < 1 ∨ 8 < s.size) :
    Calls Try.prog 46 #[.string s] w fun e w' => e = .panicked [{ v := .iface 31 (.int .i64 4), recovered := false }] ∧ w' = w := by
  rcases h0 with h | h
  · go_enter Try.func46, Try.ntmps46
    go_wp2
    exact ⟨rfl, rfl, rfl⟩
  · go_enter Try.func46, Try.ntmps46
    go_wp2
    exact ⟨rfl, rfl, rfl⟩

set_option maxHeartbeats 400000 in
theorem mustBeValue_ok (s : ByteArray) (w : World) (h1 : s.size ≤ 20) :
    Calls Try.prog 49 #[.string s] w fun e w' => e = .returned (.tuple #[]) ∧ w' = w := by
  go_enter Try.func49, Try.ntmps49
  go_wp2
  go_end0
  exact ⟨rfl, rfl⟩
set_option maxHeartbeats 400000 in
theorem mustBeValue_no (s : ByteArray) (w : World) (h : 20 < s.size) :
    Calls Try.prog 49 #[.string s] w fun e w' => e = .panicked [{ v := .iface 31 (.int .i64 5), recovered := false }] ∧ w' = w := by
  go_enter Try.func49, Try.ntmps49
  go_wp2
  exact ⟨rfl, rfl, rfl⟩
set_option maxHeartbeats 400000 in
theorem filled_any (s : ByteArray) (w : World) :
    Calls Try.prog 61 #[.string s] w fun e w' => e = .returned (.agg #[.bool true, .string s]) ∧ w' = w.alloc (.cells #[.bool true, .string s] 91) := by
  go_enter Try.func61, Try.ntmps61
  go_wp2
  exact bodyPost_ret (v := .agg #[.bool true, .string s]) (by simp [results, Try.results61, go_sem]) rfl ⟨rfl, rfl⟩
set_option maxHeartbeats 400000 in
theorem storeNew_any (w : World) :
    Calls Try.prog 23 #[] w fun e w' => e = .returned (.pointer (some ⟨w.heap.size + 1, 0, none⟩)) ∧ w' = (w.alloc (.map #[] 0)).alloc (.cells #[.map (some w.heap.size)] 77) := by
  have hmm := @run_makeMap Try.prog
  go_enter Try.func23, Try.ntmps23
  go_wp2
  go_ret
  exact ⟨by simp, rfl⟩
set_option maxHeartbeats 400000 in
theorem txNew_any (n : Int) (sb : Nat) (w : World) :
    Calls Try.prog 44 #[.int .i64 n, .pointer (some ⟨sb, 0, none⟩)] w fun e w' => e = .returned (.pointer (some ⟨w.heap.size + 3, 0, none⟩)) ∧
      w' = (((w.alloc (.map #[] 0)).alloc (.map #[] 0)).alloc (.map #[] 0)).alloc (.cells #[.int .i64 n, .pointer (some ⟨sb, 0, none⟩), .map (some w.heap.size), .map (some (w.heap.size + 1)), .map (some (w.heap.size + 2))] 103) := by
  have hmm := @run_makeMap Try.prog
  go_enter Try.func44, Try.ntmps44
  go_wp2
  go_ret
  exact ⟨by simp, rfl⟩
end Go.Proofs.Ytcpjocgpahjcjaa
