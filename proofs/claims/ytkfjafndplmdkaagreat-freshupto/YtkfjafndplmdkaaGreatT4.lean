import Derived.Test.YtkfjafndplmdkaaGreatT3
import Derived.Test.YtkfjafndplmdkaaGreatShelf
namespace Go.Proofs.YtkfjafndplmdkaaGreat
open Go.RowKit Go.Sort
open Go.Maps (Keyed)
section plain
variable {β : Type}
/-- The keys with a prefix. -/
def coll (pre : ByteArray) (l : List (ByteArray × β)) : List (List UInt8) := ((l.map Prod.fst).filter (pk pre)).map (fun k => k.data.toList)
theorem coll_perm {pre : ByteArray} {l l' : List (ByteArray × β)} (h : l.Perm l') : (coll pre l).Perm (coll pre l') := ((h.map _).filter _).map _
theorem coll_cons (pre : ByteArray) (p : ByteArray × β) (l : List (ByteArray × β)) : coll pre (p :: l) = (if pk pre p.1 then [p.1.data.toList] else []) ++ coll pre l := by
  unfold coll
  by_cases h : pk pre p.1 <;> simp [h]
theorem coll_len (pre : ByteArray) (l : List (ByteArray × β)) : (coll pre l).length ≤ l.length := by
  unfold coll
  have := List.length_filter_le (pk pre) (l.map Prod.fst)
  simpa using this
end plain
theorem info9 : (Tryz.prog.info? 9).map (fun i => (i.zero, i.size, i.bytes)) = some (some (.string ⟨#[]⟩), 1, 16) := by kernel_rfl
set_option maxRecDepth 100000 in
set_option maxHeartbeats 1000000 in
theorem storeKeys_any (sb vm : Nat) (V : List (ByteArray × VEnt)) (pre : ByteArray) (w : World) (hs : StoreAt w sb vm V) (hws : V.length ≤ 1000000000) :
    Calls Tryz.prog 110 #[.pointer (some ⟨sb, 0, none⟩), .string pre] w fun e w' => ∃ v, e = .returned v ∧ ∃ ss : List (List UInt8), ss.Perm (coll pre V) ∧ w'.ownsRow w.heap.size 9 1 v ss.length (ss.map encStr) ∧ Chg nobody w w' := by
  obtain ⟨i0, hi, hz0, hz1, hz2⟩ := info_parts info9
  have hc := cell_of hs.st (i := 0) rfl
  have hm1 := hs.vs
  have hbl := hm1.lt
  have hcl := coll_len pre V
  clear hs
  go_enter Tryz.func110, Tryz.ntmps110
  go_wp2_with (first | (at_range; refine wpList_range_at _ rfl _ 104 rfl 9 155 mkS mkV Tryz.underlying104 vm V rfl hm1 ?_; intro w0 hrg0 hg0 hs0) | go_in)
  go_frame
  go_loopw [5] (fun v wr => ∃ (left : List (ByteArray × VEnt)) (ss : List (List UInt8)), rangeAt wr Tryz.prog 9 mkS mkV vm w.heap.size V left ∧ (ss ++ coll pre left).Perm (coll pre V) ∧
      wr.ownsRow w.heap.size 9 1 v ss.length (ss.map encStr) ∧ Chg nobody w wr ∧ w.heap.size < wr.heap.size)
    (fun _ wr => wr.rangeLeft vm w.heap.size)
  case atStart => exact ⟨V, [], hrg0, by simp, World.ownsRow_nil _ _ _ _, (Chg.refl _ _).grown hg0 (fun k e => by cases e), by omega⟩
  case round =>
    obtain ⟨left, ss, hrg, hperm, hrow, hch, hlt1⟩ := hrel
    have HP : Hid ((ss ++ coll pre left).Perm (coll pre V)) := hperm
    have hsl : ss.length ≤ (coll pre V).length := by have := hperm.length_eq; simp at this; omega
    clear hperm
    go_wp2_with (first | (at_next; refine wpList_next_at _ rfl _ rfl 9 mkS mkV vm w.heap.size V left rfl hrg (fun hl0 => ?_) (fun x c left' w2 hp hrg2 hg2 hs2 hen => ?_)) | (at_len; fail))
    · -- nothing is left
      have hss : Hid (ss.Perm (coll pre V)) := by have := HP.out; rw [hl0] at this; have h2 : ss.Perm (coll pre V) := (by simpa [coll] using this); exact h2
      go_wp2_with fail
      go_ret
      exact ⟨_, rfl, ss, hss.out, hrow, hch⟩
    · -- an entry has come
      have hrow2 := hrow.kept hg2 (Or.inr (row_ne_it hrow hrg).symm)
      have hbls : w.heap.size ≤ w2.heap.size := by have := hch.size; omega
      have hne2 := row_ne_it hrow2 hrg2
      have hlow := row_ne_low hrow2 hbl
      have hlm : Hid (left'.length < left.length) := by have := hp.length_eq; simp at this; show _ < _; omega
      have HQ : Hid ((ss ++ (if pk pre x then [x.data.toList] else []) ++ coll pre left').Perm (coll pre V)) := by
        refine List.Perm.trans ?_ HP.out
        rw [List.append_assoc]
        refine List.Perm.append_left _ ?_
        have := coll_perm (pre := pre) hp
        rw [coll_cons] at this
        exact this.symm
      have hchg2 : Chg nobody w w2 := hch.grown hg2 (fun k e => Or.inr (by cases e; omega))
      have HZ : Hid (w.heap.size < w2.heap.size) := by show _ < _; omega
      clear hs2 hp hg2 HP
      cases hpx : Lib.hasPrefix x.data.toList pre.data.toList
      · have hq : Hid (pk pre x = false) := hpx
        refine (Tryz.strings_HasPrefix x pre _).mono ?_
        rintro e w3 ⟨rfl, rfl⟩
        rw [hpx]
        clear hpx
        go_wp2_with fail
        go_roundw
        case rel => exact ⟨left', ss, hrg2, by have := HQ.out; rw [hq.out] at this; simpa using this, hrow2, hchg2, HZ.out⟩
        case measure => rw [hrg2.left_eq, hrg.left_eq]; exact hlm.out
      · have hq : Hid (pk pre x = true) := hpx
        refine (Tryz.strings_HasPrefix x pre _).mono ?_
        rintro e w3 ⟨rfl, rfl⟩
        rw [hpx]
        clear hpx
        go_wp2_with (first | (at_builtin; refine wpList_append_own _ rfl _ _ 95 rfl w.heap.size 9 i0 (.string ⟨#[]⟩) 1 16 Tryz.underlying95 hi hz0 hz1 hz2 rfl (by decide) _ _ _ rfl (hrow2.alloc _) ⟨w3.heap.size, 0, none⟩ 1 1 [mkS x] rfl rfl (cell_one_new _ _ _) (by simp [Value.oneCell']) (by unfold maxLen; omega) (by omega) (by simp; omega) ?_; intro v' w4 hown' hg3 _; go_frame) | (at_len; fail))
        have hrg3 := (hrg2.of_block (w' := w3.alloc (.cells #[mkS x] 9)) (Below.heap_alloc _ _ _ hrg2.owns.lt) (Below.heap_alloc _ _ _ hrg2.lt))
        have hrg4 := hrg3.of_block (w' := w4) (hg3.block _ hrg3.owns.lt hlow) (hg3.block _ hrg3.lt hne2)
        go_roundw
        case rel => exact ⟨left', ss ++ [x.data.toList], hrg4, by have := HQ.out; rw [hq.out] at this; simpa using this, by simpa [encStr_of] using hown', (hchg2.alloc _).grown hg3 (fun j hj => Or.inr (hrow2.lt j hj).1), by have := HZ.out; have := hg3.size; simp at this; omega⟩
        case measure => rw [hrg4.left_eq, hrg.left_eq]; exact hlm.out
/-- how many versions. -/
def sumV (V : List (ByteArray × VEnt)) : Nat := (V.map (fun p => p.2.vs.length)).sum
theorem sumV_perm {V V' : List (ByteArray × VEnt)} (h : V.Perm V') : sumV V = sumV V' := (h.map _).sum_nat
theorem sumV_cons (p : ByteArray × VEnt) (V : List (ByteArray × VEnt)) : sumV (p :: V) = p.2.vs.length + sumV V := by simp [sumV]
set_option maxRecDepth 100000 in
set_option maxHeartbeats 1000000 in
theorem count_any (sb vm : Nat) (V : List (ByteArray × VEnt)) (w : World) (hs : StoreAt w sb vm V) (hws : sumV V ≤ 1000000000) :
    Calls Tryz.prog 91 #[.pointer (some ⟨sb, 0, none⟩)] w fun e w' => e = .returned (.int .i64 (sumV V)) ∧ Chg nobody w w' := by
  have hc := cell_of hs.st (i := 0) rfl
  have hm1 := hs.vs
  have hbl := hm1.lt
  clear hs
  go_enter Tryz.func91, Tryz.ntmps91
  go_wp2_with (first | (at_range; refine wpList_range_at _ rfl _ 104 rfl 9 155 mkS mkV Tryz.underlying104 vm V rfl hm1 ?_; intro w0 hrg0 hg0 hs0) | go_in)
  go_frame
  go_loopw [3] (fun v wr => ∃ (left : List (ByteArray × VEnt)) (n : Nat), v = .int .i64 n ∧ rangeAt wr Tryz.prog 9 mkS mkV vm w.heap.size V left ∧ n + sumV left = sumV V ∧
      Chg nobody w wr ∧ w.heap.size < wr.heap.size)
    (fun _ wr => wr.rangeLeft vm w.heap.size)
  case atStart => exact ⟨V, 0, rfl, hrg0, by simp, (Chg.refl _ _).grown hg0 (fun k e => by cases e), by omega⟩
  case round =>
    obtain ⟨left, n, rfl, hrg, hsum, hch, hlt1⟩ := hrel
    have hn : n ≤ 1000000000 := by omega
    have HP : Hid (n + sumV left = sumV V) := hsum
    clear hsum
    go_wp2_with (first | (at_next; refine wpList_next_at _ rfl _ rfl 9 mkS mkV vm w.heap.size V left rfl hrg (fun hl0 => ?_) (fun x c left' w2 hp hrg2 hg2 hs2 hen => ?_)) | (at_len; fail))
    · -- nothing is left
      have hss : Hid (n = sumV V) := by have := HP.out; rw [hl0] at this; have e0 : sumV [] = 0 := rfl; rw [e0] at this; exact this
      go_wp2_with fail
      go_ret
      exact ⟨by rw [hss.out]; rfl, hch⟩
    · -- an entry has come
      have hlm : Hid (left'.length < left.length) := by have := hp.length_eq; simp at this; show _ < _; omega
      have hsp : sumV left = c.vs.length + sumV left' := by rw [sumV_perm hp, sumV_cons]
      have hc1 : n + c.vs.length ≤ 1000000000 := by have := HP.out; omega
      have HQ : Hid (n + c.vs.length + sumV left' = sumV V) := by have := HP.out; rw [hsp] at this; show _ = _; omega
      have hchg2 : Chg nobody w w2 := hch.grown hg2 (fun k e => Or.inr (by cases e; omega))
      have HZ : Hid (w.heap.size < w2.heap.size) := by show _ < _; omega
      clear hs2 hp hg2 HP hsp
      go_wp2
      go_roundw
      case rel => exact ⟨left', n + c.vs.length, by (first | go_num | (congr 1; unfold wrap64; omega)), hrg2, HQ.out, hchg2, HZ.out⟩
      case measure => rw [hrg2.left_eq, hrg.left_eq]; exact hlm.out
end Go.Proofs.YtkfjafndplmdkaaGreat
