import Derived.Test.YtcpjocgpahjcjaaT5
import Derived.Sort.OwnSorted
import Derived.Sort.KeysCollected
import Derived.Lib.SlicesCompact
namespace Go.Proofs.Ytcpjocgpahjcjaa
open Go.RowKit Go.Sort
open Go.Maps (Keyed)
set_option maxHeartbeats 400000 in
theorem keys_empty (sb vm : Nat) (pre : ByteArray) (w : World) (hs : StoreAt w sb vm) :
    Calls Try.prog 65 #[.pointer (some ⟨sb, 0, none⟩), .string pre] w fun e w' => e = .returned (.slice none 0 0) ∧ Chg nobody w w' := by
  have hc := cell_of hs.st (i := 0) rfl
  have hrg := run_range_map (P := Try.prog) w 75 9 116 vm #[] 0 Try.underlying75 hs.vs
  have hnx : ∀ ty, (Instr.next (.pointer (some ⟨w.heap.size, 0, none⟩)) false ty).run Try.prog (w.alloc (.mapIter (some vm) 0 #[] 0)) = .ok (.tuple #[.bool false]) (w.alloc (.mapIter (some vm) 0 #[] 0)) := fun ty => by
    rcases run_next_at (P := Try.prog) (w.alloc (.mapIter (some vm) 0 #[] 0)) ty w.heap.size vm 0 0 #[] #[] 0 (MapKept.heap_alloc w _).1 (by rw [Below.heap_alloc _ _ _ (lt_of_block hs.vs)]; exact hs.vs) (by simp) (Nat.le_refl _) with ⟨_, h⟩ | ⟨e, he, _⟩
    · exact h
    · simp [leftOf] at he
  clear hs
  go_enter Try.func65, Try.ntmps65
  go_wp2
  refine wp_loop_rounds 1 ?_
  rw [rounds_succ]
  go_wp2
  go_ret
  exact ⟨rfl, (Chg.refl _ _).alloc _⟩
section plain
variable {β : Type}
def pk (pre k : ByteArray) : Bool := Lib.hasPrefix k.data.toList pre.data.toList
/-- The keys with a prefix. -/
def coll (pre : ByteArray) (l : List (ByteArray × β)) : List (List UInt8) := ((l.map Prod.fst).filter (pk pre)).map (fun k => k.data.toList)
theorem coll_perm {pre : ByteArray} {l l' : List (ByteArray × β)} (h : l.Perm l') : (coll pre l).Perm (coll pre l') := ((h.map _).filter _).map _
theorem coll_cons (pre : ByteArray) (p : ByteArray × β) (l : List (ByteArray × β)) : coll pre (p :: l) = (if pk pre p.1 then [p.1.data.toList] else []) ++ coll pre l := by
  unfold coll
  by_cases h : pk pre p.1 <;> simp [h]
theorem coll_len (pre : ByteArray) (l : List (ByteArray × β)) : (coll pre l).length ≤ l.length := by
  unfold coll
  have := List.length_filter_le (pk pre) (l.map Prod.fst)
  simpa using this
theorem toList_inj {a b : ByteArray} (h : a.data.toList = b.data.toList) : a = b := by
  cases a; cases b
  simpa using h
theorem coll_nodup (pre : ByteArray) (l : List (ByteArray × β)) (h : (l.map Prod.fst).Nodup) : (coll pre l).Nodup := by
  unfold coll
  refine List.pairwise_map.2 ((List.filter_sublist.nodup h).imp ?_)
  intro a b hne e
  exact hne (toList_inj e)
/-- The keys with a prefix, in order. -/
def sortedKeys (pre : ByteArray) (l : List (ByteArray × β)) : List (List UInt8) := (coll pre l).mergeSort (fun x y => decide (x ≤ y))
theorem compact_nodup (zs : List (List UInt8)) (h : zs.Nodup) : Lib.compact zs = zs := by
  refine Lib.compact_all zs fun j hj => ?_
  by_cases h0 : j = 0
  · subst h0
    exact Lib.keeps_lt_one _ 0 (by omega)
  · refine Lib.keeps_pos ?_
    rw [getElem!_pos _ j (by simpa using hj), getElem!_pos _ (j - 1) (by simp; omega)]
    simp only [List.getElem_toArray]
    exact fun e => List.pairwise_iff_getElem.1 h (j - 1) j (by omega) hj (by omega) e.symm
end plain
theorem rangeAt.left_eq {α β : Type} {P : Program} {k : TypeId} {mk : α → Value} {vl : β → Value} {w : World} {b r : Nat} {l left : List (α × β)} (h : rangeAt w P k mk vl b r l left) : w.rangeLeft b r = left.length := by
  obtain ⟨es, clock, since, seen, c0, hb, _, hr, _, _, _, hl, _⟩ := h
  simp only [World.rangeLeft, hb, hr]
  have := congrArg List.length hl
  simpa using this
theorem encStr_of (k : ByteArray) : encStr k.data.toList = .string k := by
  simp [encStr]
theorem info9 : (Try.prog.info? 9).map (fun i => (i.zero, i.size, i.bytes)) = some (some (.string ⟨#[]⟩), 1, 16) := by kernel_rfl
theorem row_ne_it {α β : Type} {P : Program} {k : TypeId} {mk : α → Value} {vl : β → Value} {w : World} {b r : Nat} {l left : List (α × β)} {base : Nat} {e : TypeId} {size : Nat} {v : Value} {m : Nat} {xs : List Value}
    (h : w.ownsRow base e size v m xs) (hr : rangeAt w P k mk vl b r l left) : some r ≠ v.ownBlock := by
  obtain ⟨_, _, _, _, _, _, _, hit, _⟩ := hr
  rcases h.2 with ⟨rfl, _⟩ | ⟨g, cap, cur, rfl, _, hb, _⟩
  · simp [Value.ownBlock]
  · intro e1
    have : r = g := by simpa [Value.ownBlock] using e1
    subst this
    rw [hit] at hb
    cases hb
set_option maxRecDepth 100000 in
set_option maxHeartbeats 1000000 in
theorem known_any (T : Tx) (sb vm : Nat) (pre : ByteArray) (w : World) (hT : TxAt w sb T) (hs : StoreAt w sb vm) (hws : T.ws.length ≤ 1000000000) :
    Calls Try.prog 59 #[.pointer (some ⟨T.tb, 0, none⟩), .string pre] w fun e w' => ∃ v, e = .returned v ∧ w'.ownsRow w.heap.size 9 1 v (sortedKeys pre T.ws).length ((sortedKeys pre T.ws).map encStr) ∧ Chg nobody w w' := by
  obtain ⟨i0, hi, hz0, hz1, hz2⟩ := info_parts info9
  obtain ⟨_, c1, c2, _, _⟩ := hT.cells
  have HN : Hid ((T.ws.map Prod.fst).Nodup) := by obtain ⟨_, _, _, hE⟩ := hT.wm; exact hE.nodup
  have hbl := hT.wm.lt
  have htl := lt_of_block hT.tx
  have HT : Hid (TxAt w sb T) := hT
  have hcl := coll_len pre T.ws
  clear hT
  go_enter Try.func59, Try.ntmps59
  go_wp2_with fail
  refine (keys_empty sb vm pre _ hs).mono ?_
  rintro e w1 ⟨rfl, hch1⟩
  have c2' : w1.cell? ⟨T.tb, 2, none⟩ = some (.map (some T.wb)) := (hch1.below.cell (p := ⟨T.tb, 2, none⟩) htl).trans c2
  have hm1 : mapAt w1 Try.prog 9 mkS mkC T.wb T.ws := HT.out.wm.of_block (hch1.block _ hbl (fun h => h))
  clear c1 c2 hs
  go_wp2_with (first | (at_range; refine wpList_range_at _ rfl _ 100 rfl 9 91 mkS mkC Try.underlying100 T.wb T.ws rfl hm1 ?_; intro w0 hrg0 hg0 hs0) | go_in)
  go_frame
  go_loopw [5] (fun v wr => ∃ (left : List (ByteArray × (Bool × ByteArray))) (ss : List (List UInt8)), rangeAt wr Try.prog 9 mkS mkC T.wb w1.heap.size T.ws left ∧ (ss ++ coll pre left).Perm (coll pre T.ws) ∧
      wr.ownsRow w.heap.size 9 1 v ss.length (ss.map encStr) ∧ Chg nobody w wr ∧ w1.heap.size < wr.heap.size)
    (fun _ wr => wr.rangeLeft T.wb w1.heap.size)
  case atStart => exact ⟨T.ws, [], hrg0, by simp, World.ownsRow_nil _ _ _ _, hch1.grown hg0 (fun k e => by cases e), by omega⟩
  case round =>
    obtain ⟨left, ss, hrg, hperm, hrow, hch, hlt1⟩ := hrel
    have HP : Hid ((ss ++ coll pre left).Perm (coll pre T.ws)) := hperm
    have hsl : ss.length ≤ (coll pre T.ws).length := by have := hperm.length_eq; simp at this; omega
    clear hperm
    go_wp2_with (first | (at_next; refine wpList_next_at _ rfl _ rfl 9 mkS mkC T.wb w1.heap.size T.ws left rfl hrg (fun hl0 => ?_) (fun x c left' w2 hp hrg2 hg2 hs2 hen => ?_)) | (at_len; fail))
    · -- nothing is left
      have hss : ss.Perm (coll pre T.ws) := by have := HP.out; rw [hl0] at this; simpa [coll] using this
      have hsorted : ss.mergeSort (fun x y => decide (x ≤ y)) = sortedKeys pre T.ws := mergeSort_of_perm hss
      have hnd : (sortedKeys pre T.ws).Nodup := (List.mergeSort_perm _ _).nodup_iff.2 (coll_nodup pre T.ws HN.out)
      have hlen : (sortedKeys pre T.ws).length = ss.length := by rw [← hsorted]; simp
      rcases hrow.2 with ⟨hnil, hn0⟩ | ⟨g, cap, cur, hv, hbase, hb, h1, h2, h3, h4⟩
      · subst hnil
        have hemp : sortedKeys pre T.ws = [] := List.eq_nil_of_length_eq_zero (by omega)
        clear hsorted hlen hnd hss
        go_wp2_with fail
        refine (Try.slices_Sort_string_none none 0 _).mono ?_
        rintro e w2 ⟨rfl, rfl⟩
        go_wp2_with fail
        refine (Try.slices_Compact_string_empty none 0 _).mono ?_
        rintro e w2 ⟨rfl, rfl⟩
        go_wp2_with fail
        go_ret
        refine ⟨_, rfl, ?_, hch⟩
        rw [hemp]
        exact World.ownsRow_nil _ _ _ _
      · subst hv
        have hH : Holds encStr wr g 0 ss.toArray := holds_of_block hb (by simpa using h4)
        have hgl : g < wr.heap.size := lt_of_block hb
        have HS := (fun q => Try.slices_Sort_string g 0 cap ss wr hH hgl q) (by omega)
        rw [hsorted] at HS
        have HF : Hid ((sortedKeys pre T.ws).length = ss.length ∧ (sortedKeys pre T.ws).Nodup) := ⟨hlen, hnd⟩
        clear hsorted hlen hnd hss
        go_wp2_with fail
        refine HS.mono ?_
        rintro e w2 ⟨rfl, nn, os, rfl⟩
        go_wp2_with fail
        obtain ⟨hlen, hnd⟩ := HF.out
        generalize hw2 : grow (putRow encStr (Sort.ahead wr nn) g 0 (sortedKeys pre T.ws).toArray) os = w2
        have hrow2 : w2.ownsRow w.heap.size 9 1 (.slice (some ⟨g, 0, none⟩) ss.length cap) ss.length ((sortedKeys pre T.ws).map encStr) := by rw [← hw2]; exact ownsRow_sorted hlen hbase hb h1 h2 h3
        have hg2 : wr.grownBy w2 (some g) := by rw [← hw2]; exact grownBy_sorted _
        clear hw2 HS
        rcases hrow2.2 with ⟨hx, _⟩ | ⟨g', cap', cur', hv', hbase', hb', h1', h2', h3', h4'⟩
        · cases hx
        cases hv'
        have hH2 : Holds encStr w2 g 0 (sortedKeys pre T.ws).toArray := holds_of_block hb' (by rw [hlen]; simpa using h4')
        have HC := Try.slices_Compact_string g 0 cap (sortedKeys pre T.ws) w2 hH2 (by omega) (by omega)
        rw [compact_nodup _ hnd, Nat.sub_self, List.replicate_zero, List.append_nil, hlen] at HC
        refine HC.mono ?_
        rintro e w3 ⟨rfl, q, rfl⟩
        go_wp2_with fail
        go_ret
        refine ⟨_, rfl, ?_, ?_⟩
        · have := ownsRow_sorted (w := w2) (n := q) (os := #[]) hlen hbase' hb' h1' h2' h3'
          rw [grow_empty] at this
          rw [hlen]
          exact this
        · have h5 := grownBy_sorted (w := w2) (g := g) (n := q) (os := #[]) (sortedKeys pre T.ws).toArray
          rw [grow_empty] at h5
          exact (hch.grown hg2 (fun k e => Or.inr (by cases e; exact hbase))).grown h5 (fun k e => Or.inr (by cases e; exact hbase))
    · -- an entry has come
      have hrow2 := hrow.kept hg2 (Or.inr (row_ne_it hrow hrg).symm)
      have hbls : w.heap.size ≤ w2.heap.size := by have := hch.size; omega
      have hne2 := row_ne_it hrow2 hrg2
      have hlow := row_ne_low hrow2 hbl
      have hlm : Hid (left'.length < left.length) := by have := hp.length_eq; simp at this; show _ < _; omega
      have HQ : Hid ((ss ++ (if pk pre x then [x.data.toList] else []) ++ coll pre left').Perm (coll pre T.ws)) := by
        refine List.Perm.trans ?_ HP.out
        rw [List.append_assoc]
        refine List.Perm.append_left _ ?_
        have := coll_perm (pre := pre) hp
        rw [coll_cons] at this
        exact this.symm
      have hchg2 : Chg nobody w w2 := hch.grown hg2 (fun k e => Or.inr (by cases e; have := hch1.size; omega))
      have HZ : Hid (w1.heap.size < w2.heap.size) := by show _ < _; omega
      clear hs2 hp hg2 HP
      cases hpx : Lib.hasPrefix x.data.toList pre.data.toList
      · have hq : Hid (pk pre x = false) := hpx
        refine (Try.strings_HasPrefix x pre _).mono ?_
        rintro e w3 ⟨rfl, rfl⟩
        rw [hpx]
        clear hpx
        go_wp2_with fail
        go_roundw
        case rel => exact ⟨left', ss, hrg2, by have := HQ.out; rw [hq.out] at this; simpa using this, hrow2, hchg2, HZ.out⟩
        case measure => rw [hrg2.left_eq, hrg.left_eq]; exact hlm.out
      · have hq : Hid (pk pre x = true) := hpx
        refine (Try.strings_HasPrefix x pre _).mono ?_
        rintro e w3 ⟨rfl, rfl⟩
        rw [hpx]
        clear hpx
        go_wp2_with (first | (at_builtin; refine wpList_append_own _ rfl _ _ 64 rfl w.heap.size 9 i0 (.string ⟨#[]⟩) 1 16 Try.underlying64 hi hz0 hz1 hz2 rfl (by decide) _ _ _ rfl (hrow2.alloc _) ⟨w3.heap.size, 0, none⟩ 1 1 [mkS x] rfl rfl (cell_one_new _ _ _) (by simp [Value.oneCell']) (by unfold maxLen; omega) (by omega) (by simp; omega) ?_; intro v' w4 hown' hg3 _; go_frame) | (at_len; fail))
        have hrg3 := (hrg2.of_block (w' := w3.alloc (.cells #[mkS x] 9)) (Below.heap_alloc _ _ _ hrg2.owns.lt) (Below.heap_alloc _ _ _ hrg2.lt))
        have hrg4 := hrg3.of_block (w' := w4) (hg3.block _ hrg3.owns.lt hlow) (hg3.block _ hrg3.lt hne2)
        go_roundw
        case rel => exact ⟨left', ss ++ [x.data.toList], hrg4, by have := HQ.out; rw [hq.out] at this; simpa using this, by simpa [encStr_of] using hown', (hchg2.alloc _).grown hg3 (fun j hj => Or.inr (hrow2.lt j hj).1), by have := HZ.out; have := hg3.size; simp at this; omega⟩
        case measure => rw [hrg4.left_eq, hrg.left_eq]; exact hlm.out
end Go.Proofs.Ytcpjocgpahjcjaa
