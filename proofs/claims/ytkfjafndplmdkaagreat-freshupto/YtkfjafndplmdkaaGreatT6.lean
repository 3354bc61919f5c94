import Derived.Test.YtkfjafndplmdkaaGreatT5
namespace Go.Proofs.YtkfjafndplmdkaaGreat
open Go.RowKit Go.Sort
open Go.Maps (Keyed)
section plain
theorem compactUpTo_sorted (d : Array (List UInt8)) (hs : ∀ i j, i ≤ j → j < d.size → d[i]! ≤ d[j]!) : ∀ m, m ≤ d.size → (Lib.compactUpTo d m).Pairwise (fun a b => a < b) ∧ (∀ x, x ∈ Lib.compactUpTo d m ↔ ∃ j, j < m ∧ d[j]! = x)
  | 0, _ => by
    have : Lib.compactUpTo d 0 = [] := rfl
    rw [this]
    exact ⟨List.Pairwise.nil, fun x => ⟨fun h => by simp at h, fun ⟨j, h, _⟩ => by omega⟩⟩
  | m + 1, hm => by
    obtain ⟨h1, h2⟩ := compactUpTo_sorted d hs m (by omega)
    rw [Lib.compactUpTo_succ]
    by_cases hk : Lib.keeps d m = true
    · rw [if_pos hk]
      refine ⟨?_, fun x => ?_⟩
      · rw [List.pairwise_append]
        refine ⟨h1, by simp, fun a ha b hb => ?_⟩
        have hb' : b = d[m]! := by simpa using hb
        obtain ⟨j, hj, hja⟩ := (h2 a).1 ha
        rw [hb', ← hja]
        have hm0 : m ≠ 0 := by omega
        have hne : d[m]! ≠ d[m - 1]! := by
          have := hk
          simp only [Lib.keeps, decide_eq_true_eq] at this
          exact this.resolve_left hm0
        have l1 : d[j]! ≤ d[m - 1]! := hs j (m - 1) (by omega) (by omega)
        have l2 : d[m - 1]! ≤ d[m]! := hs (m - 1) m (by omega) (by omega)
        refine Classical.byContradiction fun h3 => hne ?_
        have l3 := List.not_lt.1 h3
        exact List.le_antisymm (List.le_trans l3 l1) l2
      · rw [List.mem_append, h2 x]
        constructor
        · rintro (⟨j, hj, e⟩ | e)
          · exact ⟨j, by omega, e⟩
          · exact ⟨m, by omega, by have : x = d[m]! := by simpa using e
                                   exact this.symm⟩
        · rintro ⟨j, hj, e⟩
          by_cases hjm : j = m
          · subst hjm; exact Or.inr (by simp [e])
          · exact Or.inl ⟨j, by omega, e⟩
    · rw [if_neg hk, List.append_nil]
      refine ⟨h1, fun x => ?_⟩
      rw [h2 x]
      constructor
      · rintro ⟨j, hj, e⟩; exact ⟨j, by omega, e⟩
      · rintro ⟨j, hj, e⟩
        by_cases hjm : j = m
        · subst hjm
          have hk' : ¬ (j = 0 ∨ d[j]! ≠ d[j - 1]!) := by simpa [Lib.keeps] using hk
          have h0 : j ≠ 0 := fun e0 => hk' (Or.inl e0)
          have he : d[j]! = d[j - 1]! := Classical.byContradiction fun h => hk' (Or.inr h)
          exact ⟨j - 1, by omega, by rw [← he]; exact e⟩
        · exact ⟨j, by omega, e⟩
theorem compact_sorted {zs : List (List UInt8)} (h : zs.Pairwise (fun a b => a ≤ b)) : (Lib.compact zs).Pairwise (fun a b => a < b) ∧ ∀ x, x ∈ Lib.compact zs ↔ x ∈ zs := by
  have hs : ∀ i j, i ≤ j → j < zs.toArray.size → zs.toArray[i]! ≤ zs.toArray[j]! := fun i j hij hj => by
    have hj' : j < zs.length := by simpa using hj
    rw [getElem!_pos zs.toArray i (by simp; omega), getElem!_pos zs.toArray j hj]
    simp only [List.getElem_toArray]
    by_cases e : i = j
    · subst e; exact List.le_refl _
    · exact List.pairwise_iff_getElem.1 h i j (by omega) hj' (by omega)
  obtain ⟨h1, h2⟩ := compactUpTo_sorted zs.toArray hs zs.length (by simp)
  refine ⟨h1, fun x => (h2 x).trans ⟨?_, fun hx => ?_⟩⟩
  · rintro ⟨j, hj, e⟩
    rw [getElem!_pos zs.toArray j (by simpa using hj)] at e
    simp only [List.getElem_toArray] at e
    rw [← e]
    exact List.getElem_mem hj
  · obtain ⟨j, hj, e⟩ := List.getElem_of_mem hx
    refine ⟨j, hj, ?_⟩
    rw [getElem!_pos zs.toArray j (by simpa using hj)]
    simpa using e
theorem compact_len (zs : List (List UInt8)) : (Lib.compact zs).length ≤ zs.length := by
  unfold Lib.compact Lib.compactUpTo
  rw [List.length_map]
  exact Nat.le_trans (List.length_filter_le _ _) (by simp)
/-- The keys with a prefix, of the store and of the writes, in order, each once. -/
def knownK {β γ : Type} (pre : ByteArray) (V : List (ByteArray × β)) (ws : List (ByteArray × γ)) : List (List UInt8) := Lib.compact ((coll pre V ++ coll pre ws).mergeSort (fun x y => decide (x ≤ y)))
theorem known_asc {β γ : Type} (pre : ByteArray) (V : List (ByteArray × β)) (ws : List (ByteArray × γ)) : (knownK pre V ws).Pairwise (fun a b => a < b) ∧ ∀ x, x ∈ knownK pre V ws ↔ x ∈ coll pre V ∨ x ∈ coll pre ws := by
  have hs : ((coll pre V ++ coll pre ws).mergeSort (fun x y => decide (x ≤ y))).Pairwise (fun x y => x ≤ y) := by
    have := List.pairwise_mergeSort (le := fun (x y : List UInt8) => decide (x ≤ y)) (fun a b c h1 h2 => by simp at h1 h2 ⊢; exact List.le_trans h1 h2) (fun a b => by simp; exact List.le_total a b) (coll pre V ++ coll pre ws)
    exact this.imp (fun h => by simpa using h)
  obtain ⟨h1, h2⟩ := compact_sorted hs
  refine ⟨h1, fun x => (h2 x).trans ?_⟩
  rw [(List.mergeSort_perm _ _).mem_iff, List.mem_append]
theorem known_len {β γ : Type} (pre : ByteArray) (V : List (ByteArray × β)) (ws : List (ByteArray × γ)) : (knownK pre V ws).length ≤ V.length + ws.length := by
  unfold knownK
  refine Nat.le_trans (compact_len _) ?_
  rw [List.length_mergeSort, List.length_append]
  have := coll_len pre V
  have := coll_len pre ws
  omega
end plain
theorem ownsRow_less {w : World} {base : Nat} {e : TypeId} {g cap n m : Nat} {xs ys : List Value} (h : w.ownsRow base e 1 (.slice (some ⟨g, 0, none⟩) n cap) n (xs ++ ys)) (hm : xs.length = m) (hn : m ≤ n) : w.ownsRow base e 1 (.slice (some ⟨g, 0, none⟩) m cap) m xs := by
  obtain ⟨h1, h2⟩ := h
  refine ⟨by omega, ?_⟩
  rcases h2 with ⟨hx, _⟩ | ⟨g', cap', cur, hv, hg, hb, q1, q2, q3, q4⟩
  · cases hx
  · cases hv
    refine Or.inr ⟨g, cap, cur, rfl, hg, hb, by omega, q2, q3, ?_⟩
    rw [Nat.mul_one] at q4 ⊢
    have e1 : cur.toList.take m = (cur.toList.take n).take m := by rw [List.take_take, Nat.min_eq_left hn]
    rw [e1, q4, List.take_append_of_le_length (by omega), ← hm, List.take_length]
set_option maxRecDepth 100000 in
set_option maxHeartbeats 1000000 in
theorem known_any (T : Tx) (sb vm : Nat) (V : List (ByteArray × VEnt)) (pre : ByteArray) (w : World) (hT : TxAt w sb T) (hs : StoreAt w sb vm V) (hws : T.ws.length ≤ 100000000) (hvl : V.length ≤ 100000000) :
    Calls Tryz.prog 102 #[.pointer (some ⟨T.tb, 0, none⟩), .string pre] w fun e w' => ∃ v, e = .returned v ∧ w'.ownsRow w.heap.size 9 1 v (knownK pre V T.ws).length ((knownK pre V T.ws).map encStr) ∧ Chg nobody w w' := by
  obtain ⟨i0, hi, hz0, hz1, hz2⟩ := info_parts info9
  obtain ⟨_, _, c1, c2, _, _⟩ := hT.cells
  have hbl := hT.wm.lt
  have htl := lt_of_block hT.tx
  have HT : Hid (TxAt w sb T) := hT
  have hcl : (coll pre V ++ coll pre T.ws).length ≤ 200000000 := by
    have := coll_len pre T.ws
    have := coll_len pre V
    simp; omega
  clear hT
  go_enter Tryz.func102, Tryz.ntmps102
  go_wp2_with fail
  refine (storeKeys_any sb vm V pre _ hs (by omega)).mono ?_
  rintro e w1 ⟨v1, rfl, s1, hp1, hrow1, hch1⟩
  have c2' : w1.cell? ⟨T.tb, 3, none⟩ = some (.map (some T.wb)) := (hch1.below.cell (p := ⟨T.tb, 3, none⟩) htl).trans c2
  have hm1 : mapAt w1 Tryz.prog 9 mkS mkC T.wb T.ws := HT.out.wm.of_block (hch1.block _ hbl (fun h => h))
  have HP1 : Hid (s1.Perm (coll pre V)) := hp1
  clear c1 c2 hs hp1
  go_wp2_with (first | (at_range; refine wpList_range_at _ rfl _ 145 rfl 9 127 mkS mkC Tryz.underlying145 T.wb T.ws rfl hm1 ?_; intro w0 hrg0 hg0 hs0) | go_in)
  go_frame
  go_loopw [5] (fun v wr => ∃ (left : List (ByteArray × (Bool × ByteArray))) (ss : List (List UInt8)), rangeAt wr Tryz.prog 9 mkS mkC T.wb w1.heap.size T.ws left ∧ (ss ++ coll pre left).Perm (coll pre V ++ coll pre T.ws) ∧
      wr.ownsRow w.heap.size 9 1 v ss.length (ss.map encStr) ∧ Chg nobody w wr ∧ w1.heap.size < wr.heap.size)
    (fun _ wr => wr.rangeLeft T.wb w1.heap.size)
  case atStart => exact ⟨T.ws, s1, hrg0, HP1.out.append_right _, ownsRow_chg hrow1 ((Chg.refl nobody _).grown hg0 (fun k e => by cases e)) (fun _ _ h => h), hch1.grown hg0 (fun k e => by cases e), by omega⟩
  case round =>
    obtain ⟨left, ss, hrg, hperm, hrow, hch, hlt1⟩ := hrel
    have HP : Hid ((ss ++ coll pre left).Perm (coll pre V ++ coll pre T.ws)) := hperm
    have hsl : ss.length ≤ 200000000 := by have := hperm.length_eq; rw [List.length_append] at this; omega
    clear hperm
    go_wp2_with (first | (at_next; refine wpList_next_at _ rfl _ rfl 9 mkS mkC T.wb w1.heap.size T.ws left rfl hrg (fun hl0 => ?_) (fun x c left' w2 hp hrg2 hg2 hs2 hen => ?_)) | (at_len; fail))
    · -- nothing is left
      have hss : ss.Perm (coll pre V ++ coll pre T.ws) := by have := HP.out; rw [hl0] at this; simpa [coll] using this
      have hsorted : ss.mergeSort (fun x y => decide (x ≤ y)) = (coll pre V ++ coll pre T.ws).mergeSort (fun x y => decide (x ≤ y)) := mergeSort_of_perm hss
      have hK : knownK pre V T.ws = Lib.compact (ss.mergeSort (fun x y => decide (x ≤ y))) := by rw [hsorted]; rfl
      have HKK : Hid (knownK pre V T.ws = Lib.compact (ss.mergeSort (fun x y => decide (x ≤ y)))) := hK
      clear hK hsorted hss
      rcases hrow.2 with ⟨hnil, hn0⟩ | ⟨g, cap, cur, hv, hbase, hb, h1, h2, h3, h4⟩
      · subst hnil
        have hemp : Hid (knownK pre V T.ws = []) := by
          have e0 : ss = [] := List.eq_nil_of_length_eq_zero (by omega)
          have := HKK.out
          rw [e0, List.mergeSort_nil] at this
          exact this.trans rfl
        go_wp2_with fail
        refine (Tryz.slices_Sort_string_none none 0 _).mono ?_
        rintro e w2 ⟨rfl, rfl⟩
        go_wp2_with fail
        refine (Tryz.slices_Compact_string_empty none 0 _).mono ?_
        rintro e w2 ⟨rfl, rfl⟩
        go_wp2_with fail
        go_ret
        refine ⟨_, rfl, ?_, hch⟩
        rw [hemp.out]
        exact World.ownsRow_nil _ _ _ _
      · subst hv
        have hH : Holds encStr wr g 0 ss.toArray := holds_of_block hb (by simpa using h4)
        have hgl : g < wr.heap.size := lt_of_block hb
        have HS := (fun q => Tryz.slices_Sort_string g 0 cap ss wr hH hgl q) (by omega)
        have hlen0 : (ss.mergeSort (fun x y => decide (x ≤ y))).length = ss.length := by simp
        generalize ss.mergeSort (fun x y => decide (x ≤ y)) = zs at *
        have HF : Hid (zs.length = ss.length) := hlen0
        clear hlen0
        go_wp2_with fail
        refine HS.mono ?_
        rintro e w2 ⟨rfl, nn, os, rfl⟩
        go_wp2_with fail
        have hlen := HF.out
        generalize hw2 : grow (putRow encStr (Sort.ahead wr nn) g 0 zs.toArray) os = w2
        have hrow2 : w2.ownsRow w.heap.size 9 1 (.slice (some ⟨g, 0, none⟩) ss.length cap) ss.length (zs.map encStr) := by rw [← hw2]; exact ownsRow_sorted hlen hbase hb h1 h2 h3
        have hg2 : wr.grownBy w2 (some g) := by rw [← hw2]; exact grownBy_sorted _
        clear hw2 HS
        rcases hrow2.2 with ⟨hx, _⟩ | ⟨g', cap', cur', hv', hbase', hb', h1', h2', h3', h4'⟩
        · cases hx
        cases hv'
        have hH2 : Holds encStr w2 g 0 zs.toArray := holds_of_block hb' (by rw [hlen]; simpa using h4')
        have HC := Tryz.slices_Compact_string g 0 cap zs w2 hH2 (by omega) (by omega)
        have hcl2 := compact_len zs
        rw [hlen] at HC
        refine HC.mono ?_
        rintro e w3 ⟨rfl, q, rfl⟩
        have hcl3 : (Lib.compact zs ++ List.replicate (ss.length - (Lib.compact zs).length) ([] : List UInt8)).length = ss.length := by simp; omega
        have hr3 := ownsRow_sorted (w := w2) (n := q) (os := #[]) (ts := Lib.compact zs ++ List.replicate (ss.length - (Lib.compact zs).length) []) hcl3 hbase' hb' h1' h2' h3'
        rw [grow_empty, List.map_append] at hr3
        have hr4 := ownsRow_less hr3 (m := (Lib.compact zs).length) (by simp) (by omega)
        have h5 := grownBy_sorted (w := w2) (g := g) (n := q) (os := #[]) (Lib.compact zs ++ List.replicate (ss.length - (Lib.compact zs).length) []).toArray
        rw [grow_empty] at h5
        generalize putRow encStr (Sort.ahead w2 q) g 0 (Lib.compact zs ++ List.replicate (ss.length - (Lib.compact zs).length) []).toArray = w3 at *
        clear HC hr3 hcl3 hcl2
        go_wp2_with fail
        go_ret
        refine ⟨_, rfl, ?_, ?_⟩
        · rw [HKK.out]; exact hr4
        · exact (hch.grown hg2 (fun k e => Or.inr (by cases e; exact hbase))).grown h5 (fun k e => Or.inr (by cases e; exact hbase))
    · -- an entry has come
      have hrow2 := hrow.kept hg2 (Or.inr (row_ne_it hrow hrg).symm)
      have hbls : w.heap.size ≤ w2.heap.size := by have := hch.size; omega
      have hne2 := row_ne_it hrow2 hrg2
      have hlow := row_ne_low hrow2 hbl
      have hlm : Hid (left'.length < left.length) := by have := hp.length_eq; simp at this; show _ < _; omega
      have HQ : Hid ((ss ++ (if pk pre x then [x.data.toList] else []) ++ coll pre left').Perm (coll pre V ++ coll pre T.ws)) := by
        refine List.Perm.trans ?_ HP.out
        rw [List.append_assoc]
        refine List.Perm.append_left _ ?_
        have := coll_perm (pre := pre) hp
        rw [coll_cons] at this
        exact this.symm
      have hchg2 : Chg nobody w w2 := hch.grown hg2 (fun k e => Or.inr (by cases e; have := hch1.size; omega))
      have HZ : Hid (w1.heap.size < w2.heap.size) := by show _ < _; omega
      clear hs2 hp hg2 HP
      cases hpx : Lib.hasPrefix x.data.toList pre.data.toList
      · have hq : Hid (pk pre x = false) := hpx
        refine (Tryz.strings_HasPrefix x pre _).mono ?_
        rintro e w3 ⟨rfl, rfl⟩
        rw [hpx]
        clear hpx
        go_wp2_with fail
        go_roundw
        case rel => exact ⟨left', ss, hrg2, by have := HQ.out; rw [hq.out] at this; simpa using this, hrow2, hchg2, HZ.out⟩
        case measure => rw [hrg2.left_eq, hrg.left_eq]; exact hlm.out
      · have hq : Hid (pk pre x = true) := hpx
        refine (Tryz.strings_HasPrefix x pre _).mono ?_
        rintro e w3 ⟨rfl, rfl⟩
        rw [hpx]
        clear hpx
        go_wp2_with (first | (at_builtin; refine wpList_append_own _ rfl _ _ 95 rfl w.heap.size 9 i0 (.string ⟨#[]⟩) 1 16 Tryz.underlying95 hi hz0 hz1 hz2 rfl (by decide) _ _ _ rfl (hrow2.alloc _) ⟨w3.heap.size, 0, none⟩ 1 1 [mkS x] rfl rfl (cell_one_new _ _ _) (by simp [Value.oneCell']) (by unfold maxLen; omega) (by omega) (by simp; omega) ?_; intro v' w4 hown' hg3 _; go_frame) | (at_len; fail))
        have hrg3 := (hrg2.of_block (w' := w3.alloc (.cells #[mkS x] 9)) (Below.heap_alloc _ _ _ hrg2.owns.lt) (Below.heap_alloc _ _ _ hrg2.lt))
        have hrg4 := hrg3.of_block (w' := w4) (hg3.block _ hrg3.owns.lt hlow) (hg3.block _ hrg3.lt hne2)
        go_roundw
        case rel => exact ⟨left', ss ++ [x.data.toList], hrg4, by have := HQ.out; rw [hq.out] at this; simpa using this, by simpa [encStr_of] using hown', (hchg2.alloc _).grown hg3 (fun j hj => Or.inr (hrow2.lt j hj).1), by have := HZ.out; have := hg3.size; simp at this; omega⟩
        case measure => rw [hrg4.left_eq, hrg.left_eq]; exact hlm.out
end Go.Proofs.YtkfjafndplmdkaaGreat
