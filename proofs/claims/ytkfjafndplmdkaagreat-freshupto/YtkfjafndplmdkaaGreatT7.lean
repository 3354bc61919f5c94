import Derived.Test.YtkfjafndplmdkaaGreatT6
namespace Go.Proofs.YtkfjafndplmdkaaGreat
open Go.RowKit Go.Sort
open Go.Maps (Keyed)
def itemOf (T : Tx) (V : List (ByteArray × VEnt)) (k : List UInt8) : Option (ByteArray × ByteArray) := if (seen T V ⟨k.toArray⟩).1 then some (⟨k.toArray⟩, (seen T V ⟨k.toArray⟩).2) else none
def itemsOf (T : Tx) (V : List (ByteArray × VEnt)) (ks : List (List UInt8)) : List (ByteArray × ByteArray) := ks.filterMap (itemOf T V)
def itemCells (l : List (ByteArray × ByteArray)) : List Value := l.flatMap fun p => [.string p.1, .string p.2]
theorem itemCells_len (l : List (ByteArray × ByteArray)) : (itemCells l).length = l.length * 2 := by
  induction l with
  | nil => rfl
  | cons p r ih => simp [itemCells] at *; omega
theorem itemCells_snoc (l : List (ByteArray × ByteArray)) (p : ByteArray × ByteArray) : itemCells (l ++ [p]) = itemCells l ++ [.string p.1, .string p.2] := by simp [itemCells]
theorem itemsOf_take (T : Tx) (V : List (ByteArray × VEnt)) (ks : List (List UInt8)) (j : Nat) (h : j < ks.length) : itemsOf T V (ks.take (j + 1)) = itemsOf T V (ks.take j) ++ (itemOf T V ks[j]).toList := by
  unfold itemsOf
  rw [List.take_succ_eq_append_getElem h, List.filterMap_append]
  cases h1 : itemOf T V ks[j] <;> simp [h1]
theorem itemsOf_len (T : Tx) (V : List (ByteArray × VEnt)) (ks : List (List UInt8)) : (itemsOf T V ks).length ≤ ks.length := List.length_filterMap_le _ _
theorem StoreAt.lts {w : World} {sb vm : Nat} {V : List (ByteArray × VEnt)} (h : StoreAt w sb vm V) : ∀ b ∈ vBlocks V, b < w.heap.size := fun b hb => by
  obtain ⟨p, hp, rfl⟩ := List.mem_map.1 hb
  exact ((h.rows p hp).lt _ rfl).2
theorem infoItem : (Tryz.prog.info? 66).map (fun i => (i.zero, i.size, i.bytes)) = some (some (.agg #[.string ⟨#[]⟩, .string ⟨#[]⟩]), 2, 32) := by kernel_rfl
set_option maxRecDepth 100000 in
set_option maxHeartbeats 1000000 in
theorem txScan_any (T : Tx) (sb vm : Nat) (V : List (ByteArray × VEnt)) (pre : ByteArray) (w : World) (hk : pre.size ≤ maxLen) (hT : TxAt w sb T) (hs : StoreAt w sb vm V) (hws : T.ws.length ≤ 100000000) (hvl : V.length ≤ 100000000) (hvo : ∀ key, (versOf key V).length ≤ 2000000) (hkeys : ∀ p ∈ T.ws, p.1.size ≤ maxLen) (hkv : ∀ p ∈ V, p.1.size ≤ maxLen) (hne : T.pb ≠ T.tb ∧ T.pb ≠ T.wb ∧ T.pb ≠ T.kb ∧ T.pb ≠ sb ∧ T.pb ≠ vm ∧ T.pb ∉ vBlocks V) :
    Calls Tryz.prog 79 #[.pointer (some ⟨T.tb, 0, none⟩), .string pre] w fun e w' => ∃ v, e = .returned v ∧ w'.ownsRow w.heap.size 66 2 v (itemsOf T V (knownK pre V T.ws)).length (itemCells (itemsOf T V (knownK pre V T.ws))) ∧
      TxAt w' sb { T with ps := putA pre () T.ps } ∧ Chg (fun b => b = T.pb) w w' := by
  obtain ⟨i0, hi, hz0, hz1, hz2⟩ := info_parts infoItem
  obtain ⟨_, _, _, _, _, c4⟩ := hT.cells
  -- the prefix joins the read set
  obtain ⟨w2, hrun, r2, r3, _⟩ := hT.pm.store keyS mkS_inj Tryz.underlying146 (a := pre) (keyOfS hk) ()
  have hcg : Chg (fun b => b = T.pb) w w2 := (Chg.refl _ _).grown r3 (fun k e => Or.inl (by cases e; rfl))
  have hT2 : TxAt w2 sb { T with ps := putA pre () T.ps } := ⟨(hcg.block _ (lt_of_block hT.tx) (Ne.symm hne.1)).trans hT.tx, hT.wm.of_block (hcg.block _ hT.wm.lt (Ne.symm hne.2.1)), hT.km.of_block (hcg.block _ hT.km.lt (Ne.symm hne.2.2.1)), r2⟩
  have hs2 := hs.chg hcg (Ne.symm hne.2.2.2.1) (Ne.symm hne.2.2.2.2.1) (fun b hb e => hne.2.2.2.2.2 (e ▸ hb))
  have HI : Hid (TxAt w2 sb { T with ps := putA pre () T.ps } ∧ StoreAt w2 sb vm V ∧ Chg (fun b => b = T.pb) w w2) := ⟨hT2, hs2, hcg⟩
  clear hT2 hs2 hcg r2 r3 hT hs hne
  have hll := known_len pre V T.ws
  have hks : ∀ k ∈ knownK pre V T.ws, (⟨k.toArray⟩ : ByteArray).size ≤ maxLen := fun k hk => by
    rcases ((known_asc pre V T.ws).2 k).1 hk with h1 | h1
    · unfold coll at h1
      obtain ⟨b, hb, rfl⟩ := List.mem_map.1 h1
      obtain ⟨p, hp, rfl⟩ := List.mem_map.1 (List.mem_filter.1 hb).1
      simpa using hkv p hp
    · unfold coll at h1
      obtain ⟨b, hb, rfl⟩ := List.mem_map.1 h1
      obtain ⟨p, hp, rfl⟩ := List.mem_map.1 (List.mem_filter.1 hb).1
      simpa using hkeys p hp
  have HK : Hid (∀ k ∈ knownK pre V T.ws, (⟨k.toArray⟩ : ByteArray).size ≤ maxLen) := hks
  clear hks hkeys hkv
  go_enter Tryz.func79, Tryz.ntmps79
  go_wp2_with fail
  obtain ⟨hT2, hs2, hcg⟩ := HI.out
  refine (known_any { T with ps := putA pre () T.ps } sb vm V pre _ hT2 hs2 hws hvl).mono ?_
  rintro e w3 ⟨kv, rfl, hrow, hch3⟩
  have HA : Hid (TxAt w3 sb { T with ps := putA pre () T.ps } ∧ StoreAt w3 sb vm V ∧ Chg (fun b => b = T.pb) w w3 ∧ w2.heap.size ≤ w3.heap.size ∧ w.heap.size ≤ w2.heap.size) := ⟨hT2.chg hch3 (fun h => h) (fun h => h) (fun h => h) (fun h => h), hs2.chg hch3 (fun h => h) (fun h => h) (fun _ _ h => h), hcg.andThen hch3 (fun _ _ h => h.elim), hch3.size, hcg.size⟩
  clear hT2 hs2 hcg hch3 hrun c4
  generalize hL : knownK pre V { T with ps := putA pre () T.ps }.ws = L at hrow
  have HL : Hid (knownK pre V T.ws = L) := hL
  have hLl : L.length ≤ V.length + T.ws.length := by rw [← HL.out]; exact hll
  clear hL hll
  rcases hrow.2 with ⟨hnil, hn0⟩ | ⟨g, cap, cur, hv, hbase, hb, h1, h2, h3, h4⟩
  · subst hnil
    go_wp2
    refine wp_loop_rounds 1 ?_
    rw [rounds_succ]
    go_wp2
    go_ret
    obtain ⟨hT3, hs3, hcg3, hz2, hz1⟩ := HA.out
    have hemp : L = [] := List.eq_nil_of_length_eq_zero hn0
    refine ⟨_, rfl, ?_, hT3, hcg3⟩
    rw [HL.out, hemp]
    exact World.ownsRow_nil _ _ _ _
  · subst hv
    have HR : Hid (w3.ownsRow w2.heap.size 9 1 (.slice (some ⟨g, 0, none⟩) L.length cap) L.length (L.map encStr) ∧ g < w3.heap.size) := ⟨hrow, lt_of_block hb⟩
    clear hrow hbase hb h1 h2 h3 h4
    go_wp2_with fail
    go_loopw [5, 19] (fun v i wr => ∃ j : Nat, j ≤ L.length ∧ i = .int .i64 j ∧ wr.ownsRow w3.heap.size 66 2 v (itemsOf T V (L.take j)).length (itemCells (itemsOf T V (L.take j))) ∧
        wr.ownsRow w2.heap.size 9 1 (.slice (some ⟨g, 0, none⟩) L.length cap) L.length (L.map encStr) ∧ TxAt wr sb { T with ps := putA pre () T.ps } ∧ StoreAt wr sb vm V ∧ Chg (fun b => b = T.pb) w wr ∧ w3.heap.size ≤ wr.heap.size)
      (fun _ i _ => L.length - (intOf i).toNat)
    case atStart =>
      obtain ⟨hT3, hs3, hcg3, hz2, hz1⟩ := HA.out
      exact ⟨0, Nat.zero_le _, rfl, World.ownsRow_nil _ _ _ _, HR.out.1, hT3, hs3, hcg3, Nat.le_refl _⟩
    case round =>
      obtain ⟨j, hj, rfl, hrow, hrowk, hT4, hs4, hcg4, hsz4⟩ := hrel
      by_cases hlt : j < L.length
      · have hcell : wr.cell? ⟨g, j, none⟩ = some (.string ⟨L[j].toArray⟩) := by
          rw [hrowk.cellAt j (by omega)]
          simp [List.getElem?_eq_getElem hlt, encStr]
        have hkl : (⟨L[j].toArray⟩ : ByteArray).size ≤ maxLen := HK.out _ (by rw [HL.out]; exact List.getElem_mem hlt)
        have HS := sees_any { T with ps := putA pre () T.ps } sb vm V ⟨L[j].toArray⟩ wr hkl hT4 hs4 (hvo _)
        have hit := itemsOf_take T V L j hlt
        have hil := itemsOf_len T V (L.take j)
        have hjt : (L.take j).length ≤ j := List.length_take_le _ _
        have HB : Hid (TxAt wr sb { T with ps := putA pre () T.ps } ∧ StoreAt wr sb vm V ∧ Chg (fun b => b = T.pb) w wr ∧ wr.ownsRow w2.heap.size 9 1 (.slice (some ⟨g, 0, none⟩) L.length cap) L.length (L.map encStr) ∧ itemsOf T V (L.take (j + 1)) = itemsOf T V (L.take j) ++ (itemOf T V L[j]).toList) := ⟨hT4, hs4, hcg4, hrowk, hit⟩
        clear hT4 hs4 hcg4 hrowk hit
        generalize hkk : (⟨L[j].toArray⟩ : ByteArray) = kk at *
        have HKK : Hid ((⟨L[j].toArray⟩ : ByteArray) = kk) := hkk
        clear hkk
        obtain ⟨f, u, hfu⟩ : ∃ f u, seen T V kk = (f, u) := ⟨_, _, rfl⟩
        have hfu' : seen { T with ps := putA pre () T.ps } V kk = (f, u) := hfu
        rw [hfu'] at HS
        have HO : Hid (itemOf T V L[j] = if f then some (kk, u) else none) := by
          show itemOf T V L[j] = _
          unfold itemOf
          rw [HKK.out, hfu]
        clear hfu hfu' HKK hil
        have hil : (itemsOf T V (L.take j)).length ≤ j := Nat.le_trans (itemsOf_len T V _) hjt
        go_wp2_with fail
        refine HS.mono ?_
        rintro e w4 ⟨rfl, hch4⟩
        have hsz5 : wr.heap.size ≤ w4.heap.size := hch4.size
        have hrow4 := ownsRow_chg hrow hch4 (fun _ _ h => h)
        have HW : Hid (∀ (w5 : World) (row : Option Nat), (w4.alloc (.cells #[.bool f, .string u] 127)).grownBy w5 row → (∀ k, row = some k → w3.heap.size ≤ k) → TxAt w5 sb { T with ps := putA pre () T.ps } ∧ StoreAt w5 sb vm V ∧ Chg (fun b => b = T.pb) w w5 ∧ w5.ownsRow w2.heap.size 9 1 (.slice (some ⟨g, 0, none⟩) L.length cap) L.length (L.map encStr) ∧ w3.heap.size ≤ w5.heap.size) := fun w5 row hg5 hr5 => by
          obtain ⟨hT4, hs4, hcg4, hrowk, _⟩ := HB.out
          obtain ⟨hT3, hs3, _, hz2', hz1'⟩ := HA.out
          have hx : Chg (fun k => w3.heap.size ≤ k) wr w5 := ((hch4.any _).alloc _).grown hg5 (fun k e => Or.inl (hr5 k e))
          have q1 := lt_of_block hT3.tx
          have q2 := hT3.wm.lt
          have q3 := hT3.km.lt
          have q4 := hT3.pm.lt
          have q5 := lt_of_block hs3.st
          have q6 := hs3.vs.lt
          have q7 := hs3.lts
          simp only at q1 q2 q3 q4
          refine ⟨hT4.chg hx (by simp; omega) (by simp; omega) (by simp; omega) (by simp; omega), hs4.chg hx (by simp; omega) (by simp; omega) (fun b hb h => by have := q7 b hb; omega), hcg4.andThen hx (fun i hi h => ?_), ownsRow_chg hrowk hx (fun k hk h => ?_), ?_⟩
          · omega
          · have : g = k := by simpa [Value.ownBlock] using hk
            have := HR.out.2
            omega
          · have := hx.size; omega
        clear hch4
        cases f
        · go_wp2_with fail
          go_roundw
          case rel =>
            obtain ⟨hT5, hs5, hcg5, hrowk5, hsz6⟩ := HW.out (w4.alloc (.cells #[.bool false, .string u] 127)) none ⟨rfl, rfl, rfl, Nat.le_refl _, fun _ _ _ => rfl⟩ (fun k e => by cases e)
            have hit := HB.out.2.2.2.2
            rw [HO.out] at hit
            simp at hit
            refine ⟨j + 1, by omega, by go_num, ?_, hrowk5, hT5, hs5, hcg5, hsz6⟩
            rw [hit]
            exact hrow4.alloc _
          case measure => simp [intOf]; omega
        · go_wp2_with (first | (at_builtin; refine wpList_append_own _ rfl _ _ 32 rfl w3.heap.size 66 i0 (.agg #[.string ⟨#[]⟩, .string ⟨#[]⟩]) 2 32 Tryz.underlying32 hi hz0 hz1 hz2 rfl (by decide) _ _ _ rfl ((hrow4.alloc _).alloc _) ⟨w4.heap.size + 1, 0, none⟩ 1 1 [.string kk, .string u] rfl rfl (by simpa using cell_two_new (w4.alloc (.cells #[.bool true, .string u] 127)) (.string kk) (.string u) 66) (by simp [Value.oneCell']) (by unfold maxLen; omega) (by omega) (by simp; omega) ?_; intro v' w5 hown' hg5 _; go_frame) | (at_len; fail))
          go_roundw
          case rel =>
            obtain ⟨hT5, hs5, hcg5, hrowk5, hsz6⟩ := HW.out w5 u5.ownBlock (World.grownBy.andThen (row := u5.ownBlock) (World.grownBy_alloc _ _ _) hg5 (fun k e => Or.inr e)) (fun k e => (hrow4.lt k e).1)
            have hit := HB.out.2.2.2.2
            rw [HO.out] at hit
            simp at hit
            refine ⟨j + 1, by omega, by go_num, ?_, hrowk5, hT5, hs5, hcg5, hsz6⟩
            rw [hit, itemCells_snoc]
            simpa using hown'
          case measure => simp [intOf]; omega
      · go_wp2
        go_ret
        have hjl : j = L.length := by omega
        subst hjl
        obtain ⟨hT3, hs3, hcg3, hz2, hz1⟩ := HA.out
        rw [List.take_length] at hrow
        refine ⟨_, rfl, ?_, hT4, hcg4⟩
        rw [HL.out]
        exact ownsRow_base hrow (by omega)
end Go.Proofs.YtkfjafndplmdkaaGreat
