import Derived.Test.YtcpjocgpahjcjaaRD
namespace Go.Proofs.Ytcpjocgpahjcjaa
open Go.RowKit Go.Sort
/-- 'append(s, x...)' where both are rows, nil or not. -/
theorem wpList_append_rows {P : Program} {w : World} {ops : Array Oper} {rest : List Oper} {o : Oper} {a : Act} {Q : Exit → Act → World → Prop} (hgd : o.guard = none) (s x : Operand) (t : TypeId)
    (ho : o.op = .call { callee := .builtin .append, args := #[s, x], argTypes := #[t, t] })
    (base : Nat) (e : TypeId) (i : TypeInfo) (z : Value) (size bytes : Nat) (ht : P.underlying t = some (.slice e)) (hi : P.info? e = some i) (hz : i.zero = some z)
    (hsize : i.size = size) (hby : i.bytes = bytes) (hzs : z.cells.size = size) (hsz : 0 < size)
    (v : Value) (n : Nat) (xs : List Value) (hs : a.eval s = v) (hown : w.ownsRow base e size v n xs)
    (b2 : Nat) (y : Value) (m : Nat) (news : List Value) (hx : a.eval x = y) (hsrc : w.ownsRow b2 e size y m news) (h1 : ∀ u ∈ news, u.oneCell' = true)
    (h63 : n + m ≤ maxLen) (hbytes : (n + m) * bytes ≤ 140737488355328) (hbase : base ≤ w.heap.size)
    (h : ∀ v' w', w'.ownsRow base e size v' (n + m) (xs ++ news) → w.grownBy w' v.ownBlock → wpList P ops Q rest (a.put o.dst v') w') : wpList P ops Q (o :: rest) a w := by
  rcases hsrc.2 with ⟨rfl, rfl⟩ | ⟨g, cap, cur, rfl, _⟩
  · refine wpList_append_own_none hgd s x t ho base e i size ht hi v n xs hs hown hx (h v w ?_ (World.grownBy.refl _ _))
    have : news = [] := List.eq_nil_of_length_eq_zero (by have := hsrc.1; omega)
    subst this
    simpa using hown
  · exact wpList_append_own w hgd s x t ho base e i z size bytes ht hi hz hsize hby hzs hsz v n xs hs hown ⟨g, 0, none⟩ m cap news hx hsrc.1 (fun j u hu => by rw [addr_add, Nat.zero_add]; exact row_cells hsrc j u hu) h1 h63 hbytes hbase (fun v' w' q1 q2 _ => h v' w' q1 q2)
theorem verCells_ones (l : List Ver) : ∀ u ∈ verCells l, u.oneCell' = true := by
  intro u hu
  obtain ⟨x, _, hx⟩ := List.mem_flatMap.1 hu
  exact ver_one x u hx
/-- the items of keys. -/
def itemR (ws L : List Ver) (t : Int) (k : ByteArray) : Option (ByteArray × ByteArray) := if (seesM ws L t k).2 then some (k, (seesM ws L t k).1) else none
def itemsR (ws L : List Ver) (t : Int) (K : List ByteArray) : List (ByteArray × ByteArray) := K.filterMap (itemR ws L t)
theorem itemsR_take (ws L : List Ver) (t : Int) (ks : List ByteArray) (j : Nat) (h : j < ks.length) : itemsR ws L t (ks.take (j + 1)) = itemsR ws L t (ks.take j) ++ (itemR ws L t ks[j]).toList := by
  unfold itemsR
  rw [List.take_succ_eq_append_getElem h, List.filterMap_append]
  cases h1 : itemR ws L t ks[j] <;> simp [h1]
theorem itemsR_len (ws L : List Ver) (t : Int) (ks : List ByteArray) : (itemsR ws L t ks).length ≤ ks.length := List.length_filterMap_le _ _
/-- the keys of versions with a prefix, in order. -/
def KeysOf (all : List Ver) (pre : ByteArray) (K : List ByteArray) : Prop := Asc K ∧ ∀ x, x ∈ K ↔ ∃ v ∈ all, v.key = x ∧ pk pre x = true
theorem keysOf_hit {all : List Ver} {pre : ByteArray} {j : Nat} (h : j < all.length) {K K' : List ByteArray} (hK : KeysOf (all.take j) pre K) (ha : Asc K') (hm : ∀ x, x ∈ K' ↔ x = all[j].key ∨ x ∈ K) (hp : pk pre all[j].key = true) : KeysOf (all.take (j + 1)) pre K' := by
  refine ⟨ha, fun x => ?_⟩
  rw [hm, hK.2, List.take_succ_eq_append_getElem h]
  simp only [List.mem_append, List.mem_singleton]
  constructor
  · rintro (rfl | ⟨v, hv, e⟩)
    · exact ⟨_, Or.inr rfl, rfl, hp⟩
    · exact ⟨v, Or.inl hv, e⟩
  · rintro ⟨v, hv | rfl, e⟩
    · exact Or.inr ⟨v, hv, e⟩
    · exact Or.inl e.1.symm
theorem keysOf_skip {all : List Ver} {pre : ByteArray} {j : Nat} (h : j < all.length) {K : List ByteArray} (hK : KeysOf (all.take j) pre K) (hp : pk pre all[j].key = false) : KeysOf (all.take (j + 1)) pre K := by
  refine ⟨hK.1, fun x => ?_⟩
  rw [hK.2, List.take_succ_eq_append_getElem h]
  simp only [List.mem_append, List.mem_singleton]
  constructor
  · rintro ⟨v, hv, e⟩
    exact ⟨v, Or.inl hv, e⟩
  · rintro ⟨v, hv | rfl, e⟩
    · exact ⟨v, hv, e⟩
    · rw [e.1] at hp
      rw [hp] at e
      cases e.2
set_option maxRecDepth 100000 in
set_option maxHeartbeats 1000000 in
theorem rscan_any (wb c base base' cw : Nat) (ad adw : Option Addr) (L ws : List Ver) (pre : ByteArray) (t : Int) (kv pv : Value) (w : World) (hl : L.length ≤ 2000000) (hlw : ws.length ≤ 2000000) (h1 : w.cell? ⟨wb, 1, none⟩ = some (.slice ad L.length c)) (hr : w.ownsRow base 72 4 (.slice ad L.length c) L.length (verCells L)) (hw : w.ownsRow base' 72 4 (.slice adw ws.length cw) ws.length (verCells ws)) :
    Calls Try.prog 39 #[.pointer (some ⟨wb, 0, none⟩), .agg #[.int .i64 t, .slice adw ws.length cw, kv, pv], .string pre] w fun e w' => ∃ v, e = .returned v ∧ ∃ K, KeysOf (L ++ ws) pre K ∧ w'.ownsRow w.heap.size 48 2 v (itemsR ws L t K).length (itemCells (itemsR ws L t K)) ∧ Chg nobody w w' := by
  obtain ⟨i0, hi, hz0, hz1, hz2⟩ := info_parts info72
  have hwb : wb < w.heap.size := lt_of_cell h1
  have h1' : (w.alloc (.cells #[.int .i64 t, .slice adw ws.length cw, kv, pv] 66)).cell? ⟨wb, 1, none⟩ = some (.slice ad L.length c) := by rw [World.cell?_alloc_past _ _ _ hwb]; exact h1
  have HC : Hid ((w.alloc (.cells #[.int .i64 t, .slice adw ws.length cw, kv, pv] 66)).ownsRow base 72 4 (.slice ad L.length c) L.length (verCells L) ∧ (w.alloc (.cells #[.int .i64 t, .slice adw ws.length cw, kv, pv] 66)).ownsRow base' 72 4 (.slice adw ws.length cw) ws.length (verCells ws) ∧ Chg nobody w (w.alloc (.cells #[.int .i64 t, .slice adw ws.length cw, kv, pv] 66)) ∧ (w.alloc (.cells #[.int .i64 t, .slice adw ws.length cw, kv, pv] 66)).heap[w.heap.size]? = some (.cells #[.int .i64 t, .slice adw ws.length cw, kv, pv] 66)) := ⟨hr.alloc _, hw.alloc _, (Chg.refl _ _).alloc _, heap_new rfl⟩
  clear hr hw h1
  have e1 : (w.alloc (.cells #[.int .i64 t, .slice adw ws.length cw, kv, pv] 66)).cell? ⟨w.heap.size, 1, none⟩ = some (.slice adw ws.length cw) := cell_of HC.out.2.2.2 (i := 1) rfl
  generalize hs : w.heap.size = s at *
  have HS : Hid (w.heap.size = s) := hs
  go_enter Try.func39, Try.ntmps39
  have hws : (w.alloc (.cells #[.int .i64 t, .slice adw ws.length cw, kv, pv] 66)).heap.size = s + 1 := by rw [← HS.out]; simp
  go_wp2_with (first | (at_builtin; refine wpList_append_rows rfl _ _ 50 rfl (s + 1) 72 i0 Ver.zero.v 4 48 Try.underlying50 hi hz0 hz1 hz2 rfl (by decide) a1 _ _ rfl hown1 base' (.slice adw ws.length cw) ws.length (verCells ws) rfl (ownsRow_chg HC.out.2.1 hc1 (fun _ _ h => h)) (verCells_ones ws) (by unfold maxLen; omega) (by omega) (by omega) ?_; intro a2 w2 hown2 hg2; have hc2 : Chg nobody (w.alloc (.cells #[.int .i64 t, .slice adw ws.length cw, kv, pv] 66)) w2 := hc1.grown hg2 (fun k e => Or.inr (by have := (hown1.lt k e).1; omega))) | (at_builtin; refine wpList_append_rows rfl _ _ 50 rfl (s + 1) 72 i0 Ver.zero.v 4 48 Try.underlying50 hi hz0 hz1 hz2 rfl (by decide) (.slice none 0 0) 0 [] rfl (World.ownsRow_nil _ _ _ _) base (.slice ad L.length c) L.length (verCells L) rfl HC.out.1 (verCells_ones L) (by unfold maxLen; omega) (by omega) (by omega) ?_; intro a1 w1 hown1 hg1; have hc1 : Chg nobody (w.alloc (.cells #[.int .i64 t, .slice adw ws.length cw, kv, pv] 66)) w1 := (Chg.refl _ _).grown hg1 (fun k e => by cases e); have hz3 := hc1.size; have e1' : w1.cell? ⟨s, 1, none⟩ = some (.slice adw ws.length cw) := by rw [hc1.below.cell (lt_of_cell e1)]; exact e1))
  generalize hall : L ++ ws = all at *
  have hown : w2.ownsRow (s + 1) 72 4 a2 all.length (verCells all) := by rw [← hall, List.length_append, verCells_append]; simpa using hown2
  have hal : all.length ≤ 4000000 := by rw [← hall, List.length_append]; omega
  have HALL : Hid (L ++ ws = all) := hall
  clear hown2 hown1 hall
  obtain ⟨ada, ca, rfl⟩ := row_form hown
  have HA : Hid (w2.ownsRow (s + 1) 72 4 (.slice ada all.length ca) all.length (verCells all) ∧ Chg nobody (w.alloc (.cells #[.int .i64 t, .slice adw ws.length cw, kv, pv] 66)) w2) := ⟨hown, hc2⟩
  clear hown hc2 hg2 hg1 hc1 e1'
  go_loopw [7, 9] (fun kv i wr => ∃ j : Nat, j ≤ all.length ∧ i = .int .i64 j ∧ ∃ K, wr.ownsRow w2.heap.size 9 1 kv K.length (strCells K) ∧ KeysOf (all.take j) pre K ∧ K.length ≤ j ∧ Chg nobody w2 wr) (fun _ i _ => all.length - (intOf i).toNat)
  case atStart => exact ⟨0, Nat.zero_le _, rfl, [], World.ownsRow_nil _ _ _ _, ⟨List.Pairwise.nil, by simp⟩, Nat.le_refl _, Chg.refl _ _⟩
  case round =>
    obtain ⟨j, hj, rfl, K, hrow, hK, hKl, hc⟩ := hrel
    by_cases hlt : j < all.length
    · have HR : Hid (wr.ownsRow (s + 1) 72 4 (.slice ada all.length ca) all.length (verCells all)) := ownsRow_chg HA.out.1 hc (fun _ _ h => h)
      obtain ⟨g, rfl, _, _, _, _⟩ := row_open HR.out (by omega)
      obtain ⟨c0, _, _, _⟩ := ver_at HR.out j hlt
      have HB := begins_any all[j].key pre wr
      have HP := put_any w2.heap.size u7 K all[j].key wr (by omega) hK.1 hrow hc.size
      have HK := @keysOf_hit all pre j hlt K
      have HK' := @keysOf_skip all pre j hlt K
      have HJ : Hid (wr.ownsRow w2.heap.size 9 1 u7 K.length (strCells K) ∧ KeysOf (all.take j) pre K ∧ Chg nobody w2 wr) := ⟨hrow, hK, hc⟩
      clear hrow hK hc HR
      generalize all[j].key = key at *
      cases hp : pk pre key
      · rw [hp] at HB
        have HX : Hid (KeysOf (all.take (j + 1)) pre K) := HK' HJ.out.2.1 hp
        clear HK HK' hp HP
        go_wp2_with fail
        refine HB.mono ?_
        rintro e w' ⟨rfl, hw'⟩
        replace hw' := hw'.symm
        subst hw'
        go_wp2
        go_roundw
        case rel => exact ⟨j + 1, by omega, by go_num, K, HJ.out.1, HX.out, by omega, HJ.out.2.2⟩
        case measure => simp [intOf]; omega
      · rw [hp] at HB
        have HX : Hid (∀ K', Asc K' → (∀ x, x ∈ K' ↔ x = key ∨ x ∈ K) → KeysOf (all.take (j + 1)) pre K') := fun K' h1 h2 => HK HJ.out.2.1 h1 h2 hp
        clear HK HK' hp
        go_wp2_with fail
        refine HB.mono ?_
        rintro e w' ⟨rfl, hw'⟩
        replace hw' := hw'.symm
        subst hw'
        go_wp2_with fail
        refine HP.mono ?_
        rintro e w4 ⟨kv', rfl, K', hrow', hasc, hmem, hlen, _, hch⟩
        have HZ : Hid (KeysOf (all.take (j + 1)) pre K' ∧ Chg nobody w2 w4) := ⟨HX.out K' hasc hmem, HJ.out.2.2.trans hch⟩
        clear hasc hmem hch HX
        go_wp2
        go_roundw
        case rel => exact ⟨j + 1, by omega, by go_num, K', hrow', HZ.out.1, by omega, HZ.out.2⟩
        case measure => simp [intOf]; omega
    · have hjl : j = all.length := by omega
      subst hjl
      rw [List.take_length] at hK
      obtain ⟨jo, hjo, ho0, ho1, ho2⟩ := info_parts info48
      obtain ⟨adk, ck, rfl⟩ := row_form hrow
      have HJ : Hid (wr.ownsRow w2.heap.size 9 1 (.slice adk K.length ck) K.length (strCells K) ∧ KeysOf all pre K ∧ Chg nobody (w.alloc (.cells #[.int .i64 t, .slice adw ws.length cw, kv, pv] 66)) wr) := ⟨hrow, hK, HA.out.2.trans hc⟩
      clear hrow hK hc HA
      go_wp2_with fail
      obtain ⟨W3, hW3⟩ : ∃ x, x = wr := ⟨_, rfl⟩
      subst hW3
      go_loopw [11, 12] (fun v i wr' => ∃ j : Nat, j ≤ K.length ∧ i = .int .i64 j ∧ wr'.ownsRow W3.heap.size 48 2 v (itemsR ws L t (K.take j)).length (itemCells (itemsR ws L t (K.take j))) ∧ Chg nobody W3 wr') (fun _ i _ => K.length - (intOf i).toNat)
      case atStart => exact ⟨0, Nat.zero_le _, rfl, World.ownsRow_nil _ _ _ _, Chg.refl _ _⟩
      case round =>
        obtain ⟨j, hj, rfl, hrow, hc⟩ := hrel
        by_cases hlt : j < K.length
        · have HR : Hid (wr.ownsRow w2.heap.size 9 1 (.slice adk K.length ck) K.length (strCells K)) := ownsRow_chg HJ.out.1 hc (fun _ _ h => h)
          obtain ⟨g, rfl, _, _, _, _⟩ := row_open HR.out (by omega)
          have k0 := str_at HR.out j hlt
          have hcw := HJ.out.2.2.trans hc
          have HL : Hid (wr.ownsRow base 72 4 (.slice ad L.length c) L.length (verCells L) ∧ wr.ownsRow base' 72 4 (.slice adw ws.length cw) ws.length (verCells ws)) := ⟨ownsRow_chg HC.out.1 hcw (fun _ _ h => h), ownsRow_chg HC.out.2.1 hcw (fun _ _ h => h)⟩
          have hbs : wr.heap[s]? = some (.cells #[.int .i64 t, .slice adw ws.length cw, kv, pv] 66) := (hcw.block s (lt_of_block HC.out.2.2.2) (fun h => h)).trans HC.out.2.2.2
          have x0 := cell_of hbs (i := 0) rfl
          have x1 := cell_of hbs (i := 1) rfl
          have x2 := cell_of hbs (i := 2) rfl
          have x3 := cell_of hbs (i := 3) rfl
          have h1'' : wr.cell? ⟨wb, 1, none⟩ = some (.slice ad L.length c) := by rw [hcw.below.cell (lt_of_cell h1')]; exact h1'
          have HT : Hid (itemsR ws L t (K.take (j + 1)) = itemsR ws L t (K.take j) ++ (itemR ws L t K[j]).toList) := itemsR_take ws L t K j hlt
          have hil : (itemsR ws L t (K.take j)).length ≤ j := Nat.le_trans (itemsR_len ws L t _) (List.length_take_le _ _)
          have HH : Hid (Chg nobody W3 wr) := hc
          have hsz : W3.heap.size ≤ wr.heap.size := hc.size
          clear hcw hbs hc HR
          have HI : Hid (itemR ws L t K[j] = if (seesM ws L t K[j]).2 then some (K[j], (seesM ws L t K[j]).1) else none) := rfl
          generalize K[j] = key at *
          obtain ⟨u, f, huf⟩ : ∃ u f, seesM ws L t key = (u, f) := ⟨_, _, rfl⟩
          have HSE : ∀ w9 : World, w9.cell? ⟨wb, 1, none⟩ = some (.slice ad L.length c) → w9.ownsRow base 72 4 (.slice ad L.length c) L.length (verCells L) → w9.ownsRow base' 72 4 (.slice adw ws.length cw) ws.length (verCells ws) → Calls Try.prog 38 #[.pointer (some ⟨wb, 0, none⟩), .agg #[.int .i64 t, .slice adw ws.length cw, kv, pv], .string key] w9 fun e w' => e = .returned (.tuple #[.string u, .bool f]) ∧ Chg nobody w9 w' := fun w9 q1 q2 q3 => by
            have := rsees_any wb c base base' cw ad adw L ws key t kv pv w9 hl hlw q1 q2 q3
            rw [huf] at this
            exact this
          rw [huf] at HI
          have HSH : Hid (∀ w9 : World, w9.cell? ⟨wb, 1, none⟩ = some (.slice ad L.length c) → w9.ownsRow base 72 4 (.slice ad L.length c) L.length (verCells L) → w9.ownsRow base' 72 4 (.slice adw ws.length cw) ws.length (verCells ws) → Calls Try.prog 38 #[.pointer (some ⟨wb, 0, none⟩), .agg #[.int .i64 t, .slice adw ws.length cw, kv, pv], .string key] w9 fun e w' => e = .returned (.tuple #[.string u, .bool f]) ∧ Chg nobody w9 w') := HSE
          clear HSE huf
          go_wp2
          go_region_with (go_at_call 38; refine (HSH.out _ (by exact h1'') (by exact HL.out.1) (by exact HL.out.2)).mono ?_; rintro e w4 ⟨rfl, hch⟩)
          all_goals
            have hch' : Chg nobody wr w4 := ⟨hch.os, hch.tape, hch.output, hch.size, hch.block⟩
            have hrow4 := ownsRow_chg hrow hch' (fun _ _ h => h)
            have k4 : w4.cell? ⟨g, j, none⟩ = some (.string key) := by rw [hch'.below.cell (lt_of_cell k0)]; exact k0
            have hsz4 : wr.heap.size ≤ w4.heap.size := hch'.size
            have HH4 : Hid (Chg nobody W3 w4) := HH.out.trans hch'
            clear hch hch' k0 x0 x1 x2 x3 h1'' HH
            cases f
            · go_wp2
              go_roundw
              case rel =>
                refine ⟨j + 1, by omega, by go_num, ?_, HH4.out⟩
                rw [HT.out, HI.out]
                simpa using hrow4
              case measure => simp [intOf]; omega
            · go_wp2_with (at_builtin; refine wpList_append_own _ rfl _ _ 32 rfl W3.heap.size 48 jo (.agg #[.string ⟨#[]⟩, .string ⟨#[]⟩]) 2 32 Try.underlying32 hjo ho0 ho1 ho2 rfl (by decide) _ _ _ rfl (hrow4.alloc _) ⟨w4.heap.size, 0, none⟩ 1 1 [.string key, .string u] rfl rfl (cells_new w4 #[.string key, .string u] 48) (by simp [Value.oneCell']) (by unfold maxLen; omega) (by omega) (by simp; omega) ?_; intro v' w5 hown5 hg5 _; go_frame)
              go_roundw
              case rel =>
                refine ⟨j + 1, by omega, by go_num, ?_, (HH4.out.alloc _).grown hg5 (fun k e => Or.inr (hrow4.lt k e).1)⟩
                rw [HT.out, HI.out, if_pos rfl, Option.toList_some, itemCells_snoc]
                simpa using hown5
              case measure => simp [intOf]; omega
        · go_wp2
          go_ret
          have hjl : j = K.length := by omega
          subst hjl
          rw [List.take_length] at hrow
          refine ⟨_, rfl, K, by rw [HALL.out]; exact HJ.out.2.1, ownsRow_base hrow ?_, (HC.out.2.2.1.trans HJ.out.2.2).trans hc⟩
          have := HJ.out.2.2.size
          omega
end Go.Proofs.Ytcpjocgpahjcjaa
