import Derived.Test.YtkfjafndplmdkaaGreatN3
import Derived.Test.YtkfjafndplmdkaaGreatIter2
import Derived.Test.YtkfjafndplmdkaaGreatQ
namespace Go.Proofs.YtkfjafndplmdkaaGreat
/-- an int's number (our own: the library has two of that name). -/
def intOf : Value → Int | .int _ q => q | _ => 0
open Go.RowKit Go.Sort Go.WideElems
/-! ### the keys of a map of ints, collected -/
abbrev rdV : Value → Option (DataW Unit × List MemPlace) := fun _ => some (.nil, [])
theorem ents_int {P : Program} {k : TypeId} (hu : P.underlying k = some (.int .i64)) {β : Type} {vl : β → Value} {w : World} {rb : Nat} {rows : List (Int × β)} (hm : mapAt w P k mkI vl rb rows) (hl : rows.length ≤ 1000000) :
    ∃ D0 : DataW Unit, w.ownsMap P k rdV rb rows.length D0 ∧ (intKeys D0).Perm (rows.map Prod.fst) ∧ Maps.size D0 = rows.length := by
  obtain ⟨es, clock, hb, hE⟩ := hm
  have hlen : es.size = rows.length := by have := congrArg List.length hE.same; simpa using this
  have hrg : es.toList.map (rg P k rdV) = rows.map (fun p => ((.int .i64 p.1, .nil) : Lit × DataW Unit)) := by
    have e1 : es.toList.map (rg P k rdV) = (es.toList.map kv).map (fun q => rg P k rdV ⟨q.1, q.2, 0⟩) := by
      rw [List.map_map]
      exact List.map_congr_left (fun x _ => rfl)
    rw [e1, hE.same, List.map_map]
    refine List.map_congr_left fun p hp => ?_
    obtain ⟨kl, hk⟩ := hE.keys p hp
    have hk2 : keyOf P k (mkI p.1) = some (.int .i64 p.1) := by
      obtain ⟨x, hx1, hx2, _⟩ := Maps.keyOf_i64 hu hk
      rw [hk, hx2]
      have : p.1 = x := by simpa [mkI, encZ] using hx1
      rw [this]
    exact rg_of (rd_mk (R := rdV) (val := vl p.2) (yv := (.nil, [])) (born := 0) hk2 rfl)
  refine ⟨.map ((es.toList.map (rg P k rdV)).foldr DataW.insert []), ⟨es, clock, hb, ⟨by unfold maxLen; omega, hE.stamps, fun x hx => ?_⟩, by omega, rfl⟩, ?_, ?_⟩
  · have h1 : kv x ∈ rows.map (fun p => (mkI p.1, vl p.2)) := hE.same ▸ List.mem_map.2 ⟨x, hx, rfl⟩
    obtain ⟨p, hp, hpe⟩ := List.mem_map.1 h1
    obtain ⟨kl, hk⟩ := hE.keys p hp
    have hkx : keyOf P k x.key = some kl := by rw [← hk]; exact congrArg (keyOf P k) (congrArg Prod.fst hpe).symm
    exact ⟨_, rd_mk (R := rdV) (yv := (.nil, [])) (born := x.born) hkx rfl⟩
  · show List.Perm (((es.toList.map (rg P k rdV)).foldr DataW.insert []).map fun p => Go.intOf p.1) _
    refine ((WideShapes.sorted_perm _).map _).trans ?_
    rw [hrg, List.map_map]
    exact List.Perm.refl _
  · show ((es.toList.map (rg P k rdV)).foldr DataW.insert []).length = _
    rw [length_sorted, List.length_map, Array.length_toList, hlen]
theorem mapsKeysI_any (mb : Option Nat) (W : World) : Calls Tryz.prog 89 #[.map mb] W fun e w' => e = .returned (.func (.func 109) #[] #[.pointer (some ⟨W.heap.size, 0, none⟩)]) ∧ w' = W.alloc (.cells #[.map mb] 91) :=
  callsIn_wide.1 (AnyZI.keys_in Tryz.keysI Fence.wide 5 trivial rfl mb W)
theorem collectI_any {rb n : Nat} {rows : List (Int × Nat)} (w : World) (hn : n < w.heap.size) (hc : w.cell? ⟨n, 0, none⟩ = some (.map (some rb))) (hm : mapAt w Tryz.prog 3 mkI mkP rb rows) (hl : rows.length ≤ 1000000) :
    Calls Tryz.prog 88 #[.func (.func 109) #[] #[.pointer (some ⟨n, 0, none⟩)]] w fun e w' => ∃ v, e = .returned v ∧ ∃ ss : List Int, ss.Perm (rows.map Prod.fst) ∧ w'.ownsRow w.heap.size 3 1 v ss.length (ss.map (fun n => Value.int .i64 n)) ∧ Chg nobody w w' := by
  obtain ⟨D0, hown, hperm, hsz⟩ := ents_int Tryz.underlying3 hm hl
  have hseq : SeqGives Fence.wide 3 Tryz.prog 109 #[.pointer (some ⟨n, 0, none⟩)] encZ (fun ss => ss.Perm (intKeys D0)) (Maps.size D0) w :=
    AnyZI.keys_gives (ρ := Tryz.keysI_ren) { Tryz.keysI with } Fence.wide _ trivial rfl (by omega) n rb rows.length D0 _ hn hc hown
  have cS := AnyZI.collect_in Tryz.collI Fence.wide 5 trivial trivial rfl (by omega) 109 #[.pointer (some ⟨n, 0, none⟩)] trivial (enters_of Tryz.func109 (by kernel_rfl) rfl) _ _ (by rw [hsz]; unfold maxLen; omega) (by rw [hsz]; omega) _ hseq
  refine (callsIn_wide.1 cS).mono ?_
  rintro e w' ⟨v, ss, rfl, hS, hrow, _, hb⟩
  exact ⟨v, rfl, ss, hS.trans hperm, hrow, Chg.of_below hb _⟩
/-! ### what is counted -/
set_option maxHeartbeats 400000 in
theorem qCount_any (qb ch qs qr : Nat) (vs : List Value) (w : World) (hq : w.cell? ⟨qb, 0, none⟩ = some (.chan (some ch))) (hc : w.heap[ch]? = some (.chan 3 vs.toArray false qs qr false)) :
    Calls Tryz.prog 92 #[.pointer (some ⟨qb, 0, none⟩)] w fun e w' => e = .returned (.int .i64 vs.length) ∧ w' = w := by
  have hl : ∀ ty, (Builtin.len_ #[119] ty #[.chan (some ch)]).run Tryz.prog w = .ok (.int .i64 vs.length) w := fun ty => by
    have hgo : (getObj ch).run Tryz.prog w = .ok (.chan 3 vs.toArray false qs qr false) w := by simp [getObj, Sem.run, hc]
    simp [Builtin.len_, run_underlying Tryz.underlying119, hgo, Result.andThen, goInt]
  go_enter Tryz.func92, Tryz.ntmps92
  go_wp2
  go_ret
  exact ⟨rfl, rfl⟩
set_option maxHeartbeats 400000 in
theorem orRows_any (ob cb sb rb : Nat) (rows : List (ByteArray × Int)) (low : Int) (w : World) (ho : OrAt w ob cb sb rb rows low) :
    Calls Tryz.prog 93 #[.pointer (some ⟨ob, 0, none⟩)] w fun e w' => e = .returned (.int .i64 rows.length) ∧ w' = w := by
  have c2 := cell_of ho.o (i := 2) (v := .map (some rb)) rfl
  have hl := fun ty => ho.r.len Tryz.underlying115 ty
  clear ho
  go_enter Tryz.func93, Tryz.ntmps93
  go_wp2
  go_ret
  exact ⟨rfl, rfl⟩
set_option maxHeartbeats 400000 in
theorem orLow_any (ob cb sb rb : Nat) (rows : List (ByteArray × Int)) (low : Int) (w : World) (ho : OrAt w ob cb sb rb rows low) :
    Calls Tryz.prog 94 #[.pointer (some ⟨ob, 0, none⟩)] w fun e w' => e = .returned (.int .i64 low) ∧ w' = w := by
  have c2 := cell_of ho.o (i := 3) (v := .int .i64 low) rfl
  clear ho
  go_enter Tryz.func94, Tryz.ntmps94
  go_wp2
  go_ret
  exact ⟨rfl, rfl⟩
/-! ### renew -/
theorem heap_set5 {w : World} {b i : Nat} {c : Array Value} {t : TypeId} (hb : w.heap[b]? = some (.cells c t)) (v : Value) : (w.setCell ⟨b, i, none⟩ v).heap[b]? = some (.cells (c.setIfInBounds i v) t) := by
  simp [World.setCell, Array.getElem?_modify, hb]
abbrev ren1 (w : World) (p cb sb : Nat) (c : Int) : World := ((w.alloc (.map #[] 0)).alloc (.cells #[.pointer (some ⟨cb, 0, none⟩), .pointer (some ⟨sb, 0, none⟩), .map (some w.heap.size), .int .i64 c] 118)).setCell ⟨p, 2, none⟩ (.pointer (some ⟨w.heap.size + 1, 0, none⟩))
abbrev ren2 (w : World) (p cb sb : Nat) (c : Int) : World := (((ren1 w p cb sb c).alloc (.chan 3 #[] false 0 0 false)).alloc (.cells #[.chan (some (w.heap.size + 2))] 121)).setCell ⟨p, 3, none⟩ (.pointer (some ⟨w.heap.size + 3, 0, none⟩))
abbrev ren3 (w : World) (p cb sb : Nat) (c : Int) : World := ((ren2 w p cb sb c).alloc (.map #[] 0)).setCell ⟨p, 4, none⟩ (.map (some (w.heap.size + 4)))
theorem ren3_facts (w : World) (p cb sb : Nat) (c : Int) (c2 c3 c4 : Value) (hp : w.heap[p]? = some (.cells #[.pointer (some ⟨cb, 0, none⟩), .pointer (some ⟨sb, 0, none⟩), c2, c3, c4] 93)) :
    (ren3 w p cb sb c).heap[p]? = some (.cells #[.pointer (some ⟨cb, 0, none⟩), .pointer (some ⟨sb, 0, none⟩), .pointer (some ⟨w.heap.size + 1, 0, none⟩), .pointer (some ⟨w.heap.size + 3, 0, none⟩), .map (some (w.heap.size + 4))] 93) ∧
    (ren3 w p cb sb c).heap[w.heap.size]? = some (.map #[] 0) ∧ (ren3 w p cb sb c).heap[w.heap.size + 1]? = some (.cells #[.pointer (some ⟨cb, 0, none⟩), .pointer (some ⟨sb, 0, none⟩), .map (some w.heap.size), .int .i64 c] 118) ∧
    (ren3 w p cb sb c).heap[w.heap.size + 2]? = some (.chan 3 #[] false 0 0 false) ∧ (ren3 w p cb sb c).heap[w.heap.size + 3]? = some (.cells #[.chan (some (w.heap.size + 2))] 121) ∧ (ren3 w p cb sb c).heap[w.heap.size + 4]? = some (.map #[] 0) ∧
    (ren3 w p cb sb c).heap.size = w.heap.size + 5 ∧ Chg (fun b => b = p) w (ren3 w p cb sb c) := by
  have hlt := lt_of_block hp
  have s1 : (ren1 w p cb sb c).heap.size = w.heap.size + 2 := by simp [World.setCell]
  have s2 : (ren2 w p cb sb c).heap.size = w.heap.size + 4 := by simp [World.setCell]
  have s3 : (ren3 w p cb sb c).heap.size = w.heap.size + 5 := by simp [World.setCell]
  have c1 : Chg (fun b => b = p) w (ren1 w p cb sb c) := (((Chg.refl (fun b => b = p) w).alloc _).alloc _).setCell (p := ⟨p, 2, none⟩) (Or.inl rfl) _
  have c12 : Chg (fun b => b = p) (ren1 w p cb sb c) (ren2 w p cb sb c) := (((Chg.refl (fun b => b = p) _).alloc _).alloc _).setCell (p := ⟨p, 3, none⟩) (Or.inl rfl) _
  have c23 : Chg (fun b => b = p) (ren2 w p cb sb c) (ren3 w p cb sb c) := ((Chg.refl (fun b => b = p) _).alloc _).setCell (p := ⟨p, 4, none⟩) (Or.inl rfl) _
  have h1 : (ren1 w p cb sb c).heap[p]? = some (.cells #[.pointer (some ⟨cb, 0, none⟩), .pointer (some ⟨sb, 0, none⟩), .pointer (some ⟨w.heap.size + 1, 0, none⟩), c3, c4] 93) :=
    heap_set5 (((Below.heap_alloc (w.alloc (.map #[] 0)) _ p (by simp; omega)).trans (Below.heap_alloc _ _ _ hlt)).trans hp) _
  have h2 : (ren2 w p cb sb c).heap[p]? = some (.cells #[.pointer (some ⟨cb, 0, none⟩), .pointer (some ⟨sb, 0, none⟩), .pointer (some ⟨w.heap.size + 1, 0, none⟩), .pointer (some ⟨w.heap.size + 3, 0, none⟩), c4] 93) :=
    heap_set5 (((Below.heap_alloc ((ren1 w p cb sb c).alloc (.chan 3 #[] false 0 0 false)) _ p (by simp [World.setCell]; omega)).trans (Below.heap_alloc _ _ _ (by rw [s1]; omega))).trans h1) _
  have h3 : (ren3 w p cb sb c).heap[p]? = some (.cells #[.pointer (some ⟨cb, 0, none⟩), .pointer (some ⟨sb, 0, none⟩), .pointer (some ⟨w.heap.size + 1, 0, none⟩), .pointer (some ⟨w.heap.size + 3, 0, none⟩), .map (some (w.heap.size + 4))] 93) :=
    heap_set5 ((Below.heap_alloc (ren2 w p cb sb c) _ p (by rw [s2]; omega)).trans h2) _
  have n1 : (ren1 w p cb sb c).heap[w.heap.size]? = some (.map #[] 0) := by
    rw [Below.heap_setCell _ _ _ _ (by simp; omega), Below.heap_alloc _ _ _ (by simp)]
    exact (MapKept.heap_alloc w _).1
  have n2 : (ren1 w p cb sb c).heap[w.heap.size + 1]? = some (.cells #[.pointer (some ⟨cb, 0, none⟩), .pointer (some ⟨sb, 0, none⟩), .map (some w.heap.size), .int .i64 c] 118) := by
    rw [Below.heap_setCell _ _ _ _ (by simp; omega)]
    have := (MapKept.heap_alloc (w.alloc (.map #[] 0)) (.cells #[.pointer (some ⟨cb, 0, none⟩), .pointer (some ⟨sb, 0, none⟩), .map (some w.heap.size), .int .i64 c] 118)).1
    simpa using this
  have n3 : (ren2 w p cb sb c).heap[w.heap.size + 2]? = some (.chan 3 #[] false 0 0 false) := by
    rw [Below.heap_setCell _ _ _ _ (by simp; omega), Below.heap_alloc _ _ _ (by simp [World.setCell])]
    have := (MapKept.heap_alloc (ren1 w p cb sb c) (.chan 3 #[] false 0 0 false)).1
    rw [s1] at this
    exact this
  have n4 : (ren2 w p cb sb c).heap[w.heap.size + 3]? = some (.cells #[.chan (some (w.heap.size + 2))] 121) := by
    rw [Below.heap_setCell _ _ _ _ (by simp; omega)]
    have := (MapKept.heap_alloc ((ren1 w p cb sb c).alloc (.chan 3 #[] false 0 0 false)) (.cells #[.chan (some (w.heap.size + 2))] 121)).1
    rw [World.size_alloc, s1] at this
    exact this
  have n5 : (ren3 w p cb sb c).heap[w.heap.size + 4]? = some (.map #[] 0) := by
    rw [Below.heap_setCell _ _ _ _ (by simp; omega)]
    have := (MapKept.heap_alloc (ren2 w p cb sb c) (.map #[] 0)).1
    rw [s2] at this
    exact this
  refine ⟨h3, ?_, ?_, ?_, ?_, n5, s3, (c1.trans c12).trans c23⟩
  · exact (c23.block _ (by omega) (by show ¬ (_ = p); omega)).trans ((c12.block _ (by omega) (by show ¬ (_ = p); omega)).trans n1)
  · exact (c23.block _ (by omega) (by show ¬ (_ = p); omega)).trans ((c12.block _ (by omega) (by show ¬ (_ = p); omega)).trans n2)
  · exact (c23.block _ (by omega) (by show ¬ (_ = p); omega)).trans n3
  · exact (c23.block _ (by omega) (by show ¬ (_ = p); omega)).trans n4
set_option maxRecDepth 100000 in
set_option maxHeartbeats 1000000 in
theorem renew_any (p cb sb : Nat) (c : Int) (c2 c3 c4 : Value) (w : World) (hp : w.heap[p]? = some (.cells #[.pointer (some ⟨cb, 0, none⟩), .pointer (some ⟨sb, 0, none⟩), c2, c3, c4] 93)) (hc : w.cell? ⟨cb, 0, none⟩ = some (.int .i64 c)) :
    Calls Tryz.prog 46 #[.pointer (some ⟨p, 0, none⟩)] w fun e w' => e = .returned (.tuple #[]) ∧ w' = ren3 w.drew p cb sb c := by
  have hlt := lt_of_block hp
  have hcl : cb < w.heap.size := lt_of_cell hc
  have k0 := cell_of hp (i := 0) rfl
  have k1 := cell_of hp (i := 1) rfl
  have hmm := @run_makeMap Tryz.prog
  have hor := oracleNew_any cb sb c w.drew hc hcl
  have kf : w.frozen? ⟨p, 2, none⟩ = false := unfrozen_of hp 2
  have H : Hid (w.heap[p]? = some (.cells #[.pointer (some ⟨cb, 0, none⟩), .pointer (some ⟨sb, 0, none⟩), c2, c3, c4] 93)) := hp
  go_enter Tryz.func46, Tryz.ntmps46
  go_wp2
  go_region_with (first | (go_at_call 55; refine hor.mono ?_; rintro e w' ⟨rfl, hw'⟩; have HW : Hid (w' = (w.drew.alloc (.map #[] 0)).alloc (.cells #[.pointer (some ⟨cb, 0, none⟩), .pointer (some ⟨sb, 0, none⟩), .map (some w.drew.heap.size), .int .i64 c] 118)) := hw'; have hb' : w'.heap[p]? = some (.cells #[.pointer (some ⟨cb, 0, none⟩), .pointer (some ⟨sb, 0, none⟩), c2, c3, c4] 93) := (by rw [hw']; exact ((Below.heap_alloc (w.drew.alloc (.map #[] 0)) _ p (by simp; omega)).trans (Below.heap_alloc w.drew _ _ hlt)).trans H.out); have kf' : w'.frozen? ⟨p, 2, none⟩ = false := unfrozen_of hb' 2; have kc' := cell_of hb' (i := 2) rfl; clear hw' hb'))
  all_goals
    obtain ⟨w1, hw1⟩ : ∃ w1, w'.setCell ⟨p, 2, none⟩ (.pointer (some ⟨w.heap.size + 1, 0, none⟩)) = w1 := ⟨_, rfl⟩
    rw [hw1]
    have HW1 : Hid (w1 = ren1 w.drew p cb sb c) := by
      show _ = _
      rw [← hw1, HW.out]
      rfl
    have hsz1 : w1.heap.size = w.heap.size + 2 := by rw [HW1.out]; simp [World.setCell]
    have hb1 : w1.heap[p]? = some (.cells #[.pointer (some ⟨cb, 0, none⟩), .pointer (some ⟨sb, 0, none⟩), .pointer (some ⟨w.heap.size + 1, 0, none⟩), c3, c4] 93) := by
      rw [HW1.out]
      exact heap_set5 (((Below.heap_alloc (w.drew.alloc (.map #[] 0)) _ p (by simp; omega)).trans (Below.heap_alloc w.drew _ _ hlt)).trans H.out) _
    clear hw1 HW kf' kc' w' kf
    have HB1 : Hid (w1.heap[p]? = some (.cells #[.pointer (some ⟨cb, 0, none⟩), .pointer (some ⟨sb, 0, none⟩), .pointer (some ⟨w.heap.size + 1, 0, none⟩), c3, c4] 93)) := hb1
    clear hb1
    go_wp2_with (first | (go_at_call 56; refine (queueNew_any _).mono ?_; rintro e w2 ⟨rfl, hw2⟩; have HW2 : Hid (w2 = (w1.alloc (.chan 3 #[] false 0 0 false)).alloc (.cells #[.chan (some w1.heap.size)] 121)) := hw2; have hb2 : w2.heap[p]? = some (.cells #[.pointer (some ⟨cb, 0, none⟩), .pointer (some ⟨sb, 0, none⟩), .pointer (some ⟨w.heap.size + 1, 0, none⟩), c3, c4] 93) := (by rw [hw2]; exact ((Below.heap_alloc (w1.alloc (.chan 3 #[] false 0 0 false)) _ p (by simp; omega)).trans (Below.heap_alloc w1 _ _ (by omega))).trans HB1.out); have f3 : w2.frozen? ⟨p, 3, none⟩ = false := unfrozen_of hb2 3; have d3 := cell_of hb2 (i := 3) rfl; have f4 : ∀ v o, ((w2.setCell ⟨p, 3, none⟩ v).alloc o).frozen? ⟨p, 4, none⟩ = false := (fun v o => unfrozen_of ((Below.heap_alloc _ _ _ (by have := lt_of_block hb2; simpa [World.setCell] using this)).trans (heap_set5 hb2 v)) 4); have d4 : ∀ v o, ((w2.setCell ⟨p, 3, none⟩ v).alloc o).cell? ⟨p, 4, none⟩ = some c4 := (fun v o => cell_of ((Below.heap_alloc _ _ _ (by have := lt_of_block hb2; simpa [World.setCell] using this)).trans (heap_set5 hb2 v)) rfl); have hs2 : w2.heap.size = w1.heap.size + 2 := (by rw [hw2]; simp); clear hw2 hb2))
    go_end0
    refine ⟨rfl, ?_⟩
    rw [HW2.out, HW1.out]
    simp [World.setCell]
end Go.Proofs.YtkfjafndplmdkaaGreat
