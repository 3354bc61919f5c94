import Derived.Test.YtkfjafndplmdkaaGreatO6
namespace Go.Proofs.YtkfjafndplmdkaaGreat
open Go.RowKit Go.Sort Go.WideElems
abbrev rdU : Value → Option (DataW Unit × List MemPlace) := fun _ => some (.nil, [])
theorem ents_gen {P : Program} {k : TypeId} (hu : P.underlying k = some .string) {w : World} {rb : Nat} {rows : List (ByteArray × Int)} (hm : mapAt w P k mkS mkI rb rows) (hl : rows.length ≤ 1000000) :
    ∃ D0 : DataW Unit, w.ownsMap P k rdU rb rows.length D0 ∧ (strKeys D0).Perm (rows.map (fun p => p.1.data.toList)) ∧ Maps.size D0 = rows.length := by
  obtain ⟨es, clock, hb, hE⟩ := hm
  have hlen : es.size = rows.length := by have := congrArg List.length hE.same; simpa using this
  have hrg : es.toList.map (rg P k rdU) = rows.map (fun p => ((.string p.1.data.toList, .nil) : Lit × DataW Unit)) := by
    have e1 : es.toList.map (rg P k rdU) = (es.toList.map kv).map (fun q => rg P k rdU ⟨q.1, q.2, 0⟩) := by
      rw [List.map_map]
      exact List.map_congr_left (fun x _ => rfl)
    rw [e1, hE.same, List.map_map]
    refine List.map_congr_left fun p hp => ?_
    obtain ⟨kl, hk⟩ := hE.keys p hp
    have hk2 : keyOf P k (mkS p.1) = some (.string p.1.data.toList) := by
      obtain ⟨x, hx1, hx2, _⟩ := Maps.keyOf_str hu hk
      rw [hk, hx2]
      have : p.1 = ⟨x.toArray⟩ := by simpa [mkS, encStr] using hx1
      rw [this]
    exact rg_of (rd_mk (R := rdU) (val := mkI p.2) (yv := (.nil, [])) (born := 0) hk2 rfl)
  refine ⟨.map ((es.toList.map (rg P k rdU)).foldr DataW.insert []), ⟨es, clock, hb, ⟨by unfold maxLen; omega, hE.stamps, fun x hx => ?_⟩, by omega, rfl⟩, ?_, ?_⟩
  · have h1 : kv x ∈ rows.map (fun p => (mkS p.1, mkI p.2)) := hE.same ▸ List.mem_map.2 ⟨x, hx, rfl⟩
    obtain ⟨p, hp, hpe⟩ := List.mem_map.1 h1
    obtain ⟨kl, hk⟩ := hE.keys p hp
    have hkx : keyOf P k x.key = some kl := by rw [← hk]; exact congrArg (keyOf P k) (congrArg Prod.fst hpe).symm
    exact ⟨_, rd_mk (R := rdU) (yv := (.nil, [])) (born := x.born) hkx rfl⟩
  · show List.Perm (((es.toList.map (rg P k rdU)).foldr DataW.insert []).map fun p => strOf p.1) _
    refine ((WideShapes.sorted_perm _).map _).trans ?_
    rw [hrg, List.map_map]
    exact List.Perm.refl _
  · show ((es.toList.map (rg P k rdU)).foldr DataW.insert []).length = _
    rw [length_sorted, List.length_map, Array.length_toList, hlen]
theorem mapAt_size {P : Program} {k : TypeId} (hu : P.underlying k = some .string) {w : World} {rb : Nat} {rows : List (ByteArray × Int)} (hm : mapAt w P k mkS mkI rb rows) : ∀ p ∈ rows, p.1.size ≤ maxLen := fun p hp => by
  obtain ⟨es, clock, hb, hE⟩ := hm
  obtain ⟨kl, hk⟩ := hE.keys p hp
  obtain ⟨x, hx1, _, hx3⟩ := Maps.keyOf_str hu hk
  have e1 : p.1 = ⟨x.toArray⟩ := by simpa [mkS, encStr] using hx1
  rw [e1]
  show x.toArray.size ≤ maxLen
  simpa using hx3
theorem mapsKeys_any (mb : Option Nat) (W : World) : Calls Tryz.prog 146 #[.map mb] W fun e w' => e = .returned (.func (.func 158) #[] #[.pointer (some ⟨W.heap.size, 0, none⟩)]) ∧ w' = W.alloc (.cells #[.map mb] 115) :=
  callsIn_wide.1 (AnyZ.keys_in Tryz.keysA Fence.wide 5 trivial rfl mb W)
theorem collect_any {rb n : Nat} {rows : List (ByteArray × Int)} (w : World) (hn : n < w.heap.size) (hc : w.cell? ⟨n, 0, none⟩ = some (.map (some rb))) (hm : mapAt w Tryz.prog 9 mkS mkI rb rows) (hl : rows.length ≤ 1000000) :
    Calls Tryz.prog 145 #[.func (.func 158) #[] #[.pointer (some ⟨n, 0, none⟩)]] w fun e w' => ∃ v, e = .returned v ∧ ∃ ss : List (List UInt8), ss.Perm (rows.map (fun p => p.1.data.toList)) ∧ w'.ownsRow w.heap.size 9 1 v ss.length (ss.map encStr) ∧ Chg nobody w w' := by
  obtain ⟨D0, hown, hperm, hsz⟩ := ents_gen Tryz.underlying9 hm hl
  have hseq : SeqGives Fence.wide 3 Tryz.prog 158 #[.pointer (some ⟨n, 0, none⟩)] encStr (fun ss => ss.Perm (strKeys D0)) (Maps.size D0) w :=
    AnyZ.keys_gives (ρ := Tryz.keysA_ren) { Tryz.keysA with } Fence.wide _ trivial rfl (by omega) n rb rows.length D0 _ hn hc hown
  have cS := AnyZ.collect_in Tryz.collA Fence.wide 5 trivial trivial rfl (by omega) 158 #[.pointer (some ⟨n, 0, none⟩)] trivial (enters_of Tryz.func158 (by kernel_rfl) rfl) _ _ (by rw [hsz]; unfold maxLen; omega) (by rw [hsz]; omega) _ hseq
  refine (callsIn_wide.1 cS).mono ?_
  rintro e w' ⟨v, ss, rfl, hS, hrow, _, hb⟩
  exact ⟨v, rfl, ss, hS.trans hperm, hrow, Chg.of_below hb _⟩
set_option maxRecDepth 100000 in
set_option maxHeartbeats 1000000 in
theorem oldest_any (ob cb sb rb : Nat) (rows : List (ByteArray × Int)) (low : Int) (w : World) (ho : OrAt w ob cb sb rb rows low) (h0 : rows ≠ []) (hl : rows.length ≤ 1000000) :
    Calls Tryz.prog 131 #[.pointer (some ⟨ob, 0, none⟩)] w fun e w' => ∃ m, e = .returned (.string m) ∧ IsLeast rows (m, rowT rows m) ∧ Chg nobody w w' := by
  have c2 : ∀ o, (w.alloc o).cell? ⟨ob, 2, none⟩ = some (.map (some rb)) := fun o => by rw [World.cell?_alloc_past _ _ _ (lt_of_block ho.o)]; exact cell_of ho.o rfl
  have HO : Hid (∀ w', Chg nobody w w' → OrAt w' ob cb sb rb rows low) := fun w' hc => ho.chg hc (fun h => h) (fun h => h)
  have HN : Hid ((rows.map Prod.fst).Nodup ∧ rows ≠ [] ∧ ∀ p ∈ rows, p.1.size ≤ maxLen) := ⟨ho.r.nodup, h0, mapAt_size Tryz.underlying9 ho.r⟩
  have HM : Hid (∀ w', Chg nobody w w' → mapAt w' Tryz.prog 9 mkS mkI rb rows) := fun w' hc => (HO.out w' hc).r
  clear ho h0
  go_enter Tryz.func131, Tryz.ntmps131
  go_wp2_with fail
  refine (mapsKeys_any (some rb) _).mono ?_
  rintro e w1 ⟨rfl, hw1⟩
  replace hw1 := hw1.symm
  subst hw1
  go_wp2_with fail
  refine (collect_any (n := w.heap.size + 1) _ (by simp) (by simp [go_sem]) (HM.out _ (((Chg.refl nobody w).alloc _).alloc _)) hl).mono ?_
  rintro e w2 ⟨v, rfl, ss, hperm, hrow, hch⟩
  have hch2 : Chg nobody w w2 := (((Chg.refl nobody w).alloc _).alloc _).trans hch
  have hlen : ss.length = rows.length := by have := hperm.length_eq; simpa using this
  have hpos : 0 < rows.length := by
    have := HN.out.2.1
    cases rows with
    | nil => exact absurd rfl this
    | cons a r => simp
  obtain ⟨ks, hks⟩ : ∃ ks : List ByteArray, ks = ss.map (fun b => (⟨b.toArray⟩ : ByteArray)) := ⟨_, rfl⟩
  have hkl : ks.length = ss.length := by rw [hks]; simp
  have hkp : ks.Perm (rows.map Prod.fst) := by
    rw [hks]
    have := hperm.map (fun b => (⟨b.toArray⟩ : ByteArray))
    rw [List.map_map] at this
    exact this
  have hrow' : w2.ownsRow 0 9 1 v ks.length (ks.map (fun k => Value.string k)) := by
    have e1 : ks.map (fun k => Value.string k) = ss.map encStr := by rw [hks, List.map_map]; rfl
    rw [e1, hkl]
    exact ownsRow_base hrow (Nat.zero_le _)
  obtain ⟨ad, cap, rfl⟩ := row_form hrow'
  obtain ⟨g, rfl, _, _, _, _⟩ := row_open hrow' (by omega)
  have hbx : w2.cell? ⟨w.heap.size, 0, none⟩ = some (.pointer (some ⟨ob, 0, none⟩)) := by
    rw [(bcell hch).1 _ _ (by simp; omega)]
    simp [go_sem]
  have HF := minFunc_any g cap w.heap.size ob cb sb rb rows low ks w2 hrow' (by have := hch2.size; have := hch.size; simp at this; omega) hbx (HO.out w2 hch2) (by omega) (by omega) (fun k hk => by
    obtain ⟨p, hp, rfl⟩ := List.mem_map.1 (hkp.mem_iff.1 hk)
    exact HN.out.2.2 p hp)
  have HL : Hid (IsLeast rows (minK (cfR rows) ks, rowT rows (minK (cfR rows) ks)) ∧ Chg nobody w w2) := ⟨minK_isLeast HN.out.1 hkp HN.out.2.1, hch2⟩
  clear hks hkl hkp hrow hrow' hbx hch hch2 hlen hperm c2
  generalize minK (cfR rows) ks = m at *
  have hmf : ∀ (fn : Fn) (first cap : Array Value) (w : World), (Instr.makeFunc fn first cap).run Tryz.prog w = .ok (.func fn first cap) w := fun _ _ _ _ => rfl
  go_wp2_with fail
  refine HF.mono ?_
  rintro e w3 ⟨rfl, hch3⟩
  go_wp2_with fail
  go_ret
  exact ⟨m, rfl, HL.out.1, HL.out.2.trans hch3⟩
/-- how many entries. -/
def mapSize (w : World) (b : Nat) : Nat := match w.heap[b]? with | some (.map es _) => es.size | _ => 0
theorem mapAt.size_eq {α β : Type} {P : Program} {k : TypeId} {mk : α → Value} {vl : β → Value} {w : World} {b : Nat} {l : List (α × β)} (h : mapAt w P k mk vl b l) : mapSize w b = l.length := by
  obtain ⟨es, clock, hb, hE⟩ := h
  unfold mapSize
  rw [hb]
  have := congrArg List.length hE.same
  simpa using this
set_option maxRecDepth 100000 in
set_option maxHeartbeats 1000000 in
theorem forget_any (ob cb sb rb : Nat) (rows0 : List (ByteArray × Int)) (low0 : Int) (w : World) (ho : OrAt w ob cb sb rb rows0 low0) (hne : ob ≠ rb) (hl : rows0.length ≤ 1000000) :
    Calls Tryz.prog 123 #[.pointer (some ⟨ob, 0, none⟩)] w fun e w' => e = .returned (.tuple #[]) ∧ ∃ rows' low', OrAt w' ob cb sb rb rows' low' ∧ (∀ n, rows0.length ≤ n → ∀ rs, (rs.map Prod.fst).Nodup → rows0.Perm rs → rows'.Perm (trimM n rs low0).1 ∧ low' = (trimM n rs low0).2) ∧ Chg (fun b => b = ob ∨ b = rb) w w' := by
  have HN : Hid (ob ≠ rb) := hne
  have HO : Hid (OrAt w ob cb sb rb rows0 low0) := ho
  clear ho hne
  go_enter Tryz.func123, Tryz.ntmps123
  go_wp2
  go_loopw [] (fun wr => ∃ rows low, OrAt wr ob cb sb rb rows low ∧ rows.length ≤ rows0.length ∧ (∀ n, rows0.length ≤ n → ∀ rs, (rs.map Prod.fst).Nodup → rows0.Perm rs → ∃ n' rs', rows.length ≤ n' ∧ rows.Perm rs' ∧ (rs'.map Prod.fst).Nodup ∧ trimM n rs low0 = trimM n' rs' low) ∧ Chg (fun b => b = ob ∨ b = rb) w wr) (fun wr => mapSize wr rb)
  case atStart => exact ⟨rows0, low0, HO.out, Nat.le_refl _, fun n hn rs hnd hp => ⟨n, rs, hn, hp, hnd, rfl⟩, Chg.refl _ _⟩
  case round =>
    obtain ⟨rows, low, hor, hle, htr, hch⟩ := hrel
    have hlen := fun ty => hor.r.len Tryz.underlying115 ty
    have hsz := hor.r.size_eq
    have c2 := cell_of hor.o (i := 2) (v := .map (some rb)) rfl
    have HR : Hid (OrAt wr ob cb sb rb rows low ∧ (∀ n, rows0.length ≤ n → ∀ rs, (rs.map Prod.fst).Nodup → rows0.Perm rs → ∃ n' rs', rows.length ≤ n' ∧ rows.Perm rs' ∧ (rs'.map Prod.fst).Nodup ∧ trimM n rs low0 = trimM n' rs' low) ∧ Chg (fun b => b = ob ∨ b = rb) w wr ∧ mapSize wr rb = rows.length) := ⟨hor, htr, hch, hsz⟩
    clear htr hch hsz
    by_cases h6 : 6 < rows.length
    · have hd : decide ((6 : Int) < (rows.length : Int)) = true := decide_eq_true (by omega)
      have hold := oldest_any ob cb sb rb rows low wr hor (fun e => by rw [e] at h6; simp at h6) (by omega)
      clear hor
      go_wp2_with fail
      refine hold.mono ?_
      rintro e w2 ⟨m, rfl, hleast, hch2⟩
      clear hold hlen c2
      have hor2 : OrAt w2 ob cb sb rb rows low := HR.out.1.chg hch2 (fun h => h) (fun h => h)
      have hml : m.size ≤ maxLen := mapAt_size Tryz.underlying9 hor2.r _ hleast.1
      have hlk := hor2.r.look1 keyS mkS_inj Tryz.underlying115 (zeroI w2) (keyOfS (s := m) hml)
      have elk : ((getA m rows).map mkI).getD (.int .i64 0) = .int .i64 (rowT rows m) := by unfold rowT; cases getA m rows <;> rfl
      rw [elk] at hlk
      have c2 := cell_of hor2.o (i := 2) (v := .map (some rb)) rfl
      have c3 := cell_of hor2.o (i := 3) (v := .int .i64 low) rfl
      have f3 := unfrozen_of hor2.o 3
      obtain ⟨t, ht⟩ : ∃ t, rowT rows m = t := ⟨_, rfl⟩
      rw [ht] at hlk hleast
      have hc3 : Chg (fun b => b = ob) w2 (w2.setCell ⟨ob, 3, none⟩ (.int .i64 t)) := chg_set1 _ _ _ _
      have hob3 : (w2.setCell ⟨ob, 3, none⟩ (.int .i64 t)).heap[ob]? = some (.cells #[.pointer (some ⟨cb, 0, none⟩), .pointer (some ⟨sb, 0, none⟩), .map (some rb), .int .i64 t] 118) := by
        simp [World.setCell, Array.getElem?_modify, hor2.o]
      have hr3 := hor2.r.of_block (hc3.block rb hor2.r.lt (Ne.symm HN.out))
      obtain ⟨w4, hdel, hm4, hg4, _⟩ := hr3.drop keyS mkS_inj Tryz.underlying115 (a := m) (keyOfS hml) 0
      have hc4 : Chg (fun b => b = rb) (w2.setCell ⟨ob, 3, none⟩ (.int .i64 t)) w4 := (Chg.refl _ _).grown hg4 (fun k e => Or.inl (by cases e; rfl))
      have HF : Hid (OrAt w4 ob cb sb rb (delA m rows) t ∧ Chg (fun b => b = ob ∨ b = rb) w w4 ∧ IsLeast rows (m, t) ∧ (rows.map Prod.fst).Nodup) := ⟨⟨(hc4.block ob (lt_of_block hob3) HN.out).trans hob3, hm4⟩, ((HR.out.2.2.1.trans (hch2.any _)).trans (hc3.mono (fun _ _ h => Or.inl h))).trans (hc4.mono (fun _ _ h => Or.inr h)), hleast, hor2.r.nodup⟩
      clear hor2 hleast hch2 hc3 hob3 hr3 hm4 hg4 hc4 ht elk
      go_wp2
      go_roundw
      case rel =>
        obtain ⟨hor4, hch4, hle4, hnd⟩ := HF.out
        have hdl : (delA m rows).length + 1 = rows.length := by
          have hp := perm_of_getA (l := rows) (l' := (m, t) :: delA m rows) hnd ?_ ?_
          · have := hp.length_eq; simpa using this.symm
          · simp only [List.map_cons, List.nodup_cons]
            refine ⟨?_, delA_nodup m rows hnd⟩
            rw [← getA_eq_none, getA_del m m hnd]
            simp
          · intro k
            by_cases e : m = k
            · subst e; simp [getA, getA_of_mem hnd hle4.1]
            · simp only [getA, e, if_false]
              rw [getA_del m k hnd, if_neg (fun h => e h.symm)]
        refine ⟨delA m rows, t, hor4, by omega, fun n hn rs hrs hp => ?_, hch4⟩
        obtain ⟨n', rs', q1, q2, q3, q4⟩ := HR.out.2.1 n hn rs hrs hp
        obtain ⟨n'', rfl⟩ : ∃ n'', n' = n'' + 1 := ⟨n' - 1, by omega⟩
        refine ⟨n'', rs'.filter (fun r => decide (r.1 ≠ m)), by omega, perm_of_getA (delA_nodup m rows hnd) (filter_nodup _ q3) (fun k => ?_), filter_nodup _ q3, ?_⟩
        · rw [getA_del m k hnd, getA_filter, getA_perm hnd q2]
        · rw [q4]
          simp only [trimM]
          rw [if_pos (by have := q2.length_eq; omega), leastM_eq hle4 q2]
      case measure =>
        have := HF.out.1.r.size_eq
        rw [this, HR.out.2.2.2]
        obtain ⟨hor4, hch4, hle4, hnd⟩ := HF.out
        have hsub := (delA_sub m rows).length_le
        refine Nat.lt_of_le_of_ne hsub (fun e => ?_)
        have := (delA_sub m rows).eq_of_length e
        have hx := getA_del m m hnd
        rw [this, getA_of_mem hnd hle4.1] at hx
        simp at hx
    · have hd : decide ((6 : Int) < (rows.length : Int)) = false := decide_eq_false (by omega)
      clear hor
      go_wp2
      go_end0
      refine ⟨rfl, rows, low, HR.out.1, fun n hn rs hrs hp => ?_, HR.out.2.2.1⟩
      obtain ⟨n', rs', q1, q2, q3, q4⟩ := HR.out.2.1 n hn rs hrs hp
      have e : trimM n' rs' low = (rs', low) := by
        cases n' with
        | zero => rfl
        | succ n' => simp only [trimM]; rw [if_neg (by have := q2.length_eq; omega)]
      rw [q4, e]
      exact ⟨q2, rfl⟩
end Go.Proofs.YtkfjafndplmdkaaGreat
