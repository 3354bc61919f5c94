import Derived.Test.YtkfjafndplmdkaaGreatZG
import Derived.Test.YtkfjafndplmdkaaGreatTN
import Derived.OwnWalk
import Derived.Laws.CopyOwn
import Derived.Test.YtkfjafndplmdkaaGreatZI
namespace Go.Proofs.YtkfjafndplmdkaaGreat
open Go.RowKit Go.Sort
theorem row_max {w : World} {base : Nat} {e : TypeId} {k n : Nat} {v : Value} {xs : List Value} (h : w.ownsRow base e k v n xs) : n ≤ maxLen := by
  rcases h.2 with ⟨_, rfl⟩ | ⟨g, cap, cur, _, _, _, h1, h2, _⟩
  · exact Nat.zero_le _
  · exact Nat.le_trans h1 h2
set_option maxRecDepth 100000 in
set_option maxHeartbeats 4000000 in
theorem mstill_any (mb : Nat) (B : Book) (w : World) (h : BookAt w mb B) (hA : B.A.length ≤ 100000000) (hI : B.I.length ≤ 100000000) (hD : B.D.length ≤ 100000000) (hS : B.S.length ≤ 100000000) :
    Calls Tryz.prog 29 #[.pointer (some ⟨mb, 0, none⟩)] w fun e w' => e = .returned (.bool true) ∧ w' = w := by
  have HH : Hid (BookAt w mb B) := h
  have hml := lt_of_block h.wb
  clear h
  go_enter Tryz.func29, Tryz.ntmps29
  go_wp2_with fail
  go_loopw [3, 4, 5] (fun ok iv _ wr => ∃ j : Nat, j ≤ B.A.length ∧ ok = .bool true ∧ iv = .int .i64 j ∧ wr = w) (fun _ iv _ _ => B.A.length - (intOf iv).toNat)
  case atStart => exact ⟨0, Nat.zero_le _, rfl, rfl, rfl⟩
  case round =>
    obtain ⟨j, hj, rfl, rfl, hw⟩ := hrel
    replace hw := hw.symm
    subst hw
    have m := cell_of HH.out.wb (i := 0) (v := .slice B.aa B.A.length B.ac) rfl
    by_cases hlt : j < B.A.length
    · obtain ⟨ga, hga, _, _, _, hcell⟩ := row_open HH.out.ar (by omega)
      rw [hga] at m
      obtain ⟨L, hL⟩ := HH.out.am j hlt
      obtain ⟨ad, cap, hv⟩ := row_form hL
      have c := hcell j _ (List.getElem?_eq_getElem hlt)
      rw [hv] at c hL
      have HL : Hid (w.ownsRow 0 36 7 (.slice ad L cap) L (rep L (markA (j / 4)))) := hL
      have hLm : L ≤ maxLen := row_max hL
      unfold maxLen at hLm
      have e77 : ((77 + j / 4 : Nat) : Int) = 77 + (j : Int) / 4 := by omega
      clear hcell hL hv
      go_wp2_with fail
      go_loopw [3, 5] (fun ok kv wr => ∃ q : Nat, q ≤ L ∧ ok = .bool true ∧ kv = .int .i64 q ∧ wr = w) (fun _ kv _ => L - (intOf kv).toNat)
      case atStart => exact ⟨0, Nat.zero_le _, rfl, rfl, rfl⟩
      case round =>
        obtain ⟨q, hq, rfl, rfl, hw⟩ := hrel
        replace hw := hw.symm
        subst hw
        by_cases hql : q < L
        · obtain ⟨g, rfl, _, _, _, hc⟩ := row_open HL.out (by omega)
          have d := hc (q * 7 + 1) (.int .i64 (77 + j / 4 : Nat)) (by rw [rep_get (size := 7) rfl (by omega) L (q * 7 + 1) (by omega), show (q * 7 + 1) % 7 = 1 by omega]; rfl)
          rw [e77] at d
          have _h := hql
          clear hc
          go_wp2
          go_roundw
          case rel => exact ⟨q + 1, by omega, by trivial, by go_num, by trivial⟩
          case measure => simp [intOf]; omega
        · go_wp2
          go_roundw
          case rel => exact ⟨j + 1, by omega, by trivial, by go_num, by trivial⟩
          case measure => simp [intOf]; omega
    · have _h0 := hlt
      go_wp2_with fail
      clear hlt hj m _h0
      go_loopw [3, 6, 7, 8] (fun ok iv _ _ wr => ∃ j : Nat, j ≤ B.I.length ∧ ok = .bool true ∧ iv = .int .i64 j ∧ wr = w) (fun _ iv _ _ _ => B.I.length - (intOf iv).toNat)
      case atStart => exact ⟨0, Nat.zero_le _, rfl, rfl, rfl⟩
      case round =>
        obtain ⟨j, hj, rfl, rfl, hw⟩ := hrel
        replace hw := hw.symm
        subst hw
        have m := cell_of HH.out.wb (i := 1) (v := .slice B.ia B.I.length B.ic) rfl
        by_cases hlt : j < B.I.length
        · obtain ⟨ga, hga, _, _, _, hcell⟩ := row_open HH.out.ir (by omega)
          rw [hga] at m
          obtain ⟨L, hL⟩ := HH.out.im j hlt
          obtain ⟨ad, cap, hv⟩ := row_form hL
          have c := hcell j _ (List.getElem?_eq_getElem hlt)
          rw [hv] at c hL
          have HL : Hid (w.ownsRow 0 66 2 (.slice ad L cap) L (rep L (markI (j / 4)))) := hL
          have hLm : L ≤ maxLen := row_max hL
          unfold maxLen at hLm
          have e77 : ((77 + j / 4 : Nat) : Int) = 77 + (j : Int) / 4 := by omega
          clear hcell hL hv
          have HM := marked_any (77 + j / 4) w (by omega)
          rw [e77] at HM
          go_wp2_with (go_at_call 44; refine HM.mono ?_; rintro e w' ⟨rfl, hw'⟩; replace hw' := hw'.symm; subst hw')
          go_loopw [3, 8] (fun ok kv wr => ∃ q : Nat, q ≤ L ∧ ok = .bool true ∧ kv = .int .i64 q ∧ wr = w) (fun _ kv _ => L - (intOf kv).toNat)
          case atStart => exact ⟨0, Nat.zero_le _, rfl, rfl, rfl⟩
          case round =>
            obtain ⟨q, hq, rfl, rfl, hw⟩ := hrel
            replace hw := hw.symm
            subst hw
            by_cases hql : q < L
            · obtain ⟨g, rfl, _, _, _, hc⟩ := row_open HL.out (by omega)
              have d := hc (q * 2) (.string (markS (77 + j / 4))) (by rw [rep_get (size := 2) rfl (by omega) L (q * 2) (by omega), show (q * 2) % 2 = 0 by omega]; rfl)
              have hbb := (ba_t (rfl : markS (77 + j / 4) = markS (77 + j / 4)))
              have _h := hql
              clear hc
              go_wp2
              go_roundw
              case rel => exact ⟨q + 1, by omega, by trivial, by go_num, by trivial⟩
              case measure => simp [intOf]; omega
            · go_wp2
              go_roundw
              case rel => exact ⟨j + 1, by omega, by trivial, by go_num, by trivial⟩
              case measure => simp [intOf]; omega
        · have _h0 := hlt
          go_wp2_with fail
          clear hlt hj m _h0
          go_loopw [3, 9, 10] (fun ok iv _ wr => ∃ j : Nat, j ≤ B.D.length ∧ ok = .bool true ∧ iv = .int .i64 j ∧ wr = w) (fun _ iv _ _ => B.D.length - (intOf iv).toNat)
          case atStart => exact ⟨0, Nat.zero_le _, rfl, rfl, rfl⟩
          case round =>
            obtain ⟨j, hj, rfl, rfl, hw⟩ := hrel
            replace hw := hw.symm
            subst hw
            have m := cell_of HH.out.wb (i := 2) (v := .slice B.da B.D.length B.dc) rfl
            by_cases hlt : j < B.D.length
            · obtain ⟨ga, hga, _, _, _, hcell⟩ := row_open HH.out.dr (by omega)
              rw [hga] at m
              obtain ⟨L, hL⟩ := HH.out.dm j hlt
              obtain ⟨ad, cap, hv⟩ := row_form hL
              have c := hcell j _ (List.getElem?_eq_getElem hlt)
              rw [hv] at c hL
              have HL : Hid (w.ownsRow 0 44 3 (.slice ad L cap) L (rep L (markD (j / 4)))) := hL
              have hLm : L ≤ maxLen := row_max hL
              unfold maxLen at hLm
              have e77 : ((77 + j / 4 : Nat) : Int) = 77 + (j : Int) / 4 := by omega
              clear hcell hL hv
              go_wp2_with fail
              go_loopw [3, 10] (fun ok kv wr => ∃ q : Nat, q ≤ L ∧ ok = .bool true ∧ kv = .int .i64 q ∧ wr = w) (fun _ kv _ => L - (intOf kv).toNat)
              case atStart => exact ⟨0, Nat.zero_le _, rfl, rfl, rfl⟩
              case round =>
                obtain ⟨q, hq, rfl, rfl, hw⟩ := hrel
                replace hw := hw.symm
                subst hw
                by_cases hql : q < L
                · obtain ⟨g, rfl, _, _, _, hc⟩ := row_open HL.out (by omega)
                  have d := hc (q * 3) (.int .i64 (77 + j / 4 : Nat)) (by rw [rep_get (size := 3) rfl (by omega) L (q * 3) (by omega), show (q * 3) % 3 = 0 by omega]; rfl)
                  rw [e77] at d
                  have _h := hql
                  clear hc
                  go_wp2
                  go_roundw
                  case rel => exact ⟨q + 1, by omega, by trivial, by go_num, by trivial⟩
                  case measure => simp [intOf]; omega
                · go_wp2
                  go_roundw
                  case rel => exact ⟨j + 1, by omega, by trivial, by go_num, by trivial⟩
                  case measure => simp [intOf]; omega
            · have _h0 := hlt
              go_wp2_with fail
              clear hlt hj m _h0
              go_loopw [3, 11, 12] (fun ok iv _ wr => ∃ j : Nat, j ≤ B.S.length ∧ ok = .bool true ∧ iv = .int .i64 j ∧ wr = w) (fun _ iv _ _ => B.S.length - (intOf iv).toNat)
              case atStart => exact ⟨0, Nat.zero_le _, rfl, rfl, rfl⟩
              case round =>
                obtain ⟨j, hj, rfl, rfl, hw⟩ := hrel
                replace hw := hw.symm
                subst hw
                have m := cell_of HH.out.wb (i := 3) (v := .slice B.sa B.S.length B.sc) rfl
                by_cases hlt : j < B.S.length
                · obtain ⟨ga, hga, _, _, _, hcell⟩ := row_open HH.out.sr (by omega)
                  rw [hga] at m
                  obtain ⟨L, hL⟩ := HH.out.sm j hlt
                  obtain ⟨ad, cap, hv⟩ := row_form hL
                  have c := hcell j _ (List.getElem?_eq_getElem hlt)
                  rw [hv] at c hL
                  have HL : Hid (w.ownsRow 0 3 1 (.slice ad L cap) L (rep L (markN (j / 4)))) := hL
                  have hLm : L ≤ maxLen := row_max hL
                  unfold maxLen at hLm
                  have e77 : ((77 + j / 4 : Nat) : Int) = 77 + (j : Int) / 4 := by omega
                  clear hcell hL hv
                  go_wp2_with fail
                  go_loopw [3, 12] (fun ok kv wr => ∃ q : Nat, q ≤ L ∧ ok = .bool true ∧ kv = .int .i64 q ∧ wr = w) (fun _ kv _ => L - (intOf kv).toNat)
                  case atStart => exact ⟨0, Nat.zero_le _, rfl, rfl, rfl⟩
                  case round =>
                    obtain ⟨q, hq, rfl, rfl, hw⟩ := hrel
                    replace hw := hw.symm
                    subst hw
                    by_cases hql : q < L
                    · obtain ⟨g, rfl, _, _, _, hc⟩ := row_open HL.out (by omega)
                      have d := hc (q * 1) (.int .i64 (77 + j / 4 : Nat)) (by rw [rep_get (size := 1) rfl (by omega) L (q * 1) (by omega), show (q * 1) % 1 = 0 by omega]; rfl)
                      rw [e77] at d
                      rw [Nat.mul_one] at d
                      clear hc
                      go_wp2
                      go_roundw
                      case rel => exact ⟨q + 1, by omega, by trivial, by go_num, by trivial⟩
                      case measure => simp [intOf]; omega
                    · go_wp2
                      go_roundw
                      case rel => exact ⟨j + 1, by omega, by trivial, by go_num, by trivial⟩
                      case measure => simp [intOf]; omega
                · have _h0 := hlt
                  go_wp2
                  go_ret
                  exact ⟨rfl, rfl⟩
end Go.Proofs.YtkfjafndplmdkaaGreat
namespace Go.Proofs.YtkfjafndplmdkaaGreat
open Go.RowKit Go.Sort
/-- 'copy' of elements of more cells than one. -/
theorem run_copy_size {P : Program} (w : World) (dT sT ty elem : TypeId) (i : TypeInfo) (g dLen dCap : Nat) (a : Addr) (sLen sCap k : Nat) (cur : Array Value) (t : TypeId) (cs : List Value)
    (hu : P.underlying dT = some (.slice elem)) (hi : P.info? elem = some i) (hg : w.heap[g]? = some (.cells cur t (0, 0))) (hn : Nat.min sLen dLen = k) (hl : cs.length = k * i.size)
    (hsrc : ∀ j v, cs[j]? = some v → w.cell? (a.add j) = some v) (hfit : cs.length ≤ cur.size) (h1 : ∀ v ∈ cs, v.oneCell' = true) :
    (Builtin.copy_ #[dT, sT] ty #[.slice (some ⟨g, 0, none⟩) dLen dCap, .slice (some a) sLen sCap]).run P w = .ok (goInt k) (w.setRow g (cs ++ cur.toList.drop cs.length).toArray) := by
  have hf := run_firstCells_some (P := P) w i.size k a sLen sCap cs hl hsrc
  have hst := run_storeCells_at P g 0 t cs 0 cur w hg (by simpa using hfit) h1
  simp [Builtin.copy_, run_underlying hu, Builtin.lenOf, sizeOf, typeInfo, hi, hn, hf, hst]
theorem run_copy_src {P : Program} {w : World} (dT sT ty elem : TypeId) (i : TypeInfo) (hu : P.underlying dT = some (.slice elem)) (hi : P.info? elem = some i) (hsz : i.size = 5)
    (g dLen dCap base : Nat) (v : Value) (xs : List OpM) (ys : List Value) (hsrc : SrcOps w v xs) (hown : w.ownsRow base elem 5 (.slice (some ⟨g, 0, none⟩) dLen dCap) dLen ys) (hle : xs.length ≤ dLen) :
    ∃ w', (Builtin.copy_ #[dT, sT] ty #[.slice (some ⟨g, 0, none⟩) dLen dCap, v]).run P w = .ok (goInt xs.length) w' ∧ w'.ownsRow base elem 5 (.slice (some ⟨g, 0, none⟩) dLen dCap) dLen (opCells xs ++ ys.drop (xs.length * 5)) ∧ Chg (fun b => b = g) w w' := by
  rcases hown.2 with ⟨e0, _⟩ | ⟨g', cap, cur, e0, hb, hg, h1, h2, h3, h4⟩
  · cases e0
  cases e0
  have hol := opCells_len xs
  rcases hsrc with ⟨rfl, rfl⟩ | ⟨ad, cap', rfl, hcap, hx⟩
  · exact ⟨w, run_copy_nil (P := P) w dT sT ty elem ⟨g, 0, none⟩ dLen dCap hu (by rw [hi]; rfl), by simpa [opCells] using hown, Chg.refl _ _⟩
  · have hrun := run_copy_size (P := P) w dT sT ty elem i g dLen dCap ad xs.length cap' xs.length cur elem (opCells xs) hu hi hg (Nat.min_eq_left hle) (by rw [hsz]; exact hol) hx (by rw [hol, h3]; exact Nat.mul_le_mul_right _ (Nat.le_trans hle h1)) (opCells_one xs)
    refine ⟨_, hrun, ?_, ⟨rfl, rfl, rfl, by simp [World.setRow], fun k hk hne => setRow_other w g k _ (fun e => hne e)⟩⟩
    have hyl := hown.1
    refine ⟨by rw [List.length_append, List.length_drop, hol, hyl]; have := Nat.mul_le_mul_right 5 hle; omega, Or.inr ⟨g, dCap, _, rfl, hb, setRow_heap w g cur _ elem _ hg, h1, h2, ?_, ?_⟩⟩
    · simp only [List.size_toArray, List.length_append, List.length_drop, Array.length_toList, hol, h3]
      have := Nat.mul_le_mul_right 5 (Nat.le_trans hle h1)
      omega
    · have hl2 := Nat.mul_le_mul_right 5 hle
      rw [hol, ← h4, List.take_append, hol, List.take_of_length_le (by rw [hol]; exact hl2), List.drop_take]
/-- A script as it is handed in: with two marks behind it. -/
def HandedAt (w : World) (g : Nat) (xs : List OpM) : Prop := (∀ j u, (opCells xs)[j]? = some u → w.cell? ⟨g, j, none⟩ = some u) ∧ w.cell? ⟨g, xs.length * 5, none⟩ = some (.int .i64 77) ∧ w.cell? ⟨g, (xs.length + 1) * 5, none⟩ = some (.int .i64 77)
theorem HandedAt.chg {w w' : World} {g : Nat} {xs : List OpM} {P : Nat → Prop} (h : HandedAt w g xs) (hc : Chg P w w') (hp : ¬ P g) : HandedAt w' g xs := by
  have hg : g < w.heap.size := lt_of_cell h.2.1
  have e : ∀ j, w'.cell? ⟨g, j, none⟩ = w.cell? ⟨g, j, none⟩ := fun j => World.cell?_of_block (hc.block g hg hp)
  exact ⟨fun j u hu => by rw [e]; exact h.1 j u hu, by rw [e]; exact h.2.1, by rw [e]; exact h.2.2⟩
theorem HandedAt.src {w : World} {g : Nat} {xs : List OpM} (h : HandedAt w g xs) : SrcOps w (.slice (some ⟨g, 0, none⟩) xs.length (xs.length + 2)) xs := by
  refine Or.inr ⟨⟨g, 0, none⟩, xs.length + 2, rfl, by omega, fun j u hu => ?_⟩
  rw [show (⟨g, 0, none⟩ : Addr).add j = ⟨g, j, none⟩ by unfold Addr.add; split <;> simp [*]]
  exact h.1 j u hu
theorem handed_row {w : World} {base g n : Nat} {xs : List OpM} {zs : List Value} (hn : xs.length = n) (h : w.ownsRow base 30 5 (.slice (some ⟨g, 0, none⟩) (n + 2) (n + 2)) (n + 2) (opCells xs ++ zs)) :
    HandedAt ((w.setCell ⟨g, n * 5, none⟩ (.int .i64 77)).setCell ⟨g, (n + 1) * 5, none⟩ (.int .i64 77)) g xs := by
  subst hn
  have hl := h.1
  have hol := opCells_len xs
  have hr := row_setCell (q := (xs.length + 1) * 5) (row_setCell (q := xs.length * 5) h (.int .i64 77)) (.int .i64 77)
  refine ⟨fun j u hu => row_cells hr j u ?_, row_cells hr _ _ ?_, row_cells hr _ _ ?_⟩
  · have hj : j < (opCells xs).length := (List.getElem?_eq_some_iff.1 hu).1
    rw [List.getElem?_set_ne (by omega), List.getElem?_set_ne (by omega), List.getElem?_append_left hj]
    exact hu
  · rw [List.getElem?_set_ne (by omega), List.getElem?_set_self (by omega)]
  · rw [List.getElem?_set_self (by rw [List.length_set]; omega)]
set_option maxRecDepth 100000 in
set_option maxHeartbeats 1000000 in
theorem handed_any {w : World} {A : Value} {xs : List OpM} (hA : SrcOps w A xs) (hx : xs.length ≤ 1100000) :
    Calls Tryz.prog 25 #[A] w fun e w' => ∃ g, e = .returned (.slice (some ⟨g, 0, none⟩) xs.length (xs.length + 2)) ∧ HandedAt w' g xs ∧ w.heap.size ≤ g ∧ g < w'.heap.size ∧ Chg nobody w w' := by
  obtain ⟨i0, hi, hz0, hz1, hz2⟩ := info_parts info30
  obtain ⟨ad, cap, rfl⟩ := hA.len
  have HA : Hid (SrcOps w (.slice ad xs.length cap) xs) := hA
  obtain ⟨n, hn⟩ : ∃ n, xs.length = n := ⟨_, rfl⟩
  have HN : Hid (xs.length = n) := hn
  clear hA
  rw [hn] at hx ⊢
  rw [hn] at HA
  clear hn
  go_enter Tryz.func25, Tryz.ntmps25
  go_wp2_with (at_make; refine wpList_make_full _ rfl _ _ 22 rfl w.heap.size 30 i0 (OpM.v ⟨0, 0, ⟨#[]⟩, ⟨#[]⟩, 0⟩) 5 Tryz.underlying22 hi hz0 hz1 _ _ _ _ (n + 2) rfl rfl (by push_cast; rfl) (by push_cast; rfl) (by rw [hz2]; omega) (by unfold maxLen; omega) (Nat.le_refl _) ?_; intro w2 hrow2 hg2; generalize (madeCells _ _).toList = zs at hrow2; have hc2 : Chg nobody w w2 := (Chg.refl _ _).grown hg2 (fun k e => by cases e); have HC2 : Hid (Chg nobody w w2) := hc2; obtain ⟨w3, hrun, hrow3, hc3⟩ := run_copy_src (P := Tryz.prog) (w := w2) 22 22 3 30 i0 Tryz.underlying22 hi hz1 w.heap.size (n + 2) (n + 2) w.heap.size _ xs zs (HA.out.chg hc2) hrow2 (by have := HN.out; omega); rw [HN.out] at hrun hrow3; have hl3 := hrow3.1; have HR3 : Hid (w3.ownsRow w.heap.size 30 5 (.slice (some ⟨w.heap.size, 0, none⟩) (n + 2) (n + 2)) (n + 2) (opCells xs ++ zs.drop (n * 5)) ∧ Chg (fun b => b = w.heap.size) w2 w3) := ⟨hrow3, hc3⟩; obtain ⟨u0, k0⟩ : ∃ u, w3.cell? ⟨w.heap.size, n * 5, none⟩ = some u := ⟨_, row_cells hrow3 (n * 5) _ (List.getElem?_eq_getElem (by omega))⟩; obtain ⟨u1, k1⟩ : ∃ u, w3.cell? ⟨w.heap.size, (n + 1) * 5, none⟩ = some u := ⟨_, row_cells hrow3 ((n + 1) * 5) _ (List.getElem?_eq_getElem (by omega))⟩; have kf := fun i => unfrozen_row hrow3 i; clear hrow3 hc3 hl3 hrow2 hc2 hg2)
  go_ret
  obtain ⟨hrow3, hc3⟩ := HR3.out
  have hsz3 := hc3.size
  have hg2 : w.heap.size < w3.heap.size := (hrow3.lt _ rfl).2
  refine ⟨w.heap.size, rfl, handed_row HN.out hrow3, Nat.le_refl _, by simpa [World.setCell] using hg2, ?_⟩
  have hc4 : Chg nobody w w3 := HC2.out.andThen hc3 (fun i hi (e : i = _) => by omega)
  exact (hc4.setCell (p := ⟨w.heap.size, n * 5, none⟩) (Or.inr (Nat.le_refl _)) _).setCell (p := ⟨w.heap.size, (n + 1) * 5, none⟩) (Or.inr (Nat.le_refl _)) _
theorem neqOp (a b e : Int) (k v : ByteArray) (w : World) : (binOp .neq 30 (.agg #[.int .i64 a, .int .i64 b, .string k, .string v, .int .i64 e]) (.agg #[.int .i64 a, .int .i64 b, .string k, .string v, .int .i64 e])).run Tryz.prog w = .ok (.bool false) w := by
  simp [go_sem]
set_option maxRecDepth 100000 in
set_option maxHeartbeats 1000000 in
theorem lstill_some (b off cap g n : Nat) (xs : List OpM) (w : World) (hn : xs.length = n) (hops : OpsAt w b off xs) (ho : OpsAt w g 0 xs) (m0 : w.cell? ⟨g, n * 5, none⟩ = some (.int .i64 77)) (m1 : w.cell? ⟨g, (n + 1) * 5, none⟩ = some (.int .i64 77)) (hx : n ≤ 1100000) :
    Calls Tryz.prog 30 #[.slice (some ⟨g, 0, none⟩) n (n + 2), .slice (some ⟨b, off, none⟩) n cap] w fun e w' => e = .returned (.bool true) ∧ ∃ m, w' = w.drewN m := by
  have HC : Hid (OpsAt w b off xs ∧ OpsAt w g 0 xs ∧ xs.length = n ∧ w.cell? ⟨g, n * 5, none⟩ = some (.int .i64 77) ∧ w.cell? ⟨g, (n + 1) * 5, none⟩ = some (.int .i64 77)) := ⟨hops, ho, hn, m0, m1⟩
  clear hops ho hn m0 m1
  go_enter Tryz.func30, Tryz.ntmps30
  go_wp2_with fail
  go_loopw [6] (fun i wr => ∃ (j m : Nat), j ≤ n ∧ i = .int .i64 j ∧ wr = w.drewN m) (fun i _ => n - (intOf i).toNat)
  case atStart => exact ⟨0, 0, Nat.zero_le _, rfl, rfl⟩
  case round =>
    obtain ⟨j, m, hj, rfl, rfl⟩ := hrel
    by_cases hlt : j < n
    · have hjx : j < xs.length := by rw [HC.out.2.2.1]; exact hlt
      obtain ⟨o0, o1, o2, o3, o4⟩ := HC.out.1 j hjx
      obtain ⟨p0, p1, p2, p3, p4⟩ := HC.out.2.1 j hjx
      generalize xs[j] = o at *
      have hne := neqOp o.kind o.t o.n o.key o.val
      rw [Nat.zero_add] at p0 p1 p2 p3 p4
      go_wp2_with fail
      go_quiet (fail)
      go_wp2
      go_roundw
      case rel => exact ⟨j + 1, _, by omega, by go_num, rfl⟩
      case measure => simp [intOf]; omega
    · obtain ⟨_, _, _, m0, m1⟩ := HC.out
      go_wp2
      go_ret
      exact ⟨rfl, m, rfl⟩
set_option maxRecDepth 100000 in
set_option maxHeartbeats 1000000 in
theorem lstill_zero (ad : Option Addr) (cap g : Nat) (w : World) (m0 : w.cell? ⟨g, 0 * 5, none⟩ = some (.int .i64 77)) (m1 : w.cell? ⟨g, (0 + 1) * 5, none⟩ = some (.int .i64 77)) :
    Calls Tryz.prog 30 #[.slice (some ⟨g, 0, none⟩) 0 2, .slice ad 0 cap] w fun e w' => e = .returned (.bool true) ∧ ∃ m, w' = w.drewN m := by
  simp only [Nat.zero_mul, Nat.zero_add, Nat.one_mul] at m0 m1
  go_enter Tryz.func30, Tryz.ntmps30
  go_wp2
  refine wp_loop_rounds 1 ?_
  rw [rounds_succ]
  go_wp2
  go_ret
  exact ⟨rfl, 0, rfl⟩
theorem lstill_any {w : World} {g : Nat} {ad : Option Addr} {cap : Nat} {xs : List OpM} (hO : HandedAt w g xs) (hA : SrcOps w (.slice ad xs.length cap) xs) (hx : xs.length ≤ 1100000) :
    Calls Tryz.prog 30 #[.slice (some ⟨g, 0, none⟩) xs.length (xs.length + 2), .slice ad xs.length cap] w fun e w' => e = .returned (.bool true) ∧ ∃ m, w' = w.drewN m := by
  rcases hA.at with rfl | ⟨b, off, cap', e, hcap, hops, hbl⟩
  · exact lstill_zero ad cap g w hO.2.1 hO.2.2
  · rw [e]
    have ho : OpsAt w g 0 xs := by
      refine opsAt_of fun j hj => ?_
      have hl := opCells_len xs
      rw [List.getElem?_eq_getElem (by omega), Nat.zero_add]
      exact hO.1 j _ (List.getElem?_eq_getElem (by omega))
    exact lstill_some b off cap' g xs.length xs w rfl hops ho hO.2.1 hO.2.2 hx
end Go.Proofs.YtkfjafndplmdkaaGreat
namespace Go.Proofs.YtkfjafndplmdkaaGreat
open Go.RowKit Go.Sort
theorem nodup_len {α : Type} [DecidableEq α] : ∀ (K M : List α), K.Nodup → (∀ x ∈ K, x ∈ M) → K.length ≤ M.length
  | [], _, _, _ => Nat.zero_le _
  | x :: r, M, hn, hs => by
    have hx := hs x (List.mem_cons_self ..)
    obtain ⟨h1, h2⟩ := List.nodup_cons.1 hn
    have ih := nodup_len r (M.erase x) h2 (fun y hy => (List.mem_erase_of_ne (fun (e : y = x) => h1 (e ▸ hy))).2 (hs y (List.mem_cons_of_mem _ hy)))
    rw [List.length_erase_of_mem hx] at ih
    have : 0 < M.length := List.length_pos_of_mem hx
    simp only [List.length_cons]
    omega
theorem keysC_len (all : List Ver) (pre : ByteArray) : (keysC all pre).length ≤ all.length := by
  have hK := keysC_of all pre
  have hn : (keysC all pre).Nodup := hK.1.imp (fun hab e => by subst e; exact List.lt_irrefl _ hab)
  have := nodup_len (keysC all pre) (all.map Ver.key) hn (fun x hx => by
    obtain ⟨v, hv, e, _⟩ := (hK.2 x).1 hx
    exact List.mem_map.2 ⟨v, hv, e⟩)
  simpa using this
theorem flush_len : ∀ (k : Nat) (W : PW), (flushM k W).1.length ≤ k
  | 0, _ => Nat.le_refl _
  | k + 1, W => by
    unfold flushM
    split
    · exact Nat.zero_le _
    · split
      · exact Nat.zero_le _
      · simp only [List.length_cons]
        exact Nat.succ_le_succ (flush_len k _)
theorem of_small {W : PW} {n k : Nat} {T : PT} {o : OpM} (h : PFit W n) (hT : T ∈ W.ts) : (ofM W k T o).1.items.length ≤ 100 + n := by
  have h1 := h.L
  have h2 := (h.tx T hT).1
  have h3 : (itemsR T.ws W.L T.start (keysC (W.L ++ T.ws) o.key)).length ≤ 100 + n := by
    refine Nat.le_trans (List.length_filterMap_le _ _) (Nat.le_trans (keysC_len _ _) ?_)
    rw [List.length_append]
    omega
  unfold ofM
  repeat' split
  all_goals first | exact h3 | exact Nat.zero_le _
theorem step_small {W : PW} {n : Nat} (h : PFit W n) (o : OpM) : (stepR W o).1.items.length ≤ 100 + n ∧ (stepR W o).1.done.length ≤ 100 ∧ (stepR W o).1.sums.length ≤ 6 := by
  unfold stepR
  split
  · split <;> exact ⟨Nat.zero_le _, Nat.zero_le _, Nat.zero_le _⟩
  split
  · split
    · exact ⟨Nat.zero_le _, Nat.zero_le _, Nat.zero_le _⟩
    · split
      · exact ⟨Nat.zero_le _, Nat.zero_le _, Nat.zero_le _⟩
      · split
        · rename_i T hT
          refine ⟨of_small h (List.mem_of_getElem? hT), ?_, ?_⟩
          · rw [(ofM_more _ _ _ _).1]; exact Nat.zero_le _
          · rw [(ofM_more _ _ _ _).2]; exact Nat.zero_le _
        · exact ⟨Nat.zero_le _, Nat.zero_le _, Nat.zero_le _⟩
  split
  · split
    · exact ⟨Nat.zero_le _, Nat.zero_le _, Nat.zero_le _⟩
    · refine ⟨Nat.zero_le _, ?_, Nat.zero_le _⟩
      have := flush_len o.n.toNat W
      show (flushM o.n.toNat W).1.length ≤ 100
      omega
  split
  · exact ⟨Nat.zero_le _, Nat.zero_le _, Nat.zero_le _⟩
  split
  · exact ⟨Nat.zero_le _, Nat.zero_le _, Nat.zero_le _⟩
  split
  · exact ⟨Nat.zero_le _, Nat.zero_le _, Nat.le_refl _⟩
  · exact ⟨Nat.zero_le _, Nat.zero_le _, Nat.zero_le _⟩
theorem ans_small : ∀ (ops : List OpM) (W : PW) (n : Nat), PFit W n → n + ops.length ≤ 1900000 → ∀ A ∈ ansP W ops, A.items.length ≤ 2000000 ∧ A.done.length ≤ 2000000 ∧ A.sums.length ≤ 2000000
  | [], _, _, _, _ => by simp [ansP]
  | o :: r, W, n, h, hn => by
    intro A hA
    simp only [List.length_cons] at hn
    rcases List.mem_cons.1 hA with e | e
    · rw [e]
      have := step_small h o
      show (stepR W o).1.items.length ≤ 2000000 ∧ (stepR W o).1.done.length ≤ 2000000 ∧ (stepR W o).1.sums.length ≤ 2000000
      omega
    · exact ans_small r _ (n + 1) (pfit_step h o) (by omega) A e
theorem BookAt.within {w : World} {mb : Nat} {B : Book} (h : BookAt w mb B) : Within B (fun g => g < w.heap.size) := fun v hv g hg => by
  rcases hv with hv | hv | hv | hv
  · obtain ⟨L, xs, hL⟩ := marks_off h.am hv; exact (hL.lt g hg).2
  · obtain ⟨L, xs, hL⟩ := marks_off h.im hv; exact (hL.lt g hg).2
  · obtain ⟨L, xs, hL⟩ := marks_off h.dm hv; exact (hL.lt g hg).2
  · obtain ⟨L, xs, hL⟩ := marks_off h.sm hv; exact (hL.lt g hg).2
theorem slok_of {w : World} {base mb : Nat} {As : List AnsM} {sl : List Sl3} (hit : ItemsAt w base As sl) (hb : mb ≤ base) (ha : RowsApart sl) (hs : ∀ A ∈ As, A.items.length ≤ 2000000 ∧ A.done.length ≤ 2000000 ∧ A.sums.length ≤ 2000000) : SlOk w mb As sl :=
  ⟨hit.1, fun j h => (hit.at j h).base hb, ha, hs⟩
theorem items_base {w : World} {base : Nat} {As : List AnsM} {sl : List Sl3} (hit : ItemsAt w base As sl) {g : Nat} (hp : Pend sl 0 g) : base ≤ g ∧ g < w.heap.size := by
  obtain ⟨j, hj, _, hg⟩ := hp
  have hr := hit.at j (by rw [← hit.1]; exact hj)
  rcases hg with hg | hg | hg
  · exact hr.1.lt g hg
  · exact hr.2.1.lt g hg
  · exact hr.2.2.lt g hg
theorem SlOk.bchg {mb : Nat} {L : Nat → Prop} {w w' : World} {As : List AnsM} {sl : List Sl3} (h : SlOk w mb As sl) (hc : BChg mb L w w') (hl : ∀ g, Pend sl 0 g → ¬ L g) : SlOk w' mb As sl := by
  refine ⟨h.len, fun j hj => ?_, h.apart, h.small⟩
  have hr := h.rows j hj
  have hj' : j < sl.length := by rw [h.len]; exact hj
  exact ⟨row_bchg hr.1 hc (by decide) (fun g e => hl g ⟨j, hj', Nat.zero_le _, Or.inl e⟩), row_bchg hr.2.1 hc (by decide) (fun g e => hl g ⟨j, hj', Nat.zero_le _, Or.inr (Or.inl e)⟩), row_bchg hr.2.2 hc (by decide) (fun g e => hl g ⟨j, hj', Nat.zero_le _, Or.inr (Or.inr e)⟩)⟩
/-- where Fresh stands between two rounds. -/
structure FreshAt (w wr : World) (mb go gp : Nat) (xs ys : List OpM) (B : Book) (i : Nat) : Prop where
  book : BookAt wr mb B
  ho : HandedAt wr go xs
  hp : HandedAt wr gp ys
  chg : Chg nobody w wr
  og : go < mb
  pg : gp < mb
  mw : w.heap.size ≤ mb
  la : B.A.length = 8 * i
  li : B.I.length = 4 * i * (xs.length + ys.length)
  ld : B.D.length = 4 * i * (xs.length + ys.length)
  ls : B.S.length = 4 * i * (xs.length + ys.length)
/-- a book with nothing in it. -/
def book0 : Book := ⟨[], none, 0, [], none, 0, [], none, 0, [], none, 0⟩
theorem book0_at {w : World} {mb : Nat} (h : w.heap[mb]? = some (.cells #[.slice none 0 0, .slice none 0 0, .slice none 0 0, .slice none 0 0] 58)) : BookAt w mb book0 :=
  ⟨h, World.ownsRow_nil _ _ _ _, World.ownsRow_nil _ _ _ _, World.ownsRow_nil _ _ _ _, World.ownsRow_nil _ _ _ _, fun i hi => by simp [book0] at hi, fun i hi => by simp [book0] at hi, fun i hi => by simp [book0] at hi, fun i hi => by simp [book0] at hi, rfl, rfl, rfl, rfl⟩
end Go.Proofs.YtkfjafndplmdkaaGreat
namespace Go.Proofs.YtkfjafndplmdkaaGreat
open Go.RowKit Go.Sort
set_option maxRecDepth 100000 in
set_option maxHeartbeats 4000000 in
theorem fresh_walk {w : World} {A C : Value} {xs ys : List OpM} (hA : SrcOps w A xs) (hC : SrcOps w C ys) (hxo : ∀ o ∈ xs, o.ok) (hyo : ∀ o ∈ ys, o.ok) (hx : xs.length ≤ 1048576) (hy : ys.length ≤ 1048576) :
    Calls Tryz.prog 13 #[A, C] w fun e w' => e = .returned (.bool true) ∧ Chg nobody w w' := by
  obtain ⟨aa, ca, rfl⟩ := hA.len
  obtain ⟨ac, cc, rfl⟩ := hC.len
  have HH : Hid (SrcOps w (.slice aa xs.length ca) xs ∧ SrcOps w (.slice ac ys.length cc) ys ∧ (∀ o ∈ xs, o.ok) ∧ (∀ o ∈ ys, o.ok)) := ⟨hA, hC, hxo, hyo⟩
  clear hA hC hxo hyo
  go_enter Tryz.func13, Tryz.ntmps13
  go_wp2_with fail
  refine (handed_any HH.out.1 (by omega)).mono ?_
  rintro e w1 ⟨go, rfl, ho, hgo, hgo', hc1⟩
  have H1 : Hid (HandedAt w1 go xs ∧ w.heap.size ≤ go ∧ go < w1.heap.size ∧ Chg nobody w w1) := ⟨ho, hgo, hgo', hc1⟩
  clear ho hgo hgo' hc1
  go_wp2_with fail
  refine (handed_any (HH.out.2.1.chg H1.out.2.2.2) (by omega)).mono ?_
  rintro e w2 ⟨gp, rfl, hp, hgp, hgp', hc2⟩
  have H2 : Hid (HandedAt w2 gp ys ∧ w1.heap.size ≤ gp ∧ gp < w2.heap.size ∧ Chg nobody w1 w2) := ⟨hp, hgp, hgp', hc2⟩
  clear hp hgp hgp' hc2
  go_wp2_with fail
  refine name_wz ?_
  intro w3 hw3
  have HF : Hid (FreshAt w w3 w2.heap.size go gp xs ys book0 0) := by
    have hc3 : Chg nobody w2 w3 := by rw [hw3]; exact (Chg.refl _ _).alloc _
    have hb3 : w3.heap[w2.heap.size]? = some (.cells #[.slice none 0 0, .slice none 0 0, .slice none 0 0, .slice none 0 0] 58) := by rw [hw3]; exact (MapKept.heap_alloc _ _).1
    obtain ⟨a1, a2, a3, a4⟩ := H1.out
    obtain ⟨b1, b2, b3, b4⟩ := H2.out
    have hsz := b4.size
    exact ⟨book0_at hb3, (a1.chg b4 (fun h => h)).chg hc3 (fun h => h), b1.chg hc3 (fun h => h), (a4.trans b4).trans hc3, by omega, b3, by omega, rfl, by simp [book0], by simp [book0], by simp [book0]⟩
  clear hw3 H1 H2
  generalize w2.heap.size = mb at *
  go_loopw [8, 9, 10, 11, 12, 13] (fun i _ _ _ _ _ wr => ∃ (k : Nat) (B : Book), k ≤ 2 ∧ i = .int .i64 k ∧ FreshAt w wr mb go gp xs ys B k) (fun i _ _ _ _ _ _ => 2 - (intOf i).toNat)
  case atStart => exact ⟨0, book0, by omega, rfl, HF.out⟩
  case round =>
    obtain ⟨k, B, hk, rfl, hF⟩ := hrel
    obtain ⟨wo, rfl⟩ : ∃ x, x = wr := ⟨_, rfl⟩
    have HK : Hid (FreshAt w wo mb go gp xs ys B k) := hF
    clear hF
    by_cases hlt : k < 2
    · go_wp2_with fail
      refine (run_src2 HK.out.ho.src HH.out.2.2.1 (by omega)).mono ?_
      rintro e v1 ⟨ga, ka, sla, rfl, hra, hia, hc1, hpa⟩
      have R1 : Hid (v1.ownsRow wo.heap.size 36 7 (.slice (some ⟨ga, 0, none⟩) xs.length ka) xs.length (ansCells (ansP p0 xs) sla) ∧ ItemsAt v1 wo.heap.size (ansP p0 xs) sla ∧ Chg nobody wo v1 ∧ RowsApart sla) := ⟨hra, hia, hc1, hpa⟩
      clear hra hia hc1 hpa
      go_wp2_with fail
      refine (run_src2 (HK.out.hp.chg R1.out.2.2.1 (fun h => h)).src HH.out.2.2.2 (by omega)).mono ?_
      rintro e v2 ⟨gb, kb, slb, rfl, hrb, hib, hc2, hpb⟩
      have R2 : Hid (v2.ownsRow v1.heap.size 36 7 (.slice (some ⟨gb, 0, none⟩) ys.length kb) ys.length (ansCells (ansP p0 ys) slb) ∧ ItemsAt v2 v1.heap.size (ansP p0 ys) slb ∧ Chg nobody v1 v2 ∧ RowsApart slb) := ⟨hrb, hib, hc2, hpb⟩
      clear hrb hib hc2 hpb
      have HC2 : Hid (Chg nobody w v2) := (HK.out.chg.trans R1.out.2.2.1).trans R2.out.2.2.1
      go_wp2_with fail
      refine (refRun_src (HH.out.1.chg HC2.out) (by omega)).mono ?_
      rintro e v3 ⟨vr, rfl, slc, hrc, hic, hc3⟩
      have HS := same_any (w := v3) (g := ga) (c := ka) (v := vr) (As := ansP p0 xs) (sla := sla) (slb := slc) (base := wo.heap.size) (base' := v2.heap.size) (by rw [ansP_len]; omega) (by rw [ansP_len]; exact ownsRow_chg (ownsRow_chg R1.out.1 R2.out.2.2.1 (fun _ _ h => h)) hc3 (fun _ _ h => h)) ((R1.out.2.1.keep R2.out.2.2.1 (fun _ _ _ _ _ _ h => h)).keep hc3 (fun _ _ _ _ _ _ h => h)) (by rw [ansP_len]; exact hrc) hic
      rw [ansP_len] at HS
      have HC3 : Hid (Chg nobody v2 v3) := hc3
      clear hrc hic hc3
      go_wp2_with fail
      refine HS.mono ?_
      rintro e v4 ⟨rfl, hc4⟩
      have HC4 : Hid (Chg nobody v2 v4) := HC3.out.trans hc4
      clear hc4 HS HC3
      go_wp2_with fail
      refine (refRun_src (HH.out.2.1.chg (HC2.out.trans HC4.out)) (by omega)).mono ?_
      rintro e v5 ⟨vq, rfl, sld, hrd, hid', hc5⟩
      have HT := same_any (w := v5) (g := gb) (c := kb) (v := vq) (As := ansP p0 ys) (sla := slb) (slb := sld) (base := v1.heap.size) (base' := v4.heap.size) (by rw [ansP_len]; omega) (by rw [ansP_len]; exact ownsRow_chg (ownsRow_chg R2.out.1 HC4.out (fun _ _ h => h)) hc5 (fun _ _ h => h)) ((R2.out.2.1.keep HC4.out (fun _ _ _ _ _ _ h => h)).keep hc5 (fun _ _ _ _ _ _ h => h)) (by rw [ansP_len]; exact hrd) hid'
      rw [ansP_len] at HT
      have HC5 : Hid (Chg nobody v2 v5) := HC4.out.trans hc5
      clear hrd hid' hc5 HC4
      go_wp2_with fail
      refine HT.mono ?_
      rintro e v6 ⟨rfl, hc6⟩
      have HC6 : Hid (Chg nobody v2 v6) := HC5.out.trans hc6
      clear hc6 HT HC5
      have hb6 := HK.out.book.keep ((R1.out.2.2.1.trans R2.out.2.2.1).trans HC6.out) (fun _ _ h => h)
      have hmw : mb ≤ wo.heap.size := Nat.le_of_lt (lt_of_block HK.out.book.wb)
      have s1 := R1.out.2.2.1.size
      have s2 := R2.out.2.2.1.size
      have s6 := HC6.out.size
      have la := HK.out.la
      have li := HK.out.li
      have ld := HK.out.ld
      have ls := HK.out.ls
      have hb4 : 4 * k * (xs.length + ys.length) ≤ 8 * (xs.length + ys.length) := Nat.mul_le_mul_right _ (by omega)
      have c26 : Chg nobody v1 v6 := R2.out.2.2.1.trans HC6.out
      have HSa : Hid (SlOk v6 mb (ansP p0 xs) sla) := slok_of (R1.out.2.1.keep c26 (fun _ _ _ _ _ _ h => h)) hmw R1.out.2.2.2 (ans_small xs p0 0 p0_fit (by omega))
      have hra6 := ownsRow_chg R1.out.1 c26 (fun _ _ h => h)
      have HAns := answers_any mb xs.length (.slice (some ⟨ga, 0, none⟩) xs.length ka) (ansP p0 xs) sla B v6 (ansP_len _ _) hb6 (ownsRow_base hra6 hmw) HSa.out (by omega) (by omega) (by omega) (by omega) (by omega) (fun v hv g e e' => by have h1 := HK.out.book.within v (Or.inl hv) g e'; have h2 := (R1.out.1.lt g e).1; omega) (fun v hv g e e' => by have h1 := HK.out.book.within v hv g e; have h2 := (items_base R1.out.2.1 e').1; omega)
      have HW6 : Hid (BookAt v6 mb B ∧ mb ≤ wo.heap.size ∧ wo.heap.size ≤ v1.heap.size ∧ v1.heap.size ≤ v2.heap.size ∧ v2.heap.size ≤ v6.heap.size) := ⟨hb6, hmw, s1, s2, s6⟩
      clear hb6 hra6 c26 s1 s2 s6 hmw
      go_wp2_with fail
      refine HAns.mono ?_
      rintro e v7 ⟨rfl, B1, hB1, hc7, hn7, l1, l2, l3, l4⟩
      have H7 : Hid (BookAt v7 mb B1 ∧ BChg mb (fun g => AnyBlk sla g ∨ (Value.slice (some ⟨ga, 0, none⟩) xs.length ka).ownBlock = some g) v6 v7 ∧ ∀ P, Within B P → Within B1 (fun g => P g ∨ (AnyBlk sla g ∨ (Value.slice (some ⟨ga, 0, none⟩) xs.length ka).ownBlock = some g) ∨ v6.heap.size ≤ g)) := ⟨hB1, hc7, hn7⟩
      clear hB1 hc7 hn7 HAns
      have hlo : ∀ g, (AnyBlk sla g ∨ (Value.slice (some ⟨ga, 0, none⟩) xs.length ka).ownBlock = some g) → g < v1.heap.size := fun g hg => by
        rcases hg with hg | hg
        · exact (items_base R1.out.2.1 hg).2
        · exact (R1.out.1.lt g hg).2
      have hW1 : Within B1 (fun g => g < v1.heap.size ∨ v6.heap.size ≤ g) := fun v hv g hg => by
        rcases H7.out.2.2 _ HK.out.book.within v hv g hg with h | h | h
        · have := HW6.out.2.2.1; exact Or.inl (by omega)
        · exact Or.inl (hlo g h)
        · exact Or.inr h
      have hlt2 : ∀ g, (Pend slb 0 g ∨ (Value.slice (some ⟨gb, 0, none⟩) ys.length kb).ownBlock = some g) → v1.heap.size ≤ g ∧ g < v2.heap.size := fun g hg => by
        rcases hg with hg | hg
        · exact items_base R2.out.2.1 hg
        · exact R2.out.1.lt g hg
      have hm1 : mb ≤ v1.heap.size := by have := HW6.out; omega
      have hsb7 : SlOk v7 mb (ansP p0 ys) slb := (slok_of (R2.out.2.1.keep HC6.out (fun _ _ _ _ _ _ h => h)) hm1 R2.out.2.2.2 (ans_small ys p0 0 p0_fit (by omega))).bchg H7.out.2.1 (fun g hg hl => by have := hlo g hl; have := (hlt2 g (Or.inl hg)).1; omega)
      have hrb7 := row_bchg (ownsRow_chg R2.out.1 HC6.out (fun _ _ h => h)) H7.out.2.1 (by decide) (fun g hg hl => by have := hlo g hl; have := (hlt2 g (Or.inr hg)).1; omega)
      have HBns := answers_any mb ys.length (.slice (some ⟨gb, 0, none⟩) ys.length kb) (ansP p0 ys) slb B1 v7 (ansP_len _ _) H7.out.1 (ownsRow_base hrb7 hm1) hsb7 (by omega) (by omega) (by omega) (by omega) (by omega) (fun v hv g e e' => by have h1 := hW1 v (Or.inl hv) g e'; have h2 := hlt2 g (Or.inr e); have := HW6.out.2.2.2.2; omega) (fun v hv g e e' => by have h1 := hW1 v hv g e; have h2 := hlt2 g (Or.inl e'); have := HW6.out.2.2.2.2; omega)
      clear hsb7 hrb7 hlo hW1 hlt2 hm1
      go_wp2_with fail
      refine HBns.mono ?_
      rintro e v8 ⟨rfl, B2, hB2, hc8, _, m1, m2, m3, m4⟩
      have HFin : Hid (FreshAt w v8 mb go gp xs ys B2 (k + 1)) := by
        have c6 : Chg nobody wo v6 := (R1.out.2.2.1.trans R2.out.2.2.1).trans HC6.out
        have c8 : Chg (fun b => mb ≤ b) v6 v8 := H7.out.2.1.low.trans hc8.low
        have e4 : 4 * (k + 1) * (xs.length + ys.length) = 4 * k * (xs.length + ys.length) + 4 * (xs.length + ys.length) := by rw [Nat.mul_add 4 k 1, Nat.add_mul]
        have hog := HK.out.og
        have hpg := HK.out.pg
        have hmw := HK.out.mw
        exact ⟨hB2, (HK.out.ho.chg c6 (fun h => h)).chg c8 (by omega), (HK.out.hp.chg c6 (fun h => h)).chg c8 (by omega), (HK.out.chg.trans c6).andThen c8 (fun i hi (h : mb ≤ i) => by omega), hog, hpg, hmw, by omega, by rw [e4]; omega, by rw [e4]; omega, by rw [e4]; omega⟩
      have HSt := mstill_any mb B2 v8 hB2 (by omega) (by omega) (by omega) (by omega)
      clear hB2 hc8 HBns
      go_wp2_with fail
      refine HSt.mono ?_
      rintro e w' ⟨rfl, hw'⟩
      replace hw' := hw'.symm
      subst hw'
      clear HSt
      go_wp2
      go_roundw
      case rel => exact ⟨k + 1, B2, by omega, by go_num, HFin.out⟩
      case measure => simp [intOf]; omega
    · go_wp2_with fail
      refine (lstill_any HK.out.ho (HH.out.1.chg HK.out.chg) (by omega)).mono ?_
      rintro e v1 ⟨rfl, m, hm⟩
      have hcm : Chg nobody wo v1 := by rw [hm]; exact (Chg.refl _ _).drewN m
      have HM : Hid (Chg nobody wo v1) := hcm
      clear hm hcm
      go_wp2_with fail
      refine (lstill_any (HK.out.hp.chg HM.out (fun h => h)) (HH.out.2.1.chg (HK.out.chg.trans HM.out)) (by omega)).mono ?_
      rintro e v2 ⟨rfl, m2, hm2⟩
      have HM2 : Hid (Chg nobody v1 v2) := by rw [hm2]; exact (Chg.refl _ _).drewN m2
      clear hm2
      go_wp2
      go_ret
      exact ⟨rfl, (HK.out.chg.trans HM.out).trans HM2.out⟩
end Go.Proofs.YtkfjafndplmdkaaGreat
