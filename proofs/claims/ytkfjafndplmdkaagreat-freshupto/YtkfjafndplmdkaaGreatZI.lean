import Derived.Test.YtkfjafndplmdkaaGreatTN
import Derived.Laws.MakeOwn
import Derived.Test.YtkfjafndplmdkaaGreatZG
import Derived.Test.YtkfjafndplmdkaaGreatTM
import Derived.Test.YtkfjafndplmdkaaGreatRZ
namespace Go.Proofs.YtkfjafndplmdkaaGreat
open Go.RowKit Go.Sort
/-- no two answers share a list. -/
def RowsApart (sl : List Sl3) : Prop := sl.Pairwise (fun x y => ∀ g, ((slV x.1).ownBlock = some g → (slV y.1).ownBlock ≠ some g) ∧ ((slV x.2.1).ownBlock = some g → (slV y.2.1).ownBlock ≠ some g) ∧ ((slV x.2.2).ownBlock = some g → (slV y.2.2).ownBlock ≠ some g))
theorem zip_of {As : List AnsM} {sl : List Sl3} (h : sl.length = As.length) {x : Sl3} (hx : x ∈ sl) : ∃ A, (A, x) ∈ As.zip sl := by
  obtain ⟨i, hi, rfl⟩ := List.getElem_of_mem hx
  refine ⟨As[i]'(by omega), ?_⟩
  have e : (As.zip sl)[i]'(by simp; omega) = (As[i]'(by omega), sl[i]) := List.getElem_zip
  rw [← e]
  exact List.getElem_mem _
theorem rows_apart_snoc {w w2 w4 : World} {base : Nat} {As : List AnsM} {sl : List Sl3} {A : AnsM} {x : Sl3} (h : RowsApart sl) (hit : ItemsAt w base As sl) (hr : RowsOf w4 w2.heap.size A x) (hz : w.heap.size ≤ w2.heap.size) : RowsApart (sl ++ [x]) := by
  refine List.pairwise_append.2 ⟨h, List.pairwise_singleton _ _, fun y hy z hz' g => ?_⟩
  rw [List.mem_singleton.1 hz']
  obtain ⟨B, hB⟩ := zip_of hit.1 hy
  have hy2 := hit.2 _ hB
  refine ⟨fun e1 e2 => ?_, fun e1 e2 => ?_, fun e1 e2 => ?_⟩
  · have := (hy2.1.lt g e1).2; have := (hr.1.lt g e2).1; omega
  · have := (hy2.2.1.lt g e1).2; have := (hr.2.1.lt g e2).1; omega
  · have := (hy2.2.2.lt g e1).2; have := (hr.2.2.lt g e2).1; omega
set_option maxRecDepth 100000 in
set_option maxHeartbeats 1000000 in
theorem run_apart (b off cap : Nat) (ops : List OpM) (w : World) (hops : OpsAt w b off ops) (hbl : b < w.heap.size) (hok : ∀ o ∈ ops, o.ok) (hn : ops.length ≤ 10000000) :
    Calls Tryz.prog 16 #[.slice (some ⟨b, off, none⟩) ops.length cap] w fun e w' => ∃ (g c : Nat) (sl : List Sl3), e = .returned (.slice (some ⟨g, 0, none⟩) ops.length c) ∧ w'.ownsRow w.heap.size 36 7 (.slice (some ⟨g, 0, none⟩) ops.length c) ops.length (ansCells (ansP p0 ops) sl) ∧ ItemsAt w' w.heap.size (ansP p0 ops) sl ∧ Chg nobody w w' ∧ RowsApart sl := by
  obtain ⟨i0, hi, hz0, hz1, hz2⟩ := info_parts infoAns
  have HO : Hid (OpsAt w b off ops ∧ ∀ o ∈ ops, o.ok) := ⟨hops, hok⟩
  clear hops hok
  go_enter Tryz.func16, Tryz.ntmps16
  go_wp2_with fail
  refine (playerNew_spec _).mono ?_
  rintro e w1 ⟨st1, rfl, hI1, hs1, hc1, hb1⟩
  have H1 : Hid (Inv w1 st1 0 ∧ Rel st1 p0 ∧ Chg nobody w w1 ∧ ∀ b ∈ st1.blocks, w.heap.size ≤ b) := ⟨hI1, hs1, hc1, hb1⟩
  have hsz1 : w.heap.size ≤ w1.heap.size := hc1.size
  clear hI1 hs1 hc1 hb1
  go_wp2_with (at_make; refine wpList_make_own _ rfl _ _ 26 rfl w.heap.size 36 i0 (ansV 0 0 false ⟨#[]⟩ (.slice none 0 0)) 7 Tryz.underlying26 hi hz0 hz1 _ _ _ ops.length rfl rfl rfl (by rw [hz2]; omega) (by unfold maxLen; omega) hsz1 ?_; intro w2 hrow2 hg2)
  go_loopw [4, 13] (fun v i wr => ∃ (j : Nat) (st : PSt) (sl : List Sl3), j ≤ ops.length ∧ i = .int .i64 j ∧ st.p = st1.p ∧ Inv wr st j ∧ Rel st (stP p0 (ops.take j)) ∧ wr.ownsRow w.heap.size 36 7 v j (ansCells (ansP p0 (ops.take j)) sl) ∧ ItemsAt wr w.heap.size (ansP p0 (ops.take j)) sl ∧ Chg nobody w wr ∧ (∀ b ∈ st.blocks, w.heap.size ≤ b) ∧ v ≠ .slice none 0 0 ∧ RowsApart sl)
    (fun _ i _ => ops.length - (intOf i).toNat)
  case atStart =>
    obtain ⟨hI1, hs1, hc1, hb1⟩ := H1.out
    have hcg : Chg nobody w1 w2 := (Chg.refl _ _).grown hg2 (fun k e => by cases e)
    exact ⟨0, st1, [], Nat.zero_le _, rfl, rfl, hI1.chg hcg (fun _ _ h => h) (Nat.le_refl _), hs1, hrow2, ⟨rfl, by simp⟩, hc1.trans hcg, hb1, by simp, List.Pairwise.nil⟩
  case round =>
    obtain ⟨j, st, sl, hj, rfl, hp, hI, hs, hrow, hit, hc, hb, hnn, hpw⟩ := hrel
    have HPW : Hid (RowsApart sl) := hpw
    clear hpw
    have HN : Hid (u4 ≠ .slice none 0 0) := hnn
    clear hnn
    by_cases hlt : j < ops.length
    · obtain ⟨hops, hok⟩ := HO.out
      obtain ⟨o0, o1, o2, o3, o4⟩ := hops j hlt
      have hcl : ∀ i, wr.cell? ⟨b, i, none⟩ = w.cell? ⟨b, i, none⟩ := fun i => hc.below.cell (p := ⟨b, i, none⟩) hbl
      rw [← hcl] at o0 o1 o2 o3 o4
      have hoo := hok _ (List.getElem_mem hlt)
      have HG : Hid (ops.take (j + 1) = ops.take j ++ [ops[j]]) := List.take_succ_eq_append_getElem hlt
      generalize ops[j] = o at *
      have HP := play_any (o := o) (hI.chg ((Chg.refl nobody wr).alloc (.cells #[.int .i64 o.kind, .int .i64 o.t, .string o.key, .string o.val, .int .i64 o.n] 30)) (fun _ _ h => h) (Nat.le_refl _)) hs (by omega) hoo
      rw [hp] at HP
      have HJ : Hid (st.p = st1.p ∧ Inv wr st j ∧ Rel st (stP p0 (ops.take j)) ∧ wr.ownsRow w.heap.size 36 7 u4 j (ansCells (ansP p0 (ops.take j)) sl) ∧ ItemsAt wr w.heap.size (ansP p0 (ops.take j)) sl ∧ Chg nobody w wr ∧ ∀ b ∈ st.blocks, w.heap.size ≤ b) := ⟨hp, hI, hs, hrow, hit, hc, hb⟩
      clear hp hI hs hrow hit hc hb hcl hops hok hoo
      go_wp2_with fail
      refine HP.mono ?_
      rintro e w4 ⟨st', q1, q2, q3, q4, q5, a, k, c, a2, k2, c2, a3, k3, c3, rfl, hrw, hrw2, hrw3, hg, hg2, hg3⟩
      obtain ⟨hp, hI, hs, hrow, hit, hc, hb⟩ := HJ.out
      have hcw : Chg nobody wr (wr.alloc (.cells #[.int .i64 o.kind, .int .i64 o.t, .string o.key, .string o.val, .int .i64 o.n] 30)) := (Chg.refl nobody wr).alloc _
      have hc4 : Chg (fun b => b ∈ st.blocks) wr w4 := (hcw.any _).andThen q4 (fun _ _ h => h)
      have hrow4 : w4.ownsRow w.heap.size 36 7 u4 j (ansCells (ansP p0 (ops.take j)) sl) := ownsRow_chg hrow hc4 (hI.row hrow (by decide))
      have hit4 : ItemsAt w4 w.heap.size (ansP p0 (ops.take j)) sl := hit.keep hc4 (fun p hp => hI.rows (hit.2 p hp))
      have hcc4 : Chg nobody w w4 := hc.andThen hc4 (fun i hi h => by have := hb i h; omega)
      have hb4 : ∀ b ∈ st'.blocks, w.heap.size ≤ b := fun x hx => by
        rcases q5 x hx with h | h
        · exact hb x h
        · have := hcw.size; have := hc.size; omega
      have hs4 : Rel st' (stP p0 (ops.take (j + 1))) := by rw [HG.out, stP_snoc]; exact q3
      have ha4 : ansP p0 (ops.take (j + 1)) = ansP p0 (ops.take j) ++ [(stepP (stP p0 (ops.take j)) o).1] := by rw [HG.out, ansP_snoc]
      have hrw4 : RowsOf w4 w.heap.size (stepP (stP p0 (ops.take j)) o).1 ((a, k, c), (a2, k2, c2), (a3, k3, c3)) := ⟨ownsRow_base hrw (by have := hcw.size; have := hc.size; omega), ownsRow_base hrw2 (by have := hcw.size; have := hc.size; omega), ownsRow_base hrw3 (by have := hcw.size; have := hc.size; omega)⟩
      have hle4 : w.heap.size ≤ w4.heap.size := hcc4.size
      have HPX : Hid (RowsApart (sl ++ [((a, k, c), (a2, k2, c2), (a3, k3, c3))])) := rows_apart_snoc HPW.out hit ⟨hrw, hrw2, hrw3⟩ hcw.size
      have HK : Hid (st'.p = st1.p ∧ Inv w4 st' (j + 1) ∧ Rel st' (stP p0 (ops.take (j + 1))) ∧ ItemsAt w4 w.heap.size (ansP p0 (ops.take j)) sl ∧ Chg nobody w w4 ∧ (∀ b ∈ st'.blocks, w.heap.size ≤ b) ∧ ansP p0 (ops.take (j + 1)) = ansP p0 (ops.take j) ++ [(stepP (stP p0 (ops.take j)) o).1] ∧ RowsOf w4 w.heap.size (stepP (stP p0 (ops.take j)) o).1 ((a, k, c), (a2, k2, c2), (a3, k3, c3))) := ⟨q1.trans hp, q2, hs4, hit4, hcc4, hb4, ha4, hrw4⟩
      clear q1 q2 q3 q4 q5 hrw hrw2 hrw3 hg hg2 hg3 hp hI hs hrow hit hc hb hcw hc4 hit4 hcc4 hb4 hs4 ha4 hrw4 HP HJ o0 o1 o2 o3 o4
      generalize (stepP (stP p0 (ops.take j)) o).1 = A at *
      go_wp2_with (at_builtin; refine wpList_append_own _ rfl _ _ 26 rfl w.heap.size 36 i0 (ansV 0 0 false ⟨#[]⟩ (.slice none 0 0)) 7 112 Tryz.underlying26 hi hz0 hz1 hz2 rfl (by decide) _ _ _ rfl (hrow4.alloc _) ⟨w4.heap.size, 0, none⟩ 1 1 (ansCell (A, ((a, k, c), (a2, k2, c2), (a3, k3, c3)))) rfl rfl (cells_new w4 #[.int .i64 A.code, .int .i64 A.number, .bool A.found, .string A.value, .slice a k c, .slice a2 k2 c2, .slice a3 k3 c3] 36) (by simp [ansCell, Value.oneCell']) (by unfold maxLen; omega) (by omega) (by simp; omega) ?_; intro v' w5 hown' hg5 hnil; have HV : Hid (v' ≠ .slice none 0 0) := (fun e => HN.out (hnil.1 e).1); clear hnil; go_frame)
      go_roundw
      case rel =>
        obtain ⟨hp, hI, hs, hit, hc, hb, ha, hrw⟩ := HK.out
        have hc5 : Chg (fun g => u4.ownBlock = some g) w4 w5 := ((Chg.refl _ _).alloc _).grown hg5 (fun g e => Or.inl e)
        have hno : ∀ x ∈ st'.blocks, ¬ u4.ownBlock = some x := fun x hx e => hI.row hrow4 (by decide) x e hx
        refine ⟨j + 1, st', sl ++ [((a, k, c), (a2, k2, c2), (a3, k3, c3))], by omega, by go_num, hp, hI.chg hc5 hno (Nat.le_refl _), hs, ?_, ?_, hc.andThen hc5 (fun i hi e => by have := (hrow4.lt i e).1; omega), hb, HV.out, HPX.out⟩
        · rw [ha, ansCells_snoc hit.1]
          exact hown'
        · rw [ha]
          refine ⟨by simp [hit.1], fun q hq => ?_⟩
          rw [List.zip_append hit.1.symm] at hq
          rcases List.mem_append.1 hq with hq | hq
          · exact (hit.2 q hq).chg hc5 (rows_apart (hit.2 q hq) hrow4)
          · simp only [List.zip_cons_cons, List.zip_nil_right, List.mem_singleton] at hq
            subst hq
            exact hrw.chg hc5 (rows_apart hrw hrow4)
      case measure => simp [intOf]; omega
    · go_wp2
      go_ret
      have hjl : j = ops.length := by omega
      subst hjl
      rw [List.take_length] at hrow hit
      rcases hrow.2 with ⟨e0, _⟩ | ⟨g, cap', cur, rfl, _⟩
      · exact absurd e0 HN.out
      · exact ⟨g, cap', sl, rfl, hrow, hit, hc, HPW.out⟩
theorem run_src2 {w : World} {v : Value} {ops : List OpM} (h : SrcOps w v ops) (hok : ∀ o ∈ ops, o.ok) (hn : ops.length ≤ 10000000) :
    Calls Tryz.prog 16 #[v] w fun e w' => ∃ (g c : Nat) (sl : List Sl3), e = .returned (.slice (some ⟨g, 0, none⟩) ops.length c) ∧ w'.ownsRow w.heap.size 36 7 (.slice (some ⟨g, 0, none⟩) ops.length c) ops.length (ansCells (ansP p0 ops) sl) ∧ ItemsAt w' w.heap.size (ansP p0 ops) sl ∧ Chg nobody w w' ∧ RowsApart sl := by
  rcases h.at with rfl | ⟨b, off, cap, rfl, hcap, hops, hbl⟩
  · obtain ⟨ad, cap, rfl⟩ := h.len
    refine (run_zero ad cap w).mono ?_
    rintro e w' ⟨g, c, sl, rfl, h1, h2, h3⟩
    have e0 : sl = [] := List.eq_nil_of_length_eq_zero (by rw [h2.1]; rfl)
    subst e0
    exact ⟨g, c, [], rfl, h1, h2, h3, List.Pairwise.nil⟩
  · exact run_apart b off cap ops w hops hbl hok hn
end Go.Proofs.YtkfjafndplmdkaaGreat
namespace Go.Proofs.YtkfjafndplmdkaaGreat
open Go.RowKit Go.Sort
/-- where the book's lists lie. -/
def Within (B : Book) (P : Nat → Prop) : Prop := ∀ v, (v ∈ B.A ∨ v ∈ B.I ∨ v ∈ B.D ∨ v ∈ B.S) → ∀ g, v.ownBlock = some g → P g
theorem Within.addI {B : Book} {P Q : Nat → Prop} {l l1 l2 l3 : Value} {ia : Option Addr} {ic : Nat} (h : Within B P) (hp : ∀ g, P g → Q g) (hn : ∀ v ∈ [l, l1, l2, l3], ∀ g, v.ownBlock = some g → Q g) : Within { B with I := B.I ++ [l, l1, l2, l3], ia := ia, ic := ic } Q := fun v hv g hg => by
  rcases hv with hv | hv | hv | hv
  · exact hp g (h v (Or.inl hv) g hg)
  · rcases List.mem_append.1 (show v ∈ B.I ++ [l, l1, l2, l3] from hv) with hv | hv
    · exact hp g (h v (Or.inr (Or.inl hv)) g hg)
    · exact hn v hv g hg
  · exact hp g (h v (Or.inr (Or.inr (Or.inl hv))) g hg)
  · exact hp g (h v (Or.inr (Or.inr (Or.inr hv))) g hg)
theorem Within.addD {B : Book} {P Q : Nat → Prop} {l l1 l2 l3 : Value} {ia : Option Addr} {ic : Nat} (h : Within B P) (hp : ∀ g, P g → Q g) (hn : ∀ v ∈ [l, l1, l2, l3], ∀ g, v.ownBlock = some g → Q g) : Within { B with D := B.D ++ [l, l1, l2, l3], da := ia, dc := ic } Q := fun v hv g hg => by
  rcases hv with hv | hv | hv | hv
  · exact hp g (h v (Or.inl hv) g hg)
  · exact hp g (h v (Or.inr (Or.inl hv)) g hg)
  · rcases List.mem_append.1 (show v ∈ B.D ++ [l, l1, l2, l3] from hv) with hv | hv
    · exact hp g (h v (Or.inr (Or.inr (Or.inl hv))) g hg)
    · exact hn v hv g hg
  · exact hp g (h v (Or.inr (Or.inr (Or.inr hv))) g hg)
theorem Within.addS {B : Book} {P Q : Nat → Prop} {l l1 l2 l3 : Value} {ia : Option Addr} {ic : Nat} (h : Within B P) (hp : ∀ g, P g → Q g) (hn : ∀ v ∈ [l, l1, l2, l3], ∀ g, v.ownBlock = some g → Q g) : Within { B with S := B.S ++ [l, l1, l2, l3], sa := ia, sc := ic } Q := fun v hv g hg => by
  rcases hv with hv | hv | hv | hv
  · exact hp g (h v (Or.inl hv) g hg)
  · exact hp g (h v (Or.inr (Or.inl hv)) g hg)
  · exact hp g (h v (Or.inr (Or.inr (Or.inl hv))) g hg)
  · rcases List.mem_append.1 (show v ∈ B.S ++ [l, l1, l2, l3] from hv) with hv | hv
    · exact hp g (h v (Or.inr (Or.inr (Or.inr hv))) g hg)
    · exact hn v hv g hg
theorem Within.addA {B : Book} {P Q : Nat → Prop} {l l1 l2 l3 : Value} {ia : Option Addr} {ic : Nat} (h : Within B P) (hp : ∀ g, P g → Q g) (hn : ∀ v ∈ [l, l1, l2, l3], ∀ g, v.ownBlock = some g → Q g) : Within { B with A := B.A ++ [l, l1, l2, l3], aa := ia, ac := ic } Q := fun v hv g hg => by
  rcases hv with hv | hv | hv | hv
  · rcases List.mem_append.1 (show v ∈ B.A ++ [l, l1, l2, l3] from hv) with hv | hv
    · exact hp g (h v (Or.inl hv) g hg)
    · exact hn v hv g hg
  · exact hp g (h v (Or.inr (Or.inl hv)) g hg)
  · exact hp g (h v (Or.inr (Or.inr (Or.inl hv))) g hg)
  · exact hp g (h v (Or.inr (Or.inr (Or.inr hv))) g hg)
def slBlk (x : Sl3) (g : Nat) : Prop := (slV x.1).ownBlock = some g ∨ (slV x.2.1).ownBlock = some g ∨ (slV x.2.2).ownBlock = some g
/-- the lists that are still to come. -/
def Pend (sl : List Sl3) (i : Nat) (g : Nat) : Prop := ∃ j, ∃ h : j < sl.length, i ≤ j ∧ slBlk sl[j] g
/-- what is known of the lists of a row of answers. -/
structure SlOk (w : World) (mb : Nat) (As : List AnsM) (sl : List Sl3) : Prop where
  len : sl.length = As.length
  rows : ∀ j (h : j < As.length), RowsOf w mb As[j] (sl[j]'(by rw [len]; exact h))
  apart : RowsApart sl
  small : ∀ A ∈ As, A.items.length ≤ 2000000 ∧ A.done.length ≤ 2000000 ∧ A.sums.length ≤ 2000000
theorem SlOk.blk {w : World} {mb : Nat} {As : List AnsM} {sl : List Sl3} (h : SlOk w mb As sl) {j : Nat} (hj : j < sl.length) {g : Nat} (hg : slBlk sl[j] g) : mb ≤ g ∧ g < w.heap.size := by
  have hr := h.rows j (by rw [← h.len]; exact hj)
  rcases hg with hg | hg | hg
  · exact hr.1.lt g hg
  · exact hr.2.1.lt g hg
  · exact hr.2.2.lt g hg
theorem SlOk.pend {w : World} {mb : Nat} {As : List AnsM} {sl : List Sl3} (h : SlOk w mb As sl) {i g : Nat} (hp : Pend sl i g) : mb ≤ g ∧ g < w.heap.size := by
  obtain ⟨j, hj, _, hg⟩ := hp
  exact h.blk hj hg
/-- one list's three kinds are apart. -/
theorem SlOk.kinds {w : World} {mb : Nat} {As : List AnsM} {sl : List Sl3} (h : SlOk w mb As sl) {j : Nat} (hj : j < sl.length) (g : Nat) : ((slV sl[j].1).ownBlock = some g → (slV sl[j].2.1).ownBlock ≠ some g ∧ (slV sl[j].2.2).ownBlock ≠ some g) ∧ ((slV sl[j].2.1).ownBlock = some g → (slV sl[j].2.2).ownBlock ≠ some g) := by
  have hr := h.rows j (by rw [← h.len]; exact hj)
  exact ⟨fun e => ⟨rows_off hr.1 hr.2.1 (by decide) g e, rows_off hr.1 hr.2.2 (by decide) g e⟩, fun e => rows_off hr.2.1 hr.2.2 (by decide) g e⟩
theorem SlOk.other {w : World} {mb : Nat} {As : List AnsM} {sl : List Sl3} (h : SlOk w mb As sl) {i j : Nat} (hi : i < sl.length) (hj : j < sl.length) (hij : i < j) (g : Nat) : slBlk sl[i] g → ¬ slBlk sl[j] g := by
  have h1 := h.rows i (by rw [← h.len]; exact hi)
  have h2 := h.rows j (by rw [← h.len]; exact hj)
  have ha := (List.pairwise_iff_getElem.1 h.apart) i j hi hj hij g
  rintro (e | e | e) (e' | e' | e')
  · exact ha.1 e e'
  · exact rows_off h1.1 h2.2.1 (by decide) g e e'
  · exact rows_off h1.1 h2.2.2 (by decide) g e e'
  · exact rows_off h1.2.1 h2.1 (by decide) g e e'
  · exact ha.2.1 e e'
  · exact rows_off h1.2.1 h2.2.2 (by decide) g e e'
  · exact rows_off h1.2.2 h2.1 (by decide) g e e'
  · exact rows_off h1.2.2 h2.2.1 (by decide) g e e'
  · exact ha.2.2 e e'
/-- any block of the lists. -/
def AnyBlk (sl : List Sl3) (g : Nat) : Prop := Pend sl 0 g
/-- where the loop over the answers stands. -/
structure AnsAt (w wr : World) (mb : Nat) (B Br : Book) (As : List AnsM) (sl : List Sl3) (l : Value) (Q : Nat → Prop) (ki kd ks : Nat) : Prop where
  book : BookAt wr mb Br
  chg : BChg mb (AnyBlk sl) w wr
  pend : Within Br (fun g => ¬ Q g)
  new : ∀ P, Within B P → Within Br (fun g => P g ∨ AnyBlk sl g ∨ w.heap.size ≤ g)
  same : Br.A = B.A
  li : Br.I.length = B.I.length + 4 * ki
  ld : Br.D.length = B.D.length + 4 * kd
  ls : Br.S.length = B.S.length + 4 * ks
  ri : ∀ j (h : j < As.length) (h' : j < sl.length), ki ≤ j → wr.ownsRow mb 66 2 (slV sl[j].1) As[j].items.length (itemCells As[j].items)
  rd : ∀ j (h : j < As.length) (h' : j < sl.length), kd ≤ j → wr.ownsRow mb 44 3 (slV sl[j].2.1) As[j].done.length (decCells As[j].done)
  rs : ∀ j (h : j < As.length) (h' : j < sl.length), ks ≤ j → wr.ownsRow mb 3 1 (slV sl[j].2.2) As[j].sums.length (As[j].sums.map (fun n => Value.int .i64 n))
  row : wr.ownsRow mb 36 7 l As.length (ansCells As sl)
theorem AnsAt.weaken {w wr : World} {mb : Nat} {B Br : Book} {As : List AnsM} {sl : List Sl3} {l : Value} {Q Q' : Nat → Prop} {ki kd ks : Nat} (h : AnsAt w wr mb B Br As sl l Q ki kd ks) (hq : ∀ g, Q' g → Q g) : AnsAt w wr mb B Br As sl l Q' ki kd ks :=
  ⟨h.book, h.chg, fun v hv g hg hq' => h.pend v hv g hg (hq g hq'), h.new, h.same, h.li, h.ld, h.ls, h.ri, h.rd, h.rs, h.row⟩
theorem AnsAt.stepI {w wr w1 : World} {mb : Nat} {B Br : Book} {As : List AnsM} {sl : List Sl3} {l l1 l2 l3 : Value} {ia : Option Addr} {ic : Nat} {Q Q1 : Nat → Prop} {ki kd ks : Nat} (h : AnsAt w wr mb B Br As sl l Q ki kd ks) (hS : SlOk w mb As sl) (hk : ki < As.length) (hk' : ki < sl.length)
    (hB : BookAt w1 mb { Br with I := Br.I ++ [slV sl[ki].1, l1, l2, l3], ia := ia, ic := ic }) (hn : ∀ v ∈ [slV sl[ki].1, l1, l2, l3], ∀ g, v.ownBlock = some g → (slV sl[ki].1).ownBlock = some g ∨ wr.heap.size ≤ g) (hc : BChg mb (fun b => (slV sl[ki].1).ownBlock = some b) wr w1)
    (hQ : ∀ g, Q1 g → Q g ∧ (slV sl[ki].1).ownBlock ≠ some g ∧ g < w.heap.size) : AnsAt w w1 mb B { Br with I := Br.I ++ [slV sl[ki].1, l1, l2, l3], ia := ia, ic := ic } As sl l Q1 (ki + 1) kd ks := by
  have hz := h.chg.size
  have hv := h.ri ki hk hk' (Nat.le_refl _)
  refine ⟨hB, h.chg.trans (hc.mono (fun b _ e => Or.inl ⟨ki, hk', Nat.zero_le _, Or.inl e⟩)), h.pend.addI (fun g hnq hq => hnq (hQ g hq).1) (fun v hv g hg hq => ?_), fun P hP => (h.new P hP).addI (fun _ hx => hx) (fun v hv g hg => ?_), h.same, ?_, ?_, ?_, fun j a b c => ?_, fun j a b c => ?_, fun j a b c => ?_, row_bchg h.row hc (by decide) (fun g e e' => rows_off h.row hv (by decide) g e e')⟩
  · rcases hn v hv g hg with h1 | h1
    · exact (hQ g hq).2.1 h1
    · have := (hQ g hq).2.2; omega
  · rcases hn v hv g hg with h1 | h1
    · exact Or.inr (Or.inl ⟨ki, hk', Nat.zero_le _, Or.inl h1⟩)
    · exact Or.inr (Or.inr (Nat.le_trans hz h1))
  · show (Br.I ++ [slV sl[ki].1, l1, l2, l3]).length = B.I.length + 4 * (ki + 1)
    rw [List.length_append, h.li]
    simp only [List.length_cons, List.length_nil]
    omega
  · exact h.ld
  · exact h.ls
  · exact row_bchg (h.ri j a b (by omega)) hc (by decide) (fun g e e' => hS.other hk' b (by omega) g (Or.inl e') (Or.inl e))
  · exact row_bchg (h.rd j a b c) hc (by decide) (fun g e e' => rows_off (h.rd j a b c) hv (by decide) g e e')
  · exact row_bchg (h.rs j a b c) hc (by decide) (fun g e e' => rows_off (h.rs j a b c) hv (by decide) g e e')
theorem AnsAt.stepD {w wr w1 : World} {mb : Nat} {B Br : Book} {As : List AnsM} {sl : List Sl3} {l l1 l2 l3 : Value} {ia : Option Addr} {ic : Nat} {Q Q1 : Nat → Prop} {ki kd ks : Nat} (h : AnsAt w wr mb B Br As sl l Q ki kd ks) (hS : SlOk w mb As sl) (hk : kd < As.length) (hk' : kd < sl.length)
    (hB : BookAt w1 mb { Br with D := Br.D ++ [slV sl[kd].2.1, l1, l2, l3], da := ia, dc := ic }) (hn : ∀ v ∈ [slV sl[kd].2.1, l1, l2, l3], ∀ g, v.ownBlock = some g → (slV sl[kd].2.1).ownBlock = some g ∨ wr.heap.size ≤ g) (hc : BChg mb (fun b => (slV sl[kd].2.1).ownBlock = some b) wr w1)
    (hQ : ∀ g, Q1 g → Q g ∧ (slV sl[kd].2.1).ownBlock ≠ some g ∧ g < w.heap.size) : AnsAt w w1 mb B { Br with D := Br.D ++ [slV sl[kd].2.1, l1, l2, l3], da := ia, dc := ic } As sl l Q1 ki (kd + 1) ks := by
  have hz := h.chg.size
  have hv := h.rd kd hk hk' (Nat.le_refl _)
  refine ⟨hB, h.chg.trans (hc.mono (fun b _ e => Or.inl ⟨kd, hk', Nat.zero_le _, Or.inr (Or.inl e)⟩)), h.pend.addD (fun g hnq hq => hnq (hQ g hq).1) (fun v hv g hg hq => ?_), fun P hP => (h.new P hP).addD (fun _ hx => hx) (fun v hv g hg => ?_), h.same, ?_, ?_, ?_, fun j a b c => ?_, fun j a b c => ?_, fun j a b c => ?_, row_bchg h.row hc (by decide) (fun g e e' => rows_off h.row hv (by decide) g e e')⟩
  · rcases hn v hv g hg with h1 | h1
    · exact (hQ g hq).2.1 h1
    · have := (hQ g hq).2.2; omega
  · rcases hn v hv g hg with h1 | h1
    · exact Or.inr (Or.inl ⟨kd, hk', Nat.zero_le _, Or.inr (Or.inl h1)⟩)
    · exact Or.inr (Or.inr (Nat.le_trans hz h1))
  · exact h.li
  · show (Br.D ++ [slV sl[kd].2.1, l1, l2, l3]).length = B.D.length + 4 * (kd + 1)
    rw [List.length_append, h.ld]
    simp only [List.length_cons, List.length_nil]
    omega
  · exact h.ls
  · exact row_bchg (h.ri j a b c) hc (by decide) (fun g e e' => rows_off (h.ri j a b c) hv (by decide) g e e')
  · exact row_bchg (h.rd j a b (by omega)) hc (by decide) (fun g e e' => hS.other hk' b (by omega) g (Or.inr (Or.inl e')) (Or.inr (Or.inl e)))
  · exact row_bchg (h.rs j a b c) hc (by decide) (fun g e e' => rows_off (h.rs j a b c) hv (by decide) g e e')
theorem AnsAt.stepS {w wr w1 : World} {mb : Nat} {B Br : Book} {As : List AnsM} {sl : List Sl3} {l l1 l2 l3 : Value} {ia : Option Addr} {ic : Nat} {Q Q1 : Nat → Prop} {ki kd ks : Nat} (h : AnsAt w wr mb B Br As sl l Q ki kd ks) (hS : SlOk w mb As sl) (hk : ks < As.length) (hk' : ks < sl.length)
    (hB : BookAt w1 mb { Br with S := Br.S ++ [slV sl[ks].2.2, l1, l2, l3], sa := ia, sc := ic }) (hn : ∀ v ∈ [slV sl[ks].2.2, l1, l2, l3], ∀ g, v.ownBlock = some g → (slV sl[ks].2.2).ownBlock = some g ∨ wr.heap.size ≤ g) (hc : BChg mb (fun b => (slV sl[ks].2.2).ownBlock = some b) wr w1)
    (hQ : ∀ g, Q1 g → Q g ∧ (slV sl[ks].2.2).ownBlock ≠ some g ∧ g < w.heap.size) : AnsAt w w1 mb B { Br with S := Br.S ++ [slV sl[ks].2.2, l1, l2, l3], sa := ia, sc := ic } As sl l Q1 ki kd (ks + 1) := by
  have hz := h.chg.size
  have hv := h.rs ks hk hk' (Nat.le_refl _)
  refine ⟨hB, h.chg.trans (hc.mono (fun b _ e => Or.inl ⟨ks, hk', Nat.zero_le _, Or.inr (Or.inr e)⟩)), h.pend.addS (fun g hnq hq => hnq (hQ g hq).1) (fun v hv g hg hq => ?_), fun P hP => (h.new P hP).addS (fun _ hx => hx) (fun v hv g hg => ?_), h.same, ?_, ?_, ?_, fun j a b c => ?_, fun j a b c => ?_, fun j a b c => ?_, row_bchg h.row hc (by decide) (fun g e e' => rows_off h.row hv (by decide) g e e')⟩
  · rcases hn v hv g hg with h1 | h1
    · exact (hQ g hq).2.1 h1
    · have := (hQ g hq).2.2; omega
  · rcases hn v hv g hg with h1 | h1
    · exact Or.inr (Or.inl ⟨ks, hk', Nat.zero_le _, Or.inr (Or.inr h1)⟩)
    · exact Or.inr (Or.inr (Nat.le_trans hz h1))
  · exact h.li
  · exact h.ld
  · show (Br.S ++ [slV sl[ks].2.2, l1, l2, l3]).length = B.S.length + 4 * (ks + 1)
    rw [List.length_append, h.ls]
    simp only [List.length_cons, List.length_nil]
    omega
  · exact row_bchg (h.ri j a b c) hc (by decide) (fun g e e' => rows_off (h.ri j a b c) hv (by decide) g e e')
  · exact row_bchg (h.rd j a b c) hc (by decide) (fun g e e' => rows_off (h.rd j a b c) hv (by decide) g e e')
  · exact row_bchg (h.rs j a b (by omega)) hc (by decide) (fun g e e' => hS.other hk' b (by omega) g (Or.inr (Or.inr e')) (Or.inr (Or.inr e)))
end Go.Proofs.YtkfjafndplmdkaaGreat
namespace Go.Proofs.YtkfjafndplmdkaaGreat
open Go.RowKit Go.Sort
theorem hid_of {p : Prop} (h : p) : Hid p := h
theorem infoAnswers : (Tryz.prog.info? 26).map (fun i => (i.zero, i.size, i.bytes)) = some (some (.slice none 0 0), 1, 24) := by kernel_rfl
theorem row_sets7 {w : World} {base g n cap j : Nat} {e : TypeId} {ys : List Value} (h : w.ownsRow base e 7 (.slice (some ⟨g, 0, none⟩) n cap) n ys) (hj : j < n) (u0 u1 u2 u3 u4 u5 u6 : Value) : (((((((w.setCell ⟨g, j * 7, none⟩ u0).setCell ⟨g, j * 7 + 1, none⟩ u1).setCell ⟨g, j * 7 + 2, none⟩ u2).setCell ⟨g, j * 7 + 3, none⟩ u3).setCell ⟨g, j * 7 + 4, none⟩ u4).setCell ⟨g, j * 7 + 5, none⟩ u5).setCell ⟨g, j * 7 + 6, none⟩ u6).ownsRow base e 7 (.slice (some ⟨g, 0, none⟩) n cap) n (setL ys (j * 7) [u0, u1, u2, u3, u4, u5, u6]) := by
  have hl := h.1
  rw [setL_cons _ _ _ _ (by first | omega | (simp; omega)), setL_cons _ _ _ _ (by first | omega | (simp; omega)), setL_cons _ _ _ _ (by first | omega | (simp; omega)), setL_cons _ _ _ _ (by first | omega | (simp; omega)), setL_cons _ _ _ _ (by first | omega | (simp; omega)), setL_cons _ _ _ _ (by first | omega | (simp; omega)), setL_cons _ _ _ _ (by first | omega | (simp; omega)), setL_nil]
  exact row_setCell (row_setCell (row_setCell (row_setCell (row_setCell (row_setCell (row_setCell (h) u0) u1) u2) u3) u4) u5) u6
theorem book_addA {w w6 : World} {mb n n0 n1 n2 n3 ic' : Nat} {l l1 l2 l3 : Value} {xs : List Value} {B : Book} {ia' : Option Addr} (h : BookAt w mb B) (hl : w.ownsRow mb 36 7 l n xs) (hap : ∀ v ∈ B.A, ∀ g, l.ownBlock = some g → v.ownBlock ≠ some g)
    (hc : Chg (fun b => b = mb ∨ (Value.slice B.aa B.A.length B.ac).ownBlock = some b ∨ l.ownBlock = some b) w w6)
    (hwb : w6.heap[mb]? = some (.cells #[.slice ia' (B.A.length + 4) ic', .slice B.ia B.I.length B.ic, .slice B.da B.D.length B.dc, .slice B.sa B.S.length B.sc] 58))
    (hir : w6.ownsRow mb 26 1 (.slice ia' (B.A.length + 4) ic') (B.A.length + 4) (B.A ++ [l, l1, l2, l3]))
    (q0 : w6.ownsRow 0 36 7 l n0 (rep n0 (markA (B.A.length / 4)))) (q1 : w6.ownsRow 0 36 7 l1 n1 (rep n1 (markA (B.A.length / 4)))) (q2 : w6.ownsRow 0 36 7 l2 n2 (rep n2 (markA (B.A.length / 4)))) (q3 : w6.ownsRow 0 36 7 l3 n3 (rep n3 (markA (B.A.length / 4)))) :
    BookAt w6 mb { B with A := B.A ++ [l, l1, l2, l3], aa := ia', ac := ic' } := by
  have hlen : (B.A ++ [l, l1, l2, l3]).length = B.A.length + 4 := by simp
  have keep : ∀ {e : TypeId} {size : Nat} {v : Value} {k : Nat} {ys : List Value} {base : Nat}, w.ownsRow base e size v k ys → e ≠ 58 → e ≠ 26 → (e = 36 → ∀ g, l.ownBlock = some g → v.ownBlock ≠ some g) → ∀ g, v.ownBlock = some g → ¬ (g = mb ∨ (Value.slice B.aa B.A.length B.ac).ownBlock = some g ∨ l.ownBlock = some g) := fun hr h1 h2 h3 g hg => by
    rintro (e | e | e)
    · exact row_off hr h.wb h1 (e ▸ hg)
    · exact rows_off hr h.ar h2 g hg e
    · rename_i ee _ _ _ _ _
      by_cases he : ee = 36
      · exact h3 he g e hg
      · exact rows_off hr hl he g hg e
  refine ⟨?_, ?_, ownsRow_chg h.ir hc (keep h.ir (by decide) (by decide) (fun e => absurd e (by decide))), ownsRow_chg h.dr hc (keep h.dr (by decide) (by decide) (fun e => absurd e (by decide))), ownsRow_chg h.sr hc (keep h.sr (by decide) (by decide) (fun e => absurd e (by decide))), ?_, ?_, ?_, ?_, ?_, h.i4, h.d4, h.s4⟩
  · show w6.heap[mb]? = some (.cells #[.slice ia' (B.A ++ [l, l1, l2, l3]).length ic', .slice B.ia B.I.length B.ic, .slice B.da B.D.length B.dc, .slice B.sa B.S.length B.sc] 58)
    rw [hlen]; exact hwb
  · show w6.ownsRow mb 26 1 (.slice ia' (B.A ++ [l, l1, l2, l3]).length ic') (B.A ++ [l, l1, l2, l3]).length (B.A ++ [l, l1, l2, l3])
    rw [hlen]; exact hir
  · exact (h.am.chg hc (fun v hv => by obtain ⟨L, ys, hL⟩ := marks_off h.am hv; exact keep hL (by decide) (by decide) (fun _ => hap v hv))).four h.a4 q0 q1 q2 q3
  · exact h.im.chg hc (fun v hv => by obtain ⟨L, ys, hL⟩ := marks_off h.im hv; exact keep hL (by decide) (by decide) (fun e => absurd e (by decide)))
  · exact h.dm.chg hc (fun v hv => by obtain ⟨L, ys, hL⟩ := marks_off h.dm hv; exact keep hL (by decide) (by decide) (fun e => absurd e (by decide)))
  · exact h.sm.chg hc (fun v hv => by obtain ⟨L, ys, hL⟩ := marks_off h.sm hv; exact keep hL (by decide) (by decide) (fun e => absurd e (by decide)))
  · show (B.A ++ [l, l1, l2, l3]).length % 4 = 0
    rw [hlen]; have := h.a4; omega
set_option maxRecDepth 100000 in
set_option maxHeartbeats 4000000 in
theorem answers_any (mb n : Nat) (l : Value) (As : List AnsM) (sl : List Sl3) (B : Book) (w : World) (hnA : As.length = n) (h : BookAt w mb B) (hrow : w.ownsRow mb 36 7 l n (ansCells As sl)) (hS : SlOk w mb As sl) (hn : n ≤ 1100000) (hA : B.A.length ≤ 50000000) (hI : B.I.length ≤ 50000000) (hD : B.D.length ≤ 50000000) (hSu : B.S.length ≤ 50000000)
    (hap : ∀ v ∈ B.A, ∀ g, l.ownBlock = some g → v.ownBlock ≠ some g) (hp : Within B (fun g => ¬ Pend sl 0 g)) :
    Calls Tryz.prog 28 #[.pointer (some ⟨mb, 0, none⟩), l] w fun e w' => e = .returned (.tuple #[]) ∧ ∃ B', BookAt w' mb B' ∧ BChg mb (fun g => AnyBlk sl g ∨ l.ownBlock = some g) w w' ∧ (∀ P, Within B P → Within B' (fun g => P g ∨ (AnyBlk sl g ∨ l.ownBlock = some g) ∨ w.heap.size ≤ g)) ∧ B'.A.length = B.A.length + 4 ∧ B'.I.length = B.I.length + 4 * n ∧ B'.D.length = B.D.length + 4 * n ∧ B'.S.length = B.S.length + 4 * n := by
  obtain ⟨i0, hi, hz0, hz1, hz2⟩ := info_parts infoAns
  obtain ⟨j0, hj, hy0, hy1, hy2⟩ := info_parts infoAnswers
  obtain ⟨ad, cap, rfl⟩ := row_form hrow
  have HW : Hid (BookAt w mb B ∧ w.ownsRow mb 36 7 (.slice ad n cap) n (ansCells As sl) ∧ (∀ v ∈ B.A, ∀ g, (Value.slice ad n cap).ownBlock = some g → v.ownBlock ≠ some g) ∧ Within B (fun g => ¬ Pend sl 0 g) ∧ SlOk w mb As sl ∧ As.length = n) := ⟨h, hrow, hap, hp, hS, hnA⟩
  clear h hrow hap hp hS hnA
  go_enter Tryz.func28, Tryz.ntmps28
  go_wp2_with fail
  go_loopw [4] (fun i wr => ∃ (k : Nat) (Br : Book), k ≤ n ∧ i = .int .i64 k ∧ AnsAt w wr mb B Br As sl (.slice ad n cap) (Pend sl k) k k k) (fun i _ => n - (intOf i).toNat)
  case atStart =>
    obtain ⟨h, hrow, hap, hp, hS, hnA⟩ := HW.out
    exact ⟨0, B, Nat.zero_le _, rfl, h, BChg.refl _ _ _, hp, fun P hP v hv g hg => Or.inl (hP v hv g hg), rfl, rfl, rfl, rfl, fun j a b _ => (hS.rows j a).1, fun j a b _ => (hS.rows j a).2.1, fun j a b _ => (hS.rows j a).2.2, by rw [hnA]; exact hrow⟩
  case round =>
    obtain ⟨k, Br, hk, rfl, hL⟩ := hrel
    obtain ⟨wo, rfl⟩ : ∃ x, x = wr := ⟨_, rfl⟩
    by_cases hlt : k < n
    · obtain ⟨_, _, _, _, hS, hnA⟩ := HW.out
      have hk1 : k < As.length := by omega
      have hk2 : k < sl.length := by rw [hS.len]; exact hk1
      have hrow := hL.row
      rw [hnA] at hrow
      obtain ⟨g, rfl, _, _, _, _⟩ := row_open hrow (by omega)
      obtain ⟨_, _, _, _, c4, c5⟩ := ans_cells hS.len hrow k hk1
      have c6 := ans_cells6 hS.len hrow k hk1
      have hsm := hS.small _ (List.getElem_mem hk1)
      have hli := hL.li
      have hld := hL.ld
      have hls := hL.ls
      have hkk := hS.kinds hk2
      have hpk : ∀ g, slBlk sl[k] g → Pend sl k g := fun g e => ⟨k, hk2, Nat.le_refl _, e⟩
      have H1 := items_any mb As[k].items.length (slV sl[k].1) _ Br wo hL.book (hL.ri k hk1 hk2 (Nat.le_refl _)) hsm.1 (by omega) (fun v hv g e e' => hL.pend v (Or.inr (Or.inl hv)) g e' (hpk g (Or.inl e)))
      have HS : Hid (SlOk w mb As sl ∧ AnsAt w wo mb B Br As sl (.slice (some ⟨g, 0, none⟩) n cap) (Pend sl k) k k k ∧ As.length = n ∧ (∀ g, slBlk sl[k] g → Pend sl k g) ∧ (∀ g, ((slV sl[k].1).ownBlock = some g → (slV sl[k].2.1).ownBlock ≠ some g ∧ (slV sl[k].2.2).ownBlock ≠ some g) ∧ ((slV sl[k].2.1).ownBlock = some g → (slV sl[k].2.2).ownBlock ≠ some g))) := ⟨hS, hL, hnA, hpk, hkk⟩
      have HQ : Hid (∀ W Q Bx ki kd ks, AnsAt w W mb B Bx As sl (.slice (some ⟨g, 0, none⟩) n cap) Q ki kd ks → W.cell? ⟨g, k * 7 + 5, none⟩ = some (slV sl[k].2.1) ∧ W.cell? ⟨g, k * 7 + 6, none⟩ = some (slV sl[k].2.2)) := fun W Q Bx ki kd ks hX => by
        have hr := hX.row
        rw [hnA] at hr
        exact ⟨(ans_cells hS.len hr k hk1).2.2.2.2.2, ans_cells6 hS.len hr k hk1⟩
      have c4' : wo.cell? ⟨g, k * 7 + 4, none⟩ = some (slV (sl[k]'hk2).1) := c4
      clear c4 c5 c6
      clear hS hL hrow hkk hpk
      obtain ⟨⟨x1, x2, x3⟩, ⟨x4, x5, x6⟩, ⟨x7, x8, x9⟩, hx⟩ : ∃ a b c : Sl, sl[k] = (a, b, c) := ⟨sl[k].1, sl[k].2.1, sl[k].2.2, rfl⟩
      simp only [slV, hx] at c4' H1
      go_wp2_with fail
      refine H1.mono ?_
      rintro e w1 ⟨rfl, l1, l2, l3, ia, ic, hB1, hn1, hc1⟩
      have hA1 : AnsAt w w1 mb B { Br with I := Br.I ++ [slV sl[k].1, l1, l2, l3], ia := ia, ic := ic } As sl (.slice (some ⟨g, 0, none⟩) n cap) (fun g => Pend sl k g ∧ (slV sl[k].1).ownBlock ≠ some g) (k + 1) k k := HS.out.2.1.stepI HS.out.1 hk1 hk2 (by simp only [slV, hx]; exact hB1) (by simp only [slV, hx]; exact hn1) (by simp only [slV, hx]; exact hc1) (fun g hq => ⟨hq.1, hq.2, (HS.out.1.pend hq.1).2⟩)
      obtain ⟨d5, _⟩ := HQ.out _ _ _ _ _ _ hA1
      have H2 := done_any mb As[k].done.length (slV sl[k].2.1) _ _ w1 hA1.book (hA1.rd k hk1 hk2 (Nat.le_refl _)) hsm.2.1 (by show Br.D.length ≤ 100000000; omega) (fun v hv g e e' => hA1.pend v (Or.inr (Or.inr (Or.inl hv))) g e' ⟨HS.out.2.2.2.1 g (Or.inr (Or.inl e)), fun e1 => ((HS.out.2.2.2.2 g).1 e1).1 e⟩)
      have HA1 : Hid (AnsAt w w1 mb B { Br with I := Br.I ++ [slV sl[k].1, l1, l2, l3], ia := ia, ic := ic } As sl (.slice (some ⟨g, 0, none⟩) n cap) (fun g => Pend sl k g ∧ (slV sl[k].1).ownBlock ≠ some g) (k + 1) k k) := hA1
      clear hA1 hB1 hn1 hc1 H1 c4'
      simp only [slV, hx] at d5 H2
      go_wp2_with fail
      refine H2.mono ?_
      rintro e w2 ⟨rfl, m1, m2, m3, da, dc, hB2, hn2, hc2⟩
      have hA2 := HA1.out.stepD (Q1 := fun g => (Pend sl k g ∧ (slV sl[k].1).ownBlock ≠ some g) ∧ (slV sl[k].2.1).ownBlock ≠ some g) (l1 := m1) (l2 := m2) (l3 := m3) (ia := da) (ic := dc) HS.out.1 hk1 hk2 (by simp only [slV, hx]; exact hB2) (by simp only [slV, hx]; exact hn2) (by simp only [slV, hx]; exact hc2) (fun g hq => ⟨hq.1, hq.2, (HS.out.1.pend hq.1.1).2⟩)
      obtain ⟨_, d6⟩ := HQ.out _ _ _ _ _ _ hA2
      have H3 := sums_any mb As[k].sums.length (slV sl[k].2.2) _ _ w2 hA2.book (hA2.rs k hk1 hk2 (Nat.le_refl _)) hsm.2.2 (by show Br.S.length ≤ 100000000; omega) (fun v hv g e e' => hA2.pend v (Or.inr (Or.inr (Or.inr hv))) g e' ⟨⟨HS.out.2.2.2.1 g (Or.inr (Or.inr e)), fun e1 => ((HS.out.2.2.2.2 g).1 e1).2 e⟩, fun e1 => (HS.out.2.2.2.2 g).2 e1 e⟩)
      have HA2 := hid_of hA2
      clear hA2 hB2 hn2 hc2 H2 d5
      simp only [slV, hx] at d6 H3
      go_wp2_with fail
      refine H3.mono ?_
      rintro e w3 ⟨rfl, r1, r2, r3, sa, sc, hB3, hn3, hc3⟩
      have hA3 := HA2.out.stepS (Q1 := fun g => ((Pend sl k g ∧ (slV sl[k].1).ownBlock ≠ some g) ∧ (slV sl[k].2.1).ownBlock ≠ some g) ∧ (slV sl[k].2.2).ownBlock ≠ some g) (l1 := r1) (l2 := r2) (l3 := r3) (ia := sa) (ic := sc) HS.out.1 hk1 hk2 (by simp only [slV, hx]; exact hB3) (by simp only [slV, hx]; exact hn3) (by simp only [slV, hx]; exact hc3) (fun g hq => ⟨hq.1, hq.2, (HS.out.1.pend hq.1.1.1).2⟩)
      have HA3 := hid_of (hA3.weaken (Q' := Pend sl (k + 1)) (fun g hq => by
        obtain ⟨j, hj, hkj, hb⟩ := hq
        have hoth : ¬ slBlk sl[k] g := fun hs => HS.out.1.other hk2 hj (by omega) g hs hb
        exact ⟨⟨⟨⟨j, hj, by omega, hb⟩, fun e => hoth (Or.inl e)⟩, fun e => hoth (Or.inr (Or.inl e))⟩, fun e => hoth (Or.inr (Or.inr e))⟩))
      clear hA3 hB3 hn3 hc3 H3 d6
      go_wp2
      go_roundw
      case rel => exact ⟨k + 1, _, by omega, by go_num, HA3.out⟩
      case measure => simp [intOf]; omega
    · have hke : k = n := by omega
      subst hke
      have hA' : Br.A.length ≤ 50000000 := by rw [hL.same]; exact hA
      have x1 := cell_of hL.book.wb (i := 0) (v := .slice Br.aa Br.A.length Br.ac) rfl
      have hml := lt_of_block hL.book.wb
      have HH : Hid (BookAt wo mb Br ∧ wo.ownsRow mb 36 7 (.slice ad k cap) k (ansCells As sl) ∧ (∀ v ∈ Br.A, ∀ g, (Value.slice ad k cap).ownBlock = some g → v.ownBlock ≠ some g)) := ⟨hL.book, by have := hL.row; rw [HW.out.2.2.2.2.2] at this; exact this, by rw [hL.same]; exact HW.out.2.2.1⟩
      have HL : Hid (BChg mb (AnyBlk sl) w wo ∧ (∀ P, Within B P → Within Br (fun g => P g ∨ AnyBlk sl g ∨ w.heap.size ≤ g)) ∧ Br.A = B.A ∧ Br.I.length = B.I.length + 4 * k ∧ Br.D.length = B.D.length + 4 * k ∧ Br.S.length = B.S.length + 4 * k ∧ True) := ⟨hL.chg, hL.new, hL.same, hL.li, hL.ld, hL.ls, trivial⟩
      have e77 : ((77 + Br.A.length / 4 : Nat) : Int) = 77 + (Br.A.length : Int) / 4 := by omega
      have HX : Hid (markA (Br.A.length / 4) = [.int .i64 0, .int .i64 (77 + (Br.A.length : Int) / 4), .bool false, .string ⟨#[]⟩, .slice none 0 0, .slice none 0 0, .slice none 0 0]) := by
        show markA (Br.A.length / 4) = _
        unfold markA
        rw [e77]
      obtain ⟨n, rfl⟩ : ∃ x, x = k := ⟨_, rfl⟩
      clear hL hk hlt
      go_wp2_with fail
      refine name_wz ?_
      intro w1 hw1
      have hc1 : Chg nobody wo w1 := by rw [hw1]; exact (Chg.refl _ _).alloc _
      have bx : w1.heap[wo.heap.size]? = some (.cells #[.int .i64 0, .int .i64 (77 + (Br.A.length : Int) / 4), .bool false, .string ⟨#[]⟩, .slice none 0 0, .slice none 0 0, .slice none 0 0] 36) := by rw [hw1]; exact (MapKept.heap_alloc _ _).1
      have HZ : Hid (Chg nobody wo w1 ∧ w1.heap[wo.heap.size]? = some (.cells #[.int .i64 0, .int .i64 (77 + (Br.A.length : Int) / 4), .bool false, .string ⟨#[]⟩, .slice none 0 0, .slice none 0 0, .slice none 0 0] 36)) := ⟨hc1, bx⟩
      clear hw1 hc1 bx x1
      go_loopw [6] (fun i wr => ∃ j : Nat, j ≤ n ∧ i = .int .i64 j ∧ Filled w1 wr mb n 36 7 (.slice ad n cap) [.int .i64 0, .int .i64 (77 + (Br.A.length : Int) / 4), .bool false, .string ⟨#[]⟩, .slice none 0 0, .slice none 0 0, .slice none 0 0] j) (fun i _ => n - (intOf i).toNat)
      case atStart => exact ⟨0, Nat.zero_le _, rfl, ⟨ansCells As sl, ownsRow_chg HH.out.2.1 HZ.out.1 (fun _ _ h => h), by simp [rep]⟩, Chg.refl _ _⟩
      case round =>
        obtain ⟨j, hjn, rfl, hF⟩ := hrel
        have hlw : ∀ g, (Value.slice ad n cap).ownBlock = some g → g < wo.heap.size := fun g e => (HH.out.2.1.lt g e).2
        have bx : wr.heap[wo.heap.size]? = some (.cells #[.int .i64 0, .int .i64 (77 + (Br.A.length : Int) / 4), .bool false, .string ⟨#[]⟩, .slice none 0 0, .slice none 0 0, .slice none 0 0] 36) := (hF.2.block _ (lt_of_block HZ.out.2) (fun e => by have := hlw _ e; omega)).trans HZ.out.2
        have y0 := cell_of bx (i := 0) (v := .int .i64 0) rfl
        have y1 := cell_of bx (i := 1) (v := .int .i64 (77 + (Br.A.length : Int) / 4)) rfl
        have y2 := cell_of bx (i := 2) (v := .bool false) rfl
        have y3 := cell_of bx (i := 3) (v := .string ⟨#[]⟩) rfl
        have y4 := cell_of bx (i := 4) (v := .slice none 0 0) rfl
        have y5 := cell_of bx (i := 5) (v := .slice none 0 0) rfl
        have y6 := cell_of bx (i := 6) (v := .slice none 0 0) rfl
        by_cases hlt : j < n
        · obtain ⟨⟨ys, hrow, hys⟩, hc⟩ := hF
          obtain ⟨g, rfl, _, _, _, hcell⟩ := row_open hrow (by omega)
          have hyl := hrow.1
          have c0 := hcell (j * 7) _ (List.getElem?_eq_getElem (show j * 7 < ys.length by omega))
          have c1 := hcell (j * 7 + 1) _ (List.getElem?_eq_getElem (show j * 7 + 1 < ys.length by omega))
          have c2 := hcell (j * 7 + 2) _ (List.getElem?_eq_getElem (show j * 7 + 2 < ys.length by omega))
          have c3 := hcell (j * 7 + 3) _ (List.getElem?_eq_getElem (show j * 7 + 3 < ys.length by omega))
          have c4 := hcell (j * 7 + 4) _ (List.getElem?_eq_getElem (show j * 7 + 4 < ys.length by omega))
          have c5 := hcell (j * 7 + 5) _ (List.getElem?_eq_getElem (show j * 7 + 5 < ys.length by omega))
          have c6 := hcell (j * 7 + 6) _ (List.getElem?_eq_getElem (show j * 7 + 6 < ys.length by omega))
          have hf := fun i => unfrozen_row hrow i
          have hrow2 := row_sets7 hrow hlt (.int .i64 0) (.int .i64 (77 + (Br.A.length : Int) / 4)) (.bool false) (.string ⟨#[]⟩) (.slice none 0 0) (.slice none 0 0) (.slice none 0 0)
          have hgw : g < wo.heap.size := hlw g rfl
          have hne : g ≠ wo.heap.size := by omega
          have HF2 : Hid (Filled w1 (((((((wr.setCell ⟨g, j * 7, none⟩ (.int .i64 0)).setCell ⟨g, j * 7 + 1, none⟩ (.int .i64 (77 + (Br.A.length : Int) / 4))).setCell ⟨g, j * 7 + 2, none⟩ (.bool false)).setCell ⟨g, j * 7 + 3, none⟩ (.string ⟨#[]⟩)).setCell ⟨g, j * 7 + 4, none⟩ (.slice none 0 0)).setCell ⟨g, j * 7 + 5, none⟩ (.slice none 0 0)).setCell ⟨g, j * 7 + 6, none⟩ (.slice none 0 0)) mb n 36 7 (.slice (some ⟨g, 0, none⟩) n cap) [.int .i64 0, .int .i64 (77 + (Br.A.length : Int) / 4), .bool false, .string ⟨#[]⟩, .slice none 0 0, .slice none 0 0, .slice none 0 0] (j + 1)) := ⟨⟨_, hrow2, setL_take rfl hys⟩, Chg.setCell (p := ⟨g, j * 7 + 6, none⟩) (Chg.setCell (p := ⟨g, j * 7 + 5, none⟩) (Chg.setCell (p := ⟨g, j * 7 + 4, none⟩) (Chg.setCell (p := ⟨g, j * 7 + 3, none⟩) (Chg.setCell (p := ⟨g, j * 7 + 2, none⟩) (Chg.setCell (p := ⟨g, j * 7 + 1, none⟩) (Chg.setCell (p := ⟨g, j * 7, none⟩) (hc) (Or.inl rfl) _) (Or.inl rfl) _) (Or.inl rfl) _) (Or.inl rfl) _) (Or.inl rfl) _) (Or.inl rfl) _) (Or.inl rfl) _⟩
          clear hrow hrow2 hc hcell hys bx
          go_wp2
          go_roundw
          case rel => exact ⟨j + 1, by omega, by go_num, HF2.out⟩
          case measure => simp [intOf]; omega
        · have hje : j = n := by omega
          subst hje
          have hrow := hF.all
          have hc0 := hF.2
          have H1X : Hid (∀ u ∈ ([.int .i64 0, .int .i64 (77 + (Br.A.length : Int) / 4), .bool false, .string ⟨#[]⟩, .slice none 0 0, .slice none 0 0, .slice none 0 0] : List Value), u.oneCell' = true) := by intro u hu; simp only [List.mem_cons, List.not_mem_nil, or_false] at hu; rcases hu with rfl | rfl | rfl | rfl | rfl | rfl | rfl <;> rfl
          have hmw : mb ≤ wr.heap.size := by have := hc0.size; have := HZ.out.1.size; omega
          have HBK : Hid (∀ W, Chg (fun b => (Value.slice ad j cap).ownBlock = some b) w1 W → W.heap[wo.heap.size]? = some (.cells #[.int .i64 0, .int .i64 (77 + (Br.A.length : Int) / 4), .bool false, .string ⟨#[]⟩, .slice none 0 0, .slice none 0 0, .slice none 0 0] 36)) := fun W hc => (hc.block _ (lt_of_block HZ.out.2) (fun e => by have := hlw _ e; omega)).trans HZ.out.2
          have H4X : Hid (∀ v1 v2 v3 : Value, (∃ a n c, v1 = .slice a n c) → (∃ a n c, v2 = .slice a n c) → (∃ a n c, v3 = .slice a n c) → ∀ u ∈ ([.slice ad j cap, v1, v2, v3] : List Value), u.oneCell' = true) := by
            rintro _ _ _ ⟨a1, n1, c1, rfl⟩ ⟨a2, n2, c2, rfl⟩ ⟨a3, n3, c3, rfl⟩ u hu
            simp only [List.mem_cons, List.not_mem_nil, or_false] at hu
            rcases hu with rfl | rfl | rfl | rfl <;> rfl
          clear hF
          have HHI : Hid (∀ g, (Value.slice ad j cap).ownBlock = some g → ¬ BookT wo g) := row_notBook HH.out.2.1 (by decide)
          have HMK : Hid (∀ W, Chg (fun b => (Value.slice ad j cap).ownBlock = some b) w1 W → W.heap[mb]? = wo.heap[mb]?) := fun W hc => (hc.block _ (by have := HZ.out.1.size; omega) (fun e => HHI.out _ e HH.out.1.bookT)).trans (HZ.out.1.block _ hml (fun h => h))
          have HIK : Hid (∀ W, Chg (fun b => (Value.slice ad j cap).ownBlock = some b) w1 W → W.ownsRow mb 26 1 (.slice Br.aa Br.A.length Br.ac) Br.A.length Br.A) := fun W hc => ownsRow_chg (ownsRow_chg HH.out.1.ar HZ.out.1 (fun _ _ h => h)) hc (fun g e e' => HHI.out g e' (row_bookT HH.out.1.ar (Or.inr (Or.inl rfl)) g e))
          have HC0 : Hid (Chg (fun b => (Value.slice ad j cap).ownBlock = some b) w1 wr) := hc0
          clear hc0 hlw bx
          go_wp2_with (at_builtin; first | (have hgd := hbr; clear hgd; refine wpList_append_where rfl _ _ 53 rfl mb 26 j0 (.slice none 0 0) 1 24 Tryz.underlying53 hj hy0 hy1 hy2 rfl (by decide) _ _ _ rfl (hbr.alloc _) ⟨w4.heap.size, 0, none⟩ 4 4 [.slice ad j cap, .slice a1 (j + 1) c1, .slice a2 (j + 2) c2, .slice a3 (j + 3) c3] rfl rfl (cells_new w4 #[.slice ad j cap, .slice a1 (j + 1) c1, .slice a2 (j + 2) c2, .slice a3 (j + 3) c3] 26) (H4X.out _ _ _ (row_form3 HV3.out.2.1) (row_form3 HV3.out.2.2.1) (row_form3 HV3.out.2.2.2.1)) (by unfold maxLen; omega) (by omega) (by simp; omega) ?_; intro v5 w5 hown5 hg5 hwh5; obtain ⟨ia', ic', rfl⟩ := row_form hown5; have b5 : w5.heap[mb]? = w4.heap[mb]? := (hg5.block mb (by simp; omega) (fun e => row_off hbr ((HMK.out w4 HC4.out).trans HH.out.1.wb) (by decide) e.symm)).trans (Below.heap_alloc _ _ _ hmw4); have b5' := b5.trans ((HMK.out w4 HC4.out).trans HH.out.1.wb); have n1 := cell_of b5' (i := 0) (v := .slice Br.aa Br.A.length Br.ac) rfl; have nf := unfrozen_of b5' 0; have HN5 : Hid (w5.heap[mb]? = wo.heap[mb]? ∧ w5.ownsRow mb 26 1 (.slice ia' (Br.A.length + 4) ic') (Br.A.length + 4) (Br.A ++ [.slice ad j cap, .slice a1 (j + 1) c1, .slice a2 (j + 2) c2, .slice a3 (j + 3) c3]) ∧ (w4.alloc (.cells #[.slice ad j cap, .slice a1 (j + 1) c1, .slice a2 (j + 2) c2, .slice a3 (j + 3) c3] 26)).grownBy w5 (Value.slice Br.aa Br.A.length Br.ac).ownBlock) := ⟨b5.trans (HMK.out w4 HC4.out), hown5, hg5⟩; clear b5 b5' hown5 hg5 hwh5 m1 mf) | (have hgd := hrow3; clear hgd; refine wpList_append_mark rfl _ _ 26 rfl mb 36 i0 (ansV 0 0 false ⟨#[]⟩ (.slice none 0 0)) 7 112 Tryz.underlying26 hi hz0 hz1 hz2 rfl (by decide) _ _ [.int .i64 0, .int .i64 (77 + (Br.A.length : Int) / 4), .bool false, .string ⟨#[]⟩, .slice none 0 0, .slice none 0 0, .slice none 0 0] rfl rfl (hrow3.alloc _) ⟨w3.heap.size, 0, none⟩ 3 3 rfl (news_mark w3 #[.int .i64 0, .int .i64 (77 + (Br.A.length : Int) / 4), .bool false, .string ⟨#[]⟩, .slice none 0 0, .slice none 0 0, .slice none 0 0, .int .i64 0, .int .i64 (77 + (Br.A.length : Int) / 4), .bool false, .string ⟨#[]⟩, .slice none 0 0, .slice none 0 0, .slice none 0 0, .int .i64 0, .int .i64 (77 + (Br.A.length : Int) / 4), .bool false, .string ⟨#[]⟩, .slice none 0 0, .slice none 0 0, .slice none 0 0] 36 3 [.int .i64 0, .int .i64 (77 + (Br.A.length : Int) / 4), .bool false, .string ⟨#[]⟩, .slice none 0 0, .slice none 0 0, .slice none 0 0] rfl) H1X.out (by unfold maxLen; omega) (by omega) (by simp; omega) ?_; intro v3 w4 hown hg hwh hall; obtain ⟨a3, c3, rfl⟩ := row_form hown; have HC3' : Chg (fun b => (Value.slice ad j cap).ownBlock = some b) w1 w4 := (HC3.out.alloc _).grown hg (fun k e => Or.inl e); have HC4 : Hid (Chg (fun b => (Value.slice ad j cap).ownBlock = some b) w1 w4) := HC3'; clear HC3'; have b4 := (HMK.out w4 HC4.out).trans HH.out.1.wb; have m1 := cell_of b4 (i := 0) (v := .slice Br.aa Br.A.length Br.ac) rfl; have mf := unfrozen_of b4 0; have hbr := HIK.out w4 HC4.out; have HV3 : Hid (w4.ownsRow mb 36 7 (.slice ad j cap) j (rep j [.int .i64 0, .int .i64 (77 + (Br.A.length : Int) / 4), .bool false, .string ⟨#[]⟩, .slice none 0 0, .slice none 0 0, .slice none 0 0]) ∧ w4.ownsRow mb 36 7 (.slice a1 (j + 1) c1) (j + 1) (rep (j + 1) [.int .i64 0, .int .i64 (77 + (Br.A.length : Int) / 4), .bool false, .string ⟨#[]⟩, .slice none 0 0, .slice none 0 0, .slice none 0 0]) ∧ w4.ownsRow mb 36 7 (.slice a2 (j + 2) c2) (j + 2) (rep (j + 2) [.int .i64 0, .int .i64 (77 + (Br.A.length : Int) / 4), .bool false, .string ⟨#[]⟩, .slice none 0 0, .slice none 0 0, .slice none 0 0]) ∧ w4.ownsRow mb 36 7 (.slice a3 (j + 3) c3) (j + 3) (rep (j + 3) [.int .i64 0, .int .i64 (77 + (Br.A.length : Int) / 4), .bool false, .string ⟨#[]⟩, .slice none 0 0, .slice none 0 0, .slice none 0 0]) ∧ ((Value.slice a3 (j + 3) c3).ownBlock = (Value.slice ad j cap).ownBlock ∨ ∀ g, (Value.slice a3 (j + 3) c3).ownBlock = some g → wo.heap.size ≤ g)) := ⟨hall _ _ _ (hrow3.alloc _), hall _ _ _ (HV2.out.1.alloc _), hall _ _ _ (HV2.out.2.1.alloc _), hown, hwh.imp id (fun e g e' => by rw [e] at e'; have := Option.some.inj e'; simp at this; have := HC3.out.size; have := HZ.out.1.size; omega)⟩; have hmw4 : mb < w4.heap.size := lt_of_block b4; clear b4 t0 t1 t2 t3 t4 t5 t6 hown hg hwh hall hrow3) | (have hgd := hrow2; clear hgd; refine wpList_append_mark rfl _ _ 26 rfl mb 36 i0 (ansV 0 0 false ⟨#[]⟩ (.slice none 0 0)) 7 112 Tryz.underlying26 hi hz0 hz1 hz2 rfl (by decide) _ _ [.int .i64 0, .int .i64 (77 + (Br.A.length : Int) / 4), .bool false, .string ⟨#[]⟩, .slice none 0 0, .slice none 0 0, .slice none 0 0] rfl rfl (hrow2.alloc _) ⟨w2.heap.size, 0, none⟩ 2 2 rfl (news_mark w2 #[.int .i64 0, .int .i64 (77 + (Br.A.length : Int) / 4), .bool false, .string ⟨#[]⟩, .slice none 0 0, .slice none 0 0, .slice none 0 0, .int .i64 0, .int .i64 (77 + (Br.A.length : Int) / 4), .bool false, .string ⟨#[]⟩, .slice none 0 0, .slice none 0 0, .slice none 0 0] 36 2 [.int .i64 0, .int .i64 (77 + (Br.A.length : Int) / 4), .bool false, .string ⟨#[]⟩, .slice none 0 0, .slice none 0 0, .slice none 0 0] rfl) H1X.out (by unfold maxLen; omega) (by omega) (by simp; omega) ?_; intro v2 w3 hown hg hwh hall; obtain ⟨a2, c2, rfl⟩ := row_form hown; have HC2' : Chg (fun b => (Value.slice ad j cap).ownBlock = some b) w1 w3 := (HC2.out.alloc _).grown hg (fun k e => Or.inl e); have HC3 : Hid (Chg (fun b => (Value.slice ad j cap).ownBlock = some b) w1 w3) := HC2'; clear HC2'; have b3 := HBK.out w3 HC3.out; have t0 := cell_of b3 (i := 0) (v := .int .i64 0) rfl; have t1 := cell_of b3 (i := 1) (v := .int .i64 (77 + (Br.A.length : Int) / 4)) rfl; have t2 := cell_of b3 (i := 2) (v := .bool false) rfl; have t3 := cell_of b3 (i := 3) (v := .string ⟨#[]⟩) rfl; have t4 := cell_of b3 (i := 4) (v := .slice none 0 0) rfl; have t5 := cell_of b3 (i := 5) (v := .slice none 0 0) rfl; have t6 := cell_of b3 (i := 6) (v := .slice none 0 0) rfl; have hrow3 := hall _ _ _ (hrow2.alloc _); have HV2 : Hid (w3.ownsRow mb 36 7 (.slice a1 (j + 1) c1) (j + 1) (rep (j + 1) [.int .i64 0, .int .i64 (77 + (Br.A.length : Int) / 4), .bool false, .string ⟨#[]⟩, .slice none 0 0, .slice none 0 0, .slice none 0 0]) ∧ w3.ownsRow mb 36 7 (.slice a2 (j + 2) c2) (j + 2) (rep (j + 2) [.int .i64 0, .int .i64 (77 + (Br.A.length : Int) / 4), .bool false, .string ⟨#[]⟩, .slice none 0 0, .slice none 0 0, .slice none 0 0]) ∧ ((Value.slice a2 (j + 2) c2).ownBlock = (Value.slice ad j cap).ownBlock ∨ ∀ g, (Value.slice a2 (j + 2) c2).ownBlock = some g → wo.heap.size ≤ g)) := ⟨hall _ _ _ (HV1.out.1.alloc _), hown, hwh.imp id (fun e g e' => by rw [e] at e'; have := Option.some.inj e'; simp at this; have := HC2.out.size; have := HZ.out.1.size; omega)⟩; have hmw3 : mb ≤ w3.heap.size := (by have := HC3.out.size; have := HZ.out.1.size; omega); clear b3 z0 z1 z2 z3 z4 z5 z6 hown hg hwh hall hrow2) | (have hgd := hrow; clear hgd; refine wpList_append_mark rfl _ _ 26 rfl mb 36 i0 (ansV 0 0 false ⟨#[]⟩ (.slice none 0 0)) 7 112 Tryz.underlying26 hi hz0 hz1 hz2 rfl (by decide) _ _ [.int .i64 0, .int .i64 (77 + (Br.A.length : Int) / 4), .bool false, .string ⟨#[]⟩, .slice none 0 0, .slice none 0 0, .slice none 0 0] rfl rfl (hrow.alloc _) ⟨wr.heap.size, 0, none⟩ 1 1 rfl (news_mark wr #[.int .i64 0, .int .i64 (77 + (Br.A.length : Int) / 4), .bool false, .string ⟨#[]⟩, .slice none 0 0, .slice none 0 0, .slice none 0 0] 36 1 [.int .i64 0, .int .i64 (77 + (Br.A.length : Int) / 4), .bool false, .string ⟨#[]⟩, .slice none 0 0, .slice none 0 0, .slice none 0 0] rfl) H1X.out (by unfold maxLen; omega) (by omega) (by simp; omega) ?_; intro v1 w2 hown hg hwh hall; obtain ⟨a1, c1, rfl⟩ := row_form hown; have HC0' : Chg (fun b => (Value.slice ad j cap).ownBlock = some b) w1 w2 := (HC0.out.alloc _).grown hg (fun k e => Or.inl e); have HC2 : Hid (Chg (fun b => (Value.slice ad j cap).ownBlock = some b) w1 w2) := HC0'; clear HC0'; have b2 := HBK.out w2 HC2.out; have z0 := cell_of b2 (i := 0) (v := .int .i64 0) rfl; have z1 := cell_of b2 (i := 1) (v := .int .i64 (77 + (Br.A.length : Int) / 4)) rfl; have z2 := cell_of b2 (i := 2) (v := .bool false) rfl; have z3 := cell_of b2 (i := 3) (v := .string ⟨#[]⟩) rfl; have z4 := cell_of b2 (i := 4) (v := .slice none 0 0) rfl; have z5 := cell_of b2 (i := 5) (v := .slice none 0 0) rfl; have z6 := cell_of b2 (i := 6) (v := .slice none 0 0) rfl; have hrow2 := hall _ _ _ (hrow.alloc _); have HV1 : Hid (w2.ownsRow mb 36 7 (.slice a1 (j + 1) c1) (j + 1) (rep (j + 1) [.int .i64 0, .int .i64 (77 + (Br.A.length : Int) / 4), .bool false, .string ⟨#[]⟩, .slice none 0 0, .slice none 0 0, .slice none 0 0]) ∧ ((Value.slice a1 (j + 1) c1).ownBlock = (Value.slice ad j cap).ownBlock ∨ ∀ g, (Value.slice a1 (j + 1) c1).ownBlock = some g → wo.heap.size ≤ g)) := ⟨hown, hwh.imp id (fun e g e' => by rw [e] at e'; have := Option.some.inj e'; simp at this; have := HC0.out.size; have := HZ.out.1.size; omega)⟩; have hmw2 : mb ≤ w2.heap.size := (by have := HC2.out.size; have := HZ.out.1.size; omega); clear b2 y0 y1 y2 y3 y4 y5 y6 hown hg hwh hall hrow))
          go_end0
          obtain ⟨q0, q1, q2, q3, ho3⟩ := HV3.out
          obtain ⟨e5, hown5, hg5⟩ := HN5.out
          have hb5 := e5.trans HH.out.1.wb
          have c45 : Chg (fun b => (Value.slice Br.aa Br.A.length Br.ac).ownBlock = some b) w4 w5 := ((Chg.refl _ _).alloc _).grown hg5 (fun k e => Or.inl e)
          have c56 : Chg (fun b => b = mb) w5 (w5.setCell ⟨mb, 0, none⟩ (.slice ia' (Br.A.length + 4) ic')) := (Chg.refl (fun b => b = mb) w5).setCell (p := ⟨mb, 0, none⟩) (Or.inl rfl) _
          have hbr4 := HIK.out w4 HC4.out
          have lift : ∀ {v : Value} {K : Nat} {ys : List Value}, w4.ownsRow mb 36 7 v K ys → (w5.setCell ⟨mb, 0, none⟩ (.slice ia' (Br.A.length + 4) ic')).ownsRow 0 36 7 v K ys := fun hq => by
            have r5 := ownsRow_chg hq c45 (fun g e e' => rows_off hq hbr4 (by decide) g e e')
            exact ownsRow_base (ownsRow_chg r5 c56 (fun g e e' => row_off r5 hb5 (by decide) (e' ▸ e))) (Nat.zero_le _)
          have hc6 : Chg (fun b => b = mb ∨ (Value.slice Br.aa Br.A.length Br.ac).ownBlock = some b ∨ (Value.slice ad j cap).ownBlock = some b) wo (w5.setCell ⟨mb, 0, none⟩ (.slice ia' (Br.A.length + 4) ic')) := (((HZ.out.1.any _).trans (HC4.out.mono (fun _ _ h => Or.inr (Or.inr h)))).trans (c45.mono (fun _ _ h => Or.inr (Or.inl h)))).trans (c56.mono (fun _ _ h => Or.inl h))
          have hbook := book_addA (n0 := j) (n1 := j + 1) (n2 := j + 2) (n3 := j + 3) HH.out.1 HH.out.2.1 HH.out.2.2 hc6 (heap_setCell_same w5 mb 0 _ 58 _ hb5) (ownsRow_chg hown5 c56 (fun g e e' => row_off hown5 hb5 (by decide) (e' ▸ e))) (by rw [HX.out]; exact lift q0) (by rw [HX.out]; exact lift q1) (by rw [HX.out]; exact lift q2) (by rw [HX.out]; exact lift q3)
          have hblk : ∀ v ∈ ([.slice ad j cap, .slice a1 (j + 1) c1, .slice a2 (j + 2) c2, .slice a3 (j + 3) c3] : List Value), ∀ g, v.ownBlock = some g → (Value.slice ad j cap).ownBlock = some g ∨ wo.heap.size ≤ g := by
            intro v hv g hg
            have one : ∀ {u : Value}, (u.ownBlock = (Value.slice ad j cap).ownBlock ∨ ∀ g, u.ownBlock = some g → wo.heap.size ≤ g) → u.ownBlock = some g → (Value.slice ad j cap).ownBlock = some g ∨ wo.heap.size ≤ g := fun h e => h.elim (fun h => Or.inl (h ▸ e)) (fun h => Or.inr (h g e))
            simp only [List.mem_cons, List.not_mem_nil, or_false] at hv
            rcases hv with rfl | rfl | rfl | rfl
            · exact Or.inl hg
            · exact one HV1.out.2 hg
            · exact one HV2.out.2.2 hg
            · exact one ho3 hg
          have hch : BChg mb (fun b => (Value.slice ad j cap).ownBlock = some b) wo (w5.setCell ⟨mb, 0, none⟩ (.slice ia' (Br.A.length + 4) ic')) := by
            refine BChg.of hc6 (fun b _ hb => ?_)
            rcases hb with hb | hb | hb
            · rw [hb]; exact ⟨Nat.le_refl _, Or.inl HH.out.1.bookT⟩
            · exact ⟨(HH.out.1.ar.lt b hb).1, Or.inl (row_bookT HH.out.1.ar (Or.inr (Or.inl rfl)) b hb)⟩
            · exact ⟨(HH.out.2.1.lt b hb).1, Or.inr hb⟩
          obtain ⟨f1, f2, f3, f4, f5, f6, f7⟩ := HL.out
          refine ⟨rfl, _, hbook, (f1.mono (fun b _ e => Or.inl (Or.inl e))).trans (hch.mono (fun b _ e => Or.inl (Or.inr e))), fun P hP => (f2 P hP).addA (fun g hx => ?_) (fun v hv g hg => ?_), ?_, f4, f5, f6⟩
          · exact hx.imp id (fun hx => hx.imp Or.inl id)
          · rcases hblk v hv g hg with h1 | h1
            · exact Or.inr (Or.inl (Or.inr h1))
            · exact Or.inr (Or.inr (Nat.le_trans f1.size h1))
          · show (Br.A ++ ([.slice ad j cap, .slice a1 (j + 1) c1, .slice a2 (j + 2) c2, .slice a3 (j + 3) c3] : List Value)).length = B.A.length + 4
            rw [List.length_append, f3]
            rfl
end Go.Proofs.YtkfjafndplmdkaaGreat
