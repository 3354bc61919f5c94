import Derived.Test.YtcpjocgpahjcjaaRU
namespace Go.Proofs.Ytcpjocgpahjcjaa
open Go.RowKit Go.Sort
def st0 (wb : Nat) : RSt := ⟨wb, 0, [], none, 0, [], none, 0, [], none, 0, [], none, 0, 0⟩
theorem st0_inv {w : World} {wb : Nat} (h : w.heap[wb]? = some (.cells #[.int .i64 0, .slice none 0 0, .slice none 0 0, .slice none 0 0, .slice none 0 0, .int .i64 0] 54)) : RInv w (st0 wb) :=
  ⟨h, World.ownsRow_nil _ _ _ _, World.ownsRow_nil _ _ _ _, World.ownsRow_nil _ _ _ _, World.ownsRow_nil _ _ _ _, by simp [st0], by simp [st0, RSt.blocks, RSt.others, RSt.lv, RSt.ov, RSt.qv, RSt.rv, vb, Value.ownBlock]⟩
theorem p0_fit : PFit p0 0 := ⟨rfl, rfl, by simp [p0], by simp [p0], by simp [p0], by simp [p0]⟩
set_option maxRecDepth 100000 in
set_option maxHeartbeats 1000000 in
theorem refRun_any (b off cap : Nat) (ops : List OpM) (w : World) (hops : OpsAt w b off ops) (hbl : b < w.heap.size) (hok : ∀ o ∈ ops, o.kind ≤ 6 ∨ 11 < o.kind) (hn : ops.length ≤ 1500000) :
    Calls Try.prog 14 #[.slice (some ⟨b, off, none⟩) ops.length cap] w fun e w' => ∃ v, e = .returned v ∧ ∃ sl : List Sl, w'.ownsRow w.heap.size 36 7 v ops.length (ansCells (ansR p0 ops) sl) ∧ ItemsAt w' w.heap.size (ansR p0 ops) sl ∧ Chg nobody w w' := by
  obtain ⟨i0, hi, hz0, hz1, hz2⟩ := info_parts info36
  have HO : Hid (OpsAt w b off ops ∧ ∀ o ∈ ops, o.kind ≤ 6 ∨ 11 < o.kind) := ⟨hops, hok⟩
  clear hops hok
  have H1 : Hid (RInv (w.alloc (.cells #[.int .i64 0, .slice none 0 0, .slice none 0 0, .slice none 0 0, .slice none 0 0, .int .i64 0] 54)) (st0 w.heap.size) ∧ Chg nobody w (w.alloc (.cells #[.int .i64 0, .slice none 0 0, .slice none 0 0, .slice none 0 0, .slice none 0 0, .int .i64 0] 54))) := ⟨st0_inv (heap_new rfl), (Chg.refl _ _).alloc _⟩
  go_enter Try.func14, Try.ntmps14
  go_wp2_with fail
  go_loopw [4, 5] (fun v i wr => ∃ (j : Nat) (S : RSt) (sl : List Sl), j ≤ ops.length ∧ i = .int .i64 j ∧ S.wb = w.heap.size ∧ RInv wr S ∧ S.abs = stR p0 (ops.take j) ∧ PFit S.abs j ∧ wr.ownsRow w.heap.size 36 7 v j (ansCells (ansR p0 (ops.take j)) sl) ∧ ItemsAt wr w.heap.size (ansR p0 (ops.take j)) sl ∧ Chg nobody w wr ∧ (∀ b ∈ S.blocks, w.heap.size ≤ b))
    (fun _ i _ => ops.length - (intOf i).toNat)
  case atStart =>
    obtain ⟨hI, hc⟩ := H1.out
    exact ⟨0, st0 w.heap.size, [], Nat.zero_le _, rfl, rfl, hI, rfl, p0_fit, World.ownsRow_nil _ _ _ _, ⟨rfl, by simp [ansR]⟩, hc, by simp [st0, RSt.blocks, RSt.others, RSt.lv, RSt.ov, RSt.qv, RSt.rv, vb, Value.ownBlock]⟩
  case round =>
    obtain ⟨j, S, sl, hj, rfl, hp, hI, hs, hfit, hrow, hit, hc, hb⟩ := hrel
    by_cases hlt : j < ops.length
    · obtain ⟨hops, hok⟩ := HO.out
      obtain ⟨o0, o1, o2, o3, o4⟩ := hops j hlt
      have hcl : ∀ i, wr.cell? ⟨b, i, none⟩ = w.cell? ⟨b, i, none⟩ := fun i => hc.below.cell (p := ⟨b, i, none⟩) hbl
      rw [← hcl] at o0 o1 o2 o3 o4
      have hoo := hok _ (List.getElem_mem hlt)
      have HG : Hid (ops.take (j + 1) = ops.take j ++ [ops[j]]) := List.take_succ_eq_append_getElem hlt
      generalize ops[j] = o at *
      obtain ⟨f1, f2, f3, f4⟩ := hfit.fit (by omega)
      have HP := rstep_any S o wr hI f1 f2 f3 f4 hoo
      rw [hp] at HP
      have HJ : Hid (S.wb = w.heap.size ∧ RInv wr S ∧ S.abs = stR p0 (ops.take j) ∧ PFit S.abs j ∧ wr.ownsRow w.heap.size 36 7 u4 j (ansCells (ansR p0 (ops.take j)) sl) ∧ ItemsAt wr w.heap.size (ansR p0 (ops.take j)) sl ∧ Chg nobody w wr ∧ ∀ b ∈ S.blocks, w.heap.size ≤ b) := ⟨hp, hI, hs, hfit, hrow, hit, hc, hb⟩
      clear hp hI hs hfit hrow hit hc hb hcl hops hok hoo f1 f2 f3 f4
      go_wp2_with fail
      refine HP.mono ?_
      rintro e w4 ⟨S', it, rfl, hrw, q3, q1, q2, q5, q4⟩
      obtain ⟨a, c, rfl⟩ := row_form hrw
      obtain ⟨hp, hI, hs, hfit, hrow, hit, hc, hb⟩ := HJ.out
      have hrow4 : w4.ownsRow w.heap.size 36 7 u4 j (ansCells (ansR p0 (ops.take j)) sl) := ownsRow_chg hrow q4 (hI.row hrow (by decide))
      have hit4 : ItemsAt w4 w.heap.size (ansR p0 (ops.take j)) sl := hit.keep q4 (fun p hp => hI.row (hit.2 p hp) (by decide))
      have hcc4 : Chg nobody w w4 := hc.andThen q4 (fun i hi h => by have := hb i h; omega)
      have hb4 : ∀ b ∈ S'.blocks, w.heap.size ≤ b := fun x hx => by
        rcases q5 x hx with h | h
        · exact hb x h
        · have := hc.size; omega
      have hs4 : S'.abs = stR p0 (ops.take (j + 1)) := by rw [HG.out, stR_snoc, q3, hs]
      have hf4 : PFit S'.abs (j + 1) := by rw [q3]; exact pfit_step hfit o
      have ha4 : ansR p0 (ops.take (j + 1)) = ansR p0 (ops.take j) ++ [(stepR S.abs o).1] := by rw [HG.out, ansR_snoc, hs]
      have hrw4 : w4.ownsRow w.heap.size 48 2 (.slice a (stepR S.abs o).1.items.length c) (stepR S.abs o).1.items.length (itemCells (stepR S.abs o).1.items) := ownsRow_base hrw (by have := hc.size; omega)
      have hle4 : w.heap.size ≤ w4.heap.size := hcc4.size
      have HK : Hid (S'.wb = w.heap.size ∧ RInv w4 S' ∧ S'.abs = stR p0 (ops.take (j + 1)) ∧ PFit S'.abs (j + 1) ∧ ItemsAt w4 w.heap.size (ansR p0 (ops.take j)) sl ∧ Chg nobody w w4 ∧ (∀ b ∈ S'.blocks, w.heap.size ≤ b) ∧ ansR p0 (ops.take (j + 1)) = ansR p0 (ops.take j) ++ [(stepR S.abs o).1] ∧ w4.ownsRow w.heap.size 48 2 (.slice a (stepR S.abs o).1.items.length c) (stepR S.abs o).1.items.length (itemCells (stepR S.abs o).1.items)) := ⟨q1.trans hp, q2, hs4, hf4, hit4, hcc4, hb4, ha4, hrw4⟩
      clear q1 q2 q3 q4 q5 hrw hp hI hs hfit hrow hit hc hb hit4 hcc4 hb4 hs4 hf4 ha4 hrw4 HP HJ o0 o1 o2 o3 o4
      generalize (stepR S.abs o).1 = A at *
      generalize hnA : A.items.length = nA at *
      have HNA : Hid (A.items.length = nA) := hnA
      clear hnA
      have HCN : Hid (∀ j u, (ansCell (A, (a, nA, c)))[j]? = some u → ((w4.alloc (.cells (ansC A.code A.number A.found A.value (.slice a nA c)) 36)).alloc (.cells (ansC A.code A.number A.found A.value (.slice a nA c)) 36)).cell? ((⟨w4.heap.size + 1, 0, none⟩ : Addr).add j) = some u) := fun j u hu => by
        have h0 := cells_new (w4.alloc (.cells (ansC A.code A.number A.found A.value (.slice a nA c)) 36)) (ansC A.code A.number A.found A.value (.slice a nA c)) 36 j u hu
        have hz : (w4.alloc (.cells (ansC A.code A.number A.found A.value (.slice a nA c)) 36)).heap.size = w4.heap.size + 1 := by simp
        rw [hz] at h0
        exact h0
      go_wp2_with (at_builtin; refine wpList_append_own _ rfl _ _ 26 rfl w.heap.size 36 i0 (ansV 0 0 false ⟨#[]⟩ (.slice none 0 0)) 7 112 Try.underlying26 hi hz0 hz1 hz2 rfl (by decide) _ _ _ rfl ((hrow4.alloc _).alloc _) ⟨w4.heap.size + 1, 0, none⟩ 1 1 (ansCell (A, (a, nA, c))) rfl rfl HCN.out (by simp [ansCell, Value.oneCell']) (by unfold maxLen; omega) (by omega) (by simp; omega) ?_; intro v' w5 hown' hg5 _; go_frame)
      go_roundw
      case rel =>
        obtain ⟨hp, hI, hs, hfit, hit, hc, hb, ha, hrw⟩ := HK.out
        have hc5 : Chg (fun g => u4.ownBlock = some g) w4 w5 := (((Chg.refl _ _).alloc _).alloc _).grown hg5 (fun g e => Or.inl e)
        have hno : ∀ x ∈ S'.blocks, ¬ u4.ownBlock = some x := fun x hx e => hI.row hrow4 (by decide) x e hx
        refine ⟨j + 1, S', sl ++ [(a, nA, c)], by omega, by go_num, hp, hI.chg hc5 hno, hs, hfit, ?_, ?_, hc.andThen hc5 (fun i hi e => by have := (hrow4.lt i e).1; omega), hb⟩
        · rw [ha, ansCells_snoc hit.1]
          exact hown'
        · rw [ha]
          refine ⟨by simp [hit.1], fun q hq => ?_⟩
          rw [List.zip_append hit.1.symm] at hq
          rcases List.mem_append.1 hq with hq | hq
          · exact ownsRow_chg (hit.2 q hq) hc5 (fun g e => row_apart (hit.2 q hq) hrow4 (by decide) g e)
          · simp only [List.zip_cons_cons, List.zip_nil_right, List.mem_singleton] at hq
            subst hq
            rw [HNA.out]
            exact ownsRow_chg hrw hc5 (fun g e => row_apart hrw hrow4 (by decide) g e)
      case measure => simp [intOf]; omega
    · go_wp2
      go_ret
      have hjl : j = ops.length := by omega
      subst hjl
      rw [List.take_length] at hrow hit
      exact ⟨_, rfl, sl, hrow, hit, hc⟩
end Go.Proofs.Ytcpjocgpahjcjaa
