import Derived.Test.YtkfjafndplmdkaaGreatVN
import Derived.Test.YtkfjafndplmdkaaGreatTO
namespace Go.Proofs.YtkfjafndplmdkaaGreat
open Go.RowKit Go.Sort
theorem RInv.addTx {w w' : World} {S : RSt} {c : Int} {oa' : Option Addr} {oc' : Nat} (h : RInv w S)
    (hb : w'.heap[S.wb]? = some (.cells #[.int .i64 c, S.lv, .slice oa' (S.ts.length + 1) oc', S.qv, S.rv, .int .i64 S.low] 79)) (ho : w'.ownsRow 0 97 4 (.slice oa' (S.ts.length + 1) oc') (S.ts.length + 1) (rtCells (S.ts ++ [newT c])))
    (hc : Chg (fun b => b = S.wb ∨ S.ov.ownBlock = some b) w w') (hw : (Value.slice oa' (S.ts.length + 1) oc').ownBlock = S.ov.ownBlock ∨ ∀ b, (Value.slice oa' (S.ts.length + 1) oc').ownBlock = some b → w.heap.size ≤ b) :
    ROk w S w' { S with clock := c, ts := S.ts ++ [newT c], oa := oa', oc := oc' } := by
  have hnd := h.nd
  have e0 : S.blocks = (S.wb :: S.others) ++ (vb S.ov ++ S.ts.flatMap RT.blocks) := by simp [RSt.blocks]
  have hlt := h.lt
  rw [e0] at hnd hlt
  obtain ⟨n1, n2, n3⟩ := List.nodup_append.1 hnd
  obtain ⟨m1, m2, m3⟩ := List.nodup_append.1 n2
  have hwo : S.wb ∉ S.others := (List.nodup_cons.1 n1).1
  have hwt : ∀ T ∈ S.ts, ∀ b ∈ T.blocks, ¬ (b = S.wb ∨ S.ov.ownBlock = some b) := fun T hT b hb => by
    have hm : b ∈ S.ts.flatMap RT.blocks := List.mem_flatMap.2 ⟨T, hT, hb⟩
    rintro (e | e)
    · exact n3 S.wb (by simp) b (List.mem_append.2 (Or.inr hm)) e.symm
    · exact m3 b (vb_mem.2 e) b hm rfl
  have keepRow : ∀ {e : TypeId} {size : Nat} {v : Value} {n : Nat} {xs : List Value}, w.ownsRow 0 e size v n xs → vb v ⊆ S.others → w'.ownsRow 0 e size v n xs := fun hr hv =>
    ownsRow_chg hr hc (fun g e => by
      have hg := hv (vb_mem.2 e)
      rintro (h1 | h1)
      · exact hwo (h1 ▸ hg)
      · exact n3 g (List.mem_cons_of_mem _ hg) g (List.mem_append.2 (Or.inl (vb_mem.2 h1))) rfl)
  have hx : ∀ b ∈ vb (.slice oa' (S.ts.length + 1) oc'), b ∈ vb S.ov ∨ w.heap.size ≤ b := fun b hb => by
    rcases hw with hw | hw
    · exact Or.inl (by rw [vb_eq hw] at hb; exact hb)
    · exact Or.inr (hw b (vb_mem.1 hb))
  have hnd2 : ((S.wb :: S.others) ++ (vb (.slice oa' (S.ts.length + 1) oc') ++ S.ts.flatMap RT.blocks)).Nodup := nodup_swap (n := w.heap.size) hnd (vb_nodup _) hx (fun b hb => hlt b (List.mem_append.2 (Or.inl hb))) (fun b hb => hlt b (List.mem_append.2 (Or.inr (List.mem_append.2 (Or.inr hb)))))
  have e1 : ({ S with clock := c, ts := S.ts ++ [newT c], oa := oa', oc := oc' } : RSt).blocks = (S.wb :: S.others) ++ (vb (.slice oa' (S.ts.length + 1) oc') ++ S.ts.flatMap RT.blocks) := by
    show S.wb :: (S.others ++ vb (.slice oa' (S.ts ++ [newT c]).length oc')) ++ (S.ts ++ [newT c]).flatMap RT.blocks = _
    simp [RT.blocks, RT.wv, RT.kv, RT.pv, vb, Value.ownBlock]
  refine ⟨⟨?_, keepRow h.lr ?_, ?_, keepRow h.qr ?_, keepRow h.rr ?_, fun T hT => ?_, ?_⟩, ?_, ?_⟩
  · show w'.heap[S.wb]? = some (.cells #[.int .i64 c, S.lv, .slice oa' (S.ts ++ [newT c]).length oc', S.qv, S.rv, .int .i64 S.low] 79)
    simpa using hb
  · intro x hx; replace hx : x ∈ vb S.lv := hx; simp [RSt.others, hx]
  · show w'.ownsRow 0 97 4 (.slice oa' (S.ts ++ [newT c]).length oc') (S.ts ++ [newT c]).length (rtCells (S.ts ++ [newT c]))
    simpa using ho
  · intro x hx; replace hx : x ∈ vb S.qv := hx; simp [RSt.others, hx]
  · intro x hx; replace hx : x ∈ vb S.rv := hx; simp [RSt.others, hx]
  · replace hT : T ∈ S.ts ++ [newT c] := hT
    rcases List.mem_append.1 hT with h1 | h1
    · exact (h.ts T h1).chg hc (fun b hb => hwt T h1 b hb)
    · have e : T = newT c := by simpa using h1
      subst e
      exact ⟨World.ownsRow_nil _ _ _ _, World.ownsRow_nil _ _ _ _, World.ownsRow_nil _ _ _ _⟩
  · rw [e1]; exact hnd2
  · rw [e1, e0]
    intro b hb
    rcases List.mem_append.1 hb with h1 | h1
    · exact Or.inl (List.mem_append.2 (Or.inl h1))
    · rcases List.mem_append.1 h1 with h2 | h2
      · rcases hx b h2 with h3 | h3
        · exact Or.inl (List.mem_append.2 (Or.inr (List.mem_append.2 (Or.inl h3))))
        · exact Or.inr h3
      · exact Or.inl (List.mem_append.2 (Or.inr (List.mem_append.2 (Or.inr h2))))
  · refine hc.mono (fun i _ hi => ?_)
    rw [e0]
    rcases hi with h1 | h1
    · rw [h1]; simp
    · have := vb_mem.2 h1; simp [this]
theorem findI_of (ts : List RT) (n : Int) : (findI (ts.map RT.start) n = -1 ∧ (ts.map RT.abs).findIdx? (fun T => T.start == n) = none) ∨ ∃ k, k < ts.length ∧ findI (ts.map RT.start) n = k ∧ (ts.map RT.abs).findIdx? (fun T => T.start == n) = some k := by
  unfold findI
  have e1 : (ts.map RT.start).findIdx? (· == n) = ts.findIdx? (fun T => T.start == n) := by rw [List.findIdx?_map]; rfl
  have e2 : (ts.map RT.abs).findIdx? (fun T => T.start == n) = ts.findIdx? (fun T => T.start == n) := by rw [List.findIdx?_map]; rfl
  rw [e1, e2]
  cases hx : ts.findIdx? (fun T => T.start == n) with
  | none => exact Or.inl ⟨rfl, rfl⟩
  | some k => exact Or.inr ⟨k, (List.findIdx?_eq_some_iff_getElem.1 hx).1, rfl, rfl⟩
theorem PFit.fit {S : RSt} {n : Nat} (h : PFit S.abs n) (hn : n ≤ 1500000) : RFit S ∧ S.q.length ≤ 2000000 ∧ 0 ≤ S.clock ∧ S.clock < 1000000000 ∧ S.L.length ≤ 1500000 ∧ S.ts.length ≤ 1500000 ∧ ∀ v ∈ S.L, 0 ≤ v.time := by
  have hL : S.L.length ≤ 100 := h.L
  have hq : S.q.length ≤ 3 := h.ql
  have hl : (S.ts.map RT.abs).length ≤ 6 := h.len
  rw [List.length_map] at hl
  have hc : S.clock + S.q.length ≤ n := h.c1
  refine ⟨⟨by omega, by omega, fun T hT => ?_⟩, by omega, h.c0, by omega, by omega, by omega, h.Lt⟩
  have := h.tx T.abs (List.mem_map.2 ⟨T, hT, rfl⟩)
  simp only [RT.abs] at this
  omega
theorem ofM_more (W : PW) (k : Nat) (T : PT) (o : OpM) : (ofM W k T o).1.done = [] ∧ (ofM W k T o).1.sums = [] := by
  unfold ofM
  repeat' split
  all_goals exact ⟨rfl, rfl⟩
/-- EVERY STEP OF THE REFERENCE. -/
theorem rstep_any (S : RSt) (o : OpM) (N : Nat) (w : World) (h : RInv w S) (hfit : PFit S.abs N) (hN : N ≤ 1500000) :
    Calls Tryz.prog 40 #[.pointer (some ⟨S.wb, 0, none⟩), o.v] w (RPostW w S (stepR S.abs o).1 (stepR S.abs o).2) := by
  obtain ⟨hf, hq, h0, h1, hL, hts, hLt⟩ := hfit.fit hN
  by_cases k1 : o.kind = 1
  · have hl : S.abs.ts.length = S.ts.length := List.length_map ..
    by_cases h6 : 6 ≤ S.ts.length
    · have e : stepR S.abs o = (errA 6, S.abs) := by unfold stepR; rw [if_pos k1, if_pos (by rw [hl]; exact h6)]
      rw [e]
      refine (rstep_many S.wb S.ts.length S.oc S.oa o w k1 h6 h.wb).mono ?_
      rintro en w' ⟨rfl, hc⟩
      exact rpost_w (rpost_err h hc 6) rfl rfl
    · have e : stepR S.abs o = (⟨0, S.clock + 1, false, ⟨#[]⟩, [], [], []⟩, { S.abs with clock := S.clock + 1, ts := S.abs.ts ++ [⟨S.clock + 1, [], [], []⟩] }) := by unfold stepR; rw [if_pos k1, if_neg (by rw [hl]; exact h6)]; rfl
      rw [e]
      refine (rstep_begin S.wb S.oc S.clock S.oa S.ts o w k1 (by omega) h0 h1 h.wb h.or).mono ?_
      rintro en w' ⟨rfl, oa', oc', q1, q2, q3, q4⟩
      refine rpost_w ⟨{ S with clock := S.clock + 1, ts := S.ts ++ [newT (S.clock + 1)], oa := oa', oc := oc' }, .slice none 0 0, rfl, World.ownsRow_nil _ _ _ _, ?_, rfl, h.addTx q1 q2 q3 q4⟩ rfl rfl
      simp [RSt.abs, RT.abs]
  by_cases k2 : 2 ≤ o.kind ∧ o.kind ≤ 7
  · have k5 : o.kind = 2 ∨ o.kind = 3 ∨ o.kind = 4 ∨ o.kind = 5 ∨ o.kind = 6 ∨ o.kind = 7 := by omega
    rcases findI_of S.ts o.t with ⟨f1, f2⟩ | ⟨k, hk, f1, f2⟩
    · have e : stepR S.abs o = (errA 2, S.abs) := by
        unfold stepR
        rw [if_neg k1, if_pos k2]
        have : S.abs.ts.findIdx? (fun T => T.start == o.t) = none := f2
        rw [this]
      rw [e]
      refine (rstep_none S o w h hf.ts hq k5 f1).mono ?_
      rintro en w' ⟨rfl, hc⟩
      exact rpost_w (rpost_err h hc 2) rfl rfl
    · have hg : S.abs.ts.findIdx? (fun T => T.start == o.t) = some k := f2
      by_cases hin : o.t ∈ S.q
      · have e : stepR S.abs o = (errA 3, S.abs) := by
          unfold stepR
          rw [if_neg k1, if_pos k2, hg]
          have : o.t ∈ S.abs.q := hin
          simp only [if_pos this]
        rw [e]
        refine (rstep_queued S o w h hf.ts hq k5 k f1 hin).mono ?_
        rintro en w' ⟨rfl, hc⟩
        exact rpost_w (rpost_err h hc 3) rfl rfl
      · have e : stepR S.abs o = ofM S.abs k S.ts[k].abs o := by
          unfold stepR
          rw [if_neg k1, if_pos k2, hg]
          have : ¬ o.t ∈ S.abs.q := hin
          have hT : S.abs.ts[k]? = some S.ts[k].abs := by simp [RSt.abs, List.getElem?_eq_getElem hk]
          simp only [if_neg this, hT]
        rw [e]
        refine (rstep_of S o w h hf hq k5 k hk f1 hin (fun w2 hc => of_all S k o w2 (h.chg hc (fun _ _ h => h)) hf hk hq k2)).mono ?_
        rintro en w' hp
        exact rpost_w hp (ofM_more _ _ _ _).1 (ofM_more _ _ _ _).2
  by_cases k8 : o.kind = 8
  · exact rstep_flush S o N w h hfit hN k8
  by_cases k9 : o.kind = 9
  · exact rstep_fence S o w h k9
  by_cases k10 : o.kind = 10
  · exact rstep_clean S o w h hL hts hLt k10
  by_cases k11 : o.kind = 11
  · exact rstep_sums S o w h k11
  have e : stepR S.abs o = (errA 1, S.abs) := by unfold stepR; rw [if_neg k1, if_neg k2, if_neg k8, if_neg k9, if_neg k10, if_neg k11]
  rw [e]
  refine (rstep_kind S.wb o w (by omega)).mono ?_
  rintro en w' ⟨rfl, hc⟩
  exact rpost_w (rpost_err h hc 1) rfl rfl
end Go.Proofs.YtkfjafndplmdkaaGreat
namespace Go.Proofs.YtkfjafndplmdkaaGreat
open Go.RowKit Go.Sort
def st0 (wb : Nat) : RSt := ⟨wb, 0, [], none, 0, [], none, 0, [], none, 0, [], none, 0, 0⟩
theorem st0_inv {w : World} {wb : Nat} (h : w.heap[wb]? = some (.cells #[.int .i64 0, .slice none 0 0, .slice none 0 0, .slice none 0 0, .slice none 0 0, .int .i64 0] 79)) : RInv w (st0 wb) :=
  ⟨h, World.ownsRow_nil _ _ _ _, World.ownsRow_nil _ _ _ _, World.ownsRow_nil _ _ _ _, World.ownsRow_nil _ _ _ _, by simp [st0], by simp [st0, RSt.blocks, RSt.others, RSt.lv, RSt.ov, RSt.qv, RSt.rv, vb, Value.ownBlock]⟩
/-- the sums told so far are none of the reference's blocks. -/
def SumsApart (S : RSt) (As : List AnsM) (sl : List Sl3) : Prop := ∀ p ∈ As.zip sl, ∀ g, (slV p.2.2.2).ownBlock = some g → g ∉ S.blocks
theorem RInv.rowsR {w : World} {S : RSt} (h : RInv w S) {base : Nat} {A : AnsM} {x : Sl3} (hr : RowsOf w base A x) (ha : ∀ g, (slV x.2.2).ownBlock = some g → g ∉ S.blocks) : ∀ v g, (v = slV x.1 ∨ v = slV x.2.1 ∨ v = slV x.2.2) → v.ownBlock = some g → g ∉ S.blocks := by
  rintro v g (rfl | rfl | rfl) hg
  · exact h.rowR hr.1 (by decide) g hg
  · exact h.rowR hr.2.1 (by decide) g hg
  · exact ha g hg
set_option maxRecDepth 100000 in
set_option maxHeartbeats 1000000 in
theorem refRun_any (b off cap : Nat) (ops : List OpM) (w : World) (hops : OpsAt w b off ops) (hbl : b < w.heap.size) (hn : ops.length ≤ 1500000) :
    Calls Tryz.prog 27 #[.slice (some ⟨b, off, none⟩) ops.length cap] w fun e w' => ∃ v, e = .returned v ∧ ∃ sl : List Sl3, w'.ownsRow w.heap.size 36 7 v ops.length (ansCells (ansP p0 ops) sl) ∧ ItemsAt w' w.heap.size (ansP p0 ops) sl ∧ Chg nobody w w' := by
  obtain ⟨i0, hi, hz0, hz1, hz2⟩ := info_parts infoAns
  have HO : Hid (OpsAt w b off ops) := hops
  clear hops
  have H1 : Hid (RInv (w.alloc (.cells #[.int .i64 0, .slice none 0 0, .slice none 0 0, .slice none 0 0, .slice none 0 0, .int .i64 0] 79)) (st0 w.heap.size) ∧ Chg nobody w (w.alloc (.cells #[.int .i64 0, .slice none 0 0, .slice none 0 0, .slice none 0 0, .slice none 0 0, .int .i64 0] 79))) := ⟨st0_inv (heap_new rfl), (Chg.refl _ _).alloc _⟩
  go_enter Tryz.func27, Tryz.ntmps27
  go_wp2_with fail
  go_loopw [4, 5] (fun v i wr => ∃ (j : Nat) (S : RSt) (sl : List Sl3), j ≤ ops.length ∧ i = .int .i64 j ∧ S.wb = w.heap.size ∧ RInv wr S ∧ S.abs = stP p0 (ops.take j) ∧ PFit S.abs j ∧ wr.ownsRow w.heap.size 36 7 v j (ansCells (ansP p0 (ops.take j)) sl) ∧ ItemsAt wr w.heap.size (ansP p0 (ops.take j)) sl ∧ Chg nobody w wr ∧ (∀ b ∈ S.blocks, w.heap.size ≤ b) ∧ SumsApart S (ansP p0 (ops.take j)) sl)
    (fun _ i _ => ops.length - (intOf i).toNat)
  case atStart =>
    obtain ⟨hI, hc⟩ := H1.out
    exact ⟨0, st0 w.heap.size, [], Nat.zero_le _, rfl, rfl, hI, rfl, p0_fit, World.ownsRow_nil _ _ _ _, ⟨rfl, by simp [ansP]⟩, hc, by simp [st0, RSt.blocks, RSt.others, RSt.lv, RSt.ov, RSt.qv, RSt.rv, vb, Value.ownBlock], (fun p hp => by simp at hp)⟩
  case round =>
    obtain ⟨j, S, sl, hj, rfl, hp, hI, hs, hfit, hrow, hit, hc, hb, hap⟩ := hrel
    by_cases hlt : j < ops.length
    · obtain ⟨o0, o1, o2, o3, o4⟩ := HO.out j hlt
      have hcl : ∀ i, wr.cell? ⟨b, i, none⟩ = w.cell? ⟨b, i, none⟩ := fun i => hc.below.cell (p := ⟨b, i, none⟩) hbl
      rw [← hcl] at o0 o1 o2 o3 o4
      have HG : Hid (ops.take (j + 1) = ops.take j ++ [ops[j]]) := List.take_succ_eq_append_getElem hlt
      generalize ops[j] = o at *
      have HP := rstep_any S o j wr hI hfit (by omega)
      rw [hp] at HP
      have HJ : Hid (S.wb = w.heap.size ∧ RInv wr S ∧ S.abs = stP p0 (ops.take j) ∧ PFit S.abs j ∧ wr.ownsRow w.heap.size 36 7 u4 j (ansCells (ansP p0 (ops.take j)) sl) ∧ ItemsAt wr w.heap.size (ansP p0 (ops.take j)) sl ∧ Chg nobody w wr ∧ (∀ b ∈ S.blocks, w.heap.size ≤ b) ∧ SumsApart S (ansP p0 (ops.take j)) sl) := ⟨hp, hI, hs, hfit, hrow, hit, hc, hb, hap⟩
      clear hp hI hs hfit hrow hit hc hb hcl hap
      go_wp2_with fail
      refine HP.mono ?_
      rintro e w4 ⟨S', ⟨⟨a, k, c⟩, ⟨a2, k2, c2⟩, ⟨a3, k3, c3⟩⟩, rfl, hrw, hax, q3, q1, q2, q5, q4⟩
      obtain ⟨hp, hI, hs, hfit, hrow, hit, hc, hb, hap⟩ := HJ.out
      have hrow4 : w4.ownsRow w.heap.size 36 7 u4 j (ansCells (ansP p0 (ops.take j)) sl) := ownsRow_chg hrow q4 (hI.rowR hrow (by decide))
      have hit4 : ItemsAt w4 w.heap.size (ansP p0 (ops.take j)) sl := hit.keep q4 (fun p hp => hI.rowsR (hit.2 p hp) (hap p hp))
      have hcc4 : Chg nobody w w4 := hc.andThen q4 (fun i hi h => by have := hb i h; omega)
      have hb4 : ∀ b ∈ S'.blocks, w.heap.size ≤ b := fun x hx => by
        rcases q5 x hx with h | h
        · exact hb x h
        · have := hc.size; omega
      have hap4 : SumsApart S' (ansP p0 (ops.take j)) sl := fun p hp g hg hm => by
        rcases q5 g hm with h | h
        · exact hap p hp g hg h
        · have := ((hit.2 p hp).2.2.lt g hg).2; omega
      have hs4 : S'.abs = stP p0 (ops.take (j + 1)) := by rw [HG.out, stP_snoc, q3, hs]
      have hf4 : PFit S'.abs (j + 1) := by rw [q3]; exact pfit_step hfit o
      have ha4 : ansP p0 (ops.take (j + 1)) = ansP p0 (ops.take j) ++ [(stepR S.abs o).1] := by rw [HG.out, ansP_snoc, hs]
      have hrw4 : RowsOf w4 w.heap.size (stepR S.abs o).1 ((a, k, c), (a2, k2, c2), (a3, k3, c3)) := hrw.base (by have := hc.size; omega)
      have hle4 : w.heap.size ≤ w4.heap.size := hcc4.size
      have HK : Hid (S'.wb = w.heap.size ∧ RInv w4 S' ∧ S'.abs = stP p0 (ops.take (j + 1)) ∧ PFit S'.abs (j + 1) ∧ ItemsAt w4 w.heap.size (ansP p0 (ops.take j)) sl ∧ Chg nobody w w4 ∧ (∀ b ∈ S'.blocks, w.heap.size ≤ b) ∧ ansP p0 (ops.take (j + 1)) = ansP p0 (ops.take j) ++ [(stepR S.abs o).1] ∧ RowsOf w4 w.heap.size (stepR S.abs o).1 ((a, k, c), (a2, k2, c2), (a3, k3, c3)) ∧ SumsApart S' (ansP p0 (ops.take j)) sl ∧ ∀ g, (Value.slice a3 k3 c3).ownBlock = some g → g ∉ S'.blocks) := ⟨q1.trans hp, q2, hs4, hf4, hit4, hcc4, hb4, ha4, hrw4, hap4, hax⟩
      clear q1 q2 q3 q4 q5 hrw hp hI hs hfit hrow hit hc hb hit4 hcc4 hb4 hs4 hf4 ha4 hrw4 HP HJ o0 o1 o2 o3 o4 hap hap4 hax
      generalize (stepR S.abs o).1 = A at *
      have HCN : Hid (∀ j u, (ansCell (A, ((a, k, c), (a2, k2, c2), (a3, k3, c3))))[j]? = some u → ((w4.alloc (.cells #[.int .i64 A.code, .int .i64 A.number, .bool A.found, .string A.value, .slice a k c, .slice a2 k2 c2, .slice a3 k3 c3] 36)).alloc (.cells #[.int .i64 A.code, .int .i64 A.number, .bool A.found, .string A.value, .slice a k c, .slice a2 k2 c2, .slice a3 k3 c3] 36)).cell? ((⟨w4.heap.size + 1, 0, none⟩ : Addr).add j) = some u) := fun j u hu => by
        have h0 := cells_new (w4.alloc (.cells #[.int .i64 A.code, .int .i64 A.number, .bool A.found, .string A.value, .slice a k c, .slice a2 k2 c2, .slice a3 k3 c3] 36)) #[.int .i64 A.code, .int .i64 A.number, .bool A.found, .string A.value, .slice a k c, .slice a2 k2 c2, .slice a3 k3 c3] 36 j u hu
        have hz : (w4.alloc (.cells #[.int .i64 A.code, .int .i64 A.number, .bool A.found, .string A.value, .slice a k c, .slice a2 k2 c2, .slice a3 k3 c3] 36)).heap.size = w4.heap.size + 1 := by simp
        rw [hz] at h0
        exact h0
      go_wp2_with (at_builtin; refine wpList_append_own _ rfl _ _ 26 rfl w.heap.size 36 i0 (ansV 0 0 false ⟨#[]⟩ (.slice none 0 0)) 7 112 Tryz.underlying26 hi hz0 hz1 hz2 rfl (by decide) _ _ _ rfl ((hrow4.alloc _).alloc _) ⟨w4.heap.size + 1, 0, none⟩ 1 1 (ansCell (A, ((a, k, c), (a2, k2, c2), (a3, k3, c3)))) rfl rfl HCN.out (by simp [ansCell, Value.oneCell']) (by unfold maxLen; omega) (by omega) (by simp; omega) ?_; intro v' w5 hown' hg5 _; go_frame)
      go_roundw
      case rel =>
        obtain ⟨hp, hI, hs, hfit, hit, hc, hb, ha, hrw, hap, hax⟩ := HK.out
        have hc5 : Chg (fun g => u4.ownBlock = some g) w4 w5 := (((Chg.refl _ _).alloc _).alloc _).grown hg5 (fun g e => Or.inl e)
        have hno : ∀ x ∈ S'.blocks, ¬ u4.ownBlock = some x := fun x hx e => hI.rowR hrow4 (by decide) x e hx
        refine ⟨j + 1, S', sl ++ [((a, k, c), (a2, k2, c2), (a3, k3, c3))], by omega, by go_num, hp, hI.chg hc5 hno, hs, hfit, ?_, ?_, hc.andThen hc5 (fun i hi e => by have := (hrow4.lt i e).1; omega), hb, ?_⟩
        · rw [ha, ansCells_snoc hit.1]
          exact hown'
        · rw [ha]
          refine ⟨by simp [hit.1], fun q hq => ?_⟩
          rw [List.zip_append hit.1.symm] at hq
          rcases List.mem_append.1 hq with hq | hq
          · exact (hit.2 q hq).chg hc5 (rows_apart (hit.2 q hq) hrow4)
          · simp only [List.zip_cons_cons, List.zip_nil_right, List.mem_singleton] at hq
            subst hq
            exact hrw.chg hc5 (rows_apart hrw hrow4)
        · rw [ha]
          intro q hq
          rw [List.zip_append hit.1.symm] at hq
          rcases List.mem_append.1 hq with hq | hq
          · exact hap q hq
          · simp only [List.zip_cons_cons, List.zip_nil_right, List.mem_singleton] at hq
            subst hq
            exact hax
      case measure => simp [intOf]; omega
    · go_wp2
      go_ret
      have hjl : j = ops.length := by omega
      subst hjl
      rw [List.take_length] at hrow hit
      exact ⟨_, rfl, sl, hrow, hit, hc⟩
end Go.Proofs.YtkfjafndplmdkaaGreat
namespace Go.Proofs.YtkfjafndplmdkaaGreat
open Go.RowKit Go.Sort
set_option maxRecDepth 100000 in
set_option maxHeartbeats 1000000 in
theorem lawItems_some (g g' c c' base base' : Nat) (L : List (ByteArray × ByteArray)) (w : World) (hL : L.length ≤ 9223372036854775807) (h : w.ownsRow base 66 2 (.slice (some ⟨g, 0, none⟩) L.length c) L.length (itemCells L)) (h' : w.ownsRow base' 66 2 (.slice (some ⟨g', 0, none⟩) L.length c') L.length (itemCells L)) :
    Calls Tryz.prog 36 #[.slice (some ⟨g, 0, none⟩) L.length c, .slice (some ⟨g', 0, none⟩) L.length c'] w fun e w' => e = .returned (.bool true) ∧ ∃ n, w' = w.drewN n := by
  have hcell : ∀ j (hj : j < L.length), w.cell? ⟨g, j * 2, none⟩ = some (.string L[j].1) ∧ w.cell? ⟨g, j * 2 + 1, none⟩ = some (.string L[j].2) ∧ w.cell? ⟨g', j * 2, none⟩ = some (.string L[j].1) ∧ w.cell? ⟨g', j * 2 + 1, none⟩ = some (.string L[j].2) := fun j hj => by
    have := itemCells_at L j hj
    exact ⟨(h.cellAt _ (by omega)).trans this.1, (h.cellAt _ (by omega)).trans this.2, (h'.cellAt _ (by omega)).trans this.1, (h'.cellAt _ (by omega)).trans this.2⟩
  have HC : Hid (∀ j (hj : j < L.length), w.cell? ⟨g, j * 2, none⟩ = some (.string L[j].1) ∧ w.cell? ⟨g, j * 2 + 1, none⟩ = some (.string L[j].2) ∧ w.cell? ⟨g', j * 2, none⟩ = some (.string L[j].1) ∧ w.cell? ⟨g', j * 2 + 1, none⟩ = some (.string L[j].2)) := hcell
  clear h h' hcell
  go_enter Tryz.func36, Tryz.ntmps36
  go_wp2
  go_loopw [5] (fun i wr => ∃ (j m : Nat), j ≤ L.length ∧ i = .int .i64 j ∧ wr = w.drewN m) (fun i _ => L.length - (intOf i).toNat)
  case atStart => exact ⟨0, 0, Nat.zero_le _, rfl, rfl⟩
  case round =>
    obtain ⟨j, m, hj, rfl, rfl⟩ := hrel
    by_cases hlt : j < L.length
    · obtain ⟨o0, o1, o2, o3⟩ := HC.out j hlt
      generalize L[j].1 = k at *
      generalize L[j].2 = v at *
      have hne := neqItem k v
      go_wp2_with fail
      go_quiet (fail)
      go_wp2
      go_roundw
      case rel => exact ⟨j + 1, _, by omega, by go_num, rfl⟩
      case measure => simp [intOf]; omega
    · go_wp2
      go_ret
      exact ⟨rfl, m, rfl⟩
set_option maxHeartbeats 400000 in
theorem lawItems_zero (a a' : Option Addr) (c c' : Nat) (w : World) :
    Calls Tryz.prog 36 #[.slice a 0 c, .slice a' 0 c'] w fun e w' => e = .returned (.bool true) ∧ w' = w := by
  go_enter Tryz.func36, Tryz.ntmps36
  go_wp2
  refine wp_loop_rounds 1 ?_
  rw [rounds_succ]
  go_wp2
  go_ret
  exact ⟨rfl, rfl⟩
theorem lawItems_any (x y : Sl) (base base' : Nat) (L : List (ByteArray × ByteArray)) (w : World) (h : w.ownsRow base 66 2 (slV x) L.length (itemCells L)) (h' : w.ownsRow base' 66 2 (slV y) L.length (itemCells L)) :
    Calls Tryz.prog 36 #[slV x, slV y] w fun e w' => e = .returned (.bool true) ∧ ∃ n, w' = w.drewN n := by
  obtain ⟨a, k, c⟩ := x
  obtain ⟨a', k', c'⟩ := y
  have zero : L.length = 0 → k = 0 ∧ k' = 0 := fun h0 => by
    refine ⟨?_, ?_⟩
    · rcases h.2 with ⟨e, _⟩ | ⟨g, cap, cur, e, _⟩
      · simp at e; exact e.2.1
      · simp at e; omega
    · rcases h'.2 with ⟨e, _⟩ | ⟨g, cap, cur, e, _⟩
      · simp at e; exact e.2.1
      · simp at e; omega
  by_cases h0 : L.length = 0
  · obtain ⟨rfl, rfl⟩ := zero h0
    refine (lawItems_zero a a' c c' w).mono ?_
    rintro e w' ⟨rfl, rfl⟩
    exact ⟨rfl, 0, rfl⟩
  · rcases h.2 with ⟨_, e⟩ | ⟨g, cap, cur, e, _, _, hle1, hle2, _⟩
    · omega
    rcases h'.2 with ⟨_, e'⟩ | ⟨g', cap', cur', e', _⟩
    · omega
    rw [e] at h
    rw [e'] at h'
    show Calls Tryz.prog 36 #[.slice a k c, .slice a' k' c'] w _
    simp only [slV] at e e'
    rw [e, e']
    exact lawItems_some g g' cap cap' base base' L w (by unfold maxLen at hle2; omega) h h'
theorem flat3_at {α : Type} {f : α → List Value} (hf : ∀ a, (f a).length = 3) : ∀ (l : List α) (i j : Nat) (h : i < l.length), j < 3 → (l.flatMap f)[i * 3 + j]? = (f l[i])[j]?
  | [], _, _, h, _ => by simp at h
  | a :: r, 0, j, _, hj => by
    rw [List.flatMap_cons, List.getElem?_append_left (by rw [hf]; omega)]
    simp
  | a :: r, i + 1, j, h, hj => by
    rw [List.flatMap_cons, List.getElem?_append_right (by rw [hf]; omega), hf]
    have e : (i + 1) * 3 + j - 3 = i * 3 + j := by omega
    rw [e, flat3_at hf r i j (by simpa using h) hj]
    rfl
theorem neqDec (n c t : Int) (w : World) : (binOp .neq 44 (.agg #[.int .i64 n, .int .i64 c, .int .i64 t]) (.agg #[.int .i64 n, .int .i64 c, .int .i64 t])).run Tryz.prog w = .ok (.bool false) w := by
  simp [go_sem]
theorem dec_cells3 {w : World} {base g cap n : Nat} {l : List Dec} (h : w.ownsRow base 44 3 (.slice (some ⟨g, 0, none⟩) n cap) n (decCells l)) (i : Nat) (hi : i < l.length) :
    w.cell? ⟨g, i * 3, none⟩ = some (.int .i64 l[i].num) ∧ w.cell? ⟨g, i * 3 + 1, none⟩ = some (.int .i64 l[i].code) ∧ w.cell? ⟨g, i * 3 + 2, none⟩ = some (.int .i64 l[i].time) := by
  have hf := fun j => flat3_at (f := decCell) (fun _ => rfl) l i j hi
  exact ⟨row_cells h _ _ (hf 0 (by omega)), row_cells h _ _ (hf 1 (by omega)), row_cells h _ _ (hf 2 (by omega))⟩
set_option maxRecDepth 100000 in
set_option maxHeartbeats 1000000 in
theorem sameDone_some (g g' c c' base base' : Nat) (L : List Dec) (w : World) (hL : L.length ≤ 9223372036854775807) (h : w.ownsRow base 44 3 (.slice (some ⟨g, 0, none⟩) L.length c) L.length (decCells L)) (h' : w.ownsRow base' 44 3 (.slice (some ⟨g', 0, none⟩) L.length c') L.length (decCells L)) :
    Calls Tryz.prog 37 #[.slice (some ⟨g, 0, none⟩) L.length c, .slice (some ⟨g', 0, none⟩) L.length c'] w fun e w' => e = .returned (.bool true) ∧ ∃ n, w' = w.drewN n := by
  have HC : Hid (∀ j (hj : j < L.length), (w.cell? ⟨g, j * 3, none⟩ = some (.int .i64 L[j].num) ∧ w.cell? ⟨g, j * 3 + 1, none⟩ = some (.int .i64 L[j].code) ∧ w.cell? ⟨g, j * 3 + 2, none⟩ = some (.int .i64 L[j].time)) ∧ w.cell? ⟨g', j * 3, none⟩ = some (.int .i64 L[j].num) ∧ w.cell? ⟨g', j * 3 + 1, none⟩ = some (.int .i64 L[j].code) ∧ w.cell? ⟨g', j * 3 + 2, none⟩ = some (.int .i64 L[j].time)) := fun j hj => ⟨dec_cells3 h j hj, dec_cells3 h' j hj⟩
  clear h h'
  go_enter Tryz.func37, Tryz.ntmps37
  go_wp2
  go_loopw [5] (fun i wr => ∃ (j m : Nat), j ≤ L.length ∧ i = .int .i64 j ∧ wr = w.drewN m) (fun i _ => L.length - (intOf i).toNat)
  case atStart => exact ⟨0, 0, Nat.zero_le _, rfl, rfl⟩
  case round =>
    obtain ⟨j, m, hj, rfl, rfl⟩ := hrel
    by_cases hlt : j < L.length
    · obtain ⟨⟨o0, o1, o2⟩, o3, o4, o5⟩ := HC.out j hlt
      generalize L[j].num = dn at *
      generalize L[j].code = dc at *
      generalize L[j].time = dt at *
      have hne := neqDec dn dc dt
      go_wp2_with fail
      go_quiet (fail)
      go_wp2
      go_roundw
      case rel => exact ⟨j + 1, _, by omega, by go_num, rfl⟩
      case measure => simp [intOf]; omega
    · go_wp2
      go_ret
      exact ⟨rfl, m, rfl⟩
set_option maxRecDepth 100000 in
set_option maxHeartbeats 1000000 in
theorem sameInts_some (g g' c c' base base' : Nat) (L : List Int) (w : World) (hL : L.length ≤ 9223372036854775807) (h : w.ownsRow base 3 1 (.slice (some ⟨g, 0, none⟩) L.length c) L.length (L.map (fun n => Value.int .i64 n))) (h' : w.ownsRow base' 3 1 (.slice (some ⟨g', 0, none⟩) L.length c') L.length (L.map (fun n => Value.int .i64 n))) :
    Calls Tryz.prog 38 #[.slice (some ⟨g, 0, none⟩) L.length c, .slice (some ⟨g', 0, none⟩) L.length c'] w fun e w' => e = .returned (.bool true) ∧ ∃ n, w' = w.drewN n := by
  have HC : Hid (∀ j (hj : j < L.length), w.cell? ⟨g, j, none⟩ = some (.int .i64 L[j]) ∧ w.cell? ⟨g', j, none⟩ = some (.int .i64 L[j])) := fun j hj => ⟨row_cells h _ _ (by simp [List.getElem?_eq_getElem hj]), row_cells h' _ _ (by simp [List.getElem?_eq_getElem hj])⟩
  clear h h'
  go_enter Tryz.func38, Tryz.ntmps38
  go_wp2
  go_loopw [5] (fun i wr => ∃ (j m : Nat), j ≤ L.length ∧ i = .int .i64 j ∧ wr = w.drewN m) (fun i _ => L.length - (intOf i).toNat)
  case atStart => exact ⟨0, 0, Nat.zero_le _, rfl, rfl⟩
  case round =>
    obtain ⟨j, m, hj, rfl, rfl⟩ := hrel
    by_cases hlt : j < L.length
    · obtain ⟨o0, o1⟩ := HC.out j hlt
      generalize L[j] = d at *
      go_wp2_with fail
      go_quiet (fail)
      go_wp2
      go_roundw
      case rel => exact ⟨j + 1, _, by omega, by go_num, rfl⟩
      case measure => simp [intOf]; omega
    · go_wp2
      go_ret
      exact ⟨rfl, m, rfl⟩
set_option maxHeartbeats 400000 in
theorem sameDone_zero (a a' : Option Addr) (c c' : Nat) (w : World) :
    Calls Tryz.prog 37 #[.slice a 0 c, .slice a' 0 c'] w fun e w' => e = .returned (.bool true) ∧ w' = w := by
  go_enter Tryz.func37, Tryz.ntmps37
  go_wp2
  refine wp_loop_rounds 1 ?_
  rw [rounds_succ]
  go_wp2
  go_ret
  exact ⟨rfl, rfl⟩
theorem sameDone_any (x y : Sl) (base base' : Nat) (L : List Dec) (w : World) (h : w.ownsRow base 44 3 (slV x) L.length (decCells L)) (h' : w.ownsRow base' 44 3 (slV y) L.length (decCells L)) :
    Calls Tryz.prog 37 #[slV x, slV y] w fun e w' => e = .returned (.bool true) ∧ ∃ n, w' = w.drewN n := by
  obtain ⟨a, k, c⟩ := x
  obtain ⟨a', k', c'⟩ := y
  have zero : L.length = 0 → k = 0 ∧ k' = 0 := fun h0 => by
    refine ⟨?_, ?_⟩
    · rcases h.2 with ⟨e, _⟩ | ⟨g, cap, cur, e, _⟩
      · simp at e; exact e.2.1
      · simp at e; omega
    · rcases h'.2 with ⟨e, _⟩ | ⟨g, cap, cur, e, _⟩
      · simp at e; exact e.2.1
      · simp at e; omega
  by_cases h0 : L.length = 0
  · obtain ⟨rfl, rfl⟩ := zero h0
    refine (sameDone_zero a a' c c' w).mono ?_
    rintro e w' ⟨rfl, rfl⟩
    exact ⟨rfl, 0, rfl⟩
  · rcases h.2 with ⟨_, e⟩ | ⟨g, cap, cur, e, _, _, hle1, hle2, _⟩
    · omega
    rcases h'.2 with ⟨_, e'⟩ | ⟨g', cap', cur', e', _⟩
    · omega
    rw [e] at h
    rw [e'] at h'
    show Calls Tryz.prog 37 #[.slice a k c, .slice a' k' c'] w _
    simp only [slV] at e e'
    rw [e, e']
    exact sameDone_some g g' cap cap' base base' L w (by unfold maxLen at hle2; omega) h h'
set_option maxHeartbeats 400000 in
theorem sameInts_zero (a a' : Option Addr) (c c' : Nat) (w : World) :
    Calls Tryz.prog 38 #[.slice a 0 c, .slice a' 0 c'] w fun e w' => e = .returned (.bool true) ∧ w' = w := by
  go_enter Tryz.func38, Tryz.ntmps38
  go_wp2
  refine wp_loop_rounds 1 ?_
  rw [rounds_succ]
  go_wp2
  go_ret
  exact ⟨rfl, rfl⟩
theorem sameInts_any (x y : Sl) (base base' : Nat) (L : List Int) (w : World) (h : w.ownsRow base 3 1 (slV x) L.length (L.map (fun n => Value.int .i64 n))) (h' : w.ownsRow base' 3 1 (slV y) L.length (L.map (fun n => Value.int .i64 n))) :
    Calls Tryz.prog 38 #[slV x, slV y] w fun e w' => e = .returned (.bool true) ∧ ∃ n, w' = w.drewN n := by
  obtain ⟨a, k, c⟩ := x
  obtain ⟨a', k', c'⟩ := y
  have zero : L.length = 0 → k = 0 ∧ k' = 0 := fun h0 => by
    refine ⟨?_, ?_⟩
    · rcases h.2 with ⟨e, _⟩ | ⟨g, cap, cur, e, _⟩
      · simp at e; exact e.2.1
      · simp at e; omega
    · rcases h'.2 with ⟨e, _⟩ | ⟨g, cap, cur, e, _⟩
      · simp at e; exact e.2.1
      · simp at e; omega
  by_cases h0 : L.length = 0
  · obtain ⟨rfl, rfl⟩ := zero h0
    refine (sameInts_zero a a' c c' w).mono ?_
    rintro e w' ⟨rfl, rfl⟩
    exact ⟨rfl, 0, rfl⟩
  · rcases h.2 with ⟨_, e⟩ | ⟨g, cap, cur, e, _, _, hle1, hle2, _⟩
    · omega
    rcases h'.2 with ⟨_, e'⟩ | ⟨g', cap', cur', e', _⟩
    · omega
    rw [e] at h
    rw [e'] at h'
    show Calls Tryz.prog 38 #[.slice a k c, .slice a' k' c'] w _
    simp only [slV] at e e'
    rw [e, e']
    exact sameInts_some g g' cap cap' base base' L w (by unfold maxLen at hle2; omega) h h'
set_option maxHeartbeats 400000 in
theorem num_any (c : Int) (w : World) : Calls Tryz.prog 39 #[.int .i64 c] w fun e w' => e = .returned (.int .i64 c) ∧ w' = w := by
  go_enter Tryz.func39, Tryz.ntmps39
  go_wp2
  go_ret
  exact ⟨rfl, rfl⟩
/-- what an answer's cells hold, the last one too. -/
theorem ans_cells6 {w : World} {base g n cap : Nat} {As : List AnsM} {sl : List Sl3} (hl : sl.length = As.length) (h : w.ownsRow base 36 7 (.slice (some ⟨g, 0, none⟩) n cap) n (ansCells As sl)) (i : Nat) (hi : i < As.length) : w.cell? ⟨g, i * 7 + 6, none⟩ = some (slV (sl[i]'(by rw [hl]; exact hi)).2.2) :=
  row_cells h _ _ (by rw [ansCells_at As sl hl i 6 hi (by omega)]; rfl)
end Go.Proofs.YtkfjafndplmdkaaGreat
namespace Go.Proofs.YtkfjafndplmdkaaGreat
open Go.RowKit Go.Sort
theorem quiet_q {f : Nat} {args : Array Value} {w : World} {q n : Nat} {r : Value} (h : ∀ W, Calls Tryz.prog f args W fun e w' => e = .returned r ∧ w' = W) : Calls Tryz.prog f args (w.drewN (q + n)) fun e w'' => e = .returned r ∧ ∃ m, w'' = w.drewN (q + m) :=
  (h _).mono (fun _ _ h => ⟨h.1, n, h.2⟩)
theorem quiet_q' {f : Nat} {args : Array Value} {w : World} {q q' n : Nat} {r : Value} (h : ∀ W, Calls Tryz.prog f args W fun e w' => e = .returned r ∧ w' = W) : Calls Tryz.prog f args (w.drewN (q + (q' + n))) fun e w'' => e = .returned r ∧ ∃ m, w'' = w.drewN (q + (q' + m)) :=
  (h _).mono (fun _ _ h => ⟨h.1, n, h.2⟩)
theorem quiet_r {f : Nat} {args : Array Value} {w : World} {q n : Nat} {r : Value} (h : Calls Tryz.prog f args (w.drewN (q + n)) fun e w' => e = .returned r ∧ ∃ m, w' = (w.drewN (q + n)).drewN m) : Calls Tryz.prog f args (w.drewN (q + n)) fun e w'' => e = .returned r ∧ ∃ m, w'' = w.drewN (q + m) :=
  h.mono (fun _ _ h => ⟨h.1, by obtain ⟨m, hm⟩ := h.2; exact ⟨n + m, by rw [hm, World.drewN_drewN, Nat.add_assoc]⟩⟩)
theorem quiet_r' {f : Nat} {args : Array Value} {w : World} {q q' n : Nat} {r : Value} (h : Calls Tryz.prog f args (w.drewN (q + (q' + n))) fun e w' => e = .returned r ∧ ∃ m, w' = (w.drewN (q + (q' + n))).drewN m) : Calls Tryz.prog f args (w.drewN (q + (q' + n))) fun e w'' => e = .returned r ∧ ∃ m, w'' = w.drewN (q + (q' + m)) :=
  h.mono (fun _ _ h => ⟨h.1, by obtain ⟨m, hm⟩ := h.2; exact ⟨n + m, by rw [hm, World.drewN_drewN, Nat.add_assoc, Nat.add_assoc]⟩⟩)
set_option maxRecDepth 100000 in
set_option maxHeartbeats 4000000 in
theorem same_some (g g' c c' base base' : Nat) (As : List AnsM) (sla slb : List Sl3) (w : World) (hn : As.length ≤ 1500000) (hra : w.ownsRow base 36 7 (.slice (some ⟨g, 0, none⟩) As.length c) As.length (ansCells As sla)) (hia : ItemsAt w base As sla) (hrb : w.ownsRow base' 36 7 (.slice (some ⟨g', 0, none⟩) As.length c') As.length (ansCells As slb)) (hib : ItemsAt w base' As slb) :
    Calls Tryz.prog 26 #[.slice (some ⟨g, 0, none⟩) As.length c, .slice (some ⟨g', 0, none⟩) As.length c'] w fun e w' => e = .returned (.bool true) ∧ ∃ n, w' = w.drewN n := by
  have HC : Hid (∀ j, j < As.length → ∀ W : World, (∃ m, W = w.drewN m) → ∃ (A : AnsM) (x y : Sl3),
      (W.cell? ⟨g, j * 7, none⟩ = some (.int .i64 A.code) ∧ W.cell? ⟨g, j * 7 + 1, none⟩ = some (.int .i64 A.number) ∧ W.cell? ⟨g, j * 7 + 2, none⟩ = some (.bool A.found) ∧ W.cell? ⟨g, j * 7 + 3, none⟩ = some (.string A.value) ∧ W.cell? ⟨g, j * 7 + 4, none⟩ = some (slV x.1) ∧ W.cell? ⟨g, j * 7 + 5, none⟩ = some (slV x.2.1)) ∧ W.cell? ⟨g, j * 7 + 6, none⟩ = some (slV x.2.2) ∧
      (W.cell? ⟨g', j * 7, none⟩ = some (.int .i64 A.code) ∧ W.cell? ⟨g', j * 7 + 1, none⟩ = some (.int .i64 A.number) ∧ W.cell? ⟨g', j * 7 + 2, none⟩ = some (.bool A.found) ∧ W.cell? ⟨g', j * 7 + 3, none⟩ = some (.string A.value) ∧ W.cell? ⟨g', j * 7 + 4, none⟩ = some (slV y.1) ∧ W.cell? ⟨g', j * 7 + 5, none⟩ = some (slV y.2.1)) ∧ W.cell? ⟨g', j * 7 + 6, none⟩ = some (slV y.2.2) ∧
      (∀ l, Calls Tryz.prog 36 #[slV x.1, slV y.1] (W.drewN l) fun e w' => e = .returned (.bool true) ∧ ∃ n, w' = (W.drewN l).drewN n) ∧ (∀ l, Calls Tryz.prog 37 #[slV x.2.1, slV y.2.1] (W.drewN l) fun e w' => e = .returned (.bool true) ∧ ∃ n, w' = (W.drewN l).drewN n) ∧ (∀ l, Calls Tryz.prog 38 #[slV x.2.2, slV y.2.2] (W.drewN l) fun e w' => e = .returned (.bool true) ∧ ∃ n, w' = (W.drewN l).drewN n)) := fun j hj W hW => by
    obtain ⟨m, rfl⟩ := hW
    have p1 := ans_cells hia.1 hra j hj
    have p2 := ans_cells hib.1 hrb j hj
    have p3 := ans_cells6 hia.1 hra j hj
    have p4 := ans_cells6 hib.1 hrb j hj
    have i1 := hia.at j hj
    have i2 := hib.at j hj
    exact ⟨As[j], sla[j]'(by rw [hia.1]; exact hj), slb[j]'(by rw [hib.1]; exact hj), p1, p3, p2, p4, fun l => lawItems_any _ _ _ _ _ ((w.drewN m).drewN l) i1.1 i2.1, fun l => sameDone_any _ _ _ _ _ ((w.drewN m).drewN l) i1.2.1 i2.2.1, fun l => sameInts_any _ _ _ _ _ ((w.drewN m).drewN l) i1.2.2 i2.2.2⟩
  clear hra hia hrb hib
  go_enter Tryz.func26, Tryz.ntmps26
  go_wp2_with fail
  go_loopw [5] (fun i wr => ∃ (j m : Nat), j ≤ As.length ∧ i = .int .i64 j ∧ wr = w.drewN m) (fun i _ => As.length - (intOf i).toNat)
  case atStart => exact ⟨0, 0, Nat.zero_le _, rfl, rfl⟩
  case round =>
    obtain ⟨j, m, hj, rfl, hwr⟩ := hrel
    have HW : Hid (∃ m, wr = w.drewN m) := ⟨m, hwr⟩
    clear hwr
    by_cases hlt : j < As.length
    · obtain ⟨A, ⟨⟨x1, x2, x3⟩, ⟨x4, x5, x6⟩, ⟨x7, x8, x9⟩⟩, ⟨⟨y1, y2, y3⟩, ⟨y4, y5, y6⟩, ⟨y7, y8, y9⟩⟩, ⟨a0, a1, a2, a3, a4, a5⟩, a6, ⟨b0, b1, b2, b3, b4, b5⟩, b6, hs, hd, hi⟩ := HC.out j hlt wr HW.out
      simp only [slV] at a4 b4 a5 b5 a6 b6 hs hd hi
      have HS : Hid (∀ l, Calls Tryz.prog 36 #[.slice x1 x2 x3, .slice y1 y2 y3] (wr.drewN l) fun e w' => e = .returned (.bool true) ∧ ∃ n, w' = (wr.drewN l).drewN n) := hs
      have HD : Hid (∀ l, Calls Tryz.prog 37 #[.slice x4 x5 x6, .slice y4 y5 y6] (wr.drewN l) fun e w' => e = .returned (.bool true) ∧ ∃ n, w' = (wr.drewN l).drewN n) := hd
      have HI : Hid (∀ l, Calls Tryz.prog 38 #[.slice x7 x8 x9, .slice y7 y8 y9] (wr.drewN l) fun e w' => e = .returned (.bool true) ∧ ∃ n, w' = (wr.drewN l).drewN n) := hi
      clear hs hd hi
      obtain ⟨code, number, found, value, items, done, sums⟩ := A
      have hjo : (j : Int) < (As.length : Int) := by omega
      go_wp2_with fail
      go_quiet ((go_at_call 36; exact Calls.quiet_of (HS.out _)))
      go_wp2_with fail
      go_quiet ((go_at_call 37; exact quiet_r (HD.out _)))
      go_wp2_with fail
      go_quiet ((go_at_call 38; first | exact quiet_r (HI.out _) | exact quiet_r' (HI.out _)))
      go_wp2_with fail
      go_quiet ((go_at_call 39; first | exact quiet_q (num_any _) | exact quiet_q' (num_any _)))
      go_wp2
      go_roundw
      case rel =>
        obtain ⟨m, hm⟩ := HW.out
        exact ⟨j + 1, _, by omega, by go_num, by rw [hm]; simp only [World.drewN_drewN]; rfl⟩
      case measure => simp [intOf]; omega
    · go_wp2
      go_ret
      exact ⟨rfl, HW.out⟩
end Go.Proofs.YtkfjafndplmdkaaGreat
namespace Go.Proofs.YtkfjafndplmdkaaGreat
open Go.RowKit Go.Sort
set_option maxRecDepth 100000 in
set_option maxHeartbeats 1000000 in
theorem refRun_zero (ad : Option Addr) (cap : Nat) (w : World) :
    Calls Tryz.prog 27 #[.slice ad 0 cap] w fun e w' => e = .returned (.slice none 0 0) ∧ Chg nobody w w' := by
  go_enter Tryz.func27, Tryz.ntmps27
  go_wp2_with fail
  refine wp_loop_rounds 1 ?_
  rw [rounds_succ]
  go_wp2
  go_ret
  exact ⟨rfl, (Chg.refl _ _).alloc _⟩
theorem refRun_src {w : World} {v : Value} {ops : List OpM} (h : SrcOps w v ops) (hn : ops.length ≤ 1500000) :
    Calls Tryz.prog 27 #[v] w fun e w' => ∃ v, e = .returned v ∧ ∃ sl : List Sl3, w'.ownsRow w.heap.size 36 7 v ops.length (ansCells (ansP p0 ops) sl) ∧ ItemsAt w' w.heap.size (ansP p0 ops) sl ∧ Chg nobody w w' := by
  rcases h.at with rfl | ⟨b, off, cap, rfl, hcap, hops, hbl⟩
  · obtain ⟨ad, cap, rfl⟩ := h.len
    refine (refRun_zero ad cap w).mono ?_
    rintro e w' ⟨rfl, hc⟩
    exact ⟨_, rfl, [], World.ownsRow_nil _ _ _ _, ⟨rfl, by simp [ansP]⟩, hc⟩
  · exact refRun_any b off cap ops w hops hbl hn
set_option maxRecDepth 100000 in
set_option maxHeartbeats 1000000 in
theorem same_zero (a a' : Option Addr) (c c' : Nat) (w : World) : Calls Tryz.prog 26 #[.slice a 0 c, .slice a' 0 c'] w fun e w' => e = .returned (.bool true) ∧ w' = w := by
  go_enter Tryz.func26, Tryz.ntmps26
  go_wp2
  refine wp_loop_rounds 1 ?_
  rw [rounds_succ]
  go_wp2
  go_ret
  exact ⟨rfl, rfl⟩
theorem same_any {w : World} {g c base base' : Nat} {v : Value} {As : List AnsM} {sla slb : List Sl3} (hn : As.length ≤ 1500000) (hra : w.ownsRow base 36 7 (.slice (some ⟨g, 0, none⟩) As.length c) As.length (ansCells As sla)) (hia : ItemsAt w base As sla) (hrb : w.ownsRow base' 36 7 v As.length (ansCells As slb)) (hib : ItemsAt w base' As slb) :
    Calls Tryz.prog 26 #[.slice (some ⟨g, 0, none⟩) As.length c, v] w fun e w' => e = .returned (.bool true) ∧ Chg nobody w w' := by
  rcases hrb.2 with ⟨rfl, h0⟩ | ⟨g', c', cur, rfl, _⟩
  · rw [h0]
    refine (same_zero _ _ _ _ w).mono ?_
    rintro e w' ⟨rfl, rfl⟩
    exact ⟨rfl, Chg.refl _ _⟩
  · refine (same_some g g' c c' base base' As sla slb w hn hra hia hrb hib).mono ?_
    rintro e w' ⟨rfl, n, rfl⟩
    exact ⟨rfl, rfl, rfl, rfl, Nat.le_refl _, fun _ _ _ => rfl⟩
def keepR (lo hi : Int) (o : OpM) : Bool := decide (o.kind < lo) || decide (hi < o.kind)
def readsM (lo hi : Int) (ys : List OpM) : List OpM := ys.filter (keepR lo hi)
theorem readsM_take (lo hi : Int) (ys : List OpM) (j : Nat) (h : j < ys.length) : readsM lo hi (ys.take (j + 1)) = readsM lo hi (ys.take j) ++ (if keepR lo hi ys[j] then [ys[j]] else []) := by
  unfold readsM
  rw [List.take_succ_eq_append_getElem h, List.filter_append]
  cases hk : keepR lo hi ys[j] <;> simp [hk]
theorem readsM_len (lo hi : Int) (ys : List OpM) : (readsM lo hi ys).length ≤ ys.length := List.length_filter_le _ _
/-- what lies behind the filter. -/
theorem tail_ok {lo hi : Int} {w w' : World} {v : Value} {ys : List OpM} (hok : ∀ o ∈ ys, o.ok) (hn : ys.length ≤ 1048576) (hrow : w'.ownsRow w.heap.size 30 5 v (readsM lo hi ys).length (opCells (readsM lo hi ys))) :
    SrcOps w' v (readsM lo hi ys) ∧ (∀ o ∈ readsM lo hi ys, o.ok) ∧ (readsM lo hi ys).length ≤ 1048576 :=
  ⟨src_of_row hrow, fun o ho => hok o (List.mem_filter.1 ho).1, Nat.le_trans (readsM_len _ _ ys) hn⟩
set_option maxRecDepth 100000 in
set_option maxHeartbeats 1000000 in
theorem runs_some (lo hi : Int) (b off cap : Nat) (ys : List OpM) (w : World) (hops : OpsAt w b off ys) (hbl : b < w.heap.size) (hok : ∀ o ∈ ys, o.ok) (hn : ys.length ≤ 1048576) :
    Calls Tryz.prog 14 #[.slice (some ⟨b, off, none⟩) ys.length cap, .int .i64 lo, .int .i64 hi] w fun e w' => e = .returned (.bool true) ∧ Chg nobody w w' := by
  obtain ⟨i0, hii, hz0, hz1, hz2⟩ := info_parts info30
  have HO : Hid (OpsAt w b off ys ∧ b < w.heap.size ∧ ∀ o ∈ ys, o.ok) := ⟨hops, hbl, hok⟩
  clear hops hbl hok
  go_enter Tryz.func14, Tryz.ntmps14
  go_wp2_with fail
  go_loopw [7, 8] (fun v i wr => ∃ j : Nat, j ≤ ys.length ∧ i = .int .i64 j ∧ wr.ownsRow w.heap.size 30 5 v (readsM lo hi (ys.take j)).length (opCells (readsM lo hi (ys.take j))) ∧ Chg nobody w wr) (fun _ i _ => ys.length - (intOf i).toNat)
  case atStart => exact ⟨0, Nat.zero_le _, rfl, World.ownsRow_nil _ _ _ _, Chg.refl _ _⟩
  case round =>
    obtain ⟨j, hj, rfl, hrow, hc⟩ := hrel
    by_cases hlt : j < ys.length
    · obtain ⟨hops, hbl, _⟩ := HO.out
      obtain ⟨o0, o1, o2, o3, o4⟩ := hops j hlt
      have hcl : ∀ i, wr.cell? ⟨b, i, none⟩ = w.cell? ⟨b, i, none⟩ := fun i => hc.below.cell (p := ⟨b, i, none⟩) hbl
      rw [← hcl] at o0 o1 o2 o3 o4
      have HT : Hid (readsM lo hi (ys.take (j + 1)) = readsM lo hi (ys.take j) ++ (if keepR lo hi ys[j] then [ys[j]] else [])) := readsM_take lo hi ys j hlt
      have hol : (readsM lo hi (ys.take j)).length ≤ j := Nat.le_trans (readsM_len _ _ _) (List.length_take_le _ _)
      have hsz : w.heap.size ≤ wr.heap.size := hc.size
      have HC : Hid (Chg nobody w wr) := hc
      clear hcl hops hbl hc
      generalize ys[j] = o at *
      have hsplit : (decide (o.kind < lo) = true) ∨ (decide (o.kind < lo) = false ∧ decide (hi < o.kind) = true) ∨ (decide (o.kind < lo) = false ∧ decide (hi < o.kind) = false) := by
        by_cases h1 : o.kind < lo
        · exact Or.inl (decide_eq_true h1)
        · by_cases h2 : hi < o.kind
          · exact Or.inr (Or.inl ⟨decide_eq_false h1, decide_eq_true h2⟩)
          · exact Or.inr (Or.inr ⟨decide_eq_false h1, decide_eq_false h2⟩)
      rcases hsplit with b1 | ⟨b1, b2⟩ | ⟨b1, b2⟩
      · have HK : Hid (keepR lo hi o = true) := by show keepR lo hi o = true; simp [keepR, b1]
        go_wp2_with (at_builtin; refine wpList_append_own _ rfl _ _ 22 rfl w.heap.size 30 i0 (OpM.v ⟨0, 0, ⟨#[]⟩, ⟨#[]⟩, 0⟩) 5 56 Tryz.underlying22 hii hz0 hz1 hz2 rfl (by decide) _ _ _ rfl (hrow.alloc _) ⟨wr.heap.size, 0, none⟩ 1 1 o.vals rfl rfl (cells_new wr #[.int .i64 o.kind, .int .i64 o.t, .string o.key, .string o.val, .int .i64 o.n] 30) (vals_one o) (by unfold maxLen; omega) (by omega) (by simp; omega) ?_; intro v' w1 hown1 hg1 _; go_frame)
        go_roundw
        case rel =>
          refine ⟨j + 1, by omega, by go_num, ?_, (HC.out.alloc _).grown hg1 (fun k e => Or.inr (hrow.lt k e).1)⟩
          rw [HT.out, HK.out, if_pos rfl, opCells_append]
          simpa [opCells] using hown1
        case measure => simp [intOf]; omega
      · have HK : Hid (keepR lo hi o = true) := by show keepR lo hi o = true; simp [keepR, b2]
        go_wp2_with (at_builtin; refine wpList_append_own _ rfl _ _ 22 rfl w.heap.size 30 i0 (OpM.v ⟨0, 0, ⟨#[]⟩, ⟨#[]⟩, 0⟩) 5 56 Tryz.underlying22 hii hz0 hz1 hz2 rfl (by decide) _ _ _ rfl (hrow.alloc _) ⟨wr.heap.size, 0, none⟩ 1 1 o.vals rfl rfl (cells_new wr #[.int .i64 o.kind, .int .i64 o.t, .string o.key, .string o.val, .int .i64 o.n] 30) (vals_one o) (by unfold maxLen; omega) (by omega) (by simp; omega) ?_; intro v' w1 hown1 hg1 _; go_frame)
        go_roundw
        case rel =>
          refine ⟨j + 1, by omega, by go_num, ?_, (HC.out.alloc _).grown hg1 (fun k e => Or.inr (hrow.lt k e).1)⟩
          rw [HT.out, HK.out, if_pos rfl, opCells_append]
          simpa [opCells] using hown1
        case measure => simp [intOf]; omega
      · have HK : Hid (keepR lo hi o = false) := by show keepR lo hi o = false; simp [keepR, b1, b2]
        go_wp2
        go_roundw
        case rel =>
          refine ⟨j + 1, by omega, by go_num, ?_, HC.out⟩
          rw [HT.out, HK.out]
          simpa using hrow
        case measure => simp [intOf]; omega
    · have hjl : j = ys.length := by omega
      subst hjl
      rw [List.take_length] at hrow
      obtain ⟨hsrc, hok', hlen⟩ := tail_ok HO.out.2.2 hn hrow
      have HA : Hid (SrcOps wr u7 (readsM lo hi ys) ∧ (∀ o ∈ readsM lo hi ys, o.ok) ∧ Chg nobody w wr) := ⟨hsrc, hok', hc⟩
      clear hrow hsrc hok' hc HO
      generalize readsM lo hi ys = zs at *
      go_wp2_with fail
      refine (run_src HA.out.1 HA.out.2.1 (by omega)).mono ?_
      rintro e w2 ⟨g, ca, sla, rfl, hra, hia, hc2⟩
      have HB : Hid (w2.ownsRow wr.heap.size 36 7 (.slice (some ⟨g, 0, none⟩) zs.length ca) zs.length (ansCells (ansP p0 zs) sla) ∧ ItemsAt w2 wr.heap.size (ansP p0 zs) sla ∧ Chg nobody wr w2) := ⟨hra, hia, hc2⟩
      clear hra hia hc2
      go_wp2_with fail
      refine (refRun_src (HA.out.1.chg HB.out.2.2) (by omega)).mono ?_
      rintro e w3 ⟨v, rfl, slb, hrb, hib, hc3⟩
      have hla : (ansP p0 zs).length = zs.length := ansP_len zs p0
      have HS := same_any (w := w3) (g := g) (c := ca) (v := v) (As := ansP p0 zs) (sla := sla) (slb := slb) (by rw [hla]; omega) (by rw [hla]; exact ownsRow_chg HB.out.1 hc3 (fun _ _ h => h)) (HB.out.2.1.keep hc3 (fun _ _ _ _ _ _ h => h)) (by rw [hla]; exact hrb) hib
      rw [hla] at HS
      have HF : Hid (Chg nobody w w3) := (HA.out.2.2.trans HB.out.2.2).trans hc3
      clear hrb hib hc3 hla
      go_wp2_with fail
      refine HS.mono ?_
      rintro e w4 ⟨rfl, hc4⟩
      go_wp2
      go_ret
      exact ⟨rfl, HF.out.trans hc4⟩
set_option maxRecDepth 100000 in
set_option maxHeartbeats 1000000 in
theorem runs_zero (lo hi : Int) (ad : Option Addr) (cap : Nat) (w : World) :
    Calls Tryz.prog 14 #[.slice ad 0 cap, .int .i64 lo, .int .i64 hi] w fun e w' => e = .returned (.bool true) ∧ Chg nobody w w' := by
  go_enter Tryz.func14, Tryz.ntmps14
  go_wp2_with fail
  refine wp_loop_rounds 1 ?_
  rw [rounds_succ]
  go_wp2_with fail
  refine (run_zero none 0 w).mono ?_
  rintro e w2 ⟨g, ca, sla, rfl, hra, hia, hc2⟩
  have HB : Hid (Chg nobody w w2) := hc2
  clear hra hia hc2
  go_wp2_with fail
  refine (refRun_zero none 0 w2).mono ?_
  rintro e w3 ⟨rfl, hc3⟩
  have HF : Hid (Chg nobody w w3) := HB.out.trans hc3
  clear hc3
  go_wp2_with fail
  refine (same_zero _ _ _ _ w3).mono ?_
  rintro e w4 ⟨rfl, rfl⟩
  go_wp2
  go_ret
  exact ⟨rfl, HF.out⟩
theorem runsG_walk (lo hi : Int) {w : World} {ad : Option Addr} {cap : Nat} {ys : List OpM} (h : SrcOps w (.slice ad ys.length cap) ys) (hok : ∀ o ∈ ys, o.ok) (hn : ys.length ≤ 1048576) :
    Calls Tryz.prog 14 #[.slice ad ys.length cap, .int .i64 lo, .int .i64 hi] w fun e w' => e = .returned (.bool true) ∧ Chg nobody w w' := by
  rcases h.at with rfl | ⟨b, off, cap', e, hcap, hops, hbl⟩
  · exact runs_zero lo hi ad cap w
  · rw [e]
    exact runs_some lo hi b off cap' ys w hops hbl hok hn
set_option maxRecDepth 100000 in
theorem reads_walk {w : World} {ad : Option Addr} {cap : Nat} {ys : List OpM} (h : SrcOps w (.slice ad ys.length cap) ys) (hok : ∀ o ∈ ys, o.ok) (hn : ys.length ≤ 1048576) :
    Calls Tryz.prog 3 #[.slice ad ys.length cap] w fun e w' => e = .returned (.bool true) ∧ Chg nobody w w' := by
  have HW := runsG_walk 7 11 h hok hn
  clear h
  go_enter Tryz.func3, Tryz.ntmps3
  go_wp2_with fail
  refine HW.mono ?_
  rintro e w1 ⟨rfl, hc⟩
  have HC : Hid (Chg nobody w w1) := hc
  clear hc HW
  go_wp2
  go_ret
  exact ⟨rfl, HC.out⟩
set_option maxRecDepth 100000 in
theorem commits_walk {w : World} {ad : Option Addr} {cap : Nat} {ys : List OpM} (h : SrcOps w (.slice ad ys.length cap) ys) (hok : ∀ o ∈ ys, o.ok) (hn : ys.length ≤ 1048576) :
    Calls Tryz.prog 6 #[.slice ad ys.length cap] w fun e w' => e = .returned (.bool true) ∧ Chg nobody w w' := by
  have HW := runsG_walk 9 11 h hok hn
  clear h
  go_enter Tryz.func6, Tryz.ntmps6
  go_wp2_with fail
  refine HW.mono ?_
  rintro e w1 ⟨rfl, hc⟩
  have HC : Hid (Chg nobody w w1) := hc
  clear hc HW
  go_wp2
  go_ret
  exact ⟨rfl, HC.out⟩
set_option maxRecDepth 100000 in
theorem runs_walk {w : World} {ad : Option Addr} {cap : Nat} {ys : List OpM} (h : SrcOps w (.slice ad ys.length cap) ys) (hok : ∀ o ∈ ys, o.ok) (hn : ys.length ≤ 1048576) :
    Calls Tryz.prog 9 #[.slice ad ys.length cap] w fun e w' => e = .returned (.bool true) ∧ Chg nobody w w' := by
  have HW := runsG_walk 1 0 h hok hn
  clear h
  go_enter Tryz.func9, Tryz.ntmps9
  go_wp2_with fail
  refine HW.mono ?_
  rintro e w1 ⟨rfl, hc⟩
  have HC : Hid (Chg nobody w w1) := hc
  clear hc HW
  go_wp2
  go_ret
  exact ⟨rfl, HC.out⟩
end Go.Proofs.YtkfjafndplmdkaaGreat
