import Derived.Test.YtcpjocgpahjcjaaRS
namespace Go.Proofs.Ytcpjocgpahjcjaa
open Go.RowKit Go.Sort
theorem RInv.addTx {w w' : World} {S : RSt} {c : Int} {oa' : Option Addr} {oc' : Nat} (h : RInv w S)
    (hb : w'.heap[S.wb]? = some (.cells #[.int .i64 c, S.lv, .slice oa' (S.ts.length + 1) oc', S.qv, S.rv, .int .i64 S.low] 54)) (ho : w'.ownsRow 0 66 4 (.slice oa' (S.ts.length + 1) oc') (S.ts.length + 1) (rtCells (S.ts ++ [newT c])))
    (hc : Chg (fun b => b = S.wb ∨ S.ov.ownBlock = some b) w w') (hw : (Value.slice oa' (S.ts.length + 1) oc').ownBlock = S.ov.ownBlock ∨ ∀ b, (Value.slice oa' (S.ts.length + 1) oc').ownBlock = some b → w.heap.size ≤ b) :
    ROk w S w' { S with clock := c, ts := S.ts ++ [newT c], oa := oa', oc := oc' } := by
  have hnd := h.nd
  have e0 : S.blocks = (S.wb :: S.others) ++ (vb S.ov ++ S.ts.flatMap RT.blocks) := by simp [RSt.blocks]
  have hlt := h.lt
  rw [e0] at hnd hlt
  obtain ⟨n1, n2, n3⟩ := List.nodup_append.1 hnd
  obtain ⟨m1, m2, m3⟩ := List.nodup_append.1 n2
  have hwo : S.wb ∉ S.others := (List.nodup_cons.1 n1).1
  have hwt : ∀ T ∈ S.ts, ∀ b ∈ T.blocks, ¬ (b = S.wb ∨ S.ov.ownBlock = some b) := fun T hT b hb => by
    have hm : b ∈ S.ts.flatMap RT.blocks := List.mem_flatMap.2 ⟨T, hT, hb⟩
    rintro (e | e)
    · exact n3 S.wb (by simp) b (List.mem_append.2 (Or.inr hm)) e.symm
    · exact m3 b (vb_mem.2 e) b hm rfl
  have keepRow : ∀ {e : TypeId} {size : Nat} {v : Value} {n : Nat} {xs : List Value}, w.ownsRow 0 e size v n xs → vb v ⊆ S.others → w'.ownsRow 0 e size v n xs := fun hr hv =>
    ownsRow_chg hr hc (fun g e => by
      have hg := hv (vb_mem.2 e)
      rintro (h1 | h1)
      · exact hwo (h1 ▸ hg)
      · exact n3 g (List.mem_cons_of_mem _ hg) g (List.mem_append.2 (Or.inl (vb_mem.2 h1))) rfl)
  have hx : ∀ b ∈ vb (.slice oa' (S.ts.length + 1) oc'), b ∈ vb S.ov ∨ w.heap.size ≤ b := fun b hb => by
    rcases hw with hw | hw
    · exact Or.inl (by rw [vb_eq hw] at hb; exact hb)
    · exact Or.inr (hw b (vb_mem.1 hb))
  have hnd2 : ((S.wb :: S.others) ++ (vb (.slice oa' (S.ts.length + 1) oc') ++ S.ts.flatMap RT.blocks)).Nodup := nodup_swap (n := w.heap.size) hnd (vb_nodup _) hx (fun b hb => hlt b (List.mem_append.2 (Or.inl hb))) (fun b hb => hlt b (List.mem_append.2 (Or.inr (List.mem_append.2 (Or.inr hb)))))
  have e1 : ({ S with clock := c, ts := S.ts ++ [newT c], oa := oa', oc := oc' } : RSt).blocks = (S.wb :: S.others) ++ (vb (.slice oa' (S.ts.length + 1) oc') ++ S.ts.flatMap RT.blocks) := by
    show S.wb :: (S.others ++ vb (.slice oa' (S.ts ++ [newT c]).length oc')) ++ (S.ts ++ [newT c]).flatMap RT.blocks = _
    simp [RT.blocks, RT.wv, RT.kv, RT.pv, vb, Value.ownBlock]
  refine ⟨⟨?_, keepRow h.lr ?_, ?_, keepRow h.qr ?_, keepRow h.rr ?_, fun T hT => ?_, ?_⟩, ?_, ?_⟩
  · show w'.heap[S.wb]? = some (.cells #[.int .i64 c, S.lv, .slice oa' (S.ts ++ [newT c]).length oc', S.qv, S.rv, .int .i64 S.low] 54)
    simpa using hb
  · intro x hx; replace hx : x ∈ vb S.lv := hx; simp [RSt.others, hx]
  · show w'.ownsRow 0 66 4 (.slice oa' (S.ts ++ [newT c]).length oc') (S.ts ++ [newT c]).length (rtCells (S.ts ++ [newT c]))
    simpa using ho
  · intro x hx; replace hx : x ∈ vb S.qv := hx; simp [RSt.others, hx]
  · intro x hx; replace hx : x ∈ vb S.rv := hx; simp [RSt.others, hx]
  · replace hT : T ∈ S.ts ++ [newT c] := hT
    rcases List.mem_append.1 hT with h1 | h1
    · exact (h.ts T h1).chg hc (fun b hb => hwt T h1 b hb)
    · have e : T = newT c := by simpa using h1
      subst e
      exact ⟨World.ownsRow_nil _ _ _ _, World.ownsRow_nil _ _ _ _, World.ownsRow_nil _ _ _ _⟩
  · rw [e1]; exact hnd2
  · rw [e1, e0]
    intro b hb
    rcases List.mem_append.1 hb with h1 | h1
    · exact Or.inl (List.mem_append.2 (Or.inl h1))
    · rcases List.mem_append.1 h1 with h2 | h2
      · rcases hx b h2 with h3 | h3
        · exact Or.inl (List.mem_append.2 (Or.inr (List.mem_append.2 (Or.inl h3))))
        · exact Or.inr h3
      · exact Or.inl (List.mem_append.2 (Or.inr (List.mem_append.2 (Or.inr h2))))
  · refine hc.mono (fun i _ hi => ?_)
    rw [e0]
    rcases hi with h1 | h1
    · rw [h1]; simp
    · have := vb_mem.2 h1; simp [this]
/-- the reference's steps, pure: without COMMIT, FLUSH, FENCE, CLEAN, SUMS. -/
noncomputable def stepR (W : PW) (o : OpM) : AnsM × PW :=
  if o.kind = 1 then (if 6 ≤ W.ts.length then (errA 6, W) else (⟨0, W.clock + 1, false, ⟨#[]⟩, []⟩, { W with clock := W.clock + 1, ts := W.ts ++ [⟨W.clock + 1, [], [], []⟩] }))
  else if 2 ≤ o.kind ∧ o.kind ≤ 6 then (match W.ts.findIdx? (fun T => T.start == o.t) with
    | none => (errA 2, W)
    | some k => if o.t ∈ W.q then (errA 3, W) else match W.ts[k]? with | some T => ofM' W k T o | none => (errA 2, W))
  else (errA 1, W)
theorem findI_of (ts : List RT) (n : Int) : (findI (ts.map RT.start) n = -1 ∧ (ts.map RT.abs).findIdx? (fun T => T.start == n) = none) ∨ ∃ k, k < ts.length ∧ findI (ts.map RT.start) n = k ∧ (ts.map RT.abs).findIdx? (fun T => T.start == n) = some k := by
  unfold findI
  have e1 : (ts.map RT.start).findIdx? (· == n) = ts.findIdx? (fun T => T.start == n) := by rw [List.findIdx?_map]; rfl
  have e2 : (ts.map RT.abs).findIdx? (fun T => T.start == n) = ts.findIdx? (fun T => T.start == n) := by rw [List.findIdx?_map]; rfl
  rw [e1, e2]
  cases hx : ts.findIdx? (fun T => T.start == n) with
  | none => exact Or.inl ⟨rfl, rfl⟩
  | some k => exact Or.inr ⟨k, (List.findIdx?_eq_some_iff_getElem.1 hx).1, rfl, rfl⟩
theorem rstep_any (S : RSt) (o : OpM) (w : World) (h : RInv w S) (hf : RFit S) (hq : S.q.length ≤ 2000000) (h0 : 0 ≤ S.clock) (h1 : S.clock < 1000000000) (hkd : o.kind ≤ 6 ∨ 11 < o.kind) :
    Calls Try.prog 18 #[.pointer (some ⟨S.wb, 0, none⟩), o.v] w (RPost w S (stepR S.abs o).1 (stepR S.abs o).2) := by
  by_cases k1 : o.kind = 1
  · have hl : S.abs.ts.length = S.ts.length := List.length_map ..
    by_cases h6 : 6 ≤ S.ts.length
    · have e : stepR S.abs o = (errA 6, S.abs) := by unfold stepR; rw [if_pos k1, if_pos (by rw [hl]; exact h6)]
      rw [e]
      refine (rstep_many S.wb S.ts.length S.oc S.oa o w k1 h6 h.wb).mono ?_
      rintro en w' ⟨rfl, hc⟩
      exact rpost_err h hc 6
    · have e : stepR S.abs o = (⟨0, S.clock + 1, false, ⟨#[]⟩, []⟩, { S.abs with clock := S.clock + 1, ts := S.abs.ts ++ [⟨S.clock + 1, [], [], []⟩] }) := by unfold stepR; rw [if_pos k1, if_neg (by rw [hl]; exact h6)]; rfl
      rw [e]
      refine (rstep_begin S.wb S.oc S.clock S.oa S.ts o w k1 (by omega) h0 h1 h.wb h.or).mono ?_
      rintro en w' ⟨rfl, oa', oc', q1, q2, q3, q4⟩
      refine ⟨{ S with clock := S.clock + 1, ts := S.ts ++ [newT (S.clock + 1)], oa := oa', oc := oc' }, .slice none 0 0, rfl, World.ownsRow_nil _ _ _ _, ?_, rfl, h.addTx q1 q2 q3 q4⟩
      simp [RSt.abs, RT.abs]
  · by_cases k2 : 2 ≤ o.kind ∧ o.kind ≤ 6
    · have k5 : o.kind = 2 ∨ o.kind = 3 ∨ o.kind = 4 ∨ o.kind = 5 ∨ o.kind = 6 := by omega
      rcases findI_of S.ts o.t with ⟨f1, f2⟩ | ⟨k, hk, f1, f2⟩
      · have e : stepR S.abs o = (errA 2, S.abs) := by
          unfold stepR
          rw [if_neg k1, if_pos k2]
          have : S.abs.ts.findIdx? (fun T => T.start == o.t) = none := f2
          rw [this]
        rw [e]
        refine (rstep_none S o w h hf.ts hq k5 f1).mono ?_
        rintro en w' ⟨rfl, hc⟩
        exact rpost_err h hc 2
      · have hg : S.abs.ts.findIdx? (fun T => T.start == o.t) = some k := f2
        by_cases hin : o.t ∈ S.q
        · have e : stepR S.abs o = (errA 3, S.abs) := by
            unfold stepR
            rw [if_neg k1, if_pos k2, hg]
            have : o.t ∈ S.abs.q := hin
            simp only [if_pos this]
          rw [e]
          refine (rstep_queued S o w h hf.ts hq k5 k f1 hin).mono ?_
          rintro en w' ⟨rfl, hc⟩
          exact rpost_err h hc 3
        · have e : stepR S.abs o = ofM' S.abs k S.ts[k].abs o := by
            unfold stepR
            rw [if_neg k1, if_pos k2, hg]
            have : ¬ o.t ∈ S.abs.q := hin
            have hT : S.abs.ts[k]? = some S.ts[k].abs := by simp [RSt.abs, List.getElem?_eq_getElem hk]
            simp only [if_neg this, hT]
          rw [e]
          exact rstep_of S o w h hf hq k5 k hk f1 hin
    · have e : stepR S.abs o = (errA 1, S.abs) := by unfold stepR; rw [if_neg k1, if_neg k2]
      rw [e]
      refine (rstep_kind S.wb o w (by omega)).mono ?_
      rintro en w' ⟨rfl, hc⟩
      exact rpost_err h hc 1
end Go.Proofs.Ytcpjocgpahjcjaa
