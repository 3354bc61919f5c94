import Derived.Test.YtcpjocgpahjcjaaRT
namespace Go.Proofs.Ytcpjocgpahjcjaa
open Go.RowKit Go.Sort
noncomputable def stR (W : PW) : List OpM → PW
  | [] => W
  | o :: r => stR (stepR W o).2 r
noncomputable def ansR (W : PW) : List OpM → List AnsM
  | [] => []
  | o :: r => (stepR W o).1 :: ansR (stepR W o).2 r
theorem stR_snoc (o : OpM) : ∀ (l : List OpM) (W : PW), stR W (l ++ [o]) = (stepR (stR W l) o).2
  | [], _ => rfl
  | _ :: r, W => stR_snoc o r (stepR W _).2
theorem ansR_snoc (o : OpM) : ∀ (l : List OpM) (W : PW), ansR W (l ++ [o]) = ansR W l ++ [(stepR (stR W l) o).1]
  | [], _ => rfl
  | x :: r, W => by
    show _ :: ansR (stepR W x).2 (r ++ [o]) = _
    rw [ansR_snoc o r]
    rfl
theorem ansR_len : ∀ (l : List OpM) (W : PW), (ansR W l).length = l.length
  | [], _ => rfl
  | _ :: r, W => by simp [ansR, ansR_len r]
def p0 : PW := ⟨0, [], [], [], [], 0⟩
structure PFit (W : PW) (n : Nat) : Prop where
  L : W.L = []
  q : W.q = []
  len : W.ts.length ≤ 6
  tx : ∀ T ∈ W.ts, T.ws.length ≤ n ∧ T.ks.length ≤ n ∧ T.ps.length ≤ n
  c0 : 0 ≤ W.clock
  c1 : W.clock ≤ n
theorem PFit.up {W : PW} {n : Nat} (h : PFit W n) : PFit W (n + 1) := ⟨h.L, h.q, h.len, fun T hT => by have := h.tx T hT; omega, h.c0, by have := h.c1; omega⟩
theorem PFit.set {W : PW} {n k : Nat} {T : PT} (h : PFit W n) (hT : T.ws.length ≤ n + 1 ∧ T.ks.length ≤ n + 1 ∧ T.ps.length ≤ n + 1) : PFit { W with ts := W.ts.set k T } (n + 1) := by
  refine ⟨h.L, h.q, by simpa using h.len, fun X hX => ?_, h.c0, by have := h.c1; simp only; omega⟩
  rcases List.mem_or_eq_of_mem_set hX with h1 | h1
  · have := h.tx X h1; omega
  · rw [h1]; exact hT
theorem writeM_len (ws : List Ver) (v : Ver) : (writeM ws v).length ≤ ws.length + 1 := by
  unfold writeM
  have := lessK_len ws v.key
  simp
  omega
theorem pfit_of {W : PW} {n k : Nat} {T : PT} {o : OpM} (h : PFit W n) (hT : T ∈ W.ts) : PFit (ofM' W k T o).2 (n + 1) := by
  have ht := h.tx T hT
  unfold ofM'
  by_cases c1 : (o.kind = 2 ∨ o.kind = 4 ∨ o.kind = 5) ∧ (o.key.size < 1 ∨ 8 < o.key.size)
  · rw [if_pos c1]; exact h.up
  rw [if_neg c1]
  by_cases c2 : o.kind = 2
  · rw [if_pos c2]; exact h.set (by simp only [List.length_append, List.length_cons, List.length_nil]; omega)
  rw [if_neg c2]
  by_cases c3 : o.kind = 3
  · rw [if_pos c3]; exact h.set (by simp only [List.length_append, List.length_cons, List.length_nil]; omega)
  rw [if_neg c3]
  by_cases c4 : o.kind = 4
  · rw [if_pos c4]
    by_cases c5 : 20 < o.val.size
    · rw [if_pos c5]; exact h.up
    · rw [if_neg c5]
      exact h.set (by have := writeM_len T.ws ⟨o.key, 0, o.val, false⟩; simp only; omega)
  rw [if_neg c4]
  by_cases c6 : o.kind = 5
  · rw [if_pos c6]
    exact h.set (by have := writeM_len T.ws ⟨o.key, 0, ⟨#[]⟩, true⟩; simp only; omega)
  rw [if_neg c6]
  refine ⟨h.L, h.q, ?_, fun X hX => ?_, h.c0, by have := h.c1; simp only; omega⟩
  · exact Nat.le_trans (List.length_filter_le _ _) h.len
  · have := h.tx X (List.mem_filter.1 hX).1; omega
theorem pfit_step {W : PW} {n : Nat} (h : PFit W n) (o : OpM) : PFit (stepR W o).2 (n + 1) := by
  unfold stepR
  by_cases k1 : o.kind = 1
  · rw [if_pos k1]
    by_cases h6 : 6 ≤ W.ts.length
    · rw [if_pos h6]; exact h.up
    · rw [if_neg h6]
      refine ⟨h.L, h.q, by simp; omega, fun T hT => ?_, by have := h.c0; simp only; omega, by have := h.c1; simp only; omega⟩
      rcases List.mem_append.1 hT with h1 | h1
      · have := h.tx T h1; omega
      · have e : T = ⟨W.clock + 1, [], [], []⟩ := by simpa using h1
        subst e
        simp
  · rw [if_neg k1]
    by_cases k2 : 2 ≤ o.kind ∧ o.kind ≤ 6
    · rw [if_pos k2]
      split
      · exact h.up
      · split
        · exact h.up
        · split
          · rename_i T hT
            exact pfit_of h (List.mem_of_getElem? hT)
          · exact h.up
    · rw [if_neg k2]; exact h.up
theorem PFit.fit {S : RSt} {n : Nat} (h : PFit S.abs n) (hn : n ≤ 2000000) : RFit S ∧ S.q.length ≤ 2000000 ∧ 0 ≤ S.clock ∧ S.clock < 1000000000 := by
  have hL : S.L = [] := h.L
  have hq : S.q = [] := h.q
  have hl : (S.ts.map RT.abs).length ≤ 6 := h.len
  rw [List.length_map] at hl
  refine ⟨⟨by rw [hL]; simp, by omega, fun T hT => ?_⟩, by rw [hq]; simp, h.c0, ?_⟩
  · have := h.tx T.abs (List.mem_map.2 ⟨T, hT, rfl⟩)
    simp only [RT.abs] at this
    omega
  · have : S.clock ≤ n := h.c1
    omega
/-- A row of items, or of answers, is none of the reference's blocks. -/
theorem RInv.row {w : World} {S : RSt} (h : RInv w S) {base : Nat} {e : TypeId} {size : Nat} {v : Value} {k : Nat} {xs : List Value} (hr : w.ownsRow base e size v k xs) (he : e ≠ 54 ∧ e ≠ 72 ∧ e ≠ 66 ∧ e ≠ 3 ∧ e ≠ 73 ∧ e ≠ 9) : ∀ g, v.ownBlock = some g → g ∉ S.blocks := by
  intro g hg hm
  simp only [RSt.blocks, RSt.others, List.mem_append, List.mem_cons, vb_mem, List.mem_flatMap] at hm
  rcases hm with (rfl | ((hb | hb) | hb) | hb) | ⟨T, hT, hb⟩
  · rcases hr.2 with ⟨rfl, _⟩ | ⟨g1, c1, cur1, rfl, _, hb1, _⟩
    · cases hg
    have e1 : g1 = S.wb := by simpa [Value.ownBlock] using hg
    subst e1
    have := h.wb
    rw [hb1] at this
    cases this
    exact he.1 rfl
  · exact row_apart hr h.lr he.2.1 g hg hb
  · exact row_apart hr h.qr he.2.2.2.1 g hg hb
  · exact row_apart hr h.rr he.2.2.2.2.1 g hg hb
  · exact row_apart hr h.or he.2.2.1 g hg hb
  · have hx := h.ts T hT
    simp only [RT.blocks, List.mem_append, vb_mem] at hb
    rcases hb with (hb | hb) | hb
    · exact row_apart hr hx.wr he.2.1 g hg hb
    · exact row_apart hr hx.kr he.2.2.2.2.2 g hg hb
    · exact row_apart hr hx.pr he.2.2.2.2.2 g hg hb
end Go.Proofs.Ytcpjocgpahjcjaa
