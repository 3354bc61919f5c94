import Derived.Test.YtechhojiifcpjaaPL
namespace Go.Proofs.Ytechhojiifcpjaa
open Go.RowKit Go.Sort
theorem pn5_heap (w : World) : (pn5 w).heap = ((((((((w.heap.push (.cells #[.int .i64 0] 60)).push (.map #[] 0)).push (.cells #[.map (some (w.heap.size + 1))] 72)).push (.map #[] 0)).push (.cells #[.pointer (some ⟨w.heap.size, 0, none⟩), .pointer (some ⟨w.heap.size + 2, 0, none⟩), .map (some (w.heap.size + 3)), .int .i64 0] 76)).push (.chan 3 #[] false 0 0 false)).push (.cells #[.chan (some (w.heap.size + 5))] 79)).push (.map #[] 0)).push (.cells #[.pointer (some ⟨w.heap.size, 0, none⟩), .pointer (some ⟨w.heap.size + 2, 0, none⟩), .pointer (some ⟨w.heap.size + 4, 0, none⟩), .pointer (some ⟨w.heap.size + 6, 0, none⟩), .map (some (w.heap.size + 7))] 69) := rfl
def stNew (s : Nat) : PSt := { p := s + 8, cb := s, sb := s + 2, vm := s + 1, ob := s + 4, rb := s + 3, qb := s + 6, ch := s + 5, om := s + 7, clock := 0, low := 0, V := [], rows := [], q := [], qs := 0, qr := 0, txs := [] }
theorem playerNew_spec (w : World) :
    Calls Try.prog 16 #[] w fun e w' => ∃ st : PSt, e = .returned (.pointer (some ⟨st.p, 0, none⟩)) ∧ Inv w' st 0 ∧ Rel st p0 ∧ Chg nobody w w' ∧ ∀ b ∈ st.blocks, w.heap.size ≤ b := by
  refine (playerNew_any w).mono ?_
  rintro e w' ⟨rfl, rfl⟩
  have hh := pn5_heap w
  have g0 : (pn5 w).heap[w.heap.size]? = some (.cells #[.int .i64 0] 60) := by
    rw [hh]; simp only [Array.getElem?_push, Array.size_push]
    repeat (first | rw [if_pos trivial] | rw [if_pos (by omega)] | rw [if_neg (by omega)])
  have g1 : (pn5 w).heap[w.heap.size + 1]? = some (.map #[] 0) := by
    rw [hh]; simp only [Array.getElem?_push, Array.size_push]
    repeat (first | rw [if_pos trivial] | rw [if_pos (by omega)] | rw [if_neg (by omega)])
  have g2 : (pn5 w).heap[w.heap.size + 2]? = some (.cells #[.map (some (w.heap.size + 1))] 72) := by
    rw [hh]; simp only [Array.getElem?_push, Array.size_push]
    repeat (first | rw [if_pos trivial] | rw [if_pos (by omega)] | rw [if_neg (by omega)])
  have g3 : (pn5 w).heap[w.heap.size + 3]? = some (.map #[] 0) := by
    rw [hh]; simp only [Array.getElem?_push, Array.size_push]
    repeat (first | rw [if_pos trivial] | rw [if_pos (by omega)] | rw [if_neg (by omega)])
  have g4 : (pn5 w).heap[w.heap.size + 4]? = some (.cells #[.pointer (some ⟨w.heap.size, 0, none⟩), .pointer (some ⟨w.heap.size + 2, 0, none⟩), .map (some (w.heap.size + 3)), .int .i64 0] 76) := by
    rw [hh]; simp only [Array.getElem?_push, Array.size_push]
    repeat (first | rw [if_pos trivial] | rw [if_pos (by omega)] | rw [if_neg (by omega)])
  have g5 : (pn5 w).heap[w.heap.size + 5]? = some (.chan 3 #[] false 0 0 false) := by
    rw [hh]; simp only [Array.getElem?_push, Array.size_push]
    repeat (first | rw [if_pos trivial] | rw [if_pos (by omega)] | rw [if_neg (by omega)])
  have g6 : (pn5 w).heap[w.heap.size + 6]? = some (.cells #[.chan (some (w.heap.size + 5))] 79) := by
    rw [hh]; simp only [Array.getElem?_push, Array.size_push]
    repeat (first | rw [if_pos trivial] | rw [if_pos (by omega)] | rw [if_neg (by omega)])
  have g7 : (pn5 w).heap[w.heap.size + 7]? = some (.map #[] 0) := by
    rw [hh]; simp only [Array.getElem?_push, Array.size_push]
    repeat (first | rw [if_pos trivial] | rw [if_pos (by omega)] | rw [if_neg (by omega)])
  have g8 : (pn5 w).heap[w.heap.size + 8]? = some (.cells #[.pointer (some ⟨w.heap.size, 0, none⟩), .pointer (some ⟨w.heap.size + 2, 0, none⟩), .pointer (some ⟨w.heap.size + 4, 0, none⟩), .pointer (some ⟨w.heap.size + 6, 0, none⟩), .map (some (w.heap.size + 7))] 69) := by
    rw [hh]; simp only [Array.getElem?_push, Array.size_push]
    repeat (first | rw [if_pos trivial] | rw [if_pos (by omega)] | rw [if_neg (by omega)])
  clear hh
  refine ⟨stNew w.heap.size, rfl, ⟨g8, g0, ⟨g2, mapAt_made _ _ _ _ _ g1, by simp [stNew]⟩, ⟨g4, mapAt_made _ _ _ _ _ g3⟩, g6, g5, mapAt_made _ _ _ _ _ g7, by simp [stNew], ?_, by simp [stNew], by simp [stNew], by simp [stNew], by simp [stNew], by simp [stNew], by simp [stNew], by simp [stNew], by simp [stNew], by simp [stNew, sumV], by simp [stNew], by simp [stNew]⟩, ⟨rfl, rfl, trivial, rfl, fun _ => rfl, List.Pairwise.nil, fun _ => rfl, by simp [p0], List.Pairwise.nil, by simp [p0], List.Pairwise.nil⟩, ((((((((Chg.refl _ _).alloc _).alloc _).alloc _).alloc _).alloc _).alloc _).alloc _).alloc _ |>.alloc _, ?_⟩
  · simp [stNew, PSt.blocks, PSt.fix, vBlocks]
  · intro b hb
    simp [stNew, PSt.blocks, PSt.fix, vBlocks] at hb
    omega
theorem ansCells_snoc {As : List AnsM} {sl : List Sl3} (h : sl.length = As.length) (A : AnsM) (x : Sl3) : ansCells (As ++ [A]) (sl ++ [x]) = ansCells As sl ++ ansCell (A, x) := by
  unfold ansCells
  rw [List.zip_append h.symm]
  simp
theorem row_apart {w : World} {base base' : Nat} {e e' : TypeId} {size size' : Nat} {v v' : Value} {n n' : Nat} {xs xs' : List Value} (h : w.ownsRow base e size v n xs) (h' : w.ownsRow base' e' size' v' n' xs') (hne : e ≠ e') : ∀ g, v.ownBlock = some g → v'.ownBlock ≠ some g := by
  intro g hg hg'
  rcases h.2 with ⟨rfl, _⟩ | ⟨g1, c1, cur1, rfl, _, hb1, _⟩
  · cases hg
  rcases h'.2 with ⟨rfl, _⟩ | ⟨g2, c2, cur2, rfl, _, hb2, _⟩
  · cases hg'
  have e1 : g1 = g := by simpa [Value.ownBlock] using hg
  have e2 : g2 = g := by simpa [Value.ownBlock] using hg'
  subst e1
  subst e2
  rw [hb1] at hb2
  cases hb2
  exact hne rfl
/-- A row of items, of decisions, or of answers, is none of the player's blocks. -/
theorem Inv.row {w : World} {st : PSt} {n : Nat} (h : Inv w st n) {base : Nat} {e : TypeId} {size : Nat} {v : Value} {k : Nat} {xs : List Value} (hr : w.ownsRow base e size v k xs) (he : e ≠ 69 ∧ e ≠ 60 ∧ e ≠ 72 ∧ e ≠ 76 ∧ e ≠ 79 ∧ e ≠ 114 ∧ e ≠ 98) : ∀ g, v.ownBlock = some g → g ∉ st.blocks := by
  intro g hg hm
  rcases hr.2 with ⟨rfl, _⟩ | ⟨g1, c1, cur1, rfl, _, hb1, _⟩
  · cases hg
  have e1 : g1 = g := by simpa [Value.ownBlock] using hg
  subst e1
  have nomap : ∀ {α β : Type} {k : TypeId} {mk : α → Value} {vl : β → Value} {l : List (α × β)}, ¬ mapAt w Try.prog k mk vl g1 l := fun hmp => by
    obtain ⟨es, cl, hb2, _⟩ := hmp
    rw [hb1] at hb2
    cases hb2
  have nocell : ∀ {b : Nat} {c : Array Value} {t : TypeId}, w.heap[b]? = some (.cells c t) → b = g1 → e = t := fun hb2 eb => by
    rw [eb, hb1] at hb2
    cases hb2
    rfl
  unfold PSt.blocks PSt.fix at hm
  rcases List.mem_append.1 hm with hm | hm
  · simp only [List.mem_cons, List.not_mem_nil, or_false] at hm
    rcases hm with e1 | e1 | e1 | e1 | e1 | e1 | e1 | e1 | e1
    · exact he.1 (nocell h.pl e1.symm)
    · exact he.2.1 (nocell h.ck e1.symm)
    · exact he.2.2.1 (nocell h.store.st e1.symm)
    · exact nomap (e1 ▸ h.store.vs)
    · exact he.2.2.2.1 (nocell h.orc.o e1.symm)
    · exact nomap (e1 ▸ h.orc.r)
    · exact he.2.2.2.2.1 (nocell h.qu e1.symm)
    · have := h.chn
      rw [← e1, hb1] at this
      cases this
    · exact nomap (e1 ▸ h.om)
  · rcases List.mem_append.1 hm with hm | hm
    · exact h.store.not_vb hb1 (fun cur e2 => by cases e2; exact he.2.2.2.2.2.1 rfl) hm
    · obtain ⟨T, hT, hb⟩ := List.mem_flatMap.1 hm
      have hx := h.txs T hT
      simp only [Tx.blocks, List.mem_cons, List.not_mem_nil, or_false] at hb
      rcases hb with e1 | e1 | e1 | e1
      · exact he.2.2.2.2.2.2 (nocell hx.tx e1.symm)
      · exact nomap (e1 ▸ hx.wm)
      · exact nomap (e1 ▸ hx.km)
      · exact nomap (e1 ▸ hx.pm)
theorem Inv.rows {w : World} {st : PSt} {n : Nat} (h : Inv w st n) {base : Nat} {A : AnsM} {x : Sl3} (hr : RowsOf w base A x) : ∀ v g, (v = slV x.1 ∨ v = slV x.2.1 ∨ v = slV x.2.2) → v.ownBlock = some g → g ∉ st.blocks := by
  rintro v g (rfl | rfl | rfl) hg
  · exact h.row hr.1 (by decide) g hg
  · exact h.row hr.2.1 (by decide) g hg
  · exact h.row hr.2.2 (by decide) g hg
theorem ItemsAt.keep {w w' : World} {base : Nat} {As : List AnsM} {sl : List Sl3} (h : ItemsAt w base As sl) {S : Nat → Prop} (hc : Chg S w w') (hs : ∀ p ∈ As.zip sl, ∀ v g, (v = slV p.2.1 ∨ v = slV p.2.2.1 ∨ v = slV p.2.2.2) → v.ownBlock = some g → ¬ S g) : ItemsAt w' base As sl :=
  ⟨h.1, fun p hp => (h.2 p hp).chg hc (hs p hp)⟩
theorem rows_apart {w : World} {base base' : Nat} {A : AnsM} {x : Sl3} {v' : Value} {n' : Nat} {xs' : List Value} (h : RowsOf w base A x) (h' : w.ownsRow base' 34 7 v' n' xs') : ∀ v g, (v = slV x.1 ∨ v = slV x.2.1 ∨ v = slV x.2.2) → v.ownBlock = some g → ¬ v'.ownBlock = some g := by
  rintro v g (rfl | rfl | rfl) hg
  · exact row_apart h.1 h' (by decide) g hg
  · exact row_apart h.2.1 h' (by decide) g hg
  · exact row_apart h.2.2 h' (by decide) g hg
set_option maxRecDepth 100000 in
set_option maxHeartbeats 1000000 in
theorem run_any (b off cap : Nat) (ops : List OpM) (w : World) (hops : OpsAt w b off ops) (hbl : b < w.heap.size) (hok : ∀ o ∈ ops, o.ok) (hn : ops.length ≤ 10000000) :
    Calls Try.prog 8 #[.slice (some ⟨b, off, none⟩) ops.length cap] w fun e w' => ∃ (g c : Nat) (sl : List Sl3), e = .returned (.slice (some ⟨g, 0, none⟩) ops.length c) ∧ w'.ownsRow w.heap.size 34 7 (.slice (some ⟨g, 0, none⟩) ops.length c) ops.length (ansCells (ansP p0 ops) sl) ∧ ItemsAt w' w.heap.size (ansP p0 ops) sl ∧ Chg nobody w w' := by
  obtain ⟨i0, hi, hz0, hz1, hz2⟩ := info_parts infoAns
  have HO : Hid (OpsAt w b off ops ∧ ∀ o ∈ ops, o.ok) := ⟨hops, hok⟩
  clear hops hok
  go_enter Try.func8, Try.ntmps8
  go_wp2_with fail
  refine (playerNew_spec _).mono ?_
  rintro e w1 ⟨st1, rfl, hI1, hs1, hc1, hb1⟩
  have H1 : Hid (Inv w1 st1 0 ∧ Rel st1 p0 ∧ Chg nobody w w1 ∧ ∀ b ∈ st1.blocks, w.heap.size ≤ b) := ⟨hI1, hs1, hc1, hb1⟩
  have hsz1 : w.heap.size ≤ w1.heap.size := hc1.size
  clear hI1 hs1 hc1 hb1
  go_wp2_with (at_make; refine wpList_make_own _ rfl _ _ 24 rfl w.heap.size 34 i0 (ansV 0 0 false ⟨#[]⟩ (.slice none 0 0)) 7 Try.underlying24 hi hz0 hz1 _ _ _ ops.length rfl rfl rfl (by rw [hz2]; omega) (by unfold maxLen; omega) hsz1 ?_; intro w2 hrow2 hg2)
  go_loopw [4, 13] (fun v i wr => ∃ (j : Nat) (st : PSt) (sl : List Sl3), j ≤ ops.length ∧ i = .int .i64 j ∧ st.p = st1.p ∧ Inv wr st j ∧ Rel st (stP p0 (ops.take j)) ∧ wr.ownsRow w.heap.size 34 7 v j (ansCells (ansP p0 (ops.take j)) sl) ∧ ItemsAt wr w.heap.size (ansP p0 (ops.take j)) sl ∧ Chg nobody w wr ∧ (∀ b ∈ st.blocks, w.heap.size ≤ b) ∧ v ≠ .slice none 0 0)
    (fun _ i _ => ops.length - (intOf i).toNat)
  case atStart =>
    obtain ⟨hI1, hs1, hc1, hb1⟩ := H1.out
    have hcg : Chg nobody w1 w2 := (Chg.refl _ _).grown hg2 (fun k e => by cases e)
    exact ⟨0, st1, [], Nat.zero_le _, rfl, rfl, hI1.chg hcg (fun _ _ h => h) (Nat.le_refl _), hs1, hrow2, ⟨rfl, by simp⟩, hc1.trans hcg, hb1, by simp⟩
  case round =>
    obtain ⟨j, st, sl, hj, rfl, hp, hI, hs, hrow, hit, hc, hb, hnn⟩ := hrel
    have HN : Hid (u4 ≠ .slice none 0 0) := hnn
    clear hnn
    by_cases hlt : j < ops.length
    · obtain ⟨hops, hok⟩ := HO.out
      obtain ⟨o0, o1, o2, o3, o4⟩ := hops j hlt
      have hcl : ∀ i, wr.cell? ⟨b, i, none⟩ = w.cell? ⟨b, i, none⟩ := fun i => hc.below.cell (p := ⟨b, i, none⟩) hbl
      rw [← hcl] at o0 o1 o2 o3 o4
      have hoo := hok _ (List.getElem_mem hlt)
      have HG : Hid (ops.take (j + 1) = ops.take j ++ [ops[j]]) := List.take_succ_eq_append_getElem hlt
      generalize ops[j] = o at *
      have HP := play_any (o := o) (hI.chg ((Chg.refl nobody wr).alloc (.cells #[.int .i64 o.kind, .int .i64 o.t, .string o.key, .string o.val, .int .i64 o.n] 28)) (fun _ _ h => h) (Nat.le_refl _)) hs (by omega) hoo
      rw [hp] at HP
      have HJ : Hid (st.p = st1.p ∧ Inv wr st j ∧ Rel st (stP p0 (ops.take j)) ∧ wr.ownsRow w.heap.size 34 7 u4 j (ansCells (ansP p0 (ops.take j)) sl) ∧ ItemsAt wr w.heap.size (ansP p0 (ops.take j)) sl ∧ Chg nobody w wr ∧ ∀ b ∈ st.blocks, w.heap.size ≤ b) := ⟨hp, hI, hs, hrow, hit, hc, hb⟩
      clear hp hI hs hrow hit hc hb hcl hops hok hoo
      go_wp2_with fail
      refine HP.mono ?_
      rintro e w4 ⟨st', q1, q2, q3, q4, q5, a, k, c, a2, k2, c2, rfl, hrw, hrw2, hsm, hg, hg2⟩
      obtain ⟨hp, hI, hs, hrow, hit, hc, hb⟩ := HJ.out
      have hcw : Chg nobody wr (wr.alloc (.cells #[.int .i64 o.kind, .int .i64 o.t, .string o.key, .string o.val, .int .i64 o.n] 28)) := (Chg.refl nobody wr).alloc _
      have hc4 : Chg (fun b => b ∈ st.blocks) wr w4 := (hcw.any _).andThen q4 (fun _ _ h => h)
      have hrow4 : w4.ownsRow w.heap.size 34 7 u4 j (ansCells (ansP p0 (ops.take j)) sl) := ownsRow_chg hrow hc4 (hI.row hrow (by decide))
      have hit4 : ItemsAt w4 w.heap.size (ansP p0 (ops.take j)) sl := hit.keep hc4 (fun p hp => hI.rows (hit.2 p hp))
      have hcc4 : Chg nobody w w4 := hc.andThen hc4 (fun i hi h => by have := hb i h; omega)
      have hb4 : ∀ b ∈ st'.blocks, w.heap.size ≤ b := fun x hx => by
        rcases q5 x hx with h | h
        · exact hb x h
        · have := hcw.size; have := hc.size; omega
      have hs4 : Rel st' (stP p0 (ops.take (j + 1))) := by rw [HG.out, stP_snoc]; exact q3
      have ha4 : ansP p0 (ops.take (j + 1)) = ansP p0 (ops.take j) ++ [(stepP (stP p0 (ops.take j)) o).1] := by rw [HG.out, ansP_snoc]
      have hrw4 : RowsOf w4 w.heap.size (stepP (stP p0 (ops.take j)) o).1 ((a, k, c), (a2, k2, c2), (none, 0, 0)) := ⟨ownsRow_base hrw (by have := hcw.size; have := hc.size; omega), ownsRow_base hrw2 (by have := hcw.size; have := hc.size; omega), by rw [hsm]; exact World.ownsRow_nil _ _ _ _⟩
      have hle4 : w.heap.size ≤ w4.heap.size := hcc4.size
      have HK : Hid (st'.p = st1.p ∧ Inv w4 st' (j + 1) ∧ Rel st' (stP p0 (ops.take (j + 1))) ∧ ItemsAt w4 w.heap.size (ansP p0 (ops.take j)) sl ∧ Chg nobody w w4 ∧ (∀ b ∈ st'.blocks, w.heap.size ≤ b) ∧ ansP p0 (ops.take (j + 1)) = ansP p0 (ops.take j) ++ [(stepP (stP p0 (ops.take j)) o).1] ∧ RowsOf w4 w.heap.size (stepP (stP p0 (ops.take j)) o).1 ((a, k, c), (a2, k2, c2), (none, 0, 0))) := ⟨q1.trans hp, q2, hs4, hit4, hcc4, hb4, ha4, hrw4⟩
      clear q1 q2 q3 q4 q5 hrw hrw2 hsm hg hg2 hp hI hs hrow hit hc hb hcw hc4 hit4 hcc4 hb4 hs4 ha4 hrw4 HP HJ o0 o1 o2 o3 o4
      generalize (stepP (stP p0 (ops.take j)) o).1 = A at *
      go_wp2_with (at_builtin; refine wpList_append_own _ rfl _ _ 24 rfl w.heap.size 34 i0 (ansV 0 0 false ⟨#[]⟩ (.slice none 0 0)) 7 112 Try.underlying24 hi hz0 hz1 hz2 rfl (by decide) _ _ _ rfl (hrow4.alloc _) ⟨w4.heap.size, 0, none⟩ 1 1 (ansCell (A, ((a, k, c), (a2, k2, c2), (none, 0, 0)))) rfl rfl (cells_new w4 #[.int .i64 A.code, .int .i64 A.number, .bool A.found, .string A.value, .slice a k c, .slice a2 k2 c2, .slice none 0 0] 34) (by simp [ansCell, Value.oneCell']) (by unfold maxLen; omega) (by omega) (by simp; omega) ?_; intro v' w5 hown' hg5 hnil; have HV : Hid (v' ≠ .slice none 0 0) := (fun e => HN.out (hnil.1 e).1); clear hnil; go_frame)
      go_roundw
      case rel =>
        obtain ⟨hp, hI, hs, hit, hc, hb, ha, hrw⟩ := HK.out
        have hc5 : Chg (fun g => u4.ownBlock = some g) w4 w5 := ((Chg.refl _ _).alloc _).grown hg5 (fun g e => Or.inl e)
        have hno : ∀ x ∈ st'.blocks, ¬ u4.ownBlock = some x := fun x hx e => hI.row hrow4 (by decide) x e hx
        refine ⟨j + 1, st', sl ++ [((a, k, c), (a2, k2, c2), (none, 0, 0))], by omega, by go_num, hp, hI.chg hc5 hno (Nat.le_refl _), hs, ?_, ?_, hc.andThen hc5 (fun i hi e => by have := (hrow4.lt i e).1; omega), hb, HV.out⟩
        · rw [ha, ansCells_snoc hit.1]
          exact hown'
        · rw [ha]
          refine ⟨by simp [hit.1], fun q hq => ?_⟩
          rw [List.zip_append hit.1.symm] at hq
          rcases List.mem_append.1 hq with hq | hq
          · exact (hit.2 q hq).chg hc5 (rows_apart (hit.2 q hq) hrow4)
          · simp only [List.zip_cons_cons, List.zip_nil_right, List.mem_singleton] at hq
            subst hq
            exact hrw.chg hc5 (rows_apart hrw hrow4)
      case measure => simp [intOf]; omega
    · go_wp2
      go_ret
      have hjl : j = ops.length := by omega
      subst hjl
      rw [List.take_length] at hrow hit
      rcases hrow.2 with ⟨e0, _⟩ | ⟨g, cap', cur, rfl, _⟩
      · exact absurd e0 HN.out
      · exact ⟨g, cap', sl, rfl, hrow, hit, hc⟩
set_option maxRecDepth 100000 in
set_option maxHeartbeats 1000000 in
/-- no step at all. -/
theorem run_zero (ad : Option Addr) (cap : Nat) (w : World) :
    Calls Try.prog 8 #[.slice ad 0 cap] w fun e w' => ∃ (g c : Nat) (sl : List Sl3), e = .returned (.slice (some ⟨g, 0, none⟩) 0 c) ∧ w'.ownsRow w.heap.size 34 7 (.slice (some ⟨g, 0, none⟩) 0 c) 0 (ansCells (ansP p0 []) sl) ∧ ItemsAt w' w.heap.size (ansP p0 []) sl ∧ Chg nobody w w' := by
  obtain ⟨i0, hi, hz0, hz1, hz2⟩ := info_parts infoAns
  go_enter Try.func8, Try.ntmps8
  go_wp2_with fail
  refine (playerNew_spec _).mono ?_
  rintro e w1 ⟨st1, rfl, hI1, hs1, hc1, hb1⟩
  have hsz1 : w.heap.size ≤ w1.heap.size := hc1.size
  go_wp2_with (at_make; refine wpList_make_own _ rfl _ _ 24 rfl w.heap.size 34 i0 (ansV 0 0 false ⟨#[]⟩ (.slice none 0 0)) 7 Try.underlying24 hi hz0 hz1 _ _ _ 0 rfl rfl rfl (by omega) (by unfold maxLen; omega) hsz1 ?_; intro w2 hrow2 hg2)
  have hcg : Chg nobody w1 w2 := (Chg.refl _ _).grown hg2 (fun k e => by cases e)
  refine wp_loop_rounds 1 ?_
  rw [rounds_succ]
  go_wp2
  go_ret
  exact ⟨_, _, [], rfl, hrow2, ⟨rfl, by simp [ansP]⟩, hc1.trans hcg⟩
end Go.Proofs.Ytechhojiifcpjaa
