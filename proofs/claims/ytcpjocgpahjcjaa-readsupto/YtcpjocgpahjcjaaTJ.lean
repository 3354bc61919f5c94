import Derived.Test.YtcpjocgpahjcjaaTI
namespace Go.Proofs.Ytcpjocgpahjcjaa
open Go.RowKit Go.Sort
theorem ansCells_snoc {As : List AnsM} {sl : List Sl} (h : sl.length = As.length) (A : AnsM) (x : Sl) : ansCells (As ++ [A]) (sl ++ [x]) = ansCells As sl ++ ansCell (A, x) := by
  unfold ansCells
  rw [List.zip_append h.symm]
  simp
theorem row_apart {w : World} {base base' : Nat} {e e' : TypeId} {size size' : Nat} {v v' : Value} {n n' : Nat} {xs xs' : List Value} (h : w.ownsRow base e size v n xs) (h' : w.ownsRow base' e' size' v' n' xs') (hne : e ≠ e') : ∀ g, v.ownBlock = some g → v'.ownBlock ≠ some g := by
  intro g hg hg'
  rcases h.2 with ⟨rfl, _⟩ | ⟨g1, c1, cur1, rfl, _, hb1, _⟩
  · cases hg
  rcases h'.2 with ⟨rfl, _⟩ | ⟨g2, c2, cur2, rfl, _, hb2, _⟩
  · cases hg'
  have e1 : g1 = g := by simpa [Value.ownBlock] using hg
  have e2 : g2 = g := by simpa [Value.ownBlock] using hg'
  subst e1
  subst e2
  rw [hb1] at hb2
  cases hb2
  exact hne rfl
/-- A row of items, or of answers, is none of the player's blocks. -/
theorem Inv.row {w : World} {st : PSt} {n : Nat} (h : Inv w st n) {base : Nat} {e : TypeId} {size : Nat} {v : Value} {k : Nat} {xs : List Value} (hr : w.ownsRow base e size v k xs) (he : e ≠ 62 ∧ e ≠ 77 ∧ e ≠ 103) : ∀ g, v.ownBlock = some g → g ∉ st.blocks := by
  intro g hg hm
  rcases hr.2 with ⟨rfl, _⟩ | ⟨g1, c1, cur1, rfl, _, hb1, _⟩
  · cases hg
  have e1 : g1 = g := by simpa [Value.ownBlock] using hg
  subst e1
  unfold PSt.blocks at hm
  simp only [List.mem_cons, List.mem_flatMap] at hm
  have nomap : ∀ {α β : Type} {k : TypeId} {mk : α → Value} {vl : β → Value} {l : List (α × β)}, ¬ mapAt w Try.prog k mk vl g1 l := fun hmp => by
    obtain ⟨es, cl, hb2, _⟩ := hmp
    rw [hb1] at hb2
    cases hb2
  rcases hm with rfl | rfl | rfl | rfl | ⟨T, hT, hb⟩
  · have := h.pl
    rw [hb1] at this
    cases this
    exact he.1 rfl
  · have := h.store.st
    rw [hb1] at this
    cases this
    exact he.2.1 rfl
  · have := h.store.vs
    rw [hb1] at this
    cases this
  · exact nomap h.om
  · have hx := h.txs T hT
    simp only [Tx.blocks, List.mem_cons, List.not_mem_nil, or_false] at hb
    rcases hb with rfl | rfl | rfl | rfl
    · have := hx.tx
      rw [hb1] at this
      cases this
      exact he.2.2 rfl
    · exact nomap hx.wm
    · exact nomap hx.km
    · exact nomap hx.pm
theorem ItemsAt.keep {w w' : World} {base : Nat} {As : List AnsM} {sl : List Sl} (h : ItemsAt w base As sl) {S : Nat → Prop} (hc : Chg S w w') (hs : ∀ p ∈ As.zip sl, ∀ g, (slV p.2).ownBlock = some g → ¬ S g) : ItemsAt w' base As sl :=
  ⟨h.1, fun p hp => ownsRow_chg (h.2 p hp) hc (hs p hp)⟩
theorem cells_new (w : World) (l : Array Value) (t : TypeId) : ∀ j u, l.toList[j]? = some u → (w.alloc (.cells l t)).cell? ((⟨w.heap.size, 0, none⟩ : Addr).add j) = some u := by
  intro j u hj
  have h1 : (w.alloc (.cells l t)).heap[w.heap.size]? = some (.cells l t) := (MapKept.heap_alloc w _).1
  have h2 : (⟨w.heap.size, 0, none⟩ : Addr).add j = ⟨w.heap.size, j, none⟩ := by
    unfold Addr.add
    split <;> simp [*]
  rw [h2]
  exact cell_of h1 (by simpa using hj)
set_option maxRecDepth 100000 in
set_option maxHeartbeats 1000000 in
theorem run_any (b off cap : Nat) (ops : List OpM) (w : World) (hops : OpsAt w b off ops) (hbl : b < w.heap.size) (hok : ∀ o ∈ ops, o.ok) (hn : ops.length ≤ 100000000) :
    Calls Try.prog 8 #[.slice (some ⟨b, off, none⟩) ops.length cap] w fun e w' => ∃ (g c : Nat) (sl : List Sl), e = .returned (.slice (some ⟨g, 0, none⟩) ops.length c) ∧ w'.ownsRow w.heap.size 36 7 (.slice (some ⟨g, 0, none⟩) ops.length c) ops.length (ansCells (ansM s0 ops) sl) ∧ ItemsAt w' w.heap.size (ansM s0 ops) sl ∧ Chg nobody w w' := by
  obtain ⟨i0, hi, hz0, hz1, hz2⟩ := info_parts info36
  have HO : Hid (OpsAt w b off ops ∧ ∀ o ∈ ops, o.ok) := ⟨hops, hok⟩
  clear hops hok
  go_enter Try.func8, Try.ntmps8
  go_wp2_with fail
  refine (playerNew_spec _).mono ?_
  rintro e w1 ⟨st1, rfl, hI1, hs1, hc1, hb1⟩
  have H1 : Hid (Inv w1 st1 0 ∧ st1.abs = s0 ∧ Chg nobody w w1 ∧ ∀ b ∈ st1.blocks, w.heap.size ≤ b) := ⟨hI1, hs1, hc1, hb1⟩
  have hsz1 : w.heap.size ≤ w1.heap.size := hc1.size
  clear hI1 hs1 hc1 hb1
  go_wp2_with (at_make; refine wpList_make_own _ rfl _ _ 26 rfl w.heap.size 36 i0 (ansV 0 0 false ⟨#[]⟩ (.slice none 0 0)) 7 Try.underlying26 hi hz0 hz1 _ _ _ ops.length rfl rfl rfl (by rw [hz2]; omega) (by unfold maxLen; omega) hsz1 ?_; intro w2 hrow2 hg2)
  go_loopw [4, 13] (fun v i wr => ∃ (j : Nat) (st : PSt) (sl : List Sl), j ≤ ops.length ∧ i = .int .i64 j ∧ st.p = st1.p ∧ Inv wr st j ∧ st.abs = stM s0 (ops.take j) ∧ wr.ownsRow w.heap.size 36 7 v j (ansCells (ansM s0 (ops.take j)) sl) ∧ ItemsAt wr w.heap.size (ansM s0 (ops.take j)) sl ∧ Chg nobody w wr ∧ (∀ b ∈ st.blocks, w.heap.size ≤ b) ∧ v ≠ .slice none 0 0)
    (fun _ i _ => ops.length - (intOf i).toNat)
  case atStart =>
    obtain ⟨hI1, hs1, hc1, hb1⟩ := H1.out
    have hcg : Chg nobody w1 w2 := (Chg.refl _ _).grown hg2 (fun k e => by cases e)
    exact ⟨0, st1, [], Nat.zero_le _, rfl, rfl, hI1.chg hcg (fun _ _ h => h) (Nat.le_refl _), hs1, hrow2, ⟨rfl, by simp⟩, hc1.trans hcg, hb1, by simp⟩
  case round =>
    obtain ⟨j, st, sl, hj, rfl, hp, hI, hs, hrow, hit, hc, hb, hnn⟩ := hrel
    have HN : Hid (u4 ≠ .slice none 0 0) := hnn
    clear hnn
    by_cases hlt : j < ops.length
    · obtain ⟨hops, hok⟩ := HO.out
      obtain ⟨o0, o1, o2, o3, o4⟩ := hops j hlt
      have hcl : ∀ i, wr.cell? ⟨b, i, none⟩ = w.cell? ⟨b, i, none⟩ := fun i => hc.below.cell (p := ⟨b, i, none⟩) hbl
      rw [← hcl] at o0 o1 o2 o3 o4
      have hoo := hok _ (List.getElem_mem hlt)
      have HG : Hid (ops.take (j + 1) = ops.take j ++ [ops[j]]) := List.take_succ_eq_append_getElem hlt
      generalize ops[j] = o at *
      have HP := play_any (o := o) (hI.chg ((Chg.refl nobody wr).alloc (.cells #[.int .i64 o.kind, .int .i64 o.t, .string o.key, .string o.val, .int .i64 o.n] 30)) (fun _ _ h => h) (Nat.le_refl _)) (by omega) hoo
      rw [hp] at HP
      have HJ : Hid (st.p = st1.p ∧ Inv wr st j ∧ st.abs = stM s0 (ops.take j) ∧ wr.ownsRow w.heap.size 36 7 u4 j (ansCells (ansM s0 (ops.take j)) sl) ∧ ItemsAt wr w.heap.size (ansM s0 (ops.take j)) sl ∧ Chg nobody w wr ∧ ∀ b ∈ st.blocks, w.heap.size ≤ b) := ⟨hp, hI, hs, hrow, hit, hc, hb⟩
      clear hp hI hs hrow hit hc hb hcl hops hok hoo
      go_wp2_with fail
      refine HP.mono ?_
      rintro e w4 ⟨st', q1, q2, q3, q4, q5, a, k, c, rfl, hrw, hg⟩
      obtain ⟨hp, hI, hs, hrow, hit, hc, hb⟩ := HJ.out
      have hcw : Chg nobody wr (wr.alloc (.cells #[.int .i64 o.kind, .int .i64 o.t, .string o.key, .string o.val, .int .i64 o.n] 30)) := (Chg.refl nobody wr).alloc _
      have hc4 : Chg (fun b => b ∈ st.blocks) wr w4 := (hcw.any _).andThen q4 (fun _ _ h => h)
      have hrow4 : w4.ownsRow w.heap.size 36 7 u4 j (ansCells (ansM s0 (ops.take j)) sl) := ownsRow_chg hrow hc4 (hI.row hrow (by decide))
      have hit4 : ItemsAt w4 w.heap.size (ansM s0 (ops.take j)) sl := hit.keep hc4 (fun p hp => hI.row (hit.2 p hp) (by decide))
      have hcc4 : Chg nobody w w4 := hc.andThen hc4 (fun i hi h => by have := hb i h; omega)
      have hb4 : ∀ b ∈ st'.blocks, w.heap.size ≤ b := fun x hx => by
        rcases q5 x hx with h | h
        · exact hb x h
        · have := hcw.size; have := hc.size; omega
      have hs4 : st'.abs = stM s0 (ops.take (j + 1)) := by rw [HG.out, stM_snoc, q3, hs]
      have ha4 : ansM s0 (ops.take (j + 1)) = ansM s0 (ops.take j) ++ [(stepM st.abs o).1] := by rw [HG.out, ansM_snoc, hs]
      have hrw4 : w4.ownsRow w.heap.size 48 2 (.slice a k c) (stepM st.abs o).1.items.length (itemCells (stepM st.abs o).1.items) := ownsRow_base hrw (by have := hcw.size; have := hc.size; omega)
      have hle4 : w.heap.size ≤ w4.heap.size := hcc4.size
      have HK : Hid (st'.p = st1.p ∧ Inv w4 st' (j + 1) ∧ st'.abs = stM s0 (ops.take (j + 1)) ∧ ItemsAt w4 w.heap.size (ansM s0 (ops.take j)) sl ∧ Chg nobody w w4 ∧ (∀ b ∈ st'.blocks, w.heap.size ≤ b) ∧ ansM s0 (ops.take (j + 1)) = ansM s0 (ops.take j) ++ [(stepM st.abs o).1] ∧ w4.ownsRow w.heap.size 48 2 (.slice a k c) (stepM st.abs o).1.items.length (itemCells (stepM st.abs o).1.items)) := ⟨q1.trans hp, q2, hs4, hit4, hcc4, hb4, ha4, hrw4⟩
      clear q1 q2 q3 q4 q5 hrw hg hp hI hs hrow hit hc hb hcw hc4 hit4 hcc4 hb4 hs4 ha4 hrw4 HP HJ o0 o1 o2 o3 o4
      generalize (stepM st.abs o).1 = A at *
      go_wp2_with (at_builtin; refine wpList_append_own _ rfl _ _ 26 rfl w.heap.size 36 i0 (ansV 0 0 false ⟨#[]⟩ (.slice none 0 0)) 7 112 Try.underlying26 hi hz0 hz1 hz2 rfl (by decide) _ _ _ rfl (hrow4.alloc _) ⟨w4.heap.size, 0, none⟩ 1 1 (ansCell (A, (a, k, c))) rfl rfl (cells_new w4 (ansC A.code A.number A.found A.value (.slice a k c)) 36) (by simp [ansCell, Value.oneCell']) (by unfold maxLen; omega) (by omega) (by simp; omega) ?_; intro v' w5 hown' hg5 hnil; have HV : Hid (v' ≠ .slice none 0 0) := (fun e => HN.out (hnil.1 e).1); clear hnil; go_frame)
      go_roundw
      case rel =>
        obtain ⟨hp, hI, hs, hit, hc, hb, ha, hrw⟩ := HK.out
        have hc5 : Chg (fun g => u4.ownBlock = some g) w4 w5 := ((Chg.refl _ _).alloc _).grown hg5 (fun g e => Or.inl e)
        have hno : ∀ x ∈ st'.blocks, ¬ u4.ownBlock = some x := fun x hx e => hI.row hrow4 (by decide) x e hx
        refine ⟨j + 1, st', sl ++ [(a, k, c)], by omega, by go_num, hp, hI.chg hc5 hno (Nat.le_refl _), hs, ?_, ?_, hc.andThen hc5 (fun i hi e => by have := (hrow4.lt i e).1; omega), hb, HV.out⟩
        · rw [ha, ansCells_snoc hit.1]
          exact hown'
        · rw [ha]
          refine ⟨by simp [hit.1], fun q hq => ?_⟩
          rw [List.zip_append hit.1.symm] at hq
          rcases List.mem_append.1 hq with hq | hq
          · exact ownsRow_chg (hit.2 q hq) hc5 (fun g e => row_apart (hit.2 q hq) hrow4 (by decide) g e)
          · simp only [List.zip_cons_cons, List.zip_nil_right, List.mem_singleton] at hq
            subst hq
            exact ownsRow_chg hrw hc5 (fun g e => row_apart hrw hrow4 (by decide) g e)
      case measure => simp [intOf]; omega
    · go_wp2
      go_ret
      have hjl : j = ops.length := by omega
      subst hjl
      rw [List.take_length] at hrow hit
      rcases hrow.2 with ⟨e0, _⟩ | ⟨g, cap', cur, rfl, _⟩
      · exact absurd e0 HN.out
      · exact ⟨g, cap', sl, rfl, hrow, hit, hc⟩
set_option maxRecDepth 100000 in
set_option maxHeartbeats 1000000 in
/-- no step at all. -/
theorem run_zero (ad : Option Addr) (cap : Nat) (w : World) :
    Calls Try.prog 8 #[.slice ad 0 cap] w fun e w' => ∃ (g c : Nat) (sl : List Sl), e = .returned (.slice (some ⟨g, 0, none⟩) 0 c) ∧ w'.ownsRow w.heap.size 36 7 (.slice (some ⟨g, 0, none⟩) 0 c) 0 (ansCells (ansM s0 []) sl) ∧ ItemsAt w' w.heap.size (ansM s0 []) sl ∧ Chg nobody w w' := by
  obtain ⟨i0, hi, hz0, hz1, hz2⟩ := info_parts info36
  go_enter Try.func8, Try.ntmps8
  go_wp2_with fail
  refine (playerNew_spec _).mono ?_
  rintro e w1 ⟨st1, rfl, hI1, hs1, hc1, hb1⟩
  have hsz1 : w.heap.size ≤ w1.heap.size := hc1.size
  go_wp2_with (at_make; refine wpList_make_own _ rfl _ _ 26 rfl w.heap.size 36 i0 (ansV 0 0 false ⟨#[]⟩ (.slice none 0 0)) 7 Try.underlying26 hi hz0 hz1 _ _ _ 0 rfl rfl rfl (by omega) (by unfold maxLen; omega) hsz1 ?_; intro w2 hrow2 hg2)
  have hcg : Chg nobody w1 w2 := (Chg.refl _ _).grown hg2 (fun k e => by cases e)
  refine wp_loop_rounds 1 ?_
  rw [rounds_succ]
  go_wp2
  go_ret
  exact ⟨_, _, [], rfl, hrow2, ⟨rfl, by simp [ansM]⟩, hc1.trans hcg⟩
end Go.Proofs.Ytcpjocgpahjcjaa
