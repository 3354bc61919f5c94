import Derived.Test.YtkfjafndplmdkaaGreatTN
namespace Go.Proofs.YtkfjafndplmdkaaGreat
open Go.RowKit Go.Sort
open Go.ChangeShapes Go.WideShapes Go.ChangeAt
def keepB (t : Int) (o : OpM) : Bool := o.kind != 9 && o.t != t
def othersM (ys : List OpM) (t : Int) : List OpM := ys.filter (keepB t)
theorem othersM_take (ys : List OpM) (t : Int) (j : Nat) (h : j < ys.length) : othersM (ys.take (j + 1)) t = othersM (ys.take j) t ++ (if keepB t ys[j] then [ys[j]] else []) := by
  unfold othersM
  rw [List.take_succ_eq_append_getElem h, List.filter_append]
  cases hk : keepB t ys[j] <;> simp [hk]
theorem othersM_len (ys : List OpM) (t : Int) : (othersM ys t).length ≤ ys.length := List.length_filter_le _ _
set_option maxHeartbeats 400000 in
theorem others_zero (ad : Option Addr) (cap : Nat) (t : Int) (w : World) :
    Calls Tryz.prog 18 #[.slice ad 0 cap, .int .i64 t] w fun e w' => e = .returned (.slice none 0 0) ∧ w' = w := by
  go_enter Tryz.func18, Tryz.ntmps18
  go_wp2
  refine wp_loop_rounds 1 ?_
  rw [rounds_succ]
  go_wp2
  go_ret
  exact ⟨rfl, rfl⟩
set_option maxRecDepth 100000 in
set_option maxHeartbeats 1000000 in
theorem others_some (b off cap : Nat) (ys : List OpM) (t : Int) (w : World) (hops : OpsAt w b off ys) (hbl : b < w.heap.size) (hn : ys.length ≤ 10000000) :
    Calls Tryz.prog 18 #[.slice (some ⟨b, off, none⟩) ys.length cap, .int .i64 t] w fun e w' => ∃ v, e = .returned v ∧ w'.ownsRow w.heap.size 30 5 v (othersM ys t).length (opCells (othersM ys t)) ∧ Chg nobody w w' := by
  obtain ⟨i0, hi, hz0, hz1, hz2⟩ := info_parts info30
  have HO : Hid (OpsAt w b off ys ∧ b < w.heap.size) := ⟨hops, hbl⟩
  clear hops hbl
  go_enter Tryz.func18, Tryz.ntmps18
  go_wp2
  go_loopw [5, 6] (fun v i wr => ∃ j : Nat, j ≤ ys.length ∧ i = .int .i64 j ∧ wr.ownsRow w.heap.size 30 5 v (othersM (ys.take j) t).length (opCells (othersM (ys.take j) t)) ∧ Chg nobody w wr) (fun _ i _ => ys.length - (intOf i).toNat)
  case atStart => exact ⟨0, Nat.zero_le _, rfl, World.ownsRow_nil _ _ _ _, Chg.refl _ _⟩
  case round =>
    obtain ⟨j, hj, rfl, hrow, hc⟩ := hrel
    by_cases hlt : j < ys.length
    · obtain ⟨hops, hbl⟩ := HO.out
      obtain ⟨o0, o1, o2, o3, o4⟩ := hops j hlt
      have hcl : ∀ i, wr.cell? ⟨b, i, none⟩ = w.cell? ⟨b, i, none⟩ := fun i => hc.below.cell (p := ⟨b, i, none⟩) hbl
      rw [← hcl] at o0 o1 o2 o3 o4
      have HT : Hid (othersM (ys.take (j + 1)) t = othersM (ys.take j) t ++ (if keepB t ys[j] then [ys[j]] else [])) := othersM_take ys t j hlt
      have hol : (othersM (ys.take j) t).length ≤ j := Nat.le_trans (othersM_len _ _) (List.length_take_le _ _)
      have hsz : w.heap.size ≤ wr.heap.size := hc.size
      have HC : Hid (Chg nobody w wr) := hc
      clear hcl hops hbl hc
      generalize ys[j] = o at *
      by_cases hk : o.kind = 9
      · have b1 : (o.kind != 9) = false := by simp [hk]
        have HK : Hid (keepB t o = false) := by show keepB t o = false; simp [keepB, b1]
        clear hk
        go_wp2
        go_roundw
        case rel =>
          refine ⟨j + 1, by omega, by go_num, ?_, HC.out⟩
          rw [HT.out, HK.out]
          simpa using hrow
        case measure => simp [intOf]; omega
      · have b1 : (o.kind != 9) = true := by simp [hk]
        clear hk
        by_cases ht : o.t = t
        · have b2 : (o.t != t) = false := by simp [ht]
          have HK : Hid (keepB t o = false) := by show keepB t o = false; simp [keepB, b2]
          clear ht
          go_wp2
          go_roundw
          case rel =>
            refine ⟨j + 1, by omega, by go_num, ?_, HC.out⟩
            rw [HT.out, HK.out]
            simpa using hrow
          case measure => simp [intOf]; omega
        · have b2 : (o.t != t) = true := by simp [ht]
          have HK : Hid (keepB t o = true) := by show keepB t o = true; simp [keepB, b1, b2]
          clear ht
          go_wp2_with (at_builtin; refine wpList_append_own _ rfl _ _ 22 rfl w.heap.size 30 i0 (OpM.v ⟨0, 0, ⟨#[]⟩, ⟨#[]⟩, 0⟩) 5 56 Tryz.underlying22 hi hz0 hz1 hz2 rfl (by decide) _ _ _ rfl (hrow.alloc _) ⟨wr.heap.size, 0, none⟩ 1 1 o.vals rfl rfl (cells_new wr #[.int .i64 o.kind, .int .i64 o.t, .string o.key, .string o.val, .int .i64 o.n] 30) (vals_one o) (by unfold maxLen; omega) (by omega) (by simp; omega) ?_; intro v' w1 hown1 hg1 _; go_frame)
          go_roundw
          case rel =>
            refine ⟨j + 1, by omega, by go_num, ?_, (HC.out.alloc _).grown hg1 (fun k e => Or.inr (hrow.lt k e).1)⟩
            rw [HT.out, HK.out, if_pos rfl, opCells_append]
            simpa [opCells] using hown1
          case measure => simp [intOf]; omega
    · go_wp2
      go_ret
      have hjl : j = ys.length := by omega
      subst hjl
      rw [List.take_length] at hrow
      exact ⟨_, rfl, hrow, hc⟩
theorem others_any {w : World} {B : Value} {ys : List OpM} (t : Int) (hB : SrcOps w B ys) (hn : ys.length ≤ 10000000) :
    Calls Tryz.prog 18 #[B, .int .i64 t] w fun e w' => ∃ v, e = .returned v ∧ w'.ownsRow w.heap.size 30 5 v (othersM ys t).length (opCells (othersM ys t)) ∧ Chg nobody w w' := by
  rcases hB.at with rfl | ⟨b, off, cap, rfl, hcap, hops, hbl⟩
  · obtain ⟨ad, cap, rfl⟩ := hB.len
    refine (others_zero ad cap t w).mono ?_
    rintro e w' ⟨rfl, rfl⟩
    exact ⟨_, rfl, World.ownsRow_nil _ _ _ _, Chg.refl _ _⟩
  · exact others_some b off cap ys t w hops hbl hn
theorem addr_add (b off j : Nat) : (⟨b, off, none⟩ : Addr).add j = ⟨b, off + j, none⟩ := by
  unfold Addr.add
  split <;> simp [*]
/-- A script that came in, as a list of steps. -/
theorem open_src {H : Type} {enc : TypeId × Value → H} {W : World} {sp : Nat → Bool} {held : Bool} {fuel : Nat} {cs : List Value} {x : DataW H × List MemPlace} (h : DataW.trod enc Tryz.prog W 0 sp held fuel 22 cs = some x) :
    ∃ v ops, cs = [v] ∧ SrcOps W v ops ∧ (∀ o ∈ ops, OpM.ok o) ∧ ops.length ≤ Rows.uptoBulk x.1 := by
  have h2 := h
  rcases Go.Deep.open_slice Tryz.underlying22 h2 with ⟨rfl, rfl⟩ | ⟨a, len, cap, m, n, D, Pl, rfl, _, hl, _⟩
  · exact ⟨_, [], rfl, Or.inl ⟨rfl, rfl⟩, by simp, Nat.zero_le _⟩
  · obtain ⟨ad, len', cap', hcs, hbl, hops⟩ := open_ops h
    simp at hcs
    obtain ⟨rfl, rfl, rfl⟩ := hcs
    rcases hops with rfl | ⟨b, off, ops, he, rfl, hcp, hops, hbl', hok⟩
    · exact ⟨_, [], rfl, Or.inr ⟨a, cap, rfl, Nat.zero_le _, by simp [opCells]⟩, by simp, Nat.zero_le _⟩
    · simp at he
      subst he
      refine ⟨_, ops, rfl, Or.inr ⟨⟨b, off, none⟩, cap, rfl, hcp, fun j u hu => ?_⟩, hok, hbl⟩
      have hj : j < (opCells ops).length := (List.getElem?_eq_some_iff.1 hu).1
      rw [opCells_len] at hj
      have e1 : j = j / 5 * 5 + j % 5 := by omega
      have hq : j / 5 < ops.length := by omega
      have hr : j % 5 < 5 := by omega
      have h3 := opCells_at ops (j / 5) (j % 5) hq hr
      rw [← e1, hu] at h3
      have h4 : (⟨b, off, none⟩ : Addr).add j = ⟨b, off + j / 5 * 5 + j % 5, none⟩ := by
        rw [addr_add, show off + j / 5 * 5 + j % 5 = off + j by omega]
      rw [h4]
      obtain ⟨o0, o1, o2, o3, o4⟩ := hops (j / 5) hq
      have h5 : j % 5 = 0 ∨ j % 5 = 1 ∨ j % 5 = 2 ∨ j % 5 = 3 ∨ j % 5 = 4 := by omega
      rcases h5 with e | e | e | e | e <;> rw [e] at h3 ⊢ <;> simp [OpM.vals] at h3 <;> subst h3
      · exact o0
      · exact o1
      · exact o2
      · exact o3
      · exact o4
end Go.Proofs.YtkfjafndplmdkaaGreat
