import Derived.Test.YtcpjocgpahjcjaaRB
namespace Go.Proofs.Ytcpjocgpahjcjaa
open Go.RowKit Go.Sort
theorem row_drew {w : World} {base : Nat} {e : TypeId} {k n : Nat} {v : Value} {xs : List Value} (h : w.ownsRow base e k v n xs) : w.drew.ownsRow base e k v n xs := h
def Ver.v (x : Ver) : Value := .agg #[.string x.key, .int .i64 x.time, .string x.val, .bool x.gone]
def Ver.zero : Ver := ⟨⟨#[]⟩, 0, ⟨#[]⟩, false⟩
theorem info72 : (Try.prog.info? 72).map (fun i => (i.zero, i.size, i.bytes)) = some (some Ver.zero.v, 4, 48) := by kernel_rfl
theorem ver_one (x : Ver) : ∀ u ∈ x.cells, u.oneCell' = true := by
  intro u hu
  simp only [Ver.cells, List.mem_cons, List.not_mem_nil, or_false] at hu
  rcases hu with rfl | rfl | rfl | rfl <;> rfl
theorem verCells_append (a b : List Ver) : verCells (a ++ b) = verCells a ++ verCells b := by simp [verCells]
theorem verCells_one (x : Ver) : verCells [x] = x.cells := by simp [verCells]
/-- A write set with a key written. -/
def lessK (l : List Ver) (key : ByteArray) : List Ver := l.filter (fun x => decide (x.key ≠ key))
def writeM (l : List Ver) (v : Ver) : List Ver := lessK l v.key ++ [v]
theorem lessK_take (l : List Ver) (key : ByteArray) (j : Nat) (h : j < l.length) : lessK (l.take (j + 1)) key = lessK (l.take j) key ++ (if l[j].key = key then [] else [l[j]]) := by
  unfold lessK
  rw [List.take_succ_eq_append_getElem h, List.filter_append]
  by_cases hk : l[j].key = key <;> simp [hk]
theorem lessK_len (l : List Ver) (key : ByteArray) : (lessK l key).length ≤ l.length := List.length_filter_le _ _
set_option maxRecDepth 100000 in
set_option maxHeartbeats 1000000 in
theorem rwrite_any (base cw : Nat) (adw : Option Addr) (ws : List Ver) (x : Ver) (w : World) (hlw : ws.length ≤ 2000000) (hw : w.ownsRow base 72 4 (.slice adw ws.length cw) ws.length (verCells ws)) :
    Calls Try.prog 40 #[.slice adw ws.length cw, x.v] w fun e w' => ∃ v, e = .returned v ∧ w'.ownsRow w.heap.size 72 4 v (writeM ws x).length (verCells (writeM ws x)) ∧ Chg nobody w w' := by
  obtain ⟨i0, hi, hz0, hz1, hz2⟩ := info_parts info72
  unfold Ver.v
  have HC : Hid ((w.alloc (.cells #[.string x.key, .int .i64 x.time, .string x.val, .bool x.gone] 72)).ownsRow base 72 4 (.slice adw ws.length cw) ws.length (verCells ws) ∧ Chg nobody w (w.alloc (.cells #[.string x.key, .int .i64 x.time, .string x.val, .bool x.gone] 72)) ∧ (w.alloc (.cells #[.string x.key, .int .i64 x.time, .string x.val, .bool x.gone] 72)).heap[w.heap.size]? = some (.cells #[.string x.key, .int .i64 x.time, .string x.val, .bool x.gone] 72)) := ⟨hw.alloc _, (Chg.refl _ _).alloc _, heap_new rfl⟩
  clear hw
  generalize hs : w.heap.size = s at *
  have HS : Hid (w.heap.size = s) := hs
  go_enter Try.func40, Try.ntmps40
  go_wp2
  generalize w.alloc (.cells #[.string x.key, .int .i64 x.time, .string x.val, .bool x.gone] 72) = W at *
  clear hs
  go_loopw [5, 6] (fun v i wr => ∃ j : Nat, j ≤ ws.length ∧ i = .int .i64 j ∧ wr.ownsRow W.heap.size 72 4 v (lessK (ws.take j) x.key).length (verCells (lessK (ws.take j) x.key)) ∧ Chg nobody W wr) (fun _ i _ => ws.length - (intOf i).toNat)
  case atStart => exact ⟨0, Nat.zero_le _, rfl, World.ownsRow_nil _ _ _ _, Chg.refl _ _⟩
  case round =>
    obtain ⟨j, hj, rfl, hrow, hc⟩ := hrel
    have hsz : W.heap.size ≤ wr.heap.size := hc.size
    have hsl : s < W.heap.size := lt_of_block HC.out.2.2
    have hbx : wr.heap[s]? = some (.cells #[.string x.key, .int .i64 x.time, .string x.val, .bool x.gone] 72) := (hc.block s hsl (fun h => h)).trans HC.out.2.2
    have x0 := cell_of hbx (i := 0) rfl
    have x1 := cell_of hbx (i := 1) rfl
    have x2 := cell_of hbx (i := 2) rfl
    have x3 := cell_of hbx (i := 3) rfl
    have HH : Hid (Chg nobody W wr) := hc
    clear hc hbx
    have hol : (lessK (ws.take j) x.key).length ≤ j := Nat.le_trans (lessK_len _ _) (List.length_take_le _ _)
    by_cases hlt : j < ws.length
    · have HR : Hid (wr.ownsRow base 72 4 (.slice adw ws.length cw) ws.length (verCells ws)) := ownsRow_chg HC.out.1 HH.out (fun _ _ h => h)
      obtain ⟨g, rfl, _, _, _, _⟩ := row_open HR.out (by omega)
      obtain ⟨c0, c1, c2, c3⟩ := ver_at HR.out j hlt
      have HT : Hid (lessK (ws.take (j + 1)) x.key = lessK (ws.take j) x.key ++ (if ws[j].key = x.key then [] else [ws[j]])) := lessK_take ws x.key j hlt
      by_cases he : ws[j].key = x.key
      · obtain ⟨b1, b1'⟩ := ba_t he
        have HE : Hid (ws[j].key = x.key) := he
        clear he
        go_wp2
        go_region
        go_wp2
        go_roundw
        case rel =>
          refine ⟨j + 1, by omega, by go_num, ?_, HH.out.drew⟩
          rw [HT.out, if_pos HE.out]
          simpa using row_drew hrow
        case measure => simp [intOf]; omega
      · obtain ⟨b1, b1'⟩ := ba_f he
        have HE : Hid (ws[j].key ≠ x.key) := he
        clear he
        generalize ws[j] = y at *
        go_wp2
        go_region
        go_wp2_with (at_builtin; refine wpList_append_own _ rfl _ _ 50 rfl W.heap.size 72 i0 Ver.zero.v 4 48 Try.underlying50 hi hz0 hz1 hz2 rfl (by decide) _ _ _ rfl ((row_drew hrow).alloc _) ⟨wr.heap.size, 0, none⟩ 1 1 y.cells rfl rfl (cells_new wr.drew #[.string y.key, .int .i64 y.time, .string y.val, .bool y.gone] 72) (ver_one y) (by unfold maxLen; omega) (by omega) (by simp; omega) ?_; intro v' w1 hown1 hg1 _; go_frame)
        go_roundw
        case rel =>
          refine ⟨j + 1, by omega, by go_num, ?_, (HH.out.drew.alloc _).grown hg1 (fun k e => Or.inr (hrow.lt k e).1)⟩
          rw [HT.out, if_neg HE.out, verCells_append, verCells_one]
          simpa using hown1
        case measure => simp [intOf]; omega
    · have hjl : j = ws.length := by omega
      subst hjl
      rw [List.take_length] at hrow hol
      go_wp2_with (at_builtin; refine wpList_append_own _ rfl _ _ 50 rfl W.heap.size 72 i0 Ver.zero.v 4 48 Try.underlying50 hi hz0 hz1 hz2 rfl (by decide) _ _ _ rfl (hrow.alloc _) ⟨wr.heap.size, 0, none⟩ 1 1 x.cells rfl rfl (cells_new wr #[.string x.key, .int .i64 x.time, .string x.val, .bool x.gone] 72) (ver_one x) (by unfold maxLen; omega) (by omega) (by simp; omega) ?_; intro v' w1 hown1 hg1 _)
      go_ret
      refine ⟨_, rfl, ?_, (HC.out.2.1.trans (HH.out.alloc _)).grown hg1 (fun k e => Or.inr (by have := (hrow.lt k e).1; have := HS.out; omega))⟩
      unfold writeM
      rw [verCells_append, verCells_one]
      refine ownsRow_base (base := W.heap.size) ?_ (by omega)
      simpa using hown1
end Go.Proofs.Ytcpjocgpahjcjaa
