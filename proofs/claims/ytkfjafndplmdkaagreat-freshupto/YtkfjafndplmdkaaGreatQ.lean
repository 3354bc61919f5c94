import Derived.Test.YtkfjafndplmdkaaGreatT5
import Derived.Conc.LoneSelect
namespace Go.Proofs.YtkfjafndplmdkaaGreat
open Go.RowKit Go.Sort Go.Conc
theorem stepG_comm_any {P : Program} {main : Bool} {b : Frame} {a : Act} {k : List Item} {cs : List Frame} {w : World} {ops : Array Oper} {i : Nat} {rest : List Nat} {o : Oper} {cases : Array CommCase} {blocking : Bool} {shape : CommShape} {w' : World} (ho : ops[i]? = some o) (hw : Region.wanted o (yielded ops a.tmps) = true)
    (hr : (execOp a.eval o).run P w = .ok (.comm cases blocking shape) w') :
    ∃ es, stepG P main (G (b.at a (.inRegion ops (i :: rest) :: k)) cs) w = .comm (G (b.at a (.inRegion ops (i :: rest) :: k)) cs) cases blocking shape w' es := by
  rw [stepG_oper ho hw]
  cases hk' : (b.kind == CallKind.early) <;> simp [stepG.apply, hr, G, Frame.at, hk', GStep.after]
/-- a region whose first operation is a select with a default. -/
theorem wp_region_comm {P : Program} {id : Nat} {ops : Array Oper} {Q : Exit → Act → World → Prop} {a : Act} {w w' : World} {o : Oper} {l : List Oper} {cases : Array CommCase} {v : Value}
    (hops : ops.toList = o :: l) (hw : Region.wanted o (yielded ops a.tmps) = true) (hr : (execOp a.eval o).run P w = .ok (.comm cases false .select) w)
    (hst : ∀ fr cs es, stepG P true (G fr cs) w = .comm (G fr cs) cases false .select w es → step P (solo (G fr cs) w) = .next (solo (G (fr.finish v) cs) w'))
    (h : wpList P ops Q l (a.put o.dst v) w') : (Code.region id ops false).wp P Q a w := fun b k cs => by
  have hg : ∀ j, ops[j]? = (o :: l)[j]? := fun j => by rw [← hops, Array.getElem?_toList]
  have ho : ops[0]? = some o := by rw [hg]; rfl
  have hl : ∀ j, l[j]? = ops[1 + j]? := fun j => by rw [hg, Nat.add_comm]; rfl
  have hrg : List.range ops.size = 0 :: List.range' 1 l.length := by
    have : ops.size = l.length + 1 := by rw [← Array.length_toList, hops]; rfl
    rw [this, List.range_eq_range', List.range'_succ]
  rw [← wpOps_eq_wpList l 1 hl] at h
  obtain ⟨e, a', w'', q, r⟩ := wp_ops _ _ _ h b k cs
  refine ⟨e, a', w'', q, .of_steps (.head step_region (.one ?_)) r⟩
  obtain ⟨es, hes⟩ := stepG_comm_any (P := P) (main := true) (b := b) (a := a) (k := k) (cs := cs) (w := w) (rest := List.range' 1 l.length) ho hw hr
  have h1 := hst _ _ _ hes
  rw [Frame.finish_at, ho] at h1
  rw [hrg]
  exact h1
set_option maxRecDepth 100000 in
set_option maxHeartbeats 400000 in
theorem qPut_full (qb ch tb s r : Nat) (buf : Array Value) (w : World) (h0 : w.cell? ⟨qb, 0, none⟩ = some (.chan (some ch))) (hc : w.heap[ch]? = some (.chan 3 buf false s r false)) (hfull : 3 ≤ buf.size) :
    Calls Tryz.prog 83 #[.pointer (some ⟨qb, 0, none⟩), .pointer (some ⟨tb, 0, none⟩)] w fun e w' => e = errE 7 ∧ w' = w := by
  go_enter Tryz.func83, Tryz.ntmps83
  refine wp_seq ?_
  generalize hX : Code.seq (Code.region 2 _ false) _ = X
  go_wp2
  subst hX
  refine wp_seq (wp_region_comm (cases := #[scase ch (.pointer (some ⟨tb, 0, none⟩)) (.pointer none)]) rfl rfl (by simp [go_sem, execOp, scase, Act.eval]) (fun fr cs es h => step_lone_select_send_full h hc hfull) ?_)
  go_wp2
  exact ⟨rfl, rfl, rfl⟩
set_option maxRecDepth 100000 in
set_option maxHeartbeats 400000 in
theorem qPut_ok (qb ch tb s r : Nat) (buf : Array Value) (b0 : Bool) (w : World) (h0 : w.cell? ⟨qb, 0, none⟩ = some (.chan (some ch))) (hc : w.heap[ch]? = some (.chan 3 buf false s r false)) (hroom : buf.size < 3)
    (ht : (w.setChan ch 3 (buf.push (.pointer (some ⟨tb, 0, none⟩))) false (s + 1) r false).cell? ⟨tb, 0, none⟩ = some (.bool b0)) (hf : (w.setChan ch 3 (buf.push (.pointer (some ⟨tb, 0, none⟩))) false (s + 1) r false).frozen? ⟨tb, 0, none⟩ = false) :
    Calls Tryz.prog 83 #[.pointer (some ⟨qb, 0, none⟩), .pointer (some ⟨tb, 0, none⟩)] w fun e w' => e = .returned (.tuple #[]) ∧ w' = (w.setChan ch 3 (buf.push (.pointer (some ⟨tb, 0, none⟩))) false (s + 1) r false).setCell ⟨tb, 0, none⟩ (.bool true) := by
  generalize hw' : w.setChan ch 3 (buf.push (.pointer (some ⟨tb, 0, none⟩))) false (s + 1) r false = w' at *
  have HW : Hid (w.setChan ch 3 (buf.push (.pointer (some ⟨tb, 0, none⟩))) false (s + 1) r false = w') := hw'
  clear hw'
  go_enter Tryz.func83, Tryz.ntmps83
  refine wp_seq ?_
  generalize hX : Code.seq (Code.region 2 _ false) _ = X
  go_wp2
  subst hX
  refine wp_seq (wp_region_comm (w' := w') (v := .tuple #[.int .i64 0, .bool false]) (cases := #[scase ch (.pointer (some ⟨tb, 0, none⟩)) (.pointer none)]) rfl rfl (by simp [go_sem, execOp, scase, Act.eval]) (fun fr cs es h => by rw [← HW.out]; exact step_lone_select_send_room h hc hroom) ?_)
  go_wp2
  go_end0
  exact ⟨rfl, rfl⟩
set_option maxRecDepth 100000 in
set_option maxHeartbeats 400000 in
theorem qTake_none (qb ch s r : Nat) (w : World) (h0 : w.cell? ⟨qb, 0, none⟩ = some (.chan (some ch))) (hc : w.heap[ch]? = some (.chan 3 #[] false s r false)) :
    Calls Tryz.prog 85 #[.pointer (some ⟨qb, 0, none⟩)] w fun e w' => e = .returned (.tuple #[.pointer none, .bool false]) ∧ w' = w := by
  go_enter Tryz.func85, Tryz.ntmps85
  refine wp_seq ?_
  generalize hX : Code.seq (Code.region 1 _ false) _ = X
  go_wp2
  subst hX
  refine wp_seq ?_
  generalize hX : Code.seq (Code.region 2 _ false) _ = X
  go_wp2
  subst hX
  refine wp_seq (wp_region_comm (cases := #[rcase ch (.pointer none)]) rfl rfl (by simp [go_sem, execOp, rcase, Act.eval]) (fun fr cs es h => step_lone_select_default h hc) ?_)
  go_wp2
  exact bodyPost_ret (v := .tuple #[.pointer none, .bool false]) (by simp [results, Tryz.results85, go_sem]) rfl ⟨rfl, rfl⟩
set_option maxRecDepth 100000 in
set_option maxHeartbeats 400000 in
theorem qTake_some (qb ch s r tb : Nat) (buf : List Value) (w : World) (h0 : w.cell? ⟨qb, 0, none⟩ = some (.chan (some ch))) (hc : w.heap[ch]? = some (.chan 3 (.pointer (some ⟨tb, 0, none⟩) :: buf).toArray false s r false)) :
    Calls Tryz.prog 85 #[.pointer (some ⟨qb, 0, none⟩)] w fun e w' => e = .returned (.tuple #[.pointer (some ⟨tb, 0, none⟩), .bool true]) ∧ w' = w.setChan ch 3 buf.toArray false s (r + 1) false := by
  generalize hw' : w.setChan ch 3 buf.toArray false s (r + 1) false = w' at *
  have HW : Hid (w.setChan ch 3 buf.toArray false s (r + 1) false = w') := hw'
  clear hw'
  go_enter Tryz.func85, Tryz.ntmps85
  refine wp_seq ?_
  generalize hX : Code.seq (Code.region 1 _ false) _ = X
  go_wp2
  subst hX
  refine wp_seq ?_
  generalize hX : Code.seq (Code.region 2 _ false) _ = X
  go_wp2
  subst hX
  refine wp_seq (wp_region_comm (w' := w') (v := .tuple #[.int .i64 0, .bool true, .pointer (some ⟨tb, 0, none⟩)]) (cases := #[rcase ch (.pointer none)]) rfl rfl (by simp [go_sem, execOp, rcase, Act.eval]) (fun fr cs es h => by
    have := step_lone_select_recv_buf h hc (by simp)
    rw [← HW.out]
    have e1 : ((.pointer (some ⟨tb, 0, none⟩) :: buf).toArray : Array Value).extract 1 (.pointer (some ⟨tb, 0, none⟩) :: buf).toArray.size = buf.toArray := by simp
    rw [e1] at this
    exact this) ?_)
  go_wp2
  exact bodyPost_ret (v := .tuple #[.pointer (some ⟨tb, 0, none⟩), .bool true]) (by simp [results, Tryz.results85, go_sem]) rfl ⟨rfl, rfl⟩
end Go.Proofs.YtkfjafndplmdkaaGreat
