import Derived.Test.YtkfjafndplmdkaaGreatTK
import Derived.ProofKit
import Derived.OpenShut
import Derived.JoinedCond
import Derived.Deep.Slices
namespace Go.Proofs.YtkfjafndplmdkaaGreat
open Go.RowKit Go.Sort
theorem Chg.drewN {S : Nat → Prop} {a w : World} (h : Chg S a w) (n : Nat) : Chg S a (w.drewN n) := ⟨h.os, h.tape, h.output, h.size, h.block⟩
theorem OpsAt.chg {w w' : World} {b off : Nat} {ops : List OpM} (h : OpsAt w b off ops) (hc : Chg nobody w w') (hb : b < w.heap.size) : OpsAt w' b off ops := fun j hj => by
  have hcl : ∀ i, w'.cell? ⟨b, i, none⟩ = w.cell? ⟨b, i, none⟩ := fun i => hc.below.cell (p := ⟨b, i, none⟩) hb
  simp only [hcl]
  exact h j hj
theorem OpsAt.take {w : World} {b off : Nat} {ops : List OpM} (h : OpsAt w b off ops) (k : Nat) : OpsAt w b off (ops.take k) := fun j hj => by
  have hj' : j < ops.length := by have := List.length_take_le k ops; simp at hj; omega
  have := h j hj'
  simpa [List.getElem_take] using this
theorem ItemsAt.at {w : World} {base : Nat} {As : List AnsM} {sl : List Sl3} (h : ItemsAt w base As sl) (i : Nat) (hi : i < As.length) : RowsOf w base As[i] (sl[i]'(by rw [h.1]; exact hi)) := by
  have hi' : i < (As.zip sl).length := by simp [h.1]; exact hi
  have := h.2 (As.zip sl)[i] (List.getElem_mem hi')
  simpa using this
theorem ansP_take (s : PW) (ops : List OpM) (k j : Nat) (hj : j < (ansP s (ops.take k)).length) (hj' : j < (ansP s ops).length) : (ansP s (ops.take k))[j] = (ansP s ops)[j] := by
  have h := ansP_append (ops.take k) (ops.drop k) s
  rw [List.take_append_drop] at h
  simp only [h]
  rw [List.getElem_append_left hj]
set_option maxRecDepth 100000 in
set_option maxHeartbeats 2000000 in
theorem prefix_some (b off cap : Nat) (ops : List OpM) (n : Int) (w : World) (hops : OpsAt w b off ops) (hbl : b < w.heap.size) (hok : ∀ o ∈ ops, o.ok) (hn : ops.length ≤ 10000000) (hcap : ops.length ≤ cap) (hni : isInt n) :
    Calls Tryz.prog 5 #[.slice (some ⟨b, off, none⟩) ops.length cap, .int .i64 n] w fun e w' => e = .returned (.bool true) ∧ Chg nobody w w' := by
  have hkl := pickM_lt n (ops.length + 1) (by omega)
  have HO : Hid (OpsAt w b off ops ∧ b < w.heap.size ∧ ∀ o ∈ ops, o.ok) := ⟨hops, hbl, hok⟩
  have HP := fun w => pick_any n (ops.length + 1) w hni (by omega) (by omega)
  generalize pickM n (ops.length + 1) = k at *
  have hk : k ≤ ops.length := by omega
  have hkc : k ≤ cap := by omega
  have htk : (ops.take k).length = k := by simp; omega
  have HK : Hid ((ops.take k).length = k) := htk
  clear hops hok hbl hni hkl htk
  go_enter Tryz.func5, Tryz.ntmps5
  go_wp2_with (go_at_call 15; refine (reading_any _).mono ?_; rintro e w1 ⟨rfl, hc1⟩)
  refine Calls.mono (HP _) ?_
  rintro e w' ⟨rfl, rfl⟩
  clear HP
  go_wp2_with fail
  obtain ⟨hops, hbl, hok⟩ := HO.out
  have hbl1 : b < w'.heap.size := by have := hc1.size; omega
  refine (run_any b off cap ops _ (hops.chg hc1 hbl) hbl1 hok (by omega)).mono ?_
  rintro e w2 ⟨g, ca, sla, rfl, hra, hia, hc2⟩
  have H2 : Hid (w2.ownsRow w'.heap.size 36 7 (.slice (some ⟨g, 0, none⟩) ops.length ca) ops.length (ansCells (ansP p0 ops) sla) ∧ ItemsAt w2 w'.heap.size (ansP p0 ops) sla ∧ Chg nobody w w2) := ⟨hra, hia, hc1.trans hc2⟩
  have H3 := run_any b off cap (ops.take k) w2 ((hops.chg (hc1.trans hc2) hbl).take k) (by have := hc2.size; omega) (fun o ho => hok o (List.mem_of_mem_take ho)) (by rw [HK.out]; omega)
  rw [HK.out] at H3
  clear hops hok hra hia hc2 hc1
  go_wp2_with fail
  refine H3.mono ?_
  rintro e w3 ⟨g', cb, slb, rfl, hrb, hib, hc3⟩
  clear H3
  obtain ⟨hra, hia, hc2⟩ := H2.out
  have hra3 := ownsRow_chg hra hc3 (fun _ _ h => h)
  have hia3 : ItemsAt w3 w'.heap.size (ansP p0 ops) sla := hia.keep hc3 (fun _ _ _ _ _ _ h => h)
  have HF : Hid (Chg nobody w w3) := hc2.trans hc3
  -- what the two say of each step
  have HC : Hid (∀ j, j < k → ∀ W : World, (∃ m, W = w3.drewN m) → ∃ (A : AnsM) (x y : Sl) (dx dy : Option Addr) (cx cy : Nat),
      (W.cell? ⟨g, j * 7, none⟩ = some (.int .i64 A.code) ∧ W.cell? ⟨g, j * 7 + 1, none⟩ = some (.int .i64 A.number) ∧ W.cell? ⟨g, j * 7 + 2, none⟩ = some (.bool A.found) ∧ W.cell? ⟨g, j * 7 + 3, none⟩ = some (.string A.value) ∧ W.cell? ⟨g, j * 7 + 4, none⟩ = some (slV x) ∧ W.cell? ⟨g, j * 7 + 5, none⟩ = some (.slice dx A.done.length cx)) ∧
      (W.cell? ⟨g', j * 7, none⟩ = some (.int .i64 A.code) ∧ W.cell? ⟨g', j * 7 + 1, none⟩ = some (.int .i64 A.number) ∧ W.cell? ⟨g', j * 7 + 2, none⟩ = some (.bool A.found) ∧ W.cell? ⟨g', j * 7 + 3, none⟩ = some (.string A.value) ∧ W.cell? ⟨g', j * 7 + 4, none⟩ = some (slV y) ∧ W.cell? ⟨g', j * 7 + 5, none⟩ = some (.slice dy A.done.length cy)) ∧
      (∀ l, Calls Tryz.prog 20 #[slV x, slV y] (W.drewN l) fun e w' => e = .returned (.bool true) ∧ ∃ n, w' = (W.drewN l).drewN n)) := fun j hj W hW => by
    obtain ⟨m, rfl⟩ := hW
    have l1 : j < (ansP p0 ops).length := by rw [ansP_len]; omega
    have l2 : j < (ansP p0 (ops.take k)).length := by rw [ansP_len, HK.out]; exact hj
    have e1 := ansP_take p0 ops k j l2 l1
    have p1 := ans_cells hia3.1 hra3 j l1
    have p2 := ans_cells hib.1 hrb j l2
    have i1 := hia3.at j l1
    have i2 := hib.at j l2
    rw [e1] at p2 i2
    obtain ⟨dx, cx, hdx⟩ := row_form i1.2.1
    obtain ⟨dy, cy, hdy⟩ := row_form i2.2.1
    rw [hdx] at p1
    rw [hdy] at p2
    exact ⟨(ansP p0 ops)[j], (sla[j]'(by rw [hia3.1]; exact l1)).1, (slb[j]'(by rw [hib.1]; exact l2)).1, dx, dy, cx, cy, p1, p2, fun l => sameItems_any _ _ _ _ _ ((w3.drewN m).drewN l) i1.1 i2.1⟩
  clear hra hia hc2 hra3 hia3 hrb hib hc3 H2 HO
  go_wp2_with fail
  go_loopw [9] (fun i wr => ∃ (j m : Nat), j ≤ k ∧ i = .int .i64 j ∧ wr = w3.drewN m) (fun i _ => k - (intOf i).toNat)
  case atStart => exact ⟨0, 0, Nat.zero_le _, rfl, rfl⟩
  case round =>
    obtain ⟨j, m, hj, rfl, hwr⟩ := hrel
    have HW : Hid (∃ m, wr = w3.drewN m) := ⟨m, hwr⟩
    clear hwr
    by_cases hlt : j < k
    · obtain ⟨A, x, y, dx, dy, cx, cy, ⟨a0, a1, a2, a3, a4, a5⟩, ⟨b0, b1, b2, b3, b4, b5⟩, hs⟩ := HC.out j hlt wr HW.out
      have HS : Hid (∀ l, Calls Tryz.prog 20 #[slV x, slV y] (wr.drewN l) fun e w' => e = .returned (.bool true) ∧ ∃ n, w' = (wr.drewN l).drewN n) := hs
      clear hs
      obtain ⟨code, number, found, value, items, done, sums⟩ := A
      simp only at a0 a1 a2 a3 a5 b0 b1 b2 b3 b5
      generalize done.length = dl at *
      obtain ⟨x1, x2, x3⟩ := x
      obtain ⟨y1, y2, y3⟩ := y
      simp only [slV] at a4 b4
      have hjo : (j : Int) < (ops.length : Int) := by omega
      go_wp2_with fail
      go_quiet ((go_at_call 20; exact Calls.quiet_of (HS.out _)))
      go_wp2
      go_quiet (fail)
      go_wp2
      go_roundw
      case rel =>
        obtain ⟨m, hm⟩ := HW.out
        exact ⟨j + 1, _, by omega, by go_num, by rw [hm, World.drewN_drewN]⟩
      case measure => simp [intOf]; omega
    · go_wp2
      go_ret
      obtain ⟨m, rfl⟩ := HW.out
      exact ⟨rfl, HF.out.drewN _⟩
end Go.Proofs.YtkfjafndplmdkaaGreat
namespace Go.Proofs.YtkfjafndplmdkaaGreat
open Go.RowKit Go.Sort
open Go.ChangeShapes Go.WideShapes Go.ChangeAt
theorem list_of {α : Type} (P : Nat → α → Prop) : ∀ n : Nat, (∀ j, j < n → ∃ o, P j o) → ∃ l : List α, l.length = n ∧ ∀ j (h : j < l.length), P j l[j]
  | 0, _ => ⟨[], rfl, fun j h => by simp at h⟩
  | n + 1, h => by
    obtain ⟨l, hl, hp⟩ := list_of P n (fun j hj => h j (by omega))
    obtain ⟨o, ho⟩ := h n (by omega)
    refine ⟨l ++ [o], by simp [hl], fun j hj => ?_⟩
    by_cases hjl : j < l.length
    · rw [List.getElem_append_left hjl]
      exact hp j hjl
    · have : j = l.length := by simp at hj; omega
      subst this
      simp
      rw [hl]
      exact ho
theorem cells30 : Tryz.prog.cellsOf 30 = 5 := by kernel_rfl
theorem cells3 : Tryz.prog.cellsOf 3 = 1 := by kernel_rfl
theorem cells9 : Tryz.prog.cellsOf 9 = 1 := by kernel_rfl
theorem int_of_wf {n : Int} (h : (Lit.int .i64 n).wf = true) : isInt n := by
  unfold isInt
  simpa [Lit.wf, IntKind.min, IntKind.max, IntKind.signed, IntKind.bits] using h
theorem five {α : Type} : ∀ {l : List α}, l.length = 5 → ∃ a b c d e, l = [a, b, c, d, e]
  | [a, b, c, d, e], _ => ⟨a, b, c, d, e, rfl⟩
  | [], h => by simp at h
  | [_], h => by simp at h
  | [_, _], h => by simp at h
  | [_, _, _], h => by simp at h
  | [_, _, _, _], h => by simp at h
  | _ :: _ :: _ :: _ :: _ :: _ :: _, h => by simp at h
/-- A step, out of its five cells. -/
theorem open_op {H : Type} {enc : TypeId × Value → H} {W : World} {base : Nat} {sp : Nat → Bool} {held : Bool} {fuel : Nat} {cs : List Value} {x : DataW H × List MemPlace} (h : DataW.trod enc Tryz.prog W base sp held fuel 30 cs = some x) :
    ∃ o : OpM, cs = o.vals ∧ o.ok := by
  obtain ⟨xs, n, rfl, _, hl, hxl, hf⟩ := DataW.trod_struct Tryz.underlying30 h
  rw [cells30] at hl
  obtain ⟨c0, c1, c2, c3, c4, rfl⟩ := five hl
  have hx : ∀ i, i < 5 → ∃ y, xs[i]? = some y := fun i hi => ⟨xs[i]'(by rw [hxl]; exact hi), List.getElem?_eq_getElem _⟩
  obtain ⟨y0, e0⟩ := hx 0 (by omega)
  obtain ⟨y1, e1⟩ := hx 1 (by omega)
  obtain ⟨y2, e2⟩ := hx 2 (by omega)
  obtain ⟨y3, e3⟩ := hx 3 (by omega)
  obtain ⟨y4, e4⟩ := hx 4 (by omega)
  have f0 : DataW.trod enc Tryz.prog W base sp held n 3 [c0] = xs[0]? := by
    have := hf 0 { name := "Kind", type := 3, offset := 0, embedded := false, tag := "", pkgPath := "", byteOffset := 0 } rfl
    simpa [cells3, cells9] using this
  have f1 : DataW.trod enc Tryz.prog W base sp held n 3 [c1] = xs[1]? := by
    have := hf 1 { name := "T", type := 3, offset := 1, embedded := false, tag := "", pkgPath := "", byteOffset := 8 } rfl
    simpa [cells3, cells9] using this
  have f2 : DataW.trod enc Tryz.prog W base sp held n 9 [c2] = xs[2]? := by
    have := hf 2 { name := "Key", type := 9, offset := 2, embedded := false, tag := "", pkgPath := "", byteOffset := 16 } rfl
    simpa [cells3, cells9] using this
  have f3 : DataW.trod enc Tryz.prog W base sp held n 9 [c3] = xs[3]? := by
    have := hf 3 { name := "Value", type := 9, offset := 3, embedded := false, tag := "", pkgPath := "", byteOffset := 32 } rfl
    simpa [cells3, cells9] using this
  have f4 : DataW.trod enc Tryz.prog W base sp held n 3 [c4] = xs[4]? := by
    have := hf 4 { name := "N", type := 3, offset := 4, embedded := false, tag := "", pkgPath := "", byteOffset := 48 } rfl
    simpa [cells3, cells9] using this
  rw [e0] at f0
  rw [e1] at f1
  rw [e2] at f2
  rw [e3] at f3
  rw [e4] at f4
  obtain ⟨n0, g0, _, w0⟩ := DataW.trod_int Tryz.underlying3 f0
  obtain ⟨n1, g1, _, w1⟩ := DataW.trod_int Tryz.underlying3 f1
  obtain ⟨s2, g2, _, w2⟩ := DataW.trod_string Tryz.underlying9 f2
  obtain ⟨s3, g3, _, w3⟩ := DataW.trod_string Tryz.underlying9 f3
  obtain ⟨n4, g4, _, w4⟩ := DataW.trod_int Tryz.underlying3 f4
  obtain rfl := (List.cons.inj g0).1
  obtain rfl := (List.cons.inj g1).1
  obtain rfl := (List.cons.inj g2).1
  obtain rfl := (List.cons.inj g3).1
  obtain rfl := (List.cons.inj g4).1
  exact ⟨⟨n0, n1, s2, s3, n4⟩, rfl, int_of_wf w0, int_of_wf w1, w2, w3, int_of_wf w4⟩
/-- A script that came in. -/
theorem open_ops {H : Type} {enc : TypeId × Value → H} {W : World} {sp : Nat → Bool} {held : Bool} {fuel : Nat} {cs : List Value} {x : DataW H × List MemPlace} (h : DataW.trod enc Tryz.prog W 0 sp held fuel 22 cs = some x) :
    ∃ ad len cap, cs = [.slice ad len cap] ∧ len ≤ Rows.uptoBulk x.1 ∧ (len = 0 ∨ ∃ b off ops, ad = some ⟨b, off, none⟩ ∧ len = List.length ops ∧ List.length ops ≤ cap ∧ OpsAt W b off ops ∧ b < W.heap.size ∧ ∀ o ∈ ops, OpM.ok o) := by
  rcases Go.Deep.open_slice Tryz.underlying22 h with ⟨rfl, rfl⟩ | ⟨a, len, cap, m, n, D, Pl, rfl, _, hl, _, hm, rfl, hx⟩
  · exact ⟨none, 0, 0, rfl, Nat.zero_le _, Or.inl rfl⟩
  · refine ⟨some a, len, cap, rfl, ?_, ?_⟩
    · have : ∀ l : List (DataW H), l.length ≤ Rows.uptoBulkAll l := fun l => by
        induction l with
        | nil => simp
        | cons d r ih =>
          have h1 : 1 ≤ Rows.uptoBulk d := by
            cases d with
            | lit l => cases l <;> simp [Rows.uptoBulk]
            | _ => simp [Rows.uptoBulk]
          simp only [Rows.uptoBulkAll, List.length_cons]
          omega
      have h2 := this ((List.range len).map D)
      simp only [List.length_map, List.length_range] at h2
      simp only [Rows.uptoBulk]
      omega
    · by_cases h0 : len = 0
      · exact Or.inl h0
      · right
        have hlm : len ≤ m := by rw [hm]; split <;> omega
        obtain ⟨b, off, spot⟩ := a
        have each : ∀ j, j < len → ∃ o : OpM, (∀ i, i < 5 → W.cell? ((Addr.add ⟨b, off, spot⟩ (j * 5)).add i) = o.vals[i]?) ∧ o.ok := fun j hj => by
          obtain ⟨cs', hc, ht⟩ := hx j (by omega)
          rw [cells30] at hc
          obtain ⟨o, rfl, hok⟩ := open_op ht
          exact ⟨o, (World.cells?_some hc).2.2, hok⟩
        have hsp : spot = none := by
          obtain ⟨o, ho, _⟩ := each 0 (by omega)
          have := ho 0 (by omega)
          cases spot with
          | none => rfl
          | some s => simp [Addr.add, World.cell?, OpM.vals] at this; split at this <;> simp at this
        subst hsp
        have hadd : ∀ k i : Nat, (Addr.add (Addr.add ⟨b, off, none⟩ k) i) = ⟨b, off + k + i, none⟩ := fun k i => by
          unfold Addr.add
          split <;> split <;> simp_all <;> omega
        obtain ⟨ops, hol, hop⟩ := list_of _ len each
        refine ⟨b, off, ops, rfl, hol.symm, by omega, fun j hj => ?_, ?_, fun o ho => ?_⟩
        · have hh := (hop j hj).1
          simp only [hadd] at hh
          exact ⟨hh 0 (by omega), hh 1 (by omega), hh 2 (by omega), hh 3 (by omega), hh 4 (by omega)⟩
        · have hh := (hop 0 (by omega)).1 0 (by omega)
          rw [hadd] at hh
          exact lt_of_cell (v := .int .i64 (ops[0]'(by omega)).kind) hh
        · obtain ⟨j, hj, rfl⟩ := List.getElem_of_mem ho
          exact (hop j hj).2
end Go.Proofs.YtkfjafndplmdkaaGreat
