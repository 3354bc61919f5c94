import Derived.Test.YtechhojiifcpjaaTL
import Derived.ProofKit
import Derived.OpenShut
import Derived.JoinedCond
import Derived.Deep.Slices
namespace Go.Proofs.Ytechhojiifcpjaa
open Go.RowKit Go.Sort
open Go.ChangeShapes Go.WideShapes Go.ChangeAt
theorem list_of {α : Type} (P : Nat → α → Prop) : ∀ n : Nat, (∀ j, j < n → ∃ o, P j o) → ∃ l : List α, l.length = n ∧ ∀ j (h : j < l.length), P j l[j]
  | 0, _ => ⟨[], rfl, fun j h => by simp at h⟩
  | n + 1, h => by
    obtain ⟨l, hl, hp⟩ := list_of P n (fun j hj => h j (by omega))
    obtain ⟨o, ho⟩ := h n (by omega)
    refine ⟨l ++ [o], by simp [hl], fun j hj => ?_⟩
    by_cases hjl : j < l.length
    · rw [List.getElem_append_left hjl]
      exact hp j hjl
    · have : j = l.length := by simp at hj; omega
      subst this
      simp
      rw [hl]
      exact ho
theorem cells30 : Try.prog.cellsOf 28 = 5 := by kernel_rfl
theorem cells3 : Try.prog.cellsOf 3 = 1 := by kernel_rfl
theorem cells9 : Try.prog.cellsOf 9 = 1 := by kernel_rfl
theorem int_of_wf {n : Int} (h : (Lit.int .i64 n).wf = true) : isInt n := by
  unfold isInt
  simpa [Lit.wf, IntKind.min, IntKind.max, IntKind.signed, IntKind.bits] using h
theorem five {α : Type} : ∀ {l : List α}, l.length = 5 → ∃ a b c d e, l = [a, b, c, d, e]
  | [a, b, c, d, e], _ => ⟨a, b, c, d, e, rfl⟩
  | [], h => by simp at h
  | [_], h => by simp at h
  | [_, _], h => by simp at h
  | [_, _, _], h => by simp at h
  | [_, _, _, _], h => by simp at h
  | _ :: _ :: _ :: _ :: _ :: _ :: _, h => by simp at h
/-- A step, out of its five cells. -/
theorem open_op {H : Type} {enc : TypeId × Value → H} {W : World} {base : Nat} {sp : Nat → Bool} {held : Bool} {fuel : Nat} {cs : List Value} {x : DataW H × List MemPlace} (h : DataW.trod enc Try.prog W base sp held fuel 28 cs = some x) :
    ∃ o : OpM, cs = o.vals ∧ o.ok := by
  obtain ⟨xs, n, rfl, _, hl, hxl, hf⟩ := DataW.trod_struct Try.underlying28 h
  rw [cells30] at hl
  obtain ⟨c0, c1, c2, c3, c4, rfl⟩ := five hl
  have hx : ∀ i, i < 5 → ∃ y, xs[i]? = some y := fun i hi => ⟨xs[i]'(by rw [hxl]; exact hi), List.getElem?_eq_getElem _⟩
  obtain ⟨y0, e0⟩ := hx 0 (by omega)
  obtain ⟨y1, e1⟩ := hx 1 (by omega)
  obtain ⟨y2, e2⟩ := hx 2 (by omega)
  obtain ⟨y3, e3⟩ := hx 3 (by omega)
  obtain ⟨y4, e4⟩ := hx 4 (by omega)
  have f0 : DataW.trod enc Try.prog W base sp held n 3 [c0] = xs[0]? := by
    have := hf 0 { name := "Kind", type := 3, offset := 0, embedded := false, tag := "", pkgPath := "", byteOffset := 0 } rfl
    simpa [cells3, cells9] using this
  have f1 : DataW.trod enc Try.prog W base sp held n 3 [c1] = xs[1]? := by
    have := hf 1 { name := "T", type := 3, offset := 1, embedded := false, tag := "", pkgPath := "", byteOffset := 8 } rfl
    simpa [cells3, cells9] using this
  have f2 : DataW.trod enc Try.prog W base sp held n 9 [c2] = xs[2]? := by
    have := hf 2 { name := "Key", type := 9, offset := 2, embedded := false, tag := "", pkgPath := "", byteOffset := 16 } rfl
    simpa [cells3, cells9] using this
  have f3 : DataW.trod enc Try.prog W base sp held n 9 [c3] = xs[3]? := by
    have := hf 3 { name := "Value", type := 9, offset := 3, embedded := false, tag := "", pkgPath := "", byteOffset := 32 } rfl
    simpa [cells3, cells9] using this
  have f4 : DataW.trod enc Try.prog W base sp held n 3 [c4] = xs[4]? := by
    have := hf 4 { name := "N", type := 3, offset := 4, embedded := false, tag := "", pkgPath := "", byteOffset := 48 } rfl
    simpa [cells3, cells9] using this
  rw [e0] at f0
  rw [e1] at f1
  rw [e2] at f2
  rw [e3] at f3
  rw [e4] at f4
  obtain ⟨n0, g0, _, w0⟩ := DataW.trod_int Try.underlying3 f0
  obtain ⟨n1, g1, _, w1⟩ := DataW.trod_int Try.underlying3 f1
  obtain ⟨s2, g2, _, w2⟩ := DataW.trod_string Try.underlying9 f2
  obtain ⟨s3, g3, _, w3⟩ := DataW.trod_string Try.underlying9 f3
  obtain ⟨n4, g4, _, w4⟩ := DataW.trod_int Try.underlying3 f4
  obtain rfl := (List.cons.inj g0).1
  obtain rfl := (List.cons.inj g1).1
  obtain rfl := (List.cons.inj g2).1
  obtain rfl := (List.cons.inj g3).1
  obtain rfl := (List.cons.inj g4).1
  exact ⟨⟨n0, n1, s2, s3, n4⟩, rfl, int_of_wf w0, int_of_wf w1, w2, w3, int_of_wf w4⟩
/-- A script that came in. -/
theorem open_ops {H : Type} {enc : TypeId × Value → H} {W : World} {sp : Nat → Bool} {held : Bool} {fuel : Nat} {cs : List Value} {x : DataW H × List MemPlace} (h : DataW.trod enc Try.prog W 0 sp held fuel 22 cs = some x) :
    ∃ ad len cap, cs = [.slice ad len cap] ∧ len ≤ Rows.uptoBulk x.1 ∧ (len = 0 ∨ ∃ b off ops, ad = some ⟨b, off, none⟩ ∧ len = List.length ops ∧ List.length ops ≤ cap ∧ OpsAt W b off ops ∧ b < W.heap.size ∧ ∀ o ∈ ops, OpM.ok o) := by
  rcases Go.Deep.open_slice Try.underlying22 h with ⟨rfl, rfl⟩ | ⟨a, len, cap, m, n, D, Pl, rfl, _, hl, _, hm, rfl, hx⟩
  · exact ⟨none, 0, 0, rfl, Nat.zero_le _, Or.inl rfl⟩
  · refine ⟨some a, len, cap, rfl, ?_, ?_⟩
    · have : ∀ l : List (DataW H), l.length ≤ Rows.uptoBulkAll l := fun l => by
        induction l with
        | nil => simp
        | cons d r ih =>
          have h1 : 1 ≤ Rows.uptoBulk d := by
            cases d with
            | lit l => cases l <;> simp [Rows.uptoBulk]
            | _ => simp [Rows.uptoBulk]
          simp only [Rows.uptoBulkAll, List.length_cons]
          omega
      have h2 := this ((List.range len).map D)
      simp only [List.length_map, List.length_range] at h2
      simp only [Rows.uptoBulk]
      omega
    · by_cases h0 : len = 0
      · exact Or.inl h0
      · right
        have hlm : len ≤ m := by rw [hm]; split <;> omega
        obtain ⟨b, off, spot⟩ := a
        have each : ∀ j, j < len → ∃ o : OpM, (∀ i, i < 5 → W.cell? ((Addr.add ⟨b, off, spot⟩ (j * 5)).add i) = o.vals[i]?) ∧ o.ok := fun j hj => by
          obtain ⟨cs', hc, ht⟩ := hx j (by omega)
          rw [cells30] at hc
          obtain ⟨o, rfl, hok⟩ := open_op ht
          exact ⟨o, (World.cells?_some hc).2.2, hok⟩
        have hsp : spot = none := by
          obtain ⟨o, ho, _⟩ := each 0 (by omega)
          have := ho 0 (by omega)
          cases spot with
          | none => rfl
          | some s => simp [Addr.add, World.cell?, OpM.vals] at this; split at this <;> simp at this
        subst hsp
        have hadd : ∀ k i : Nat, (Addr.add (Addr.add ⟨b, off, none⟩ k) i) = ⟨b, off + k + i, none⟩ := fun k i => by
          unfold Addr.add
          split <;> split <;> simp_all <;> omega
        obtain ⟨ops, hol, hop⟩ := list_of _ len each
        refine ⟨b, off, ops, rfl, hol.symm, by omega, fun j hj => ?_, ?_, fun o ho => ?_⟩
        · have hh := (hop j hj).1
          simp only [hadd] at hh
          exact ⟨hh 0 (by omega), hh 1 (by omega), hh 2 (by omega), hh 3 (by omega), hh 4 (by omega)⟩
        · have hh := (hop 0 (by omega)).1 0 (by omega)
          rw [hadd] at hh
          exact lt_of_cell (v := .int .i64 (ops[0]'(by omega)).kind) hh
        · obtain ⟨j, hj, rfl⟩ := List.getElem_of_mem ho
          exact (hop j hj).2
end Go.Proofs.Ytechhojiifcpjaa
