import Derived.Test.YtechhojiifcpjaaPK
import Derived.Laws.MakeOwn
namespace Go.Proofs.Ytechhojiifcpjaa
open Go.RowKit Go.Sort
theorem stP_append : ∀ (l l' : List OpM) (s : PW), stP s (l ++ l') = stP (stP s l) l'
  | [], _, _ => rfl
  | x :: r, l', s => by simp only [List.cons_append, stP]; exact stP_append r l' _
theorem ansP_append : ∀ (l l' : List OpM) (s : PW), ansP s (l ++ l') = ansP s l ++ ansP (stP s l) l'
  | [], l', s => rfl
  | x :: r, l', s => by
    simp only [List.cons_append, ansP, stP]
    rw [ansP_append r]
theorem ansP_len : ∀ (l : List OpM) (s : PW), (ansP s l).length = l.length
  | [], _ => rfl
  | x :: r, s => by simp [ansP, ansP_len r]
theorem stP_snoc (s : PW) (l : List OpM) (o : OpM) : stP s (l ++ [o]) = (stepP (stP s l) o).2 := by rw [stP_append]; rfl
theorem ansP_snoc (l : List OpM) (s : PW) (o : OpM) : ansP s (l ++ [o]) = ansP s l ++ [(stepP (stP s l) o).1] := by rw [ansP_append]; rfl
abbrev Sl : Type := Option Addr × Nat × Nat
abbrev Sl3 : Type := Sl × Sl × Sl
abbrev slV (x : Sl) : Value := .slice x.1 x.2.1 x.2.2
def ansCell (p : AnsM × Sl3) : List Value := [.int .i64 p.1.code, .int .i64 p.1.number, .bool p.1.found, .string p.1.value, slV p.2.1, slV p.2.2.1, slV p.2.2.2]
def ansCells (As : List AnsM) (sl : List Sl3) : List Value := (As.zip sl).flatMap ansCell
/-- An answer's lists lie in memory of their own. -/
def RowsOf (w : World) (base : Nat) (A : AnsM) (x : Sl3) : Prop := w.ownsRow base 53 2 (slV x.1) A.items.length (itemCells A.items) ∧ w.ownsRow base 42 3 (slV x.2.1) A.done.length (decCells A.done) ∧ w.ownsRow base 3 1 (slV x.2.2) A.sums.length (A.sums.map (fun n => Value.int .i64 n))
def ItemsAt (w : World) (base : Nat) (As : List AnsM) (sl : List Sl3) : Prop := sl.length = As.length ∧ ∀ p ∈ As.zip sl, RowsOf w base p.1 p.2
theorem RowsOf.chg {w w' : World} {base : Nat} {A : AnsM} {x : Sl3} {S : Nat → Prop} (h : RowsOf w base A x) (hc : Chg S w w') (hs : ∀ v g, (v = slV x.1 ∨ v = slV x.2.1 ∨ v = slV x.2.2) → v.ownBlock = some g → ¬ S g) : RowsOf w' base A x :=
  ⟨ownsRow_chg h.1 hc (fun g e => hs _ g (Or.inl rfl) e), ownsRow_chg h.2.1 hc (fun g e => hs _ g (Or.inr (Or.inl rfl)) e), ownsRow_chg h.2.2 hc (fun g e => hs _ g (Or.inr (Or.inr rfl)) e)⟩
theorem RowsOf.base {w : World} {base base' : Nat} {A : AnsM} {x : Sl3} (h : RowsOf w base A x) (hb : base' ≤ base) : RowsOf w base' A x := ⟨ownsRow_base h.1 hb, ownsRow_base h.2.1 hb, ownsRow_base h.2.2 hb⟩
/-- The script. -/
def OpsAt (w : World) (b off : Nat) (ops : List OpM) : Prop := ∀ j, (h : j < ops.length) → w.cell? ⟨b, off + j * 5, none⟩ = some (.int .i64 ops[j].kind) ∧ w.cell? ⟨b, off + j * 5 + 1, none⟩ = some (.int .i64 ops[j].t) ∧ w.cell? ⟨b, off + j * 5 + 2, none⟩ = some (.string ops[j].key) ∧ w.cell? ⟨b, off + j * 5 + 3, none⟩ = some (.string ops[j].val) ∧ w.cell? ⟨b, off + j * 5 + 4, none⟩ = some (.int .i64 ops[j].n)
theorem infoAns : (Try.prog.info? 34).map (fun i => (i.zero, i.size, i.bytes)) = some (some (ansV 0 0 false ⟨#[]⟩ (.slice none 0 0)), 7, 112) := by kernel_rfl
abbrev pn1 (w : World) : World := (w.alloc (.cells #[.int .i64 0] 60))
abbrev pn2 (w : World) : World := ((pn1 w).alloc (.map #[] 0)).alloc (.cells #[.map (some (w.heap.size + 1))] 72)
abbrev pn3 (w : World) : World := ((pn2 w).alloc (.map #[] 0)).alloc (.cells #[.pointer (some ⟨w.heap.size, 0, none⟩), .pointer (some ⟨w.heap.size + 2, 0, none⟩), .map (some (w.heap.size + 3)), .int .i64 0] 76)
abbrev pn4 (w : World) : World := ((pn3 w).alloc (.chan 3 #[] false 0 0 false)).alloc (.cells #[.chan (some (w.heap.size + 5))] 79)
abbrev pn5 (w : World) : World := ((pn4 w).alloc (.map #[] 0)).alloc (.cells #[.pointer (some ⟨w.heap.size, 0, none⟩), .pointer (some ⟨w.heap.size + 2, 0, none⟩), .pointer (some ⟨w.heap.size + 4, 0, none⟩), .pointer (some ⟨w.heap.size + 6, 0, none⟩), .map (some (w.heap.size + 7))] 69)
set_option maxRecDepth 100000 in
set_option maxHeartbeats 1000000 in
theorem playerNew_any (w : World) :
    Calls Try.prog 16 #[] w fun e w' => e = .returned (.pointer (some ⟨w.heap.size + 8, 0, none⟩)) ∧ w' = pn5 w := by
  have hmm := @run_makeMap Try.prog
  go_enter Try.func16, Try.ntmps16
  go_wp2_with (first | (go_at_call 21; refine (storeNew_any _).mono ?_; rintro e w' ⟨rfl, rfl⟩) | (go_at_call 22; refine (oracleNew_any w.heap.size _ 0 _ (by simp [go_sem]) (by simp; omega)).mono ?_; rintro e w' ⟨rfl, rfl⟩) | (go_at_call 23; refine (queueNew_any _).mono ?_; rintro e w' ⟨rfl, rfl⟩))
  trace_state
  go_ret
  exact ⟨by simp, by simp [pn5, pn4, pn3, pn2, pn1]⟩
end Go.Proofs.Ytechhojiifcpjaa
