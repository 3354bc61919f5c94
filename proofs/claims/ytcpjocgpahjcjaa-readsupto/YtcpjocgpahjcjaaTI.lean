import Derived.Test.YtcpjocgpahjcjaaTH
import Derived.Laws.MakeOwn
namespace Go.Proofs.Ytcpjocgpahjcjaa
open Go.RowKit Go.Sort
def stM (s : MSt) (l : List OpM) : MSt := l.foldl (fun s o => (stepM s o).2) s
def ansM : MSt → List OpM → List AnsM
  | _, [] => []
  | s, o :: r => (stepM s o).1 :: ansM (stepM s o).2 r
theorem stM_snoc (s : MSt) (l : List OpM) (o : OpM) : stM s (l ++ [o]) = (stepM (stM s l) o).2 := by simp [stM]
theorem ansM_snoc : ∀ (l : List OpM) (s : MSt) (o : OpM), ansM s (l ++ [o]) = ansM s l ++ [(stepM (stM s l) o).1]
  | [], s, o => rfl
  | x :: r, s, o => by
    simp only [List.cons_append, ansM]
    rw [ansM_snoc r]
    simp [stM]
theorem ansM_append : ∀ (l l' : List OpM) (s : MSt), ansM s (l ++ l') = ansM s l ++ ansM (stM s l) l'
  | [], l', s => rfl
  | x :: r, l', s => by
    simp only [List.cons_append, ansM]
    rw [ansM_append r]
    simp [stM]
theorem ansM_len : ∀ (l : List OpM) (s : MSt), (ansM s l).length = l.length
  | [], _ => rfl
  | x :: r, s => by simp [ansM, ansM_len r]
def s0 : MSt := ⟨0, []⟩
abbrev Sl : Type := Option Addr × Nat × Nat
abbrev slV (x : Sl) : Value := .slice x.1 x.2.1 x.2.2
def ansCell (p : AnsM × Sl) : List Value := [.int .i64 p.1.code, .int .i64 p.1.number, .bool p.1.found, .string p.1.value, slV p.2, .slice none 0 0, .slice none 0 0]
def ansCells (As : List AnsM) (sl : List Sl) : List Value := (As.zip sl).flatMap ansCell
/-- Each answer's items lie in memory of their own. -/
def ItemsAt (w : World) (base : Nat) (As : List AnsM) (sl : List Sl) : Prop := sl.length = As.length ∧ ∀ p ∈ As.zip sl, w.ownsRow base 48 2 (slV p.2) p.1.items.length (itemCells p.1.items)
/-- The script. -/
def OpsAt (w : World) (b off : Nat) (ops : List OpM) : Prop := ∀ j, (h : j < ops.length) → w.cell? ⟨b, off + j * 5, none⟩ = some (.int .i64 ops[j].kind) ∧ w.cell? ⟨b, off + j * 5 + 1, none⟩ = some (.int .i64 ops[j].t) ∧ w.cell? ⟨b, off + j * 5 + 2, none⟩ = some (.string ops[j].key) ∧ w.cell? ⟨b, off + j * 5 + 3, none⟩ = some (.string ops[j].val) ∧ w.cell? ⟨b, off + j * 5 + 4, none⟩ = some (.int .i64 ops[j].n)
theorem info36 : (Try.prog.info? 36).map (fun i => (i.zero, i.size, i.bytes)) = some (some (ansV 0 0 false ⟨#[]⟩ (.slice none 0 0)), 7, 112) := by kernel_rfl
set_option maxHeartbeats 400000 in
theorem playerNew_any (w : World) :
    Calls Try.prog 16 #[] w fun e w' => e = .returned (.pointer (some ⟨w.heap.size + 3, 0, none⟩)) ∧ w' = (((w.alloc (.map #[] 0)).alloc (.cells #[.map (some w.heap.size)] 77)).alloc (.map #[] 0)).alloc (.cells #[.int .i64 0, .pointer (some ⟨w.heap.size + 1, 0, none⟩), .map (some (w.heap.size + 2))] 62) := by
  have hmm := @run_makeMap Try.prog
  go_enter Try.func16, Try.ntmps16
  go_wp2_with (go_at_call 23; refine (storeNew_any _).mono ?_; rintro e w' ⟨rfl, rfl⟩)
  go_ret
  exact ⟨by simp, rfl⟩
theorem playerNew_spec (w : World) :
    Calls Try.prog 16 #[] w fun e w' => ∃ st : PSt, e = .returned (.pointer (some ⟨st.p, 0, none⟩)) ∧ Inv w' st 0 ∧ st.abs = s0 ∧ Chg nobody w w' ∧ ∀ b ∈ st.blocks, w.heap.size ≤ b := by
  refine (playerNew_any w).mono ?_
  rintro e w' ⟨rfl, rfl⟩
  have e1 : ((((w.alloc (.map #[] 0)).alloc (.cells #[.map (some w.heap.size)] 77)).alloc (.map #[] 0)).alloc (.cells #[.int .i64 0, .pointer (some ⟨w.heap.size + 1, 0, none⟩), .map (some (w.heap.size + 2))] 62)).heap = (((w.heap.push (.map #[] 0)).push (.cells #[.map (some w.heap.size)] 77)).push (.map #[] 0)).push (.cells #[.int .i64 0, .pointer (some ⟨w.heap.size + 1, 0, none⟩), .map (some (w.heap.size + 2))] 62) := rfl
  have g0 : ((((w.alloc (.map #[] 0)).alloc (.cells #[.map (some w.heap.size)] 77)).alloc (.map #[] 0)).alloc (.cells #[.int .i64 0, .pointer (some ⟨w.heap.size + 1, 0, none⟩), .map (some (w.heap.size + 2))] 62)).heap[w.heap.size]? = some (.map #[] 0) := by
    rw [e1]; simp only [Array.getElem?_push, Array.size_push]
    repeat (first | rw [if_pos trivial] | rw [if_pos (by omega)] | rw [if_neg (by omega)])
  have g1 : ((((w.alloc (.map #[] 0)).alloc (.cells #[.map (some w.heap.size)] 77)).alloc (.map #[] 0)).alloc (.cells #[.int .i64 0, .pointer (some ⟨w.heap.size + 1, 0, none⟩), .map (some (w.heap.size + 2))] 62)).heap[w.heap.size + 1]? = some (.cells #[.map (some w.heap.size)] 77) := by
    rw [e1]; simp only [Array.getElem?_push, Array.size_push]
    repeat (first | rw [if_pos trivial] | rw [if_pos (by omega)] | rw [if_neg (by omega)])
  have g2 : ((((w.alloc (.map #[] 0)).alloc (.cells #[.map (some w.heap.size)] 77)).alloc (.map #[] 0)).alloc (.cells #[.int .i64 0, .pointer (some ⟨w.heap.size + 1, 0, none⟩), .map (some (w.heap.size + 2))] 62)).heap[w.heap.size + 2]? = some (.map #[] 0) := by
    rw [e1]; simp only [Array.getElem?_push, Array.size_push]
    repeat (first | rw [if_pos trivial] | rw [if_pos (by omega)] | rw [if_neg (by omega)])
  have g3 : ((((w.alloc (.map #[] 0)).alloc (.cells #[.map (some w.heap.size)] 77)).alloc (.map #[] 0)).alloc (.cells #[.int .i64 0, .pointer (some ⟨w.heap.size + 1, 0, none⟩), .map (some (w.heap.size + 2))] 62)).heap[w.heap.size + 3]? = some (.cells #[.int .i64 0, .pointer (some ⟨w.heap.size + 1, 0, none⟩), .map (some (w.heap.size + 2))] 62) := by
    rw [e1]; simp only [Array.getElem?_push, Array.size_push]
    repeat (first | rw [if_pos trivial] | rw [if_pos (by omega)] | rw [if_neg (by omega)])
  exact ⟨⟨w.heap.size + 3, w.heap.size + 1, w.heap.size, w.heap.size + 2, 0, []⟩, rfl, ⟨g3, ⟨g1, g0⟩, mapAt_made _ _ _ _ _ g2, by simp, by simp [PSt.blocks], by simp, by simp, by simp, by simp⟩, rfl, ((((Chg.refl _ _).alloc _).alloc _).alloc _).alloc _, by simp [PSt.blocks]⟩
end Go.Proofs.Ytcpjocgpahjcjaa
