import Derived.Test.YtkfjafndplmdkaaGreatOA
import Derived.Test.YtkfjafndplmdkaaGreatQ
namespace Go.Proofs.YtkfjafndplmdkaaGreat
open Go.RowKit Go.Sort
open Go.Maps (Keyed)
def OpM.vals (o : OpM) : List Value := [.int .i64 o.kind, .int .i64 o.t, .string o.key, .string o.val, .int .i64 o.n]
abbrev OpM.v (o : OpM) : Value := .agg #[.int .i64 o.kind, .int .i64 o.t, .string o.key, .string o.val, .int .i64 o.n]
abbrev ansW (code number : Int) (found : Bool) (value : ByteArray) (items done sums : Value) : Value := .agg #[.int .i64 code, .int .i64 number, .bool found, .string value, items, done, sums]
abbrev ansV (code number : Int) (found : Bool) (value : ByteArray) (items : Value) : Value := .agg #[.int .i64 code, .int .i64 number, .bool found, .string value, items, .slice none 0 0, .slice none 0 0]
abbrev ansC (code number : Int) (found : Bool) (value : ByteArray) (items : Value) : Array Value := #[.int .i64 code, .int .i64 number, .bool found, .string value, items, .slice none 0 0, .slice none 0 0]
abbrev ans0 : Obj := .cells (ansC 0 0 false ⟨#[]⟩ (.slice none 0 0)) 36
theorem set7 {w : World} {b : Nat} {c : Array Value} {t : TypeId} (hb : w.heap[b]? = some (.cells c t)) (hc : c.size = 7) (v0 v1 v2 v3 v4 v5 v6 : Value) :
    (w.setCell ⟨b, 0, none⟩ v0).cell? ⟨b, 0, none⟩ = some v0 ∧ ((w.setCell ⟨b, 0, none⟩ v0).setCell ⟨b, 1, none⟩ v1).cell? ⟨b, 1, none⟩ = some v1 ∧
    (((w.setCell ⟨b, 0, none⟩ v0).setCell ⟨b, 1, none⟩ v1).setCell ⟨b, 2, none⟩ v2).cell? ⟨b, 2, none⟩ = some v2 ∧
    ((((w.setCell ⟨b, 0, none⟩ v0).setCell ⟨b, 1, none⟩ v1).setCell ⟨b, 2, none⟩ v2).setCell ⟨b, 3, none⟩ v3).cell? ⟨b, 3, none⟩ = some v3 ∧
    (((((w.setCell ⟨b, 0, none⟩ v0).setCell ⟨b, 1, none⟩ v1).setCell ⟨b, 2, none⟩ v2).setCell ⟨b, 3, none⟩ v3).setCell ⟨b, 4, none⟩ v4).cell? ⟨b, 4, none⟩ = some v4 ∧
    ((((((w.setCell ⟨b, 0, none⟩ v0).setCell ⟨b, 1, none⟩ v1).setCell ⟨b, 2, none⟩ v2).setCell ⟨b, 3, none⟩ v3).setCell ⟨b, 4, none⟩ v4).setCell ⟨b, 5, none⟩ v5).cell? ⟨b, 5, none⟩ = some v5 ∧
    (((((((w.setCell ⟨b, 0, none⟩ v0).setCell ⟨b, 1, none⟩ v1).setCell ⟨b, 2, none⟩ v2).setCell ⟨b, 3, none⟩ v3).setCell ⟨b, 4, none⟩ v4).setCell ⟨b, 5, none⟩ v5).setCell ⟨b, 6, none⟩ v6).cell? ⟨b, 6, none⟩ = some v6 := by
  have same : ∀ (x : World) (i : Nat) (v : Value), i < 7 → (∀ j, j < 7 → (x.cell? ⟨b, j, none⟩).isSome = true) → (x.setCell ⟨b, i, none⟩ v).cell? ⟨b, i, none⟩ = some v ∧ ∀ j, j < 7 → ((x.setCell ⟨b, i, none⟩ v).cell? ⟨b, j, none⟩).isSome = true := fun x i v hi hx => by
    obtain ⟨u, hu⟩ := Option.isSome_iff_exists.1 (hx i hi)
    have h1 := World.cell?_setCell_same x ⟨b, i, none⟩ v hu
    refine ⟨h1, fun j hj => ?_⟩
    by_cases e : j = i
    · subst e; rw [h1]; rfl
    · rw [World.cell?_setCell_other _ _ _ _ (fun h => e (by injection h with _ h _; exact h.symm))]
      exact hx j hj
  have h0 : ∀ j, j < 7 → (w.cell? ⟨b, j, none⟩).isSome = true := fun j hj => by
    simp [World.cell?, hb, hc, hj]
  have a0 := same w 0 v0 (by omega) h0
  have a1 := same _ 1 v1 (by omega) a0.2
  have a2 := same _ 2 v2 (by omega) a1.2
  have a3 := same _ 3 v3 (by omega) a2.2
  have a4 := same _ 4 v4 (by omega) a3.2
  have a5 := same _ 5 v5 (by omega) a4.2
  have a6 := same _ 6 v6 (by omega) a5.2
  exact ⟨a0.1, a1.1, a2.1, a3.1, a4.1, a5.1, a6.1⟩
theorem chg_set7 (w : World) (b : Nat) (v0 v1 v2 v3 v4 v5 v6 : Value) : Chg (fun k => k = b) w (((((((w.setCell ⟨b, 0, none⟩ v0).setCell ⟨b, 1, none⟩ v1).setCell ⟨b, 2, none⟩ v2).setCell ⟨b, 3, none⟩ v3).setCell ⟨b, 4, none⟩ v4).setCell ⟨b, 5, none⟩ v5).setCell ⟨b, 6, none⟩ v6) :=
  ((((((chg_set w b 0 v0).trans (chg_set _ b 1 v1)).trans (chg_set _ b 2 v2)).trans (chg_set _ b 3 v3)).trans (chg_set _ b 4 v4)).trans (chg_set _ b 5 v5)).trans (chg_set _ b 6 v6)
theorem takeTime_spec (p : Nat) (c : Int) (w : World) (h0 : 0 ≤ c) (h1 : c < 1000000000) (hb : w.heap[p]? = some (.cells #[.int .i64 c] 86)) :
    Calls Tryz.prog 74 #[.pointer (some ⟨p, 0, none⟩)] w fun e w' => e = .returned (.int .i64 (c + 1)) ∧ w'.heap[p]? = some (.cells #[.int .i64 (c + 1)] 86) ∧ Chg (fun b => b = p) w w' := by
  refine (takeTime_any p c w h0 h1 (cell_of hb rfl) (unfrozen_of hb 0)).mono ?_
  rintro e w' ⟨rfl, rfl⟩
  refine ⟨rfl, ?_, chg_set _ _ _ _⟩
  simp [World.setCell, Array.getElem?_modify, hb]
theorem txNew_spec (n : Int) (sb : Nat) (w : World) :
    Calls Tryz.prog 75 #[.int .i64 n, .pointer (some ⟨sb, 0, none⟩)] w fun e w' => ∃ tb wb kb pb : Nat, e = .returned (.pointer (some ⟨tb, 0, none⟩)) ∧ TxAt w' sb ⟨tb, wb, kb, pb, false, n, [], [], []⟩ ∧ Chg nobody w w' ∧
      wb = w.heap.size ∧ kb = w.heap.size + 1 ∧ pb = w.heap.size + 2 ∧ tb = w.heap.size + 3 := by
  refine (txNew_any n sb w).mono ?_
  rintro e w' ⟨rfl, rfl⟩
  refine ⟨_, _, _, _, rfl, ?_, ((((Chg.refl _ _).alloc _).alloc _).alloc _).alloc _, rfl, rfl, rfl, rfl⟩
  have e1 : ((((w.alloc (.map #[] 0)).alloc (.map #[] 0)).alloc (.map #[] 0)).alloc (.cells #[.bool false, .int .i64 n, .pointer (some ⟨sb, 0, none⟩), .map (some w.heap.size), .map (some (w.heap.size + 1)), .map (some (w.heap.size + 2))] 148)).heap = (((w.heap.push (.map #[] 0)).push (.map #[] 0)).push (.map #[] 0)).push (.cells #[.bool false, .int .i64 n, .pointer (some ⟨sb, 0, none⟩), .map (some w.heap.size), .map (some (w.heap.size + 1)), .map (some (w.heap.size + 2))] 148) := rfl
  refine ⟨?_, mapAt_made _ _ _ _ _ ?_, mapAt_made _ _ _ _ _ ?_, mapAt_made _ _ _ _ _ ?_⟩
  all_goals
    rw [e1]
    simp only [Array.getElem?_push, Array.size_push]
    repeat (first | rw [if_pos trivial] | rw [if_pos (by omega)] | rw [if_neg (by omega)])
end Go.Proofs.YtkfjafndplmdkaaGreat
