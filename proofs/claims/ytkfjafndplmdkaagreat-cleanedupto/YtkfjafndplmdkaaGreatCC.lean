import Derived.Test.YtkfjafndplmdkaaGreatCA
import Derived.Test.YtkfjafndplmdkaaGreatFC
namespace Go.Proofs.YtkfjafndplmdkaaGreat
open Go.RowKit Go.Sort
theorem opCells_take (xs : List OpM) (k : Nat) : ∀ (j : Nat) (u : Value), (opCells (xs.take k))[j]? = some u → (opCells xs)[j]? = some u := fun j u h => by
  have e : opCells xs = opCells (xs.take k) ++ opCells (xs.drop k) := by rw [← opCells_append, List.take_append_drop]
  rw [e, List.getElem?_append_left (List.getElem?_eq_some_iff.1 h).1]
  exact h
theorem opCells_drop (xs : List OpM) (k : Nat) (hk : k ≤ xs.length) : ∀ (j : Nat) (u : Value), (opCells (xs.drop k))[j]? = some u → (opCells xs)[k * 5 + j]? = some u := fun j u h => by
  have e : opCells xs = opCells (xs.take k) ++ opCells (xs.drop k) := by rw [← opCells_append, List.take_append_drop]
  have el : (opCells (xs.take k)).length = k * 5 := by rw [opCells_len, List.length_take]; congr 1; omega
  rw [e, List.getElem?_append_right (by omega), el, Nat.add_sub_cancel_left]
  exact h
theorem ops_cells {w : World} {b off : Nat} {xs : List OpM} (h : OpsAt w b off xs) : ∀ (j : Nat) (u : Value), (opCells xs)[j]? = some u → w.cell? ⟨b, off + j, none⟩ = some u := fun j u hu => by
  have hl := opCells_len xs
  have hj : j < (opCells xs).length := (List.getElem?_eq_some_iff.1 hu).1
  have hq : j / 5 < xs.length := by omega
  obtain ⟨c0, c1, c2, c3, c4⟩ := h (j / 5) hq
  have e := opCells_at xs (j / 5) (j % 5) hq (Nat.mod_lt _ (by omega))
  rw [Nat.div_add_mod' j 5, hu] at e
  have hm : j % 5 = 0 ∨ j % 5 = 1 ∨ j % 5 = 2 ∨ j % 5 = 3 ∨ j % 5 = 4 := by omega
  have hja : off + j = off + j / 5 * 5 + j % 5 := by omega
  rw [hja]
  rcases hm with hm | hm | hm | hm | hm <;> rw [hm] at e ⊢ <;> simp only [OpM.vals, List.getElem?_cons_zero, List.getElem?_cons_succ, Option.some.injEq] at e <;> rw [e] <;> assumption
theorem dec_at2 {w : World} {base g cap n : Nat} {l : List Dec} (h : w.ownsRow base 44 3 (.slice (some ⟨g, 0, none⟩) n cap) n (decCells l)) (i : Nat) (hi : i < l.length) :
    w.cell? ⟨g, i * 3, none⟩ = some (.int .i64 l[i].num) ∧ w.cell? ⟨g, i * 3 + 1, none⟩ = some (.int .i64 l[i].code) ∧ w.cell? ⟨g, i * 3 + 2, none⟩ = some (.int .i64 l[i].time) := by
  have g0 : ∀ r u, r < 3 → (decCell l[i])[r]? = some u → w.cell? ⟨g, i * 3 + r, none⟩ = some u := fun r u hr hu => row_cells h _ u (by unfold decCells; rw [flat_at decCell (fun _ => rfl) l i r hi hr]; exact hu)
  exact ⟨g0 0 _ (by omega) rfl, g0 1 _ (by omega) rfl, g0 2 _ (by omega) rfl⟩
theorem row_small {w : World} {base : Nat} {v : Value} {l : List Dec} (h : w.ownsRow base 44 3 v l.length (decCells l)) : l.length ≤ maxLen := by
  rcases h.2 with ⟨_, e⟩ | ⟨g, cap, cur, _, _, _, h1, h2, _⟩
  · rw [e]; exact Nat.zero_le _
  · exact Nat.le_trans h1 h2
theorem drew_ex {w8 wr : World} (h : ∃ m, wr = w8.drewN m) (n : Nat) : ∃ m, wr.drewN n = w8.drewN m := by
  obtain ⟨m, rfl⟩ := h
  exact ⟨m + n, World.drewN_drewN _ _ _⟩
theorem addr_plain (b off j : Nat) : (⟨b, off, none⟩ : Addr).add j = ⟨b, off + j, none⟩ := by
  unfold Addr.add
  split <;> simp [*]
end Go.Proofs.YtkfjafndplmdkaaGreat
