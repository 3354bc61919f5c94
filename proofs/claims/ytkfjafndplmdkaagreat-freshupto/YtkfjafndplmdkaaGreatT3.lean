import Derived.Test.YtkfjafndplmdkaaGreatT1
namespace Go.Proofs.YtkfjafndplmdkaaGreat
open Go.RowKit Go.Sort
open Go.Maps (Keyed)
abbrev noCell : Bool × ByteArray := (false, ⟨#[]⟩)
/-- A KEY's VERSIONS, and where they lie. -/
structure VEnt where
  vb : Nat
  cap : Nat
  vs : List (Int × (Bool × ByteArray))
abbrev mkV (e : VEnt) : Value := .slice (some ⟨e.vb, 0, none⟩) e.vs.length e.cap
def vCell (p : Int × (Bool × ByteArray)) : List Value := [.int .i64 p.1, .bool p.2.1, .string p.2.2]
def vCells (l : List (Int × (Bool × ByteArray))) : List Value := l.flatMap vCell
/-- THE STORE. -/
structure StoreAt (w : World) (sb vm : Nat) (V : List (ByteArray × VEnt)) : Prop where
  st : w.heap[sb]? = some (.cells #[.map (some vm)] 106)
  vs : mapAt w Tryz.prog 9 mkS mkV vm V
  rows : ∀ p ∈ V, w.ownsRow 0 167 3 (mkV p.2) p.2.vs.length (vCells p.2.vs)
def vBlocks (V : List (ByteArray × VEnt)) : List Nat := V.map (fun p => p.2.vb)
theorem StoreAt.chg {w w' : World} {sb vm : Nat} {V : List (ByteArray × VEnt)} {S : Nat → Prop} (h : StoreAt w sb vm V) (hc : Chg S w w') (h1 : ¬ S sb) (h2 : ¬ S vm) (h3 : ∀ b ∈ vBlocks V, ¬ S b) : StoreAt w' sb vm V :=
  ⟨(hc.block sb (lt_of_block h.st) h1).trans h.st, h.vs.of_block (hc.block vm h.vs.lt h2), fun p hp => ownsRow_chg (h.rows p hp) hc (fun g e => by
    have : p.2.vb = g := by simpa [Value.ownBlock] using e
    exact this ▸ h3 _ (List.mem_map.2 ⟨p, hp, rfl⟩))⟩
def versOf (s : ByteArray) (V : List (ByteArray × VEnt)) : List (Int × (Bool × ByteArray)) := match getA s V with | some e => e.vs | none => []
def atV (vs : List (Int × (Bool × ByteArray))) (t : Int) : Bool × ByteArray := match vs.reverse.find? (fun p => decide (p.1 ≤ t)) with | some p => p.2 | none => noCell
theorem v_at {w : World} {base g cap n : Nat} {l : List (Int × (Bool × ByteArray))} (h : w.ownsRow base 167 3 (.slice (some ⟨g, 0, none⟩) n cap) n (vCells l)) (i : Nat) (hi : i < l.length) :
    w.cell? ⟨g, i * 3, none⟩ = some (.int .i64 l[i].1) ∧ w.cell? ⟨g, i * 3 + 1, none⟩ = some (.bool l[i].2.1) ∧ w.cell? ⟨g, i * 3 + 2, none⟩ = some (.string l[i].2.2) := by
  have g0 : ∀ r u, r < 3 → (vCell l[i])[r]? = some u → w.cell? ⟨g, i * 3 + r, none⟩ = some u := fun r u hr hu => row_cells h _ u (by unfold vCells; rw [flat_at vCell (fun _ => rfl) l i r hi hr]; exact hu)
  exact ⟨g0 0 _ (by omega) rfl, g0 1 _ (by omega) rfl, g0 2 _ (by omega) rfl⟩
theorem atV_hit {L : List (Int × (Bool × ByteArray))} {t : Int} {k : Nat} (h : k < L.length) (h2 : L[k].1 ≤ t) (hn : ∀ i (h : i < L.length), k < i → ¬ (L[i].1 ≤ t)) : atV L t = L[k].2 := by
  unfold atV
  have e : L = L.take k ++ L[k] :: L.drop (k + 1) := by
    rw [← List.drop_eq_getElem_cons h, List.take_append_drop]
  have hf : L.reverse.find? (fun v => decide (v.1 ≤ t)) = some L[k] := by
    generalize hx : L[k] = x at *
    rw [e, List.reverse_append, List.reverse_cons, List.append_assoc, List.find?_append, List.find?_eq_none.2]
    · simp [h2]
    · intro v hv
      obtain ⟨i, hi, rfl⟩ := List.getElem_of_mem (List.mem_reverse.1 hv)
      rw [List.length_drop] at hi
      have := hn (k + 1 + i) (by omega) (by omega)
      simpa using this
  rw [hf]
theorem atV_miss {L : List (Int × (Bool × ByteArray))} {t : Int} (hn : ∀ i (h : i < L.length), ¬ (L[i].1 ≤ t)) : atV L t = noCell := by
  unfold atV
  rw [List.find?_eq_none.2]
  intro v hv
  obtain ⟨i, hi, rfl⟩ := List.getElem_of_mem (List.mem_reverse.1 hv)
  simpa using hn i hi
section look
variable {α β : Type} {P : Program} {k : TypeId} {mk : α → Value} {vl : β → Value} {w : World} {b : Nat} {l : List (α × β)}
/-- 'm[k]'. -/
theorem mapAt.look1 [DecidableEq α] {t e : TypeId} (h : mapAt w P k mk vl b l) (K : Keyed P k) (inj : ∀ a b, mk a = mk b → a = b) (ht : P.underlying t = some (.map k e)) {z : Value} (hz : (zeroValue e).run P w = .ok z w) {a : α} {kl : Lit} (hkey : keyOf P k (mk a) = some kl) :
    (Instr.lookup t (.map (some b)) (mk a) false).run P w = .ok (((getA a l).map vl).getD z) w := by
  obtain ⟨es, clock, hb, hE⟩ := h
  rcases hE.find K inj hkey w with ⟨h1, h2, _⟩ | ⟨j, e0, v, h1, h2, h3, h4, h5⟩
  · rw [getA_none h2]
    simp [Instr.lookup, run_underlying ht, MapKept.run_getObj_map hb, K.check w _ hkey, h1, hz, Result.andThen]
  · rw [(at_some hE.nodup h5).1]
    simp [Instr.lookup, run_underlying ht, MapKept.run_getObj_map hb, K.check w _ hkey, h1, Result.andThen]
end look
theorem mapAt.nodup {α β : Type} {P : Program} {k : TypeId} {mk : α → Value} {vl : β → Value} {w : World} {b : Nat} {l : List (α × β)} (h : mapAt w P k mk vl b l) : (l.map Prod.fst).Nodup := by
  obtain ⟨_, _, _, hE⟩ := h
  exact hE.nodup
/-- what the lookup of a key's versions gives. -/
theorem StoreAt.looks {w : World} {sb vm : Nat} {V : List (ByteArray × VEnt)} (h : StoreAt w sb vm V) (s : ByteArray) :
    ∃ ad cap, (∀ w' : World, w'.heap[vm]? = w.heap[vm]? → s.size ≤ maxLen → (Instr.lookup 104 (.map (some vm)) (.string s) false).run Tryz.prog w' = .ok (.slice ad (versOf s V).length cap) w') ∧
      w.ownsRow 0 167 3 (.slice ad (versOf s V).length cap) (versOf s V).length (vCells (versOf s V)) ∧ (∀ g, ad = some g → ∃ e, getA s V = some e ∧ g = ⟨e.vb, 0, none⟩) ∧ (∀ e, getA s V = some e → ad = some ⟨e.vb, 0, none⟩ ∧ cap = e.cap) ∧ (getA s V = none → ad = none ∧ cap = 0) := by
  unfold versOf
  cases hg : getA s V with
  | none =>
    refine ⟨none, 0, fun w' hw hs => ?_, World.ownsRow_nil _ _ _ _, ?_, ?_, ?_⟩
    · have := (h.vs.of_block hw).look1 keyS mkS_inj Tryz.underlying104 (zeroVs w') (keyOfS hs)
      rw [hg] at this
      exact this
    · intro g e; cases e
    · intro e he; cases he
    · intro _; exact ⟨rfl, rfl⟩
  | some e =>
    refine ⟨some ⟨e.vb, 0, none⟩, e.cap, fun w' hw hs => ?_, h.rows (s, e) (getA_mem hg), ?_, ?_, ?_⟩
    · have := (h.vs.of_block hw).look1 keyS mkS_inj Tryz.underlying104 (zeroVs w') (keyOfS hs)
      rw [hg] at this
      exact this
    · intro g e'; cases e'; exact ⟨e, rfl, rfl⟩
    · intro e' he; cases he; exact ⟨rfl, rfl⟩
    · intro he; cases he
set_option maxHeartbeats 1000000 in
theorem storeAt_any (sb vm : Nat) (V : List (ByteArray × VEnt)) (s : ByteArray) (t : Int) (w : World) (hs : s.size ≤ maxLen) (h : StoreAt w sb vm V) (hl : (versOf s V).length ≤ 2000000) :
    Calls Tryz.prog 113 #[.pointer (some ⟨sb, 0, none⟩), .string s, .int .i64 t] w fun e w' => e = .returned (mkC (atV (versOf s V) t)) ∧ Chg nobody w w' := by
  have hlt := h.vs.lt
  obtain ⟨ad, cap, hlook, hrow, _⟩ := h.looks s
  have hlk : ∀ o, (Instr.lookup 104 (.map (some vm)) (.string s) false).run Tryz.prog (w.alloc o) = .ok (.slice ad (versOf s V).length cap) (w.alloc o) := fun o => hlook _ (Below.heap_alloc _ _ _ hlt) hs
  have hc' : ∀ o, (w.alloc o).cell? ⟨sb, 0, none⟩ = some (.map (some vm)) := fun o => by rw [World.cell?_alloc_past _ _ _ (lt_of_block h.st)]; exact cell_of h.st rfl
  clear hlook h hlt
  generalize versOf s V = L at *
  have HC : Hid (∀ o, (w.alloc o).ownsRow 0 167 3 (.slice ad L.length cap) L.length (vCells L)) := fun o => hrow.alloc o
  clear hrow
  go_enter Tryz.func113, Tryz.ntmps113
  go_wp2
  go_loop [8] (fun i => ∃ k : Nat, k ≤ L.length ∧ i = .int .i64 ((k : Int) - 1) ∧ Hid (∀ i (h : i < L.length), k ≤ i → ¬ (L[i].1 ≤ t))) (fun i => (intOf i + 1).toNat)
  case atStart => exact ⟨L.length, Nat.le_refl _, by go_num, fun i h hh => by omega⟩
  case round =>
    obtain ⟨k, hk, rfl, HN⟩ := hrel
    cases k with
    | zero =>
      have hb : decide ((0 : Int) ≤ ((0 : Nat) : Int) - 1) = false := by decide
      have e : Hid (atV L t = noCell) := atV_miss (L := L) (t := t) (fun i h => HN.out i h (by omega))
      go_wp2
      exact bodyPost_ret (v := .agg #[.bool false, .string ⟨#[]⟩]) (by simp [results, Tryz.results113, go_sem]) rfl ⟨by rw [e.out], (Chg.refl _ _).alloc _⟩
    | succ k =>
      rw [show ((k + 1 : Nat) : Int) - 1 = (k : Int) by omega]
      have hlt : k < L.length := by omega
      have hb : decide ((0 : Int) ≤ (k : Int)) = true := by simp
      obtain ⟨g, rfl, _, hgl, _, _⟩ := row_open (HC.out (.cells #[.bool false, .string ⟨#[]⟩] 127)) (by omega)
      obtain ⟨c0, c1, c2⟩ := v_at (HC.out (.cells #[.bool false, .string ⟨#[]⟩] 127)) k hlt
      have HS : Hid (∀ i (h : i < L.length), k < i → ¬ (L[i].1 ≤ t)) := fun i h hi => HN.out i h (by omega)
      have HT : Hid (¬ (L[k].1 ≤ t) → ∀ i (h : i < L.length), k ≤ i → ¬ (L[i].1 ≤ t)) := fun hn i h hi => by
        by_cases hik : i = k
        · subst hik; exact hn
        · exact HS.out i h (by omega)
      by_cases ht : L[k].1 ≤ t
      · have HV : Hid (atV L t = L[k].2) := atV_hit hlt ht HS.out
        have b2 : decide (L[k].1 ≤ t) = true := decide_eq_true ht
        clear ht HT
        generalize L[k] = x at *
        go_wp2
        exact bodyPost_ret (v := .agg #[.bool x.2.1, .string x.2.2]) (by simp [results, Tryz.results113, go_sem]) rfl ⟨by rw [HV.out], (Chg.refl _ _).alloc _⟩
      · have HV : Hid (¬ (L[k].1 ≤ t)) := ht
        have b2 : decide (L[k].1 ≤ t) = false := decide_eq_false ht
        clear ht
        go_wp2
        go_round
        case rel => exact ⟨k, by omega, by go_num, HT.out HV.out⟩
        case measure => simp [intOf]
end Go.Proofs.YtkfjafndplmdkaaGreat
