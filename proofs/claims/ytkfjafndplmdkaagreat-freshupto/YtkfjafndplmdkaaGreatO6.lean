import Derived.Test.YtkfjafndplmdkaaGreatO5
import Derived.Test.YtkfjafndplmdkaaGreatIter
namespace Go.Proofs.YtkfjafndplmdkaaGreat
open Go.RowKit Go.Sort
/-! ### the least row -/
theorem cfR_lt (rows : List (ByteArray × Int)) (x m : ByteArray) : cfR rows x m < 0 ↔ rowLt (x, rowT rows x) (m, rowT rows m) := by
  unfold cfR cmpM cmpB rowLt
  simp only
  generalize rowT rows x = a
  generalize rowT rows m = b
  by_cases h1 : a < b
  · simp [h1]
  · by_cases h2 : b < a
    · have : ¬ a = b := by omega
      simp [h1, h2, this]
    · have e : a = b := by omega
      subst e
      by_cases h3 : ltB x m
      · simp [h3]
      · by_cases h4 : ltB m x <;> simp [h3, h4]
def minK (cf : ByteArray → ByteArray → Int) : List ByteArray → ByteArray
  | [] => ⟨#[]⟩
  | k :: r => r.foldl (fun m x => if cf x m < 0 then x else m) k
theorem minK_take (cf : ByteArray → ByteArray → Int) (ks : List ByteArray) (j : Nat) (h0 : 0 < j) (h : j < ks.length) : minK cf (ks.take (j + 1)) = if cf ks[j] (minK cf (ks.take j)) < 0 then ks[j] else minK cf (ks.take j) := by
  cases ks with
  | nil => simp at h
  | cons k r =>
    obtain ⟨i, rfl⟩ : ∃ i, j = i + 1 := ⟨j - 1, by omega⟩
    have hi : i < r.length := by simpa using h
    simp only [List.take_succ_cons, minK, List.getElem_cons_succ]
    rw [List.take_succ_eq_append_getElem hi, List.foldl_append]
    rfl
theorem minK_least (rows : List (ByteArray × Int)) : ∀ ks : List ByteArray, ks ≠ [] → leastM (ks.map (fun k => (k, rowT rows k))) = some (minK (cfR rows) ks, rowT rows (minK (cfR rows) ks))
  | [], h => absurd rfl h
  | k :: r, _ => by
    simp only [List.map_cons, leastM, minK, Option.some.injEq]
    have aux : ∀ (r : List ByteArray) (k : ByteArray), (r.map (fun k => (k, rowT rows k))).foldl (fun b a => if rowLt a b then a else b) (k, rowT rows k) = (r.foldl (fun m x => if cfR rows x m < 0 then x else m) k, rowT rows (r.foldl (fun m x => if cfR rows x m < 0 then x else m) k)) := by
      intro r
      induction r with
      | nil => intro k; rfl
      | cons y r ih =>
        intro k
        simp only [List.map_cons, List.foldl_cons]
        by_cases h : cfR rows y k < 0
        · rw [if_pos h, if_pos ((cfR_lt rows y k).1 h)]
          exact ih y
        · rw [if_neg h, if_neg (fun hh => h ((cfR_lt rows y k).2 hh))]
          exact ih k
    exact aux r k
theorem map_rowT {rows : List (ByteArray × Int)} (nd : (rows.map Prod.fst).Nodup) : (rows.map Prod.fst).map (fun k => (k, rowT rows k)) = rows := by
  rw [List.map_map]
  conv => rhs; rw [← List.map_id rows]
  refine List.map_congr_left fun p hp => ?_
  obtain ⟨k, v⟩ := p
  simp only [Function.comp, rowT, getA_of_mem nd hp, Option.getD_some, id]
theorem minK_isLeast {rows : List (ByteArray × Int)} {ks : List ByteArray} (nd : (rows.map Prod.fst).Nodup) (hp : ks.Perm (rows.map Prod.fst)) (hne : rows ≠ []) : IsLeast rows (minK (cfR rows) ks, rowT rows (minK (cfR rows) ks)) := by
  have hks : ks ≠ [] := fun e => hne (by rw [e] at hp; have := hp.length_eq; simp at this; exact List.eq_nil_of_length_eq_zero this.symm)
  have h1 := minK_least rows ks hks
  have hp2 : (ks.map (fun k => (k, rowT rows k))).Perm rows := by
    have := hp.map (fun k => (k, rowT rows k))
    rwa [map_rowT nd] at this
  have hne2 : ks.map (fun k => (k, rowT rows k)) ≠ [] := fun e => hks (List.map_eq_nil_iff.1 e)
  obtain ⟨m, h2, h3⟩ := leastM_is hne2
  rw [h1] at h2
  cases h2
  exact h3.perm hp2
/-! ### MinFunc -/
set_option maxRecDepth 100000 in
set_option maxHeartbeats 1000000 in
theorem minFunc_any (g cap bx ob cb sb rb : Nat) (rows : List (ByteArray × Int)) (low : Int) (ks : List ByteArray) (w : World) (hrow : w.ownsRow 0 9 1 (.slice (some ⟨g, 0, none⟩) ks.length cap) ks.length (ks.map (fun k => Value.string k))) (hbl : bx < w.heap.size)
    (hbx : w.cell? ⟨bx, 0, none⟩ = some (.pointer (some ⟨ob, 0, none⟩))) (ho : OrAt w ob cb sb rb rows low) (h0 : 0 < ks.length) (hl : ks.length ≤ 1000000) (hks : ∀ k ∈ ks, k.size ≤ maxLen) :
    Calls Tryz.prog 144 #[.slice (some ⟨g, 0, none⟩) ks.length cap, .func (.func 147) #[] #[.pointer (some ⟨bx, 0, none⟩)]] w fun e w' => e = .returned (.string (minK (cfR rows) ks)) ∧ Chg nobody w w' := by
  have hcell : ∀ j (h : j < ks.length), w.cell? ⟨g, j, none⟩ = some (.string ks[j]) := fun j h => row_cells hrow j _ (by simp [List.getElem?_eq_getElem h])
  have hgl := (hrow.lt g rfl).2
  have c0 : w.cell? ⟨g, 0, none⟩ = some (.string (minK (cfR rows) (ks.take 1))) := by
    rw [hcell 0 h0]
    cases ks with
    | nil => simp at h0
    | cons k r => rfl
  have HC : Hid (∀ w', Chg nobody w w' → (∀ j (h : j < ks.length), w'.cell? ⟨g, j, none⟩ = some (.string ks[j])) ∧ w'.cell? ⟨bx, 0, none⟩ = some (.pointer (some ⟨ob, 0, none⟩)) ∧ OrAt w' ob cb sb rb rows low) := fun w' hc => ⟨fun j h => (hc.below.cell (p := ⟨g, j, none⟩) hgl).trans (hcell j h), (hc.below.cell (p := ⟨bx, 0, none⟩) hbl).trans hbx, ho.chg hc (fun h => h) (fun h => h)⟩
  have HK : Hid (∀ k ∈ ks, k.size ≤ maxLen) := hks
  have HM : Hid (∀ j, 0 < j → (h : j ≤ ks.length) → (minK (cfR rows) (ks.take j)) ∈ ks) := fun j hj h => by
    have aux : ∀ (r : List ByteArray) (k : ByteArray), r.foldl (fun m x => if cfR rows x m < 0 then x else m) k ∈ k :: r := by
      intro r
      induction r with
      | nil => intro k; simp
      | cons y r ih =>
        intro k
        simp only [List.foldl_cons]
        by_cases hh : cfR rows y k < 0
        · rw [if_pos hh]; exact List.mem_cons_of_mem _ (ih y)
        · rw [if_neg hh]
          rcases List.mem_cons.1 (ih k) with e | e
          · rw [e]; exact List.mem_cons_self ..
          · exact List.mem_cons_of_mem _ (List.mem_cons_of_mem _ e)
    have h1 : minK (cfR rows) (ks.take j) ∈ ks.take j := by
      cases hx : ks.take j with
      | nil => have hl' : (ks.take j).length = min j ks.length := List.length_take; rw [hx, List.length_nil] at hl'; omega
      | cons k r => exact aux r k
    exact List.mem_of_mem_take h1
  have HT : Hid (∀ j, 0 < j → (h : j < ks.length) → minK (cfR rows) (ks.take (j + 1)) = if cfR rows ks[j] (minK (cfR rows) (ks.take j)) < 0 then ks[j] else minK (cfR rows) (ks.take j)) := fun j hj h => minK_take _ ks j hj h
  have b1 : decide ((ks.length : Int) < 1) = false := decide_eq_false (by omega)
  clear hcell hrow hbx ho hks hbl
  go_enter Tryz.func144, Tryz.ntmps144
  go_wp2
  go_loopw [5, 6] (fun m i wr => ∃ j : Nat, 0 < j ∧ j ≤ ks.length ∧ i = .int .i64 j ∧ m = .string (minK (cfR rows) (ks.take j)) ∧ Chg nobody w wr) (fun _ i _ => ks.length - (intOf i).toNat)
  case atStart => exact ⟨1, by omega, by omega, rfl, rfl, Chg.refl _ _⟩
  case round =>
    obtain ⟨j, hj0, hj, rfl, rfl, hch⟩ := hrel
    by_cases hlt : j < ks.length
    · obtain ⟨hc, hbx, ho⟩ := HC.out wr hch
      have cj := hc j hlt
      have hm := HM.out j hj0 hj
      have hcmp := oldest1_any bx ob cb sb rb rows low ks[j] (minK (cfR rows) (ks.take j)) wr hbx ho (HK.out _ (List.getElem_mem hlt)) (HK.out _ hm)
      have HJ : Hid (minK (cfR rows) (ks.take (j + 1)) = if cfR rows ks[j] (minK (cfR rows) (ks.take j)) < 0 then ks[j] else minK (cfR rows) (ks.take j)) := HT.out j hj0 hlt
      have HCJ : Hid (∀ w', Chg nobody wr w' → w'.cell? ⟨g, j, none⟩ = some (.string ks[j])) := fun w' h' => (HC.out w' (hch.trans h')).1 j hlt
      clear hc hbx ho hm
      generalize minK (cfR rows) (ks.take j) = m at *
      generalize ks[j] = kj at *
      by_cases hlv : cfR rows kj m < 0
      · have hd : decide (cfR rows kj m < 0) = true := decide_eq_true hlv
        have HV : Hid (minK (cfR rows) (ks.take (j + 1)) = kj) := by have := HJ.out; rw [if_pos hlv] at this; exact this
        clear hlv
        go_wp2_with (go_at_call 147; refine hcmp.mono ?_; rintro e w2 ⟨rfl, hch2⟩; have cj2 := HCJ.out w2 hch2)
        go_roundw
        case rel => exact ⟨j + 1, by omega, by omega, by go_num, by rw [HV.out], hch.trans hch2⟩
        case measure => simp [intOf]; omega
      · have hd : decide (cfR rows kj m < 0) = false := decide_eq_false hlv
        have HV : Hid (minK (cfR rows) (ks.take (j + 1)) = m) := by have := HJ.out; rw [if_neg hlv] at this; exact this
        clear hlv
        go_wp2_with (go_at_call 147; refine hcmp.mono ?_; rintro e w2 ⟨rfl, hch2⟩)
        go_roundw
        case rel => exact ⟨j + 1, by omega, by omega, by go_num, by rw [HV.out], hch.trans hch2⟩
        case measure => simp [intOf]; omega
    · have hjl : j = ks.length := by omega
      subst hjl
      rw [List.take_length]
      go_wp2
      go_ret
      exact ⟨rfl, hch⟩
end Go.Proofs.YtkfjafndplmdkaaGreat
