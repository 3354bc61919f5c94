import Derived.Test.YtcpjocgpahjcjaaRC
namespace Go.Proofs.Ytcpjocgpahjcjaa
open Go.RowKit Go.Sort
theorem pk_eq (p s : ByteArray) : pk p s = (decide (p.size ≤ s.size) && ((s.extract 0 p.size).toList == p.toList)) := (Lib.hasPrefix_raw s p).symm
set_option maxHeartbeats 1000000 in
theorem begins_any (s p : ByteArray) (w : World) :
    Calls Try.prog 53 #[.string s, .string p] w fun e w' => e = .returned (.bool (pk p s)) ∧ w' = w := by
  by_cases hl : p.size ≤ s.size
  · have b1 : decide ((p.size : Int) ≤ (s.size : Int)) = true := decide_eq_true (by omega)
    by_cases he : s.extract 0 p.size = p
    · obtain ⟨b2, b3⟩ := ba_t he
      have HV : Hid (pk p s = true) := (by rw [pk_eq, b3]; simpa using hl : pk p s = true)
      clear he
      go_enter Try.func53, Try.ntmps53
      go_wp2
      go_ret
      exact ⟨congrArg (fun x => Ending.returned (Value.bool x)) HV.out.symm, rfl⟩
    · obtain ⟨b2, b3⟩ := ba_f he
      have HV : Hid (pk p s = false) := (by rw [pk_eq, b3]; simp : pk p s = false)
      clear he
      go_enter Try.func53, Try.ntmps53
      go_wp2
      go_ret
      exact ⟨congrArg (fun x => Ending.returned (Value.bool x)) HV.out.symm, rfl⟩
  · have b1 : decide ((p.size : Int) ≤ (s.size : Int)) = false := decide_eq_false (by omega)
    have HV : Hid (pk p s = false) := (by rw [pk_eq]; simp [hl] : pk p s = false)
    go_enter Try.func53, Try.ntmps53
    go_wp2
    go_ret
    exact ⟨congrArg (fun x => Ending.returned (Value.bool x)) HV.out.symm, rfl⟩
/-- keys in order. -/
def Asc (l : List ByteArray) : Prop := l.Pairwise (fun a b => a.data.toList < b.data.toList)
def strCells (l : List ByteArray) : List Value := l.map .string
theorem str_one (l : List ByteArray) : ∀ u ∈ strCells l, u.oneCell' = true := by
  intro u hu
  obtain ⟨x, _, rfl⟩ := List.mem_map.1 hu
  rfl
def ltB (a b : ByteArray) : Prop := a.data.toList < b.data.toList
theorem ltB_t {a b : ByteArray} (h : ltB a b) : Op.bytesLess a.toList b.toList = true := by
  rw [bytesLess_eq, ByteArray.toList_eq, ByteArray.toList_eq]; exact decide_eq_true h
theorem ltB_f {a b : ByteArray} (h : ¬ ltB a b) : Op.bytesLess a.toList b.toList = false := by
  rw [bytesLess_eq, ByteArray.toList_eq, ByteArray.toList_eq]; exact decide_eq_false h
theorem ltB_tri {a b : ByteArray} (h : ¬ ltB a b) (hne : a ≠ b) : ltB b a := by
  unfold ltB at *
  refine Classical.byContradiction fun h1 => hne (toList_inj ?_)
  exact List.le_antisymm (List.not_lt.1 h1) (List.not_lt.1 h)
theorem ltB_trans {a b c : ByteArray} (h : ltB a b) (k : ltB b c) : ltB a c := List.lt_trans h k
theorem asc_insert {l : List ByteArray} {s : ByteArray} {k : Nat} (hk : k ≤ l.length) (hl : Asc l) (h1 : ∀ i (h : i < l.length), i < k → ltB l[i] s) (h2 : ∀ i (h : i < l.length), k ≤ i → ltB s l[i]) : Asc (l.take k ++ [s] ++ l.drop k) := by
  unfold Asc at *
  rw [List.append_assoc, List.pairwise_append]
  have e : l.take k ++ l.drop k = l := List.take_append_drop k l
  rw [← e, List.pairwise_append] at hl
  obtain ⟨p1, p2, p3⟩ := hl
  have q1 : ∀ x ∈ l.take k, ltB x s := fun x hx => by
    obtain ⟨i, hi, rfl⟩ := List.getElem_of_mem hx
    rw [List.length_take] at hi
    simpa using h1 i (by omega) (by omega)
  have q2 : ∀ x ∈ l.drop k, ltB s x := fun x hx => by
    obtain ⟨i, hi, rfl⟩ := List.getElem_of_mem hx
    rw [List.length_drop] at hi
    simpa using h2 (k + i) (by omega) (by omega)
  refine ⟨p1, ?_, fun x hx y hy => ?_⟩
  · simp only [List.singleton_append, List.pairwise_cons]
    exact ⟨q2, p2⟩
  · simp only [List.singleton_append, List.mem_cons] at hy
    rcases hy with rfl | hy
    · exact q1 x hx
    · exact p3 x hx y hy
theorem mem_insert {l : List ByteArray} {s : ByteArray} {k : Nat} (x : ByteArray) : x ∈ l.take k ++ [s] ++ l.drop k ↔ x = s ∨ x ∈ l := by
  have e : x ∈ l ↔ x ∈ l.take k ∨ x ∈ l.drop k := by rw [← List.mem_append, List.take_append_drop]
  rw [e]
  simp only [List.mem_append, List.mem_singleton]
  constructor
  · rintro ((h | h) | h)
    · exact Or.inr (Or.inl h)
    · exact Or.inl h
    · exact Or.inr (Or.inr h)
  · rintro (h | h | h)
    · exact Or.inl (Or.inr h)
    · exact Or.inl (Or.inl h)
    · exact Or.inr h
theorem str_at {w : World} {base g cap n : Nat} {l : List ByteArray} (h : w.ownsRow base 9 1 (.slice (some ⟨g, 0, none⟩) n cap) n (strCells l)) (i : Nat) (hi : i < l.length) : w.cell? ⟨g, i, none⟩ = some (.string l[i]) :=
  row_cells h i _ (by simp [strCells, List.getElem?_eq_getElem hi])
set_option maxRecDepth 100000 in
set_option maxHeartbeats 1000000 in
theorem put_some (g cap base : Nat) (l : List ByteArray) (s : ByteArray) (w : World) (hn : l.length ≤ 8000000) (hl : Asc l) (hr : w.ownsRow base 9 1 (.slice (some ⟨g, 0, none⟩) l.length cap) l.length (strCells l)) (hb : base ≤ w.heap.size) :
    Calls Try.prog 54 #[.slice (some ⟨g, 0, none⟩) l.length cap, .string s] w fun e w' => ∃ v, e = .returned v ∧ ∃ l', w'.ownsRow base 9 1 v l'.length (strCells l') ∧ Asc l' ∧ (∀ x, x ∈ l' ↔ x = s ∨ x ∈ l) ∧ l'.length ≤ l.length + 1 ∧ v ≠ .slice none 0 0 ∧ Chg nobody w w' := by
  obtain ⟨i0, hi, hz0, hz1, hz2⟩ := info_parts info9
  have HC : Hid (w.ownsRow base 9 1 (.slice (some ⟨g, 0, none⟩) l.length cap) l.length (strCells l) ∧ Asc l) := ⟨hr, hl⟩
  have hcap : l.length ≤ cap := by
    rcases hr.2 with ⟨e, _⟩ | ⟨_, _, _, e, _, _, h, _⟩
    · cases e
    · cases e; exact h
  clear hr hl
  go_enter Try.func54, Try.ntmps54
  go_wp2
  go_loop [5, 6] (fun a i => ∃ k m : Nat, k ≤ l.length ∧ i = .int .i64 k ∧ a = .int .i64 m ∧ m ≤ k ∧ Hid ((∀ i (h : i < l.length), i < k → l[i] ≠ s) ∧ (∀ i (h : i < l.length), i < m → ltB l[i] s) ∧ (∀ i (h : i < l.length), m ≤ i → i < k → ltB s l[i]))) (fun _ i => l.length - (intOf i).toNat)
  case atStart => exact ⟨0, 0, Nat.zero_le _, rfl, rfl, Nat.le_refl _, fun i _ h => by omega, fun i _ h => by omega, fun i _ _ h => by omega⟩
  case round =>
    obtain ⟨k, m, hk, rfl, rfl, hmk, HN⟩ := hrel
    by_cases hlt : k < l.length
    · have hce := str_at HC.out.1 k hlt
      by_cases he : l[k] = s
      · obtain ⟨b1, b1'⟩ := ba_t he
        have HE : Hid (l[k] = s) := he
        clear he
        go_wp2
        go_ret
        exact ⟨_, rfl, l, HC.out.1, HC.out.2, fun x => ⟨Or.inr, fun h => h.elim (fun e => by rw [e, ← HE.out]; exact List.getElem_mem _) id⟩, by omega, (fun e => by cases e), Chg.refl _ _⟩
      · obtain ⟨b1, b1'⟩ := ba_f he
        by_cases hs : ltB l[k] s
        · have b2 := ltB_t hs
          have HE : Hid (l[k] ≠ s ∧ ltB l[k] s) := ⟨he, hs⟩
          clear he hs
          go_wp2
          go_round
          case rel =>
            obtain ⟨n1, n2, n3⟩ := HN.out
            refine ⟨k + 1, k + 1, by omega, by go_num, by go_num, Nat.le_refl _, fun i h hi => ?_, fun i h hi => ?_, fun i h h1 h2 => by omega⟩
            · by_cases hik : i = k
              · subst hik; exact HE.out.1
              · exact n1 i h (by omega)
            · by_cases hik : i = k
              · subst hik; exact HE.out.2
              · have := List.pairwise_iff_getElem.1 HC.out.2 i k h hlt (by omega)
                exact ltB_trans this HE.out.2
          case measure => simp [intOf]; omega
        · have b2 := ltB_f hs
          have HE : Hid (l[k] ≠ s ∧ ltB s l[k]) := ⟨he, ltB_tri hs he⟩
          clear he hs
          go_wp2
          go_round
          case rel =>
            obtain ⟨n1, n2, n3⟩ := HN.out
            refine ⟨k + 1, m, by omega, by go_num, rfl, by omega, fun i h hi => ?_, n2, fun i h h1 h2 => ?_⟩
            · by_cases hik : i = k
              · subst hik; exact HE.out.1
              · exact n1 i h (by omega)
            · by_cases hik : i = k
              · subst hik; exact HE.out.2
              · exact n3 i h h1 (by omega)
          case measure => simp [intOf]; omega
    · have hkl : k = l.length := by omega
      subst hkl
      have HF : Hid (Asc (l.take m ++ [s] ++ l.drop m) ∧ ∀ x, x ∈ l.take m ++ [s] ++ l.drop m ↔ x = s ∨ x ∈ l) := ⟨asc_insert hmk HC.out.2 HN.out.2.1 (fun i h hi => HN.out.2.2 i h hi h), mem_insert⟩
      have HY0 : Hid ((∀ j u, (strCells (l.take m))[j]? = some u → w.cell? ((⟨g, 0, none⟩ : Addr).add j) = some u) ∧ ∀ j u, (strCells (l.drop m))[j]? = some u → w.cell? ((⟨g, m, none⟩ : Addr).add j) = some u) := by
        have hx : ∀ i (h : i < l.length), w.cell? ⟨g, i, none⟩ = some (.string l[i]) := fun i h => str_at HC.out.1 i h
        constructor
        · intro j u hu
          have hj := (List.getElem?_eq_some_iff.1 hu).1
          simp only [strCells, List.length_map, List.length_take] at hj
          rw [addr_add, Nat.zero_add, hx j (by omega)]
          simpa [strCells, List.getElem?_take, show j < m by omega, List.getElem?_eq_getElem (show j < l.length by omega)] using hu
        · intro j u hu
          have hj := (List.getElem?_eq_some_iff.1 hu).1
          simp only [strCells, List.length_map, List.length_drop] at hj
          rw [addr_add, hx (m + j) (by omega)]
          simpa [strCells, List.getElem?_drop, List.getElem?_eq_getElem (show m + j < l.length by omega)] using hu
      by_cases hm0 : m = 0
      · subst hm0
        have HY : Hid ((∀ j u, (strCells [])[j]? = some u → w.cell? ((⟨g, 0, none⟩ : Addr).add j) = some u) ∧ ∀ j u, (strCells l)[j]? = some u → w.cell? ((⟨g, 0, none⟩ : Addr).add j) = some u) := ⟨fun j u hu => by simp [strCells] at hu, HY0.out.2⟩
        go_wp2_with (first | (at_builtin; refine wpList_append_own _ rfl _ _ 64 rfl w.heap.size 9 i0 (.string ⟨#[]⟩) 1 16 Try.underlying64 hi hz0 hz1 hz2 rfl (by decide) v2 _ _ rfl hown2 ⟨g, 0, none⟩ l.length cap (strCells l) rfl (by simp [strCells]) HY3.out (str_one _) (by unfold maxLen; omega) (by omega) hsz2 ?_; intro v3 w3 hown3 hg3 hnil3) | (at_builtin; refine wpList_append_own _ rfl _ _ 64 rfl w.heap.size 9 i0 (.string ⟨#[]⟩) 1 16 Try.underlying64 hi hz0 hz1 hz2 rfl (by decide) v1 _ _ rfl (hown1.alloc _) ⟨w1.heap.size, 0, none⟩ 1 1 [.string s] rfl rfl (cells_new w1 #[.string s] 9) (by simp [Value.oneCell']) (by unfold maxLen; omega) (by omega) (by simp; omega) ?_; intro v2 w2 hown2 hg2 hnil2; have hc2 : Chg nobody w w2 := (hc1.alloc _).grown hg2 (fun k e => Or.inr (hown1.lt k e).1); have hsz2 : w.heap.size ≤ w2.heap.size := hc2.size; have HY3 : Hid (∀ j u, (strCells l)[j]? = some u → w2.cell? ((⟨g, 0, none⟩ : Addr).add j) = some u) := (fun j u hu => by have h0 := HY.out.2 j u hu; rw [hc2.below.cell (lt_of_cell h0)]; exact h0)) | (at_builtin; refine wpList_append_own _ rfl _ _ 64 rfl w.heap.size 9 i0 (.string ⟨#[]⟩) 1 16 Try.underlying64 hi hz0 hz1 hz2 rfl (by decide) _ 0 [] rfl (World.ownsRow_nil _ _ _ _) ⟨g, 0, none⟩ 0 cap (strCells []) rfl (by simp [strCells]; try omega) HY.out.1 (str_one _) (by unfold maxLen; omega) (by omega) (Nat.le_refl _) ?_; intro v1 w1 hown1 hg1 _; have hc1 : Chg nobody w w1 := (Chg.refl _ _).grown hg1 (fun k e => by cases e); have hsz1 : w.heap.size ≤ w1.heap.size := hc1.size))
        go_ret
        refine ⟨_, rfl, l.take (0) ++ [s] ++ l.drop (0), ?_, HF.out.1, HF.out.2, by simp; try omega, (fun e => by have := (hnil3.1 e).1; have := (hnil2.1 this).2; omega), hc2.grown hg3 (fun k e => Or.inr (hown2.lt k e).1)⟩
        refine ownsRow_base (base := w.heap.size) ?_ hb
        have e1 : (l.take (0) ++ [s] ++ l.drop (0)).length = 0 + 0 + 1 + l.length := by simp; try omega
        have e2 : strCells (l.take (0) ++ [s] ++ l.drop (0)) = [] ++ strCells [] ++ [.string s] ++ strCells l := by simp [strCells]
        rw [e1, e2]
        exact hown3
      · by_cases hcm : cap = m
        · have hml : m = l.length := by omega
          subst hml
          subst hcm
          have HY : Hid ((∀ j u, (strCells l)[j]? = some u → w.cell? ((⟨g, 0, none⟩ : Addr).add j) = some u) ∧ ∀ j u, (strCells [])[j]? = some u → w.cell? ((⟨g, 0, none⟩ : Addr).add j) = some u) := ⟨fun j u hu => HY0.out.1 j u (by rw [List.take_length]; exact hu), fun j u hu => by simp [strCells] at hu⟩
          go_wp2_with (first | (at_builtin; refine wpList_append_own _ rfl _ _ 64 rfl w.heap.size 9 i0 (.string ⟨#[]⟩) 1 16 Try.underlying64 hi hz0 hz1 hz2 rfl (by decide) v2 _ _ rfl hown2 ⟨g, 0, none⟩ 0 0 (strCells []) rfl (by simp [strCells]) HY3.out (str_one _) (by unfold maxLen; omega) (by omega) hsz2 ?_; intro v3 w3 hown3 hg3 hnil3) | (at_builtin; refine wpList_append_own _ rfl _ _ 64 rfl w.heap.size 9 i0 (.string ⟨#[]⟩) 1 16 Try.underlying64 hi hz0 hz1 hz2 rfl (by decide) v1 _ _ rfl (hown1.alloc _) ⟨w1.heap.size, 0, none⟩ 1 1 [.string s] rfl rfl (cells_new w1 #[.string s] 9) (by simp [Value.oneCell']) (by unfold maxLen; omega) (by omega) (by simp; omega) ?_; intro v2 w2 hown2 hg2 hnil2; have hc2 : Chg nobody w w2 := (hc1.alloc _).grown hg2 (fun k e => Or.inr (hown1.lt k e).1); have hsz2 : w.heap.size ≤ w2.heap.size := hc2.size; have HY3 : Hid (∀ j u, (strCells [])[j]? = some u → w2.cell? ((⟨g, 0, none⟩ : Addr).add j) = some u) := (fun j u hu => by have h0 := HY.out.2 j u hu; rw [hc2.below.cell (lt_of_cell h0)]; exact h0)) | (at_builtin; refine wpList_append_own _ rfl _ _ 64 rfl w.heap.size 9 i0 (.string ⟨#[]⟩) 1 16 Try.underlying64 hi hz0 hz1 hz2 rfl (by decide) _ 0 [] rfl (World.ownsRow_nil _ _ _ _) ⟨g, 0, none⟩ l.length l.length (strCells l) rfl (by simp [strCells]; try omega) HY.out.1 (str_one _) (by unfold maxLen; omega) (by omega) (Nat.le_refl _) ?_; intro v1 w1 hown1 hg1 _; have hc1 : Chg nobody w w1 := (Chg.refl _ _).grown hg1 (fun k e => by cases e); have hsz1 : w.heap.size ≤ w1.heap.size := hc1.size))
          go_ret
          refine ⟨_, rfl, l.take (l.length) ++ [s] ++ l.drop (l.length), ?_, HF.out.1, HF.out.2, by simp; try omega, (fun e => by have := (hnil3.1 e).1; have := (hnil2.1 this).2; omega), hc2.grown hg3 (fun k e => Or.inr (hown2.lt k e).1)⟩
          refine ownsRow_base (base := w.heap.size) ?_ hb
          have e1 : (l.take (l.length) ++ [s] ++ l.drop (l.length)).length = 0 + l.length + 1 + 0 := by simp; try omega
          have e2 : strCells (l.take (l.length) ++ [s] ++ l.drop (l.length)) = [] ++ strCells l ++ [.string s] ++ strCells [] := by simp [strCells]
          rw [e1, e2]
          exact hown3
        · have HY := HY0
          go_wp2_with (first | (at_builtin; refine wpList_append_own _ rfl _ _ 64 rfl w.heap.size 9 i0 (.string ⟨#[]⟩) 1 16 Try.underlying64 hi hz0 hz1 hz2 rfl (by decide) v2 _ _ rfl hown2 ⟨g, m, none⟩ (l.length - m) (cap - m) (strCells (l.drop m)) rfl (by simp [strCells]) HY3.out (str_one _) (by unfold maxLen; omega) (by omega) hsz2 ?_; intro v3 w3 hown3 hg3 hnil3) | (at_builtin; refine wpList_append_own _ rfl _ _ 64 rfl w.heap.size 9 i0 (.string ⟨#[]⟩) 1 16 Try.underlying64 hi hz0 hz1 hz2 rfl (by decide) v1 _ _ rfl (hown1.alloc _) ⟨w1.heap.size, 0, none⟩ 1 1 [.string s] rfl rfl (cells_new w1 #[.string s] 9) (by simp [Value.oneCell']) (by unfold maxLen; omega) (by omega) (by simp; omega) ?_; intro v2 w2 hown2 hg2 hnil2; have hc2 : Chg nobody w w2 := (hc1.alloc _).grown hg2 (fun k e => Or.inr (hown1.lt k e).1); have hsz2 : w.heap.size ≤ w2.heap.size := hc2.size; have HY3 : Hid (∀ j u, (strCells (l.drop m))[j]? = some u → w2.cell? ((⟨g, m, none⟩ : Addr).add j) = some u) := (fun j u hu => by have h0 := HY.out.2 j u hu; rw [hc2.below.cell (lt_of_cell h0)]; exact h0)) | (at_builtin; refine wpList_append_own _ rfl _ _ 64 rfl w.heap.size 9 i0 (.string ⟨#[]⟩) 1 16 Try.underlying64 hi hz0 hz1 hz2 rfl (by decide) _ 0 [] rfl (World.ownsRow_nil _ _ _ _) ⟨g, 0, none⟩ m cap (strCells (l.take m)) rfl (by simp [strCells]; try omega) HY.out.1 (str_one _) (by unfold maxLen; omega) (by omega) (Nat.le_refl _) ?_; intro v1 w1 hown1 hg1 _; have hc1 : Chg nobody w w1 := (Chg.refl _ _).grown hg1 (fun k e => by cases e); have hsz1 : w.heap.size ≤ w1.heap.size := hc1.size))
          go_ret
          refine ⟨_, rfl, l.take (m) ++ [s] ++ l.drop (m), ?_, HF.out.1, HF.out.2, by simp; try omega, (fun e => by have := (hnil3.1 e).1; have := (hnil2.1 this).2; omega), hc2.grown hg3 (fun k e => Or.inr (hown2.lt k e).1)⟩
          refine ownsRow_base (base := w.heap.size) ?_ hb
          have e1 : (l.take (m) ++ [s] ++ l.drop (m)).length = 0 + m + 1 + (l.length - m) := by simp; try omega
          have e2 : strCells (l.take (m) ++ [s] ++ l.drop (m)) = [] ++ strCells (l.take m) ++ [.string s] ++ strCells (l.drop m) := by simp [strCells]
          rw [e1, e2]
          exact hown3
set_option maxRecDepth 100000 in
set_option maxHeartbeats 1000000 in
theorem put_nil (base : Nat) (s : ByteArray) (w : World) (hb : base ≤ w.heap.size) :
    Calls Try.prog 54 #[.slice none 0 0, .string s] w fun e w' => ∃ v, e = .returned v ∧ w'.ownsRow base 9 1 v 1 (strCells [s]) ∧ v ≠ .slice none 0 0 ∧ Chg nobody w w' := by
  obtain ⟨i0, hi, hz0, hz1, hz2⟩ := info_parts info9
  go_enter Try.func54, Try.ntmps54
  go_wp2
  refine wp_loop_rounds 1 ?_
  rw [rounds_succ]
  go_wp2_with (first | (at_builtin; refine wpList_append_own_none rfl _ _ 64 rfl w.heap.size 9 i0 1 Try.underlying64 hi v2 _ _ rfl hown2 rfl ?_) | (at_builtin; refine wpList_append_own _ rfl _ _ 64 rfl w.heap.size 9 i0 (.string ⟨#[]⟩) 1 16 Try.underlying64 hi hz0 hz1 hz2 rfl (by decide) (.slice none 0 0) 0 [] rfl (World.ownsRow_nil _ _ _ _) ⟨w.heap.size, 0, none⟩ 1 1 [.string s] rfl rfl (cells_new w #[.string s] 9) (by simp [Value.oneCell']) (by decide) (by omega) (by simp) ?_; intro v2 w2 hown2 hg2 hnil2) | (at_builtin; refine wpList_append_own_none rfl _ _ 64 rfl w.heap.size 9 i0 1 Try.underlying64 hi (.slice none 0 0) 0 [] rfl (World.ownsRow_nil _ _ _ _) rfl ?_))
  go_ret
  exact ⟨_, rfl, ownsRow_base (by simpa [strCells] using hown2) hb, fun e => by have := (hnil2.1 e).2; omega, ((Chg.refl _ _).alloc _).grown hg2 (fun k e => by cases e)⟩
theorem put_any (base : Nat) (v : Value) (l : List ByteArray) (s : ByteArray) (w : World) (hn : l.length ≤ 8000000) (hl : Asc l) (hr : w.ownsRow base 9 1 v l.length (strCells l)) (hb : base ≤ w.heap.size) :
    Calls Try.prog 54 #[v, .string s] w fun e w' => ∃ v, e = .returned v ∧ ∃ l', w'.ownsRow base 9 1 v l'.length (strCells l') ∧ Asc l' ∧ (∀ x, x ∈ l' ↔ x = s ∨ x ∈ l) ∧ l'.length ≤ l.length + 1 ∧ v ≠ .slice none 0 0 ∧ Chg nobody w w' := by
  rcases hr.2 with ⟨rfl, h0⟩ | ⟨g, cap, cur, rfl, _⟩
  · have hl0 : l = [] := List.eq_nil_of_length_eq_zero h0
    subst hl0
    refine (put_nil base s w hb).mono ?_
    rintro e w' ⟨v, rfl, h1, h2, h3⟩
    exact ⟨v, rfl, [s], h1, List.pairwise_singleton _ _, by simp, by simp, h2, h3⟩
  · exact put_some g cap base l s w hn hl hr hb
end Go.Proofs.Ytcpjocgpahjcjaa
