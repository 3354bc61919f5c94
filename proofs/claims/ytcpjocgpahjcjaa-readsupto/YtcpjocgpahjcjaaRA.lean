import Derived.Test.YtcpjocgpahjcjaaTO
namespace Go.Proofs.Ytcpjocgpahjcjaa
open Go.RowKit Go.Sort
/-- cells of a list whose elements have k cells each. -/
theorem flat_at {α : Type} {k : Nat} (f : α → List Value) (hf : ∀ x, (f x).length = k) : ∀ (l : List α) (i r : Nat) (hi : i < l.length), r < k → (l.flatMap f)[i * k + r]? = (f l[i])[r]?
  | x :: l, 0, r, _, hr => by
    rw [List.flatMap_cons, List.getElem?_append_left (by rw [hf]; omega)]
    simp
  | x :: l, i + 1, r, hi, hr => by
    rw [List.flatMap_cons, List.getElem?_append_right (by rw [hf, Nat.succ_mul]; omega), hf, show (i + 1) * k + r - k = i * k + r by rw [Nat.succ_mul]; omega]
    simpa using flat_at f hf l i r (by simpa using hi) hr
theorem flat_len {α : Type} {k : Nat} (f : α → List Value) (hf : ∀ x, (f x).length = k) : ∀ l : List α, (l.flatMap f).length = l.length * k
  | [] => by simp
  | x :: l => by rw [List.flatMap_cons, List.length_append, hf, flat_len f hf l, List.length_cons, Nat.succ_mul]; omega
theorem row_form {w : World} {base : Nat} {e : TypeId} {k n : Nat} {v : Value} {xs : List Value} (h : w.ownsRow base e k v n xs) : ∃ ad cap, v = .slice ad n cap := by
  rcases h.2 with ⟨rfl, rfl⟩ | ⟨g, cap, cur, rfl, _⟩
  · exact ⟨none, 0, rfl⟩
  · exact ⟨_, cap, rfl⟩
theorem row_open {w : World} {base : Nat} {e : TypeId} {k n cap : Nat} {ad : Option Addr} {xs : List Value} (h : w.ownsRow base e k (.slice ad n cap) n xs) (hn : 0 < n) : ∃ g, ad = some ⟨g, 0, none⟩ ∧ base ≤ g ∧ g < w.heap.size ∧ n ≤ cap ∧ ∀ j u, xs[j]? = some u → w.cell? ⟨g, j, none⟩ = some u := by
  rcases h.2 with ⟨e0, rfl⟩ | ⟨g, cap', cur, e0, hb, hg, hcap, _⟩
  · omega
  · cases e0
    exact ⟨g, rfl, hb, lt_of_block hg, hcap, fun j u hu => row_cells h j u hu⟩
/-- The reference's versions. -/
structure Ver where
  key : ByteArray
  time : Int
  val : ByteArray
  gone : Bool
def Ver.cells (v : Ver) : List Value := [.string v.key, .int .i64 v.time, .string v.val, .bool v.gone]
def verCells (l : List Ver) : List Value := l.flatMap Ver.cells
theorem ver_at {w : World} {base g cap n : Nat} {l : List Ver} (h : w.ownsRow base 72 4 (.slice (some ⟨g, 0, none⟩) n cap) n (verCells l)) (i : Nat) (hi : i < l.length) :
    w.cell? ⟨g, i * 4, none⟩ = some (.string l[i].key) ∧ w.cell? ⟨g, i * 4 + 1, none⟩ = some (.int .i64 l[i].time) ∧ w.cell? ⟨g, i * 4 + 2, none⟩ = some (.string l[i].val) ∧ w.cell? ⟨g, i * 4 + 3, none⟩ = some (.bool l[i].gone) := by
  have g0 : ∀ r u, r < 4 → (l[i].cells)[r]? = some u → w.cell? ⟨g, i * 4 + r, none⟩ = some u := fun r u hr hu => row_cells h _ u (by unfold verCells; rw [flat_at Ver.cells (fun _ => rfl) l i r hi hr]; exact hu)
  exact ⟨g0 0 _ (by omega) rfl, g0 1 _ (by omega) rfl, g0 2 _ (by omega) rfl, g0 3 _ (by omega) rfl⟩
set_option maxHeartbeats 400000 in
theorem no_any (c : Int) (w : World) : Calls Try.prog 26 #[.int .i64 c] w fun e w' => e = .returned (ansV c 0 false ⟨#[]⟩ (.slice none 0 0)) ∧ Chg nobody w w' := by
  go_enter Try.func26, Try.ntmps26
  go_wp2
  exact bodyPost_ret (v := ansV c 0 false ⟨#[]⟩ (.slice none 0 0)) (by simp [results, Try.results26, go_sem]) rfl ⟨rfl, (Chg.refl _ _).alloc _⟩
def findI (ss : List Int) (n : Int) : Int := match ss.findIdx? (· == n) with | some j => j | none => -1
theorem findI_hit {ss : List Int} {n : Int} {k : Nat} (h : k < ss.length) (he : ss[k] = n) (hn : ∀ i (h : i < ss.length), i < k → ss[i] ≠ n) : findI ss n = k := by
  unfold findI
  rw [List.findIdx?_eq_some_iff_getElem.2 ⟨h, by simpa using he, fun j hj => by simpa using hn j (by omega) hj⟩]
theorem findI_miss {ss : List Int} {n : Int} (hn : ∀ i (h : i < ss.length), ss[i] ≠ n) : findI ss n = -1 := by
  unfold findI
  rw [List.findIdx?_eq_none_iff.2 (fun x hx => by obtain ⟨i, h, rfl⟩ := List.getElem_of_mem hx; simpa using hn i h)]
set_option maxHeartbeats 1000000 in
theorem find_any (wb c : Nat) (ad : Option Addr) (ss : List Int) (n : Int) (w : World) (hl : ss.length ≤ 2000000) (h2 : w.cell? ⟨wb, 2, none⟩ = some (.slice ad ss.length c)) (hc : 0 < ss.length → ∃ g, ad = some ⟨g, 0, none⟩ ∧ ∀ j (h : j < ss.length), w.cell? ⟨g, j * 4, none⟩ = some (.int .i64 ss[j])) :
    Calls Try.prog 27 #[.pointer (some ⟨wb, 0, none⟩), .int .i64 n] w fun e w' => e = .returned (.int .i64 (findI ss n)) ∧ w' = w := by
  have HC : Hid (0 < ss.length → ∃ g, ad = some ⟨g, 0, none⟩ ∧ ∀ j (h : j < ss.length), w.cell? ⟨g, j * 4, none⟩ = some (.int .i64 ss[j])) := hc
  clear hc
  go_enter Try.func27, Try.ntmps27
  go_wp2
  go_loop [5] (fun i => ∃ k : Nat, k ≤ ss.length ∧ i = .int .i64 k ∧ Hid (∀ i (h : i < ss.length), i < k → ss[i] ≠ n)) (fun i => ss.length - (intOf i).toNat)
  case atStart => exact ⟨0, Nat.zero_le _, rfl, fun i _ h => by omega⟩
  case round =>
    obtain ⟨k, hk, rfl, HN⟩ := hrel
    by_cases hlt : k < ss.length
    · obtain ⟨g, rfl, hcg⟩ := HC.out (by omega)
      have hce := hcg k hlt
      clear hcg
      by_cases he : ss[k] = n
      · have hb : (ss[k] == n) = true := beq_iff_eq.2 he
        have HE : Hid (ss[k] = n) := he
        clear he
        go_wp2
        go_ret
        exact ⟨congrArg (fun x => Ending.returned (Value.int .i64 x)) (findI_hit hlt HE.out HN.out).symm, rfl⟩
      · have hb : (ss[k] == n) = false := beq_eq_false_iff_ne.2 he
        have HE : Hid (ss[k] ≠ n) := he
        clear he
        go_wp2
        go_round
        case rel => exact ⟨k + 1, by omega, by go_num, fun i h hi => by
          by_cases hik : i = k
          · subst hik; exact HE.out
          · exact HN.out i h (by omega)⟩
        case measure => simp [intOf]; omega
    · go_wp2
      go_ret
      exact ⟨congrArg (fun x => Ending.returned (Value.int .i64 x)) (findI_miss (fun i h => HN.out i h (by omega))).symm, rfl⟩
set_option maxHeartbeats 1000000 in
theorem queued_any (wb c : Nat) (ad : Option Addr) (ss : List Int) (n : Int) (w : World) (hl : ss.length ≤ 2000000) (h2 : w.cell? ⟨wb, 3, none⟩ = some (.slice ad ss.length c)) (hc : 0 < ss.length → ∃ g, ad = some ⟨g, 0, none⟩ ∧ ∀ j (h : j < ss.length), w.cell? ⟨g, j, none⟩ = some (.int .i64 ss[j])) :
    Calls Try.prog 28 #[.pointer (some ⟨wb, 0, none⟩), .int .i64 n] w fun e w' => e = .returned (.bool (decide (n ∈ ss))) ∧ w' = w := by
  have HC : Hid (0 < ss.length → ∃ g, ad = some ⟨g, 0, none⟩ ∧ ∀ j (h : j < ss.length), w.cell? ⟨g, j, none⟩ = some (.int .i64 ss[j])) := hc
  clear hc
  go_enter Try.func28, Try.ntmps28
  go_wp2
  go_loop [5] (fun i => ∃ k : Nat, k ≤ ss.length ∧ i = .int .i64 k ∧ Hid (∀ i (h : i < ss.length), i < k → ss[i] ≠ n)) (fun i => ss.length - (intOf i).toNat)
  case atStart => exact ⟨0, Nat.zero_le _, rfl, fun i _ h => by omega⟩
  case round =>
    obtain ⟨k, hk, rfl, HN⟩ := hrel
    by_cases hlt : k < ss.length
    · obtain ⟨g, rfl, hcg⟩ := HC.out (by omega)
      have hce := hcg k hlt
      clear hcg
      by_cases he : ss[k] = n
      · have hb : (ss[k] == n) = true := beq_iff_eq.2 he
        have HE : Hid (ss[k] = n) := he
        clear he
        go_wp2
        go_ret
        exact ⟨congrArg (fun x => Ending.returned (Value.bool x)) (show decide (n ∈ ss) = true from decide_eq_true (by rw [← HE.out]; exact List.getElem_mem _)).symm, rfl⟩
      · have hb : (ss[k] == n) = false := beq_eq_false_iff_ne.2 he
        have HE : Hid (ss[k] ≠ n) := he
        clear he
        go_wp2
        go_round
        case rel => exact ⟨k + 1, by omega, by go_num, fun i h hi => by
          by_cases hik : i = k
          · subst hik; exact HE.out
          · exact HN.out i h (by omega)⟩
        case measure => simp [intOf]; omega
    · go_wp2
      go_ret
      exact ⟨congrArg (fun x => Ending.returned (Value.bool x)) (show decide (n ∈ ss) = false from decide_eq_false (fun hm => by
        obtain ⟨i, h, he⟩ := List.getElem_of_mem hm
        exact HN.out i h (by omega) he)).symm, rfl⟩
end Go.Proofs.Ytcpjocgpahjcjaa
