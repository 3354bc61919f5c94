import Derived.Test.YtcpjocgpahjcjaaRW
namespace Go.Proofs.Ytcpjocgpahjcjaa
open Go.RowKit Go.Sort
theorem quiet_q {f : Nat} {args : Array Value} {w : World} {q n : Nat} {r : Value} (h : ∀ W, Calls Try.prog f args W fun e w' => e = .returned r ∧ w' = W) : Calls Try.prog f args (w.drewN (q + n)) fun e w'' => e = .returned r ∧ ∃ m, w'' = w.drewN (q + m) :=
  (h _).mono (fun _ _ h => ⟨h.1, n, h.2⟩)
theorem quiet_q' {f : Nat} {args : Array Value} {w : World} {q q' n : Nat} {r : Value} (h : ∀ W, Calls Try.prog f args W fun e w' => e = .returned r ∧ w' = W) : Calls Try.prog f args (w.drewN (q + (q' + n))) fun e w'' => e = .returned r ∧ ∃ m, w'' = w.drewN (q + (q' + m)) :=
  (h _).mono (fun _ _ h => ⟨h.1, n, h.2⟩)
set_option maxRecDepth 100000 in
set_option maxHeartbeats 4000000 in
theorem same_some (g g' c c' base base' : Nat) (As : List AnsM) (sla slb : List Sl) (w : World) (hn : As.length ≤ 1500000) (hra : w.ownsRow base 36 7 (.slice (some ⟨g, 0, none⟩) As.length c) As.length (ansCells As sla)) (hia : ItemsAt w base As sla) (hrb : w.ownsRow base' 36 7 (.slice (some ⟨g', 0, none⟩) As.length c') As.length (ansCells As slb)) (hib : ItemsAt w base' As slb) :
    Calls Try.prog 15 #[.slice (some ⟨g, 0, none⟩) As.length c, .slice (some ⟨g', 0, none⟩) As.length c'] w fun e w' => e = .returned (.bool true) ∧ ∃ n, w' = w.drewN n := by
  have HC : Hid (∀ j, j < As.length → ∀ W : World, (∃ m, W = w.drewN m) → ∃ (A : AnsM) (x y : Sl),
      (W.cell? ⟨g, j * 7, none⟩ = some (.int .i64 A.code) ∧ W.cell? ⟨g, j * 7 + 1, none⟩ = some (.int .i64 A.number) ∧ W.cell? ⟨g, j * 7 + 2, none⟩ = some (.bool A.found) ∧ W.cell? ⟨g, j * 7 + 3, none⟩ = some (.string A.value) ∧ W.cell? ⟨g, j * 7 + 4, none⟩ = some (slV x) ∧ W.cell? ⟨g, j * 7 + 5, none⟩ = some (.slice none 0 0)) ∧ W.cell? ⟨g, j * 7 + 6, none⟩ = some (.slice none 0 0) ∧
      (W.cell? ⟨g', j * 7, none⟩ = some (.int .i64 A.code) ∧ W.cell? ⟨g', j * 7 + 1, none⟩ = some (.int .i64 A.number) ∧ W.cell? ⟨g', j * 7 + 2, none⟩ = some (.bool A.found) ∧ W.cell? ⟨g', j * 7 + 3, none⟩ = some (.string A.value) ∧ W.cell? ⟨g', j * 7 + 4, none⟩ = some (slV y) ∧ W.cell? ⟨g', j * 7 + 5, none⟩ = some (.slice none 0 0)) ∧ W.cell? ⟨g', j * 7 + 6, none⟩ = some (.slice none 0 0) ∧
      (∀ l, Calls Try.prog 19 #[slV x, slV y] (W.drewN l) fun e w' => e = .returned (.bool true) ∧ ∃ n, w' = (W.drewN l).drewN n)) := fun j hj W hW => by
    obtain ⟨m, rfl⟩ := hW
    have p1 := ans_cells hia.1 hra j hj
    have p2 := ans_cells hib.1 hrb j hj
    have p3 := ans_cells6 hia.1 hra j hj
    have p4 := ans_cells6 hib.1 hrb j hj
    have i1 := hia.at j hj
    have i2 := hib.at j hj
    exact ⟨As[j], sla[j]'(by rw [hia.1]; exact hj), slb[j]'(by rw [hib.1]; exact hj), p1, p3, p2, p4, fun l => lawItems_any _ _ _ _ _ ((w.drewN m).drewN l) i1 i2⟩
  clear hra hia hrb hib
  go_enter Try.func15, Try.ntmps15
  go_wp2_with fail
  go_loopw [5] (fun i wr => ∃ (j m : Nat), j ≤ As.length ∧ i = .int .i64 j ∧ wr = w.drewN m) (fun i _ => As.length - (intOf i).toNat)
  case atStart => exact ⟨0, 0, Nat.zero_le _, rfl, rfl⟩
  case round =>
    obtain ⟨j, m, hj, rfl, hwr⟩ := hrel
    have HW : Hid (∃ m, wr = w.drewN m) := ⟨m, hwr⟩
    clear hwr
    by_cases hlt : j < As.length
    · obtain ⟨A, x, y, ⟨a0, a1, a2, a3, a4, a5⟩, a6, ⟨b0, b1, b2, b3, b4, b5⟩, b6, hs⟩ := HC.out j hlt wr HW.out
      have HS : Hid (∀ l, Calls Try.prog 19 #[slV x, slV y] (wr.drewN l) fun e w' => e = .returned (.bool true) ∧ ∃ n, w' = (wr.drewN l).drewN n) := hs
      clear hs
      obtain ⟨code, number, found, value, items⟩ := A
      obtain ⟨x1, x2, x3⟩ := x
      obtain ⟨y1, y2, y3⟩ := y
      simp only [slV] at a4 b4
      have hjo : (j : Int) < (As.length : Int) := by omega
      go_wp2_with fail
      go_quiet ((go_at_call 19; exact Calls.quiet_of (HS.out _)))
      go_wp2_with fail
      go_quiet ((go_at_call 20; exact quiet_q sameDone_nil))
      go_wp2_with fail
      go_quiet ((go_at_call 21; first | exact quiet_q sameInts_nil | exact quiet_q' sameInts_nil))
      go_wp2_with fail
      go_quiet ((go_at_call 22; first | exact quiet_q (num_any _) | exact quiet_q' (num_any _)))
      go_wp2
      go_roundw
      case rel =>
        obtain ⟨m, hm⟩ := HW.out
        exact ⟨j + 1, _, by omega, by go_num, by rw [hm]; simp only [World.drewN_drewN]; rfl⟩
      case measure => simp [intOf]; omega
    · go_wp2
      go_ret
      exact ⟨rfl, HW.out⟩
end Go.Proofs.Ytcpjocgpahjcjaa
