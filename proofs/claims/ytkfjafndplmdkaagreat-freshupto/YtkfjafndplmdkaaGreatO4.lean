import Derived.Test.YtkfjafndplmdkaaGreatO3
namespace Go.Proofs.YtkfjafndplmdkaaGreat
open Go.RowKit Go.Sort
open Go.Maps (Keyed)
def cmpM (x y : Int) : Int := if x < y then -1 else if y < x then 1 else 0
def cmpB (x y : ByteArray) : Int := if ltB x y then -1 else if ltB y x then 1 else 0
theorem ltB_t {a b : ByteArray} (h : ltB a b) : Op.bytesLess a.toList b.toList = true := by
  rw [bytesLess_eq, ByteArray.toList_eq, ByteArray.toList_eq]; exact decide_eq_true h
theorem ltB_f {a b : ByteArray} (h : ¬ ltB a b) : Op.bytesLess a.toList b.toList = false := by
  rw [bytesLess_eq, ByteArray.toList_eq, ByteArray.toList_eq]; exact decide_eq_false h
set_option maxHeartbeats 400000 in
theorem nanI_any (x : Int) (w : World) : Calls Tryz.prog 159 #[.int .i64 x] w fun e w' => e = .returned (.bool false) ∧ w' = w := by
  have hx : (x != x) = false := by simp
  go_enter Tryz.func159, Tryz.ntmps159
  go_wp2
  go_ret
  exact ⟨by simp, rfl⟩
set_option maxHeartbeats 400000 in
theorem nanS_any (x : ByteArray) (w : World) : Calls Tryz.prog 156 #[.string x] w fun e w' => e = .returned (.bool false) ∧ w' = w := by
  obtain ⟨b1, b2⟩ := ba_t (rfl : x = x)
  go_enter Tryz.func156, Tryz.ntmps156
  go_wp2
  go_ret
  exact ⟨by simp, rfl⟩
set_option maxHeartbeats 1000000 in
theorem cmpI_any (x y : Int) (w : World) : Calls Tryz.prog 149 #[.int .i64 x, .int .i64 y] w fun e w' => e = .returned (.int .i64 (cmpM x y)) ∧ w' = w := by
  by_cases hl : x < y
  · have hd : decide (x < y) = true := decide_eq_true hl
    have HV : Hid (cmpM x y = -1) := by show cmpM x y = -1; unfold cmpM; rw [if_pos hl]
    clear hl
    go_enter Tryz.func149, Tryz.ntmps149
    go_wp2_with (go_at_call 159; refine (nanI_any _ _).mono ?_; rintro e w' ⟨rfl, rfl⟩)
    go_ret
    exact ⟨by rw [HV.out]; rfl, rfl⟩
  · have hd : decide (x < y) = false := decide_eq_false hl
    by_cases hg : y < x
    · have hd2 : decide (y < x) = true := decide_eq_true hg
      have HV : Hid (cmpM x y = 1) := by show cmpM x y = 1; unfold cmpM; rw [if_neg hl, if_pos hg]
      clear hl hg
      go_enter Tryz.func149, Tryz.ntmps149
      go_wp2_with (go_at_call 159; refine (nanI_any _ _).mono ?_; rintro e w' ⟨rfl, rfl⟩)
      go_ret
      exact ⟨by rw [HV.out]; rfl, rfl⟩
    · have hd2 : decide (y < x) = false := decide_eq_false hg
      have HV : Hid (cmpM x y = 0) := by show cmpM x y = 0; unfold cmpM; rw [if_neg hl, if_neg hg]
      clear hl hg
      go_enter Tryz.func149, Tryz.ntmps149
      go_wp2_with (go_at_call 159; refine (nanI_any _ _).mono ?_; rintro e w' ⟨rfl, rfl⟩)
      go_ret
      exact ⟨by rw [HV.out]; rfl, rfl⟩
set_option maxHeartbeats 1000000 in
theorem cmpS_any (x y : ByteArray) (w : World) : Calls Tryz.prog 150 #[.string x, .string y] w fun e w' => e = .returned (.int .i64 (cmpB x y)) ∧ w' = w := by
  by_cases hl : ltB x y
  · have hd := ltB_t hl
    have HV : Hid (cmpB x y = -1) := by show cmpB x y = -1; unfold cmpB; rw [if_pos hl]
    clear hl
    go_enter Tryz.func150, Tryz.ntmps150
    go_wp2_with (go_at_call 156; refine (nanS_any _ _).mono ?_; rintro e w' ⟨rfl, rfl⟩)
    go_ret
    exact ⟨by rw [HV.out]; rfl, rfl⟩
  · have hd := ltB_f hl
    by_cases hg : ltB y x
    · have hd2 := ltB_t hg
      obtain ⟨b1, b2⟩ := ba_f (fun e : x = y => hl (by rw [e] at hg ⊢; exact hg))
      have HV : Hid (cmpB x y = 1) := by show cmpB x y = 1; unfold cmpB; rw [if_neg hl, if_pos hg]
      clear hl hg
      go_enter Tryz.func150, Tryz.ntmps150
      go_wp2_with (go_at_call 156; refine (nanS_any _ _).mono ?_; rintro e w' ⟨rfl, rfl⟩)
      go_ret
      exact ⟨by rw [HV.out]; rfl, rfl⟩
    · have hd2 := ltB_f hg
      obtain ⟨b1, b2⟩ := ba_t (Classical.byContradiction fun h => hg (ltB_tri hl h) : x = y)
      have HV : Hid (cmpB x y = 0) := by show cmpB x y = 0; unfold cmpB; rw [if_neg hl, if_neg hg]
      clear hl hg
      go_enter Tryz.func150, Tryz.ntmps150
      go_wp2_with (go_at_call 156; refine (nanS_any _ _).mono ?_; rintro e w' ⟨rfl, rfl⟩)
      go_ret
      exact ⟨by rw [HV.out]; rfl, rfl⟩
set_option maxHeartbeats 1000000 in
theorem cmpOr_any (b : Nat) (x y : Int) (w : World) (h0 : w.cell? ⟨b, 0, none⟩ = some (.int .i64 x)) (h1 : w.cell? ⟨b, 1, none⟩ = some (.int .i64 y)) :
    Calls Tryz.prog 148 #[.slice (some ⟨b, 0, none⟩) 2 2] w fun e w' => e = .returned (.int .i64 (if x = 0 then y else x)) ∧ w' = w := by
  by_cases hx : x = 0
  · subst hx
    rw [if_pos rfl]
    by_cases hy : y = 0
    · subst hy
      go_enter Tryz.func148, Tryz.ntmps148
      go_wp2
      refine wp_loop_rounds 3 ?_
      rw [rounds_succ]
      go_wp2
      rw [rounds_succ]
      go_wp2
      rw [rounds_succ]
      go_wp2
      go_ret
      exact ⟨rfl, rfl⟩
    · have hb : (y != 0) = true := by simpa using hy
      go_enter Tryz.func148, Tryz.ntmps148
      go_wp2
      refine wp_loop_rounds 2 ?_
      rw [rounds_succ]
      go_wp2
      rw [rounds_succ]
      go_wp2
      go_ret
      exact ⟨rfl, rfl⟩
  · rw [if_neg hx]
    have hb : (x != 0) = true := by simpa using hx
    go_enter Tryz.func148, Tryz.ntmps148
    go_wp2
    refine wp_loop_rounds 1 ?_
    rw [rounds_succ]
    go_wp2
    go_ret
    exact ⟨rfl, rfl⟩
end Go.Proofs.YtkfjafndplmdkaaGreat
