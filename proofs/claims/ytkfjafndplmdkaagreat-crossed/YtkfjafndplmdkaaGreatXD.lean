import Derived.Test.YtkfjafndplmdkaaGreatXC
import Derived.Deep.RegionHeld3
namespace Go.Proofs.YtkfjafndplmdkaaGreat
open Go.RowKit Go.Sort
set_option maxRecDepth 100000 in
set_option maxHeartbeats 4000000 in
theorem crossed_ffff (one two : ByteArray) (w : World) (h1 : ¬ 7 < one.size) (h2 : ¬ 7 < two.size) :
    Calls Tryz.prog 8 #[.string one, .string two, .bool false, .bool false] w fun e w' => e = .returned (.bool true) ∧ Chg nobody w w' := by
  have HA : Hid (1 ≤ ((⟨#[97]⟩ : ByteArray) ++ one).size ∧ ((⟨#[97]⟩ : ByteArray) ++ one).size ≤ 8) := one_size 97 h1
  have HB : Hid (1 ≤ ((⟨#[98]⟩ : ByteArray) ++ two).size ∧ ((⟨#[98]⟩ : ByteArray) ++ two).size ≤ 8) := one_size 98 h2
  go_enter Tryz.func8, Tryz.ntmps8
  go_wp2_with (first | (go_at_call 19; refine (op_any _ _ _ _ _).mono ?_; rintro e w' ⟨rfl, rfl⟩) | (go_at_call 22; refine (deciding_any _).mono ?_; rintro e w1 ⟨rfl, hc1⟩))
  refine name_world ?_
  intro wz hwz
  have hS : StepAt wz (w1.heap.size + 1) 2 2 (⟨#[98]⟩ ++ two) := by
    rw [hwz]
    exact step_new w1 (.cells #[.int .i64 2, .int .i64 2, .string (⟨#[98]⟩ ++ two), .string ⟨#[]⟩, .int .i64 0] 30) 2 2 (⟨#[98]⟩ ++ two)
  have HC : Hid (Chg nobody w wz) := by
    show Chg nobody w wz
    rw [hwz]
    exact (hc1.alloc _).alloc _
  clear hwz hc1
  generalize w1.heap.size + 1 = B at *
  obtain ⟨s, s0, s1, s2, s3, s4⟩ := hS
  go_region_held3 (fun w' => w'.cell? ⟨B, 0, none⟩ = some (.int .i64 2) ∧ w'.cell? ⟨B, 1, none⟩ = some (.int .i64 2) ∧ w'.cell? ⟨B, 2, none⟩ = some (.string (⟨#[98]⟩ ++ two)) ∧ w'.cell? ⟨B, 3, none⟩ = some (.string ⟨#[]⟩) ∧ w'.cell? ⟨B, 4, none⟩ = some (.int .i64 0)) (go_keep)
    (first
      | (go_at_call 19; refine (op_any _ _ _ _ _).mono ?_; rintro e w' ⟨rfl, hw'⟩; obtain ⟨s, s0, s1, s2, s3, s4⟩ := StepAt.chg (chg_alloc (Chg.refl _ _) hw') ⟨s, s0, s1, s2, s3, s4⟩; have HC : Hid (Chg nobody w w') := (by first | exact chg_alloc HC.out hw' | exact chg_alloc HC.out.drew hw'); clear hw')
      | (go_at_call 16; refine (cross_run _ _ (heap_new (by simp)) (Or.inl rfl) HA.out.1 HA.out.2 HB.out.1 HB.out.2 HA.out.1 HA.out.2 HB.out.1 HB.out.2 (hitGet _)).mono ?_; rintro e w3 ⟨g, cap, gd, cd, rfl, hc3, a8, d1, d4⟩; obtain ⟨s, s0, s1, s2, s3, s4⟩ := StepAt.chg ((Chg.refl _ _).alloc _ |>.trans hc3) ⟨s, s0, s1, s2, s3, s4⟩; have HC : Hid (Chg nobody w w3) := (HC.out.alloc _).trans hc3; clear hc3))
  go_wp2
  go_ret
  exact ⟨rfl, HC.out⟩
set_option maxRecDepth 100000 in
set_option maxHeartbeats 4000000 in
theorem crossed_ffft (one two : ByteArray) (w : World) (h1 : ¬ 7 < one.size) (h2 : 7 < two.size) :
    Calls Tryz.prog 8 #[.string one, .string two, .bool false, .bool false] w fun e w' => e = .returned (.bool true) ∧ Chg nobody w w' := by
  have HA : Hid (1 ≤ ((⟨#[97]⟩ : ByteArray) ++ one).size ∧ ((⟨#[97]⟩ : ByteArray) ++ one).size ≤ 8) := one_size 97 h1
  have HB : Hid (1 ≤ ((⟨#[98]⟩ : ByteArray) ++ two.extract 0 7).size ∧ ((⟨#[98]⟩ : ByteArray) ++ two.extract 0 7).size ≤ 8) := one_size 98 (by rw [ByteArray.size_extract]; omega)
  go_enter Tryz.func8, Tryz.ntmps8
  go_wp2_with (first | (go_at_call 19; refine (op_any _ _ _ _ _).mono ?_; rintro e w' ⟨rfl, rfl⟩) | (go_at_call 22; refine (deciding_any _).mono ?_; rintro e w1 ⟨rfl, hc1⟩))
  refine name_world ?_
  intro wz hwz
  have hS : StepAt wz (w1.heap.size + 1) 2 2 (⟨#[98]⟩ ++ two.extract 0 7) := by
    rw [hwz]
    exact step_new w1 (.cells #[.int .i64 2, .int .i64 2, .string (⟨#[98]⟩ ++ two.extract 0 7), .string ⟨#[]⟩, .int .i64 0] 30) 2 2 (⟨#[98]⟩ ++ two.extract 0 7)
  have HC : Hid (Chg nobody w wz) := by
    show Chg nobody w wz
    rw [hwz]
    exact (hc1.alloc _).alloc _
  clear hwz hc1
  generalize w1.heap.size + 1 = B at *
  obtain ⟨s, s0, s1, s2, s3, s4⟩ := hS
  go_region_held3 (fun w' => w'.cell? ⟨B, 0, none⟩ = some (.int .i64 2) ∧ w'.cell? ⟨B, 1, none⟩ = some (.int .i64 2) ∧ w'.cell? ⟨B, 2, none⟩ = some (.string (⟨#[98]⟩ ++ two.extract 0 7)) ∧ w'.cell? ⟨B, 3, none⟩ = some (.string ⟨#[]⟩) ∧ w'.cell? ⟨B, 4, none⟩ = some (.int .i64 0)) (go_keep)
    (first
      | (go_at_call 19; refine (op_any _ _ _ _ _).mono ?_; rintro e w' ⟨rfl, hw'⟩; obtain ⟨s, s0, s1, s2, s3, s4⟩ := StepAt.chg (chg_alloc (Chg.refl _ _) hw') ⟨s, s0, s1, s2, s3, s4⟩; have HC : Hid (Chg nobody w w') := (by first | exact chg_alloc HC.out hw' | exact chg_alloc HC.out.drew hw'); clear hw')
      | (go_at_call 16; refine (cross_run _ _ (heap_new (by simp)) (Or.inl rfl) HA.out.1 HA.out.2 HB.out.1 HB.out.2 HA.out.1 HA.out.2 HB.out.1 HB.out.2 (hitGet _)).mono ?_; rintro e w3 ⟨g, cap, gd, cd, rfl, hc3, a8, d1, d4⟩; obtain ⟨s, s0, s1, s2, s3, s4⟩ := StepAt.chg ((Chg.refl _ _).alloc _ |>.trans hc3) ⟨s, s0, s1, s2, s3, s4⟩; have HC : Hid (Chg nobody w w3) := (HC.out.alloc _).trans hc3; clear hc3))
  go_wp2
  go_ret
  exact ⟨rfl, HC.out⟩
set_option maxRecDepth 100000 in
set_option maxHeartbeats 4000000 in
theorem crossed_fftf (one two : ByteArray) (w : World) (h1 : 7 < one.size) (h2 : ¬ 7 < two.size) :
    Calls Tryz.prog 8 #[.string one, .string two, .bool false, .bool false] w fun e w' => e = .returned (.bool true) ∧ Chg nobody w w' := by
  have HA : Hid (1 ≤ ((⟨#[97]⟩ : ByteArray) ++ one.extract 0 7).size ∧ ((⟨#[97]⟩ : ByteArray) ++ one.extract 0 7).size ≤ 8) := one_size 97 (by rw [ByteArray.size_extract]; omega)
  have HB : Hid (1 ≤ ((⟨#[98]⟩ : ByteArray) ++ two).size ∧ ((⟨#[98]⟩ : ByteArray) ++ two).size ≤ 8) := one_size 98 h2
  go_enter Tryz.func8, Tryz.ntmps8
  go_wp2_with (first | (go_at_call 19; refine (op_any _ _ _ _ _).mono ?_; rintro e w' ⟨rfl, rfl⟩) | (go_at_call 22; refine (deciding_any _).mono ?_; rintro e w1 ⟨rfl, hc1⟩))
  refine name_world ?_
  intro wz hwz
  have hS : StepAt wz (w1.heap.size + 1) 2 2 (⟨#[98]⟩ ++ two) := by
    rw [hwz]
    exact step_new w1 (.cells #[.int .i64 2, .int .i64 2, .string (⟨#[98]⟩ ++ two), .string ⟨#[]⟩, .int .i64 0] 30) 2 2 (⟨#[98]⟩ ++ two)
  have HC : Hid (Chg nobody w wz) := by
    show Chg nobody w wz
    rw [hwz]
    exact (hc1.alloc _).alloc _
  clear hwz hc1
  generalize w1.heap.size + 1 = B at *
  obtain ⟨s, s0, s1, s2, s3, s4⟩ := hS
  go_region_held3 (fun w' => w'.cell? ⟨B, 0, none⟩ = some (.int .i64 2) ∧ w'.cell? ⟨B, 1, none⟩ = some (.int .i64 2) ∧ w'.cell? ⟨B, 2, none⟩ = some (.string (⟨#[98]⟩ ++ two)) ∧ w'.cell? ⟨B, 3, none⟩ = some (.string ⟨#[]⟩) ∧ w'.cell? ⟨B, 4, none⟩ = some (.int .i64 0)) (go_keep)
    (first
      | (go_at_call 19; refine (op_any _ _ _ _ _).mono ?_; rintro e w' ⟨rfl, hw'⟩; obtain ⟨s, s0, s1, s2, s3, s4⟩ := StepAt.chg (chg_alloc (Chg.refl _ _) hw') ⟨s, s0, s1, s2, s3, s4⟩; have HC : Hid (Chg nobody w w') := (by first | exact chg_alloc HC.out hw' | exact chg_alloc HC.out.drew hw'); clear hw')
      | (go_at_call 16; refine (cross_run _ _ (heap_new (by simp)) (Or.inl rfl) HA.out.1 HA.out.2 HB.out.1 HB.out.2 HA.out.1 HA.out.2 HB.out.1 HB.out.2 (hitGet _)).mono ?_; rintro e w3 ⟨g, cap, gd, cd, rfl, hc3, a8, d1, d4⟩; obtain ⟨s, s0, s1, s2, s3, s4⟩ := StepAt.chg ((Chg.refl _ _).alloc _ |>.trans hc3) ⟨s, s0, s1, s2, s3, s4⟩; have HC : Hid (Chg nobody w w3) := (HC.out.alloc _).trans hc3; clear hc3))
  go_wp2
  go_ret
  exact ⟨rfl, HC.out⟩
set_option maxRecDepth 100000 in
set_option maxHeartbeats 4000000 in
theorem crossed_fftt (one two : ByteArray) (w : World) (h1 : 7 < one.size) (h2 : 7 < two.size) :
    Calls Tryz.prog 8 #[.string one, .string two, .bool false, .bool false] w fun e w' => e = .returned (.bool true) ∧ Chg nobody w w' := by
  have HA : Hid (1 ≤ ((⟨#[97]⟩ : ByteArray) ++ one.extract 0 7).size ∧ ((⟨#[97]⟩ : ByteArray) ++ one.extract 0 7).size ≤ 8) := one_size 97 (by rw [ByteArray.size_extract]; omega)
  have HB : Hid (1 ≤ ((⟨#[98]⟩ : ByteArray) ++ two.extract 0 7).size ∧ ((⟨#[98]⟩ : ByteArray) ++ two.extract 0 7).size ≤ 8) := one_size 98 (by rw [ByteArray.size_extract]; omega)
  go_enter Tryz.func8, Tryz.ntmps8
  go_wp2_with (first | (go_at_call 19; refine (op_any _ _ _ _ _).mono ?_; rintro e w' ⟨rfl, rfl⟩) | (go_at_call 22; refine (deciding_any _).mono ?_; rintro e w1 ⟨rfl, hc1⟩))
  refine name_world ?_
  intro wz hwz
  have hS : StepAt wz (w1.heap.size + 1) 2 2 (⟨#[98]⟩ ++ two.extract 0 7) := by
    rw [hwz]
    exact step_new w1 (.cells #[.int .i64 2, .int .i64 2, .string (⟨#[98]⟩ ++ two.extract 0 7), .string ⟨#[]⟩, .int .i64 0] 30) 2 2 (⟨#[98]⟩ ++ two.extract 0 7)
  have HC : Hid (Chg nobody w wz) := by
    show Chg nobody w wz
    rw [hwz]
    exact (hc1.alloc _).alloc _
  clear hwz hc1
  generalize w1.heap.size + 1 = B at *
  obtain ⟨s, s0, s1, s2, s3, s4⟩ := hS
  go_region_held3 (fun w' => w'.cell? ⟨B, 0, none⟩ = some (.int .i64 2) ∧ w'.cell? ⟨B, 1, none⟩ = some (.int .i64 2) ∧ w'.cell? ⟨B, 2, none⟩ = some (.string (⟨#[98]⟩ ++ two.extract 0 7)) ∧ w'.cell? ⟨B, 3, none⟩ = some (.string ⟨#[]⟩) ∧ w'.cell? ⟨B, 4, none⟩ = some (.int .i64 0)) (go_keep)
    (first
      | (go_at_call 19; refine (op_any _ _ _ _ _).mono ?_; rintro e w' ⟨rfl, hw'⟩; obtain ⟨s, s0, s1, s2, s3, s4⟩ := StepAt.chg (chg_alloc (Chg.refl _ _) hw') ⟨s, s0, s1, s2, s3, s4⟩; have HC : Hid (Chg nobody w w') := (by first | exact chg_alloc HC.out hw' | exact chg_alloc HC.out.drew hw'); clear hw')
      | (go_at_call 16; refine (cross_run _ _ (heap_new (by simp)) (Or.inl rfl) HA.out.1 HA.out.2 HB.out.1 HB.out.2 HA.out.1 HA.out.2 HB.out.1 HB.out.2 (hitGet _)).mono ?_; rintro e w3 ⟨g, cap, gd, cd, rfl, hc3, a8, d1, d4⟩; obtain ⟨s, s0, s1, s2, s3, s4⟩ := StepAt.chg ((Chg.refl _ _).alloc _ |>.trans hc3) ⟨s, s0, s1, s2, s3, s4⟩; have HC : Hid (Chg nobody w w3) := (HC.out.alloc _).trans hc3; clear hc3))
  go_wp2
  go_ret
  exact ⟨rfl, HC.out⟩
set_option maxRecDepth 100000 in
set_option maxHeartbeats 4000000 in
theorem crossed_ftff (one two : ByteArray) (w : World) (h1 : ¬ 7 < one.size) (h2 : ¬ 7 < two.size) :
    Calls Tryz.prog 8 #[.string one, .string two, .bool false, .bool true] w fun e w' => e = .returned (.bool true) ∧ Chg nobody w w' := by
  have HA : Hid (1 ≤ ((⟨#[97]⟩ : ByteArray) ++ one).size ∧ ((⟨#[97]⟩ : ByteArray) ++ one).size ≤ 8) := one_size 97 h1
  have HB : Hid (1 ≤ ((⟨#[98]⟩ : ByteArray) ++ two).size ∧ ((⟨#[98]⟩ : ByteArray) ++ two).size ≤ 8) := one_size 98 h2
  go_enter Tryz.func8, Tryz.ntmps8
  go_wp2_with (first | (go_at_call 19; refine (op_any _ _ _ _ _).mono ?_; rintro e w' ⟨rfl, rfl⟩) | (go_at_call 22; refine (deciding_any _).mono ?_; rintro e w1 ⟨rfl, hc1⟩))
  refine name_world ?_
  intro wz hwz
  have hS : StepAt wz (w1.heap.size + 1) 2 2 ⟨#[99]⟩ := by
    rw [hwz]
    exact StepAt.chg ((Chg.refl _ _).alloc _) (step_new w1 (.cells #[.int .i64 2, .int .i64 2, .string (⟨#[98]⟩ ++ two), .string ⟨#[]⟩, .int .i64 0] 30) 2 2 ⟨#[99]⟩)
  have HC : Hid (Chg nobody w wz) := by
    show Chg nobody w wz
    rw [hwz]
    exact ((hc1.alloc _).alloc _).alloc _
  clear hwz hc1
  generalize w1.heap.size + 1 = B at *
  obtain ⟨s, s0, s1, s2, s3, s4⟩ := hS
  go_region_held3 (fun w' => w'.cell? ⟨B, 0, none⟩ = some (.int .i64 2) ∧ w'.cell? ⟨B, 1, none⟩ = some (.int .i64 2) ∧ w'.cell? ⟨B, 2, none⟩ = some (.string ⟨#[99]⟩) ∧ w'.cell? ⟨B, 3, none⟩ = some (.string ⟨#[]⟩) ∧ w'.cell? ⟨B, 4, none⟩ = some (.int .i64 0)) (go_keep)
    (first
      | (go_at_call 19; refine (op_any _ _ _ _ _).mono ?_; rintro e w' ⟨rfl, hw'⟩; obtain ⟨s, s0, s1, s2, s3, s4⟩ := StepAt.chg (chg_alloc (Chg.refl _ _) hw') ⟨s, s0, s1, s2, s3, s4⟩; have HC : Hid (Chg nobody w w') := (by first | exact chg_alloc HC.out hw' | exact chg_alloc HC.out.drew hw'); clear hw')
      | (go_at_call 16; refine (cross_run _ _ (heap_new (by simp)) (Or.inl rfl) HA.out.1 HA.out.2 (one_byte _).1 (one_byte _).2 HA.out.1 HA.out.2 HB.out.1 HB.out.2 (missGet _)).mono ?_; rintro e w3 ⟨g, cap, gd, cd, rfl, hc3, a8, d1, d4⟩; obtain ⟨s, s0, s1, s2, s3, s4⟩ := StepAt.chg ((Chg.refl _ _).alloc _ |>.trans hc3) ⟨s, s0, s1, s2, s3, s4⟩; have HC : Hid (Chg nobody w w3) := (HC.out.alloc _).trans hc3; clear hc3))
  go_wp2
  go_ret
  exact ⟨rfl, HC.out⟩
set_option maxRecDepth 100000 in
set_option maxHeartbeats 4000000 in
theorem crossed_ftft (one two : ByteArray) (w : World) (h1 : ¬ 7 < one.size) (h2 : 7 < two.size) :
    Calls Tryz.prog 8 #[.string one, .string two, .bool false, .bool true] w fun e w' => e = .returned (.bool true) ∧ Chg nobody w w' := by
  have HA : Hid (1 ≤ ((⟨#[97]⟩ : ByteArray) ++ one).size ∧ ((⟨#[97]⟩ : ByteArray) ++ one).size ≤ 8) := one_size 97 h1
  have HB : Hid (1 ≤ ((⟨#[98]⟩ : ByteArray) ++ two.extract 0 7).size ∧ ((⟨#[98]⟩ : ByteArray) ++ two.extract 0 7).size ≤ 8) := one_size 98 (by rw [ByteArray.size_extract]; omega)
  go_enter Tryz.func8, Tryz.ntmps8
  go_wp2_with (first | (go_at_call 19; refine (op_any _ _ _ _ _).mono ?_; rintro e w' ⟨rfl, rfl⟩) | (go_at_call 22; refine (deciding_any _).mono ?_; rintro e w1 ⟨rfl, hc1⟩))
  refine name_world ?_
  intro wz hwz
  have hS : StepAt wz (w1.heap.size + 1) 2 2 ⟨#[99]⟩ := by
    rw [hwz]
    exact StepAt.chg ((Chg.refl _ _).alloc _) (step_new w1 (.cells #[.int .i64 2, .int .i64 2, .string (⟨#[98]⟩ ++ two.extract 0 7), .string ⟨#[]⟩, .int .i64 0] 30) 2 2 ⟨#[99]⟩)
  have HC : Hid (Chg nobody w wz) := by
    show Chg nobody w wz
    rw [hwz]
    exact ((hc1.alloc _).alloc _).alloc _
  clear hwz hc1
  generalize w1.heap.size + 1 = B at *
  obtain ⟨s, s0, s1, s2, s3, s4⟩ := hS
  go_region_held3 (fun w' => w'.cell? ⟨B, 0, none⟩ = some (.int .i64 2) ∧ w'.cell? ⟨B, 1, none⟩ = some (.int .i64 2) ∧ w'.cell? ⟨B, 2, none⟩ = some (.string ⟨#[99]⟩) ∧ w'.cell? ⟨B, 3, none⟩ = some (.string ⟨#[]⟩) ∧ w'.cell? ⟨B, 4, none⟩ = some (.int .i64 0)) (go_keep)
    (first
      | (go_at_call 19; refine (op_any _ _ _ _ _).mono ?_; rintro e w' ⟨rfl, hw'⟩; obtain ⟨s, s0, s1, s2, s3, s4⟩ := StepAt.chg (chg_alloc (Chg.refl _ _) hw') ⟨s, s0, s1, s2, s3, s4⟩; have HC : Hid (Chg nobody w w') := (by first | exact chg_alloc HC.out hw' | exact chg_alloc HC.out.drew hw'); clear hw')
      | (go_at_call 16; refine (cross_run _ _ (heap_new (by simp)) (Or.inl rfl) HA.out.1 HA.out.2 (one_byte _).1 (one_byte _).2 HA.out.1 HA.out.2 HB.out.1 HB.out.2 (missGet _)).mono ?_; rintro e w3 ⟨g, cap, gd, cd, rfl, hc3, a8, d1, d4⟩; obtain ⟨s, s0, s1, s2, s3, s4⟩ := StepAt.chg ((Chg.refl _ _).alloc _ |>.trans hc3) ⟨s, s0, s1, s2, s3, s4⟩; have HC : Hid (Chg nobody w w3) := (HC.out.alloc _).trans hc3; clear hc3))
  go_wp2
  go_ret
  exact ⟨rfl, HC.out⟩
set_option maxRecDepth 100000 in
set_option maxHeartbeats 4000000 in
theorem crossed_fttf (one two : ByteArray) (w : World) (h1 : 7 < one.size) (h2 : ¬ 7 < two.size) :
    Calls Tryz.prog 8 #[.string one, .string two, .bool false, .bool true] w fun e w' => e = .returned (.bool true) ∧ Chg nobody w w' := by
  have HA : Hid (1 ≤ ((⟨#[97]⟩ : ByteArray) ++ one.extract 0 7).size ∧ ((⟨#[97]⟩ : ByteArray) ++ one.extract 0 7).size ≤ 8) := one_size 97 (by rw [ByteArray.size_extract]; omega)
  have HB : Hid (1 ≤ ((⟨#[98]⟩ : ByteArray) ++ two).size ∧ ((⟨#[98]⟩ : ByteArray) ++ two).size ≤ 8) := one_size 98 h2
  go_enter Tryz.func8, Tryz.ntmps8
  go_wp2_with (first | (go_at_call 19; refine (op_any _ _ _ _ _).mono ?_; rintro e w' ⟨rfl, rfl⟩) | (go_at_call 22; refine (deciding_any _).mono ?_; rintro e w1 ⟨rfl, hc1⟩))
  refine name_world ?_
  intro wz hwz
  have hS : StepAt wz (w1.heap.size + 1) 2 2 ⟨#[99]⟩ := by
    rw [hwz]
    exact StepAt.chg ((Chg.refl _ _).alloc _) (step_new w1 (.cells #[.int .i64 2, .int .i64 2, .string (⟨#[98]⟩ ++ two), .string ⟨#[]⟩, .int .i64 0] 30) 2 2 ⟨#[99]⟩)
  have HC : Hid (Chg nobody w wz) := by
    show Chg nobody w wz
    rw [hwz]
    exact ((hc1.alloc _).alloc _).alloc _
  clear hwz hc1
  generalize w1.heap.size + 1 = B at *
  obtain ⟨s, s0, s1, s2, s3, s4⟩ := hS
  go_region_held3 (fun w' => w'.cell? ⟨B, 0, none⟩ = some (.int .i64 2) ∧ w'.cell? ⟨B, 1, none⟩ = some (.int .i64 2) ∧ w'.cell? ⟨B, 2, none⟩ = some (.string ⟨#[99]⟩) ∧ w'.cell? ⟨B, 3, none⟩ = some (.string ⟨#[]⟩) ∧ w'.cell? ⟨B, 4, none⟩ = some (.int .i64 0)) (go_keep)
    (first
      | (go_at_call 19; refine (op_any _ _ _ _ _).mono ?_; rintro e w' ⟨rfl, hw'⟩; obtain ⟨s, s0, s1, s2, s3, s4⟩ := StepAt.chg (chg_alloc (Chg.refl _ _) hw') ⟨s, s0, s1, s2, s3, s4⟩; have HC : Hid (Chg nobody w w') := (by first | exact chg_alloc HC.out hw' | exact chg_alloc HC.out.drew hw'); clear hw')
      | (go_at_call 16; refine (cross_run _ _ (heap_new (by simp)) (Or.inl rfl) HA.out.1 HA.out.2 (one_byte _).1 (one_byte _).2 HA.out.1 HA.out.2 HB.out.1 HB.out.2 (missGet _)).mono ?_; rintro e w3 ⟨g, cap, gd, cd, rfl, hc3, a8, d1, d4⟩; obtain ⟨s, s0, s1, s2, s3, s4⟩ := StepAt.chg ((Chg.refl _ _).alloc _ |>.trans hc3) ⟨s, s0, s1, s2, s3, s4⟩; have HC : Hid (Chg nobody w w3) := (HC.out.alloc _).trans hc3; clear hc3))
  go_wp2
  go_ret
  exact ⟨rfl, HC.out⟩
set_option maxRecDepth 100000 in
set_option maxHeartbeats 4000000 in
theorem crossed_fttt (one two : ByteArray) (w : World) (h1 : 7 < one.size) (h2 : 7 < two.size) :
    Calls Tryz.prog 8 #[.string one, .string two, .bool false, .bool true] w fun e w' => e = .returned (.bool true) ∧ Chg nobody w w' := by
  have HA : Hid (1 ≤ ((⟨#[97]⟩ : ByteArray) ++ one.extract 0 7).size ∧ ((⟨#[97]⟩ : ByteArray) ++ one.extract 0 7).size ≤ 8) := one_size 97 (by rw [ByteArray.size_extract]; omega)
  have HB : Hid (1 ≤ ((⟨#[98]⟩ : ByteArray) ++ two.extract 0 7).size ∧ ((⟨#[98]⟩ : ByteArray) ++ two.extract 0 7).size ≤ 8) := one_size 98 (by rw [ByteArray.size_extract]; omega)
  go_enter Tryz.func8, Tryz.ntmps8
  go_wp2_with (first | (go_at_call 19; refine (op_any _ _ _ _ _).mono ?_; rintro e w' ⟨rfl, rfl⟩) | (go_at_call 22; refine (deciding_any _).mono ?_; rintro e w1 ⟨rfl, hc1⟩))
  refine name_world ?_
  intro wz hwz
  have hS : StepAt wz (w1.heap.size + 1) 2 2 ⟨#[99]⟩ := by
    rw [hwz]
    exact StepAt.chg ((Chg.refl _ _).alloc _) (step_new w1 (.cells #[.int .i64 2, .int .i64 2, .string (⟨#[98]⟩ ++ two.extract 0 7), .string ⟨#[]⟩, .int .i64 0] 30) 2 2 ⟨#[99]⟩)
  have HC : Hid (Chg nobody w wz) := by
    show Chg nobody w wz
    rw [hwz]
    exact ((hc1.alloc _).alloc _).alloc _
  clear hwz hc1
  generalize w1.heap.size + 1 = B at *
  obtain ⟨s, s0, s1, s2, s3, s4⟩ := hS
  go_region_held3 (fun w' => w'.cell? ⟨B, 0, none⟩ = some (.int .i64 2) ∧ w'.cell? ⟨B, 1, none⟩ = some (.int .i64 2) ∧ w'.cell? ⟨B, 2, none⟩ = some (.string ⟨#[99]⟩) ∧ w'.cell? ⟨B, 3, none⟩ = some (.string ⟨#[]⟩) ∧ w'.cell? ⟨B, 4, none⟩ = some (.int .i64 0)) (go_keep)
    (first
      | (go_at_call 19; refine (op_any _ _ _ _ _).mono ?_; rintro e w' ⟨rfl, hw'⟩; obtain ⟨s, s0, s1, s2, s3, s4⟩ := StepAt.chg (chg_alloc (Chg.refl _ _) hw') ⟨s, s0, s1, s2, s3, s4⟩; have HC : Hid (Chg nobody w w') := (by first | exact chg_alloc HC.out hw' | exact chg_alloc HC.out.drew hw'); clear hw')
      | (go_at_call 16; refine (cross_run _ _ (heap_new (by simp)) (Or.inl rfl) HA.out.1 HA.out.2 (one_byte _).1 (one_byte _).2 HA.out.1 HA.out.2 HB.out.1 HB.out.2 (missGet _)).mono ?_; rintro e w3 ⟨g, cap, gd, cd, rfl, hc3, a8, d1, d4⟩; obtain ⟨s, s0, s1, s2, s3, s4⟩ := StepAt.chg ((Chg.refl _ _).alloc _ |>.trans hc3) ⟨s, s0, s1, s2, s3, s4⟩; have HC : Hid (Chg nobody w w3) := (HC.out.alloc _).trans hc3; clear hc3))
  go_wp2
  go_ret
  exact ⟨rfl, HC.out⟩
end Go.Proofs.YtkfjafndplmdkaaGreat
