import Derived.Test.YtkfjafndplmdkaaGreatXB
namespace Go.Proofs.YtkfjafndplmdkaaGreat
open Go.RowKit Go.Sort
theorem hitGet (b : ByteArray) : hitM (rdT 2 2 b []) b = true := by simp [hitM, rdT]
theorem hitScan (t : ByteArray) : hitM (rdT 3 2 ⟨#[98]⟩ []) (⟨#[98]⟩ ++ t) = true := by
  simp [hitM, rdT, pk, Lib.hasPrefix]
theorem missGet (t : ByteArray) : hitM (rdT 2 2 ⟨#[99]⟩ []) (⟨#[98]⟩ ++ t) = false := by
  simp [hitM, rdT]
  intro h
  have := congrArg (fun b => b.data.toList) h
  simp at this
theorem missScan (t : ByteArray) : hitM (rdT 3 2 ⟨#[99]⟩ []) (⟨#[98]⟩ ++ t) = false := by
  simp [hitM, rdT, pk, Lib.hasPrefix, List.isPrefixOf]
theorem crossOk {kind : Int} {x y a b : ByteArray} (hk : kind = 2 ∨ kind = 3) (hx8 : x.size ≤ 8) (hy8 : y.size ≤ 8) (ha8 : a.size ≤ 8) (hb8 : b.size ≤ 8) : ∀ o ∈ crossOps kind x y a b, o.ok := by
  intro o ho
  simp only [crossOps, List.mem_cons, List.not_mem_nil, or_false] at ho
  have hm : (8 : Nat) ≤ maxLen := by unfold maxLen; omega
  have hki : isInt kind := by unfold isInt; omega
  have i1 : isInt 1 := by unfold isInt; omega
  have i2 : isInt 2 := by unfold isInt; omega
  have i0 : isInt 0 := by unfold isInt; omega
  have i4 : isInt 4 := by unfold isInt; omega
  have i7 : isInt 7 := by unfold isInt; omega
  have i8 : isInt 8 := by unfold isInt; omega
  have s0 : (⟨#[]⟩ : ByteArray).size ≤ maxLen := by simp [ByteArray.size, maxLen]
  have s1 : ∀ c : UInt8, (⟨#[c]⟩ : ByteArray).size ≤ maxLen := fun c => by simp [ByteArray.size, maxLen]
  rcases ho with rfl | rfl | rfl | rfl | rfl | rfl | rfl | rfl | rfl
  · exact ⟨i1, i0, s0, s0, i0⟩
  · exact ⟨i1, i0, s0, s0, i0⟩
  · exact ⟨hki, i1, Nat.le_trans hx8 hm, s0, i0⟩
  · exact ⟨hki, i2, Nat.le_trans hy8 hm, s0, i0⟩
  · exact ⟨i4, i1, Nat.le_trans hb8 hm, s1 _, i0⟩
  · exact ⟨i4, i2, Nat.le_trans ha8 hm, s1 _, i0⟩
  · exact ⟨i7, i1, s0, s0, i0⟩
  · exact ⟨i7, i2, s0, s0, i0⟩
  · exact ⟨i8, i0, s0, s0, i2⟩
theorem cross_run (p : Nat) (w : World) {kind : Int} {x y a b : ByteArray} {h : Bool} (hb : w.heap[p]? = some (.cells #[.int .i64 1, .int .i64 0, .string ⟨#[]⟩, .string ⟨#[]⟩, .int .i64 0, .int .i64 1, .int .i64 0, .string ⟨#[]⟩, .string ⟨#[]⟩, .int .i64 0, .int .i64 kind, .int .i64 1, .string x, .string ⟨#[]⟩, .int .i64 0, .int .i64 kind, .int .i64 2, .string y, .string ⟨#[]⟩, .int .i64 0, .int .i64 4, .int .i64 1, .string b, .string ⟨#[49]⟩, .int .i64 0, .int .i64 4, .int .i64 2, .string a, .string ⟨#[50]⟩, .int .i64 0, .int .i64 7, .int .i64 1, .string ⟨#[]⟩, .string ⟨#[]⟩, .int .i64 0, .int .i64 7, .int .i64 2, .string ⟨#[]⟩, .string ⟨#[]⟩, .int .i64 0, .int .i64 8, .int .i64 0, .string ⟨#[]⟩, .string ⟨#[]⟩, .int .i64 2] 30)) (hk : kind = 2 ∨ kind = 3) (hx1 : 1 ≤ x.size) (hx8 : x.size ≤ 8) (hy1 : 1 ≤ y.size) (hy8 : y.size ≤ 8) (ha1 : 1 ≤ a.size) (ha8 : a.size ≤ 8) (hb1 : 1 ≤ b.size) (hb8 : b.size ≤ 8) (hh : hitM (rdT kind 2 y []) b = h) :
    Calls Tryz.prog 16 #[.slice (some ⟨p, 0, none⟩) 9 9] w fun e w' => ∃ g cap gd cd : Nat, e = .returned (.slice (some ⟨g, 0, none⟩) 9 cap) ∧ Chg nobody w w' ∧
      w'.cell? ⟨g, 61, none⟩ = some (.slice (some ⟨gd, 0, none⟩) 2 cd) ∧ w'.cell? ⟨gd, 1, none⟩ = some (.int .i64 0) ∧ w'.cell? ⟨gd, 4, none⟩ = some (.int .i64 (if h then 9 else 0)) := by
  have hr := run_any p 0 9 (crossOps kind x y a b) w (opsAt_block hb rfl) (lt_of_block hb) (crossOk hk hx8 hy8 ha8 hb8) (show 9 ≤ 10000000 by omega)
  refine Calls.mono hr ?_
  rintro e w2 ⟨g, cap, sl, rfl, hrow, hit, hc⟩
  obtain ⟨A, d, hA, hans⟩ := cross_ans kind x y a b hk hx1 hx8 hy1 hy8 ha1 ha8 hb1 hb8
  have hl8 : 8 < (ansP p0 (crossOps kind x y a b)).length := by rw [ansP_len]; show 8 < 9; omega
  have h8 := hit.at 8 hl8
  have a8 := (ans_cells hit.1 hrow 8 hl8).2.2.2.2.2
  have e8 : (ansP p0 (crossOps kind x y a b))[8] = ⟨0, 0, false, ⟨#[]⟩, [], [⟨1, 0, 3⟩, ⟨2, if hitM (rdT kind 2 y []) b then 9 else 0, d⟩], []⟩ := by
    simp only [hans]
    rw [List.getElem_append_right (by omega)]
    simp [hA]
  rw [e8, hh] at h8
  obtain ⟨gd, cd, ed, d0, d1, d2, d3, d4, d5⟩ := two_done h8.2.1
  rw [ed] at a8
  exact ⟨g, cap, gd, cd, rfl, hc, a8, d1, d4⟩
theorem one_size (c : UInt8) {t : ByteArray} (h : ¬ 7 < t.size) : 1 ≤ ((⟨#[c]⟩ : ByteArray) ++ t).size ∧ ((⟨#[c]⟩ : ByteArray) ++ t).size ≤ 8 := by
  rw [ByteArray.size_append]
  have : (⟨#[c]⟩ : ByteArray).size = 1 := rfl
  omega
theorem one_byte (c : UInt8) : 1 ≤ (⟨#[c]⟩ : ByteArray).size ∧ (⟨#[c]⟩ : ByteArray).size ≤ 8 := by
  have : (⟨#[c]⟩ : ByteArray).size = 1 := rfl
  omega
/-- a step that lies in a variable. -/
def StepAt (w : World) (B : Nat) (k t : Int) (key : ByteArray) : Prop := B < w.heap.size ∧ w.cell? ⟨B, 0, none⟩ = some (.int .i64 k) ∧ w.cell? ⟨B, 1, none⟩ = some (.int .i64 t) ∧ w.cell? ⟨B, 2, none⟩ = some (.string key) ∧ w.cell? ⟨B, 3, none⟩ = some (.string ⟨#[]⟩) ∧ w.cell? ⟨B, 4, none⟩ = some (.int .i64 0)
theorem StepAt.chg {w w' : World} {B : Nat} {k t : Int} {key : ByteArray} (hc : Chg nobody w w') (h : StepAt w B k t key) : StepAt w' B k t key := by
  obtain ⟨h0, h1, h2, h3, h4, h5⟩ := h
  have hcl : ∀ i, w'.cell? ⟨B, i, none⟩ = w.cell? ⟨B, i, none⟩ := fun i => hc.below.cell (p := ⟨B, i, none⟩) h0
  have := hc.size
  exact ⟨by omega, (hcl 0).trans h1, (hcl 1).trans h2, (hcl 2).trans h3, (hcl 3).trans h4, (hcl 4).trans h5⟩
theorem chg_alloc {a w w' : World} {o : Obj} (h : Chg nobody a w) (e : w' = w.alloc o) : Chg nobody a w' := by
  subst e
  exact h.alloc _
theorem name_world {P : Program} {c : Code} {Q : Exit → Act → World → Prop} {a : Act} {W : World} (K : ∀ wz, wz = W → Code.wp P c Q a wz) : Code.wp P c Q a W := K W rfl
theorem step_new (w1 : World) (o : Obj) (k t : Int) (key : ByteArray) : StepAt ((w1.alloc o).alloc (.cells #[.int .i64 k, .int .i64 t, .string key, .string ⟨#[]⟩, .int .i64 0] 30)) (w1.heap.size + 1) k t key := by
  have hb : ((w1.alloc o).alloc (.cells #[.int .i64 k, .int .i64 t, .string key, .string ⟨#[]⟩, .int .i64 0] 30)).heap[w1.heap.size + 1]? = some (.cells #[.int .i64 k, .int .i64 t, .string key, .string ⟨#[]⟩, .int .i64 0] 30) := heap_new (by simp)
  exact ⟨lt_of_block hb, cell_of hb rfl, cell_of hb rfl, cell_of hb rfl, cell_of hb rfl, cell_of hb rfl⟩
end Go.Proofs.YtkfjafndplmdkaaGreat
