import Derived.Test.YtkfjafndplmdkaaGreatTR
import Derived.Test.YtkfjafndplmdkaaGreatTS
namespace Go.Proofs.YtkfjafndplmdkaaGreat.stillLaw
open Go.ChangeShapes Go.WideShapes Go.ChangeAt Go.RowKit
open Go.ChangeMaps (open_string shut_string)
theorem own : ownKnob Tryz.prog.godebug = none := by kernel_rfl
theorem laidOut : laidOutB Tryz.prog = true := by kernel_rfl
set_option maxRecDepth 100000 in
theorem bound {H : Type} {l : List (DataW H)} (hk : Rows.uptoSmall H l = true) : Rows.uptoBulkAll l ≤ 1048576 := of_decide_eq_true hk
theorem walk {w : World} {A B : Value} {xs ys : List OpM} (key pre : ByteArray) (hA : SrcOps w A xs) (hB : SrcOps w B ys) (hxo : ∀ o ∈ xs, o.ok) (hyo : ∀ o ∈ ys, o.ok) (hx : xs.length ≤ 2000000) (hy : ys.length ≤ 2000000) (hp : pre.size ≤ maxLen) :
    Calls Tryz.prog 4 #[A, B, .string key, .string pre] w fun e w' => e = .returned (.bool true) ∧ Chg nobody w w' := by
  obtain ⟨ada, ca, rfl⟩ := hA.len
  obtain ⟨adb, cb, rfl⟩ := hB.len
  by_cases h8 : 8 < key.size
  · exact still_long ada adb ca cb xs ys key pre w hA hB hxo hyo hx hy h8 hp
  · by_cases h0 : key.size = 0
    · have : key = ⟨#[]⟩ := by
        obtain ⟨d⟩ := key
        have : d = #[] := Array.eq_empty_of_size_eq_zero h0
        rw [this]
      subst this
      exact still_empty ada adb ca cb xs ys pre w hA hB hxo hyo hx hy hp
    · exact still_mid ada adb ca cb xs ys key pre w hA hB hxo hyo hx hy (by omega) (by omega) hp
set_option maxRecDepth 100000 in
theorem contract (H : Type) (enc : TypeId × Value → H) (W : World) (base : Nat) (args : Array Value) (ds gs : List (DataW H)) (before : List MemPlace)
    (hval : ∀ (j : Nat) t v, Tryz.f4.params[j]? = some t → args[j]? = some v → Value.okWide Tryz.prog W .any base t v)
    (hW : DataW.Whole enc Tryz.prog Tryz.f4.params.toList Rows.stillSpec.vars false W args.toList ds gs before) (hk : Rows.uptoSmall H (ds ++ gs) = true) :
    Calls Tryz.prog 4 args W fun e W' => ∃ v, e = .returned v ∧ Rows.stillSpec.post enc Tryz.prog Tryz.f4 false true false false W args v W' := by
  have hW' := hW
  obtain ⟨p, q, hA0, hV, rfl, hfz, hnd⟩ := hW
  have hA : DataW.TrodAll enc Tryz.prog W 0 (fun _ => true) true Tryz.f4.params.toList args.toList ds p := hA0
  rw [Tryz.params4] at hA hval
  obtain ⟨v0, vp0, d0, dp0, p0, q0, hargs, rfl, rfl, h0, r0⟩ := trodAll_cons hA
  obtain ⟨v1, vs1, d1, ds1, p1, q1, rfl, rfl, rfl, h1, r1⟩ := trodAll_cons r0
  obtain ⟨v2, vs2, d2, ds2, p2, q2, rfl, rfl, rfl, h2, r2⟩ := trodAll_cons r1
  obtain ⟨v3, vs3, d3, ds3, p3, q3, rfl, rfl, rfl, h3, r3⟩ := trodAll_cons r2
  obtain ⟨rfl, rfl, rfl⟩ := trodAll_nil r3
  obtain rfl : args = #[v0, v1, v2, v3] := by cases args; simp_all
  obtain ⟨rfl, rfl⟩ := trodVars_none hV
  have h0k := h0
  have h1k := h1
  clear hA0
  simp only [List.append_nil] at hW' hk
  have hb : Rows.uptoBulk d0 ≤ 1048576 ∧ Rows.uptoBulk d1 ≤ 1048576 := by
    have h := bound hk
    simp only [Rows.uptoBulkAll] at h
    omega
  obtain ⟨key, rfl, rfl, rfl, hkm⟩ := open_string Tryz.underlying9 (hval 2 9 v2 rfl rfl) h2
  obtain ⟨pre, rfl, rfl, rfl, hpm⟩ := open_string Tryz.underlying9 (hval 3 9 v3 rfl rfl) h3
  have hlt : ∀ x ∈ p0 ++ (p1 ++ ([] ++ [])), x.block < W.heap.size := fun x hx => by simpa using hW'.lt x hx
  have hargs : ∀ (W' : World), Below W.heap.size W W' → DataW.TrodAll enc Tryz.prog W' 0 (fun b => decide (b < W.heap.size)) true [22, 22, 9, 9] [v0, v1, .string key, .string pre] [d0, d1, .lit (.string key.data.toList), .lit (.string pre.data.toList)] (p0 ++ (p1 ++ ([] ++ []))) := fun W' hn => by
    have a0 := Below.trod laidOut (by kernel_rfl) (of_decide_eq_true (by kernel_rfl)) h0k hn (fun x hx => hlt x (by simp [hx]))
    have a1 := Below.trod laidOut (by kernel_rfl) (of_decide_eq_true (by kernel_rfl)) h1k hn (fun x hx => hlt x (by simp [hx]))
    simpa using trodAll_cons_mk a0 (trodAll_cons_mk a1 (trodAll_cons_mk (shut_string Tryz.underlying9 hkm) (trodAll_cons_mk (shut_string Tryz.underlying9 hpm) trodAll_mk0)))
  obtain ⟨a0, len0, cap0, rfl⟩ := okWide_slice Tryz.underlying22 (hval 0 22 v0 rfl rfl)
  obtain ⟨a1, len1, cap1, rfl⟩ := okWide_slice Tryz.underlying22 (hval 1 22 v1 rfl rfl)
  obtain ⟨fuel0, hf0⟩ := h0
  obtain ⟨fuel1, hf1⟩ := h1
  obtain ⟨A, xs, hcp0, hA1, hxo, hxl⟩ := open_src hf0
  obtain ⟨B, ys, hcs1, hB1, hyo, hyl⟩ := open_src hf1
  simp [Value.cells] at hcp0 hcs1
  subst hcp0 hcs1
  simp only at hxl hyl
  have fin : ∀ e W', e = Ending.returned (.bool true) ∧ Chg nobody W W' → ∃ v, e = .returned v ∧ Rows.stillSpec.post enc Tryz.prog Tryz.f4 false true false false W #[.slice a0 len0 cap0, .slice a1 len1 cap1, .string key, .string pre] v W' := fun e W' h => by
    obtain ⟨rfl, hc⟩ := h
    have hnx := hc.below
    exact ⟨_, rfl, ⟨_, _, _, [], p0 ++ (p1 ++ ([] ++ [])), [], hW', trodAll_cons_mk (shut_bool Tryz.underlying4 _) trodAll_mk0, hargs _ hnx, rfl, hnx.frame _, fun h => by cases h⟩⟩
  exact (walk key pre hA1 hB1 hxo hyo (by omega) (by omega) hpm).mono fin
set_option maxRecDepth 100000 in
theorem lifted (os : Os) (started : os.Started) (H : Type) (enc : TypeId × Value → H) (F : Stop.Interp) :
    ReturnsInHanded {} Tryz.checked os 4 .any ((Rows.OpenSpec.upto Rows.stillSpec).pre6 enc Tryz.prog Tryz.f4 Rows.stillUptoRow.domain false) (((Rows.OpenSpec.upto Rows.stillSpec).at F).post enc Tryz.prog Tryz.f4 false true false false) := by
  refine returnsInHanded_of_cond (C := Tryz.checked) (s := Rows.OpenSpec.upto Rows.stillSpec) (k := Rows.uptoSmall) rfl own started (by kernel_rfl) Tryz.func4
    (OpenSpec.witness (enc := enc) (C := Tryz.checked) (s := Rows.OpenSpec.upto Rows.stillSpec) (k := Rows.uptoSmall) rfl false ⟨#[], #[.slice none 0 0, .slice none 0 0, .string .empty, .string .empty], []⟩ 8 (by kernel_rfl) (by kernel_rfl) (by kernel_rfl)
      (x := ([.nil, .nil, .lit (.string []), .lit (.string [])], [], [])) (by kernel_rfl) rfl (by kernel_rfl)) ?_
  intro W base args ds gs before hval hW _ hk _
  exact contract H enc W base args ds gs before hval hW hk
theorem proved : Rows.StillUptoSaid :=
  OpenClaim.holds_of_cond 4 Tryz.f4 rfl rfl rfl rfl rfl rfl rfl ⟨rfl, rfl, rfl, rfl, rfl⟩ rfl rfl rfl rfl rfl (by kernel_rfl) Tryz.func4 (by kernel_rfl)
    (of_decide_eq_true (by kernel_rfl)) (by unfold Func.isWrapper; first | (rw [if_pos (by decide +kernel)]; kernel_rfl) | (rw [if_neg (by decide +kernel)]; exact ⟨rfl, rfl⟩))
    (fun os started H enc _ F => lifted os started H enc F)
end Go.Proofs.YtkfjafndplmdkaaGreat.stillLaw
namespace Go.Proofs.YtkfjafndplmdkaaGreat
theorem still_holds : Rows.StillUptoSaid := stillLaw.proved
#print axioms still_holds
end Go.Proofs.YtkfjafndplmdkaaGreat
