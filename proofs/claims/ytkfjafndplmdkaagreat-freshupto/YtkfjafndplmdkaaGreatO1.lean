import Derived.Test.YtkfjafndplmdkaaGreatT7
namespace Go.Proofs.YtkfjafndplmdkaaGreat
open Go.RowKit Go.Sort
open Go.Maps (Keyed)
/-- does a key stand in the read set, itself or by a prefix? -/
def hitT (T : Tx) (key : ByteArray) : Bool := (getA key T.ks).isSome || (List.range (key.size + 1)).any (fun e => (getA (key.extract 0 e) T.ps).isSome)
theorem hitT_f {T : Tx} {key : ByteArray} (h1 : (getA key T.ks).isSome = false) (h2 : ∀ e, e < key.size + 1 → (getA (key.extract 0 e) T.ps).isSome = false) : hitT T key = false := by
  unfold hitT
  rw [h1, Bool.false_or, List.any_eq_false]
  intro e he
  rw [h2 e (List.mem_range.1 he)]
  simp
theorem hitT_t {T : Tx} {key : ByteArray} (e : Nat) (he : e < key.size + 1) (h : (getA (key.extract 0 e) T.ps).isSome = true) : hitT T key = true := by
  unfold hitT
  rw [Bool.or_eq_true, List.any_eq_true]
  exact Or.inr ⟨e, List.mem_range.2 he, h⟩
set_option maxRecDepth 100000 in
set_option maxHeartbeats 1000000 in
theorem hasReadKey_any (T : Tx) (sb : Nat) (key : ByteArray) (w : World) (hT : TxAt w sb T) (hk : key.size ≤ 1000000) :
    Calls Tryz.prog 130 #[.pointer (some ⟨T.tb, 0, none⟩), .string key] w fun e w' => e = .returned (.bool (hitT T key)) ∧ Chg nobody w w' := by
  obtain ⟨_, _, _, _, c4, c5⟩ := hT.cells
  have htl := lt_of_block hT.tx
  have hl1 := hT.km.look keyS mkS_inj Tryz.underlying146 (zeroU w) (keyOfS (s := key) (by unfold maxLen; omega))
  have HL : Hid (∀ (w' : World) (s : ByteArray), Chg nobody w w' → s.size ≤ 1000000 → (Instr.lookup 146 (.map (some T.pb)) (.string s) true).run Tryz.prog w' = .ok (.tuple #[.agg #[], .bool (getA s T.ps).isSome]) w') := fun w' s hc hs => by
    have := (hT.pm.of_block (hc.block _ hT.pm.lt (fun h => h))).look keyS mkS_inj Tryz.underlying146 (zeroU w') (keyOfS (s := s) (by unfold maxLen; omega))
    rw [this]
    cases getA s T.ps <;> rfl
  have HC5 : Hid (∀ w', Chg nobody w w' → w'.cell? ⟨T.tb, 5, none⟩ = some (.map (some T.pb))) := fun w' hc => (hc.below.cell (p := ⟨T.tb, 5, none⟩) htl).trans c5
  clear hT c5
  cases hg : getA key T.ks with
  | some u =>
    rw [hg] at hl1
    have HV : Hid (hitT T key = true) := by show hitT T key = true; unfold hitT; rw [hg]; rfl
    simp only [Option.map_some, Option.getD_some, Option.isSome_some, mkU, mkS] at hl1
    clear hg
    go_enter Tryz.func130, Tryz.ntmps130
    go_wp2
    go_ret
    exact ⟨by rw [HV.out]; rfl, (Chg.refl _ _).alloc _⟩
  | none =>
    rw [hg] at hl1
    have HG : Hid ((getA key T.ks).isSome = false) := by show (getA key T.ks).isSome = false; rw [hg]; rfl
    simp only [Option.map_none, Option.getD_none, Option.isSome_none, mkS] at hl1
    clear hg
    go_enter Tryz.func130, Tryz.ntmps130
    go_wp2
    go_loopw [23] (fun i wr => ∃ j : Nat, j ≤ key.size + 1 ∧ i = .int .i64 j ∧ Hid (∀ e, e < j → (getA (key.extract 0 e) T.ps).isSome = false) ∧ Chg nobody w wr) (fun i _ => key.size + 1 - (intOf i).toNat)
    case atStart => exact ⟨0, by omega, rfl, fun e he => by omega, (Chg.refl _ _).alloc _⟩
    case round =>
      obtain ⟨j, hj, rfl, HJ, hch⟩ := hrel
      by_cases hlt : j < key.size + 1
      · have c5 : ∀ o, (wr.alloc o).cell? ⟨T.tb, 5, none⟩ = some (.map (some T.pb)) := fun o => HC5.out _ (hch.alloc o)
        have c5' : wr.cell? ⟨T.tb, 5, none⟩ = some (.map (some T.pb)) := HC5.out _ hch
        have hlk := fun o => HL.out (wr.alloc o).drew (key.extract 0 j) (hch.alloc o).drew (by rw [ByteArray.size_extract]; omega)
        have hlk' := HL.out wr.drew (key.extract 0 j) hch.drew (by rw [ByteArray.size_extract]; omega)
        have hle : (j : Int) ≤ (key.size : Int) := by omega
        obtain ⟨f, hf⟩ : ∃ f, (getA (key.extract 0 j) T.ps).isSome = f := ⟨_, rfl⟩
        rw [hf] at hlk'
        simp only [hf] at hlk
        have HF : Hid ((getA (key.extract 0 j) T.ps).isSome = f) := hf
        have HCH : Hid (Chg nobody w wr) := hch
        clear hf hch
        go_wp2
        go_region
        cases f
        · go_wp2
          go_roundw
          case rel =>
            refine ⟨j + 1, by omega, by go_num, fun e he => ?_, (HCH.out.alloc _).drew⟩
            by_cases ej : e = j
            · subst ej; exact HF.out
            · exact HJ.out e (by omega)
          case measure => simp [intOf]; omega
        · have HV : Hid (hitT T key = true) := hitT_t j hlt HF.out
          go_wp2
          go_ret
          exact ⟨by rw [HV.out]; rfl, (HCH.out.alloc _).drew⟩
      · have HV : Hid (hitT T key = false) := hitT_f HG.out (fun e he => HJ.out e (by omega))
        go_wp2
        go_ret
        exact ⟨by rw [HV.out]; rfl, hch⟩
end Go.Proofs.YtkfjafndplmdkaaGreat
