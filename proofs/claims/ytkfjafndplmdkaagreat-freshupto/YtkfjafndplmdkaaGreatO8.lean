import Derived.Test.YtkfjafndplmdkaaGreatO7
namespace Go.Proofs.YtkfjafndplmdkaaGreat
open Go.RowKit Go.Sort
open Go.Maps (Keyed)
theorem versOf_put (k x : ByteArray) (E : VEnt) (V : List (ByteArray × VEnt)) : versOf k (putA x E V) = if k = x then E.vs else versOf k V := by
  unfold versOf
  rw [getA_put]
  by_cases h : k = x <;> simp [h]
theorem versOf_le (k : ByteArray) : ∀ V : List (ByteArray × VEnt), (versOf k V).length ≤ sumV V
  | [] => by simp [versOf, getA]
  | p :: r => by
    have ih := versOf_le k r
    rw [sumV_cons]
    unfold versOf at *
    by_cases h : p.1 = k
    · simp [getA, h]
    · simp only [getA, h, if_false]; omega
/-- what a transaction's writes add to a key's versions. -/
def addV (ws left : List (ByteArray × (Bool × ByteArray))) (t : Int) (k : ByteArray) : List (Int × (Bool × ByteArray)) := match getA k ws with | some c => if (getA k left).isSome then [] else [(t, c)] | none => []
def rowV (ws left : List (ByteArray × (Bool × ByteArray))) (t : Int) (old : Option Int) (k : ByteArray) : Option Int := match getA k ws with | some _ => if (getA k left).isSome then old else some t | none => old
theorem addV_start (ws : List (ByteArray × (Bool × ByteArray))) (t : Int) (k : ByteArray) : addV ws ws t k = [] := by
  unfold addV
  cases h : getA k ws <;> simp
theorem rowV_start (ws : List (ByteArray × (Bool × ByteArray))) (t : Int) (o : Option Int) (k : ByteArray) : rowV ws ws t o k = o := by
  unfold rowV
  cases h : getA k ws <;> simp
theorem addV_step {ws left left' : List (ByteArray × (Bool × ByteArray))} {x : ByteArray} {c : Bool × ByteArray} {t : Int} (hx : getA x ws = some c) (hnd : (left.map Prod.fst).Nodup) (hp : left.Perm ((x, c) :: left')) (k : ByteArray) :
    addV ws left' t k = addV ws left t k ++ (if k = x then [(t, c)] else []) ∧ ∀ o, rowV ws left' t o k = if k = x then some t else rowV ws left t o k := by
  have hnd' : (((x, c) :: left').map Prod.fst).Nodup := (hp.map _).nodup_iff.1 hnd
  have hl : getA k left = getA k ((x, c) :: left') := getA_perm hnd hp k
  by_cases e : k = x
  · subst e
    have h1 : getA k left = some c := by rw [hl]; simp [getA]
    have h2 : getA k left' = none := by
      rw [getA_eq_none]
      exact (List.nodup_cons.1 (by simpa using hnd' : (k :: left'.map Prod.fst).Nodup)).1
    unfold addV rowV
    simp [hx, h1, h2]
  · have h1 : getA k left = getA k left' := by rw [hl]; simp [getA, Ne.symm e]
    unfold addV rowV
    simp [h1, e]
set_option maxRecDepth 100000 in
set_option maxHeartbeats 400000 in
theorem ocommit_none (T : Tx) (ob sb : Nat) (w : World) (hT : TxAt w sb T) (hw : T.ws = []) :
    Calls Tryz.prog 107 #[.pointer (some ⟨ob, 0, none⟩), .pointer (some ⟨T.tb, 0, none⟩)] w fun e w' => e = .returned (.int .i64 T.start) ∧ Chg nobody w w' := by
  obtain ⟨_, c1, _, c3, _, _⟩ := hT.cells
  have hl := fun ty => hT.wm.len Tryz.underlying145 ty
  rw [hw] at hl
  simp only [List.length_nil] at hl
  clear hT hw
  go_enter Tryz.func107, Tryz.ntmps107
  go_wp2_with (first | (go_at_call 118; refine (writes_any T.tb T.wb w c3).mono ?_; rintro e w' ⟨rfl, rfl⟩) | (go_at_call 86; refine (start_any T.tb T.start _ c1).mono ?_; rintro e w' ⟨rfl, rfl⟩))
  go_ret
  exact ⟨rfl, Chg.refl _ _⟩
/-- what refuses. -/
def refT (T : Tx) (rows : List (ByteArray × Int)) (low : Int) (V : List (ByteArray × VEnt)) : Int :=
  if 0 < T.ks.length + T.ps.length ∧ T.start < low then 8 else if conflT rows T = true then 9 else if 100 < sumV V + T.ws.length then 10 else 0
structure Fits (T : Tx) (rows : List (ByteArray × Int)) (V : List (ByteArray × VEnt)) : Prop where
  ks : T.ks.length ≤ 100000000
  ps : T.ps.length ≤ 100000000
  ws : T.ws.length ≤ 100000000
  vs : sumV V ≤ 100
  rs : rows.length ≤ 1000
  rk : ∀ r ∈ rows, r.1.size ≤ 8
  wk : ∀ p ∈ T.ws, p.1.size ≤ 8
set_option maxRecDepth 100000 in
set_option maxHeartbeats 1000000 in
theorem ocommit_refused (T : Tx) (ob cb sb rb vm : Nat) (rows : List (ByteArray × Int)) (low : Int) (V : List (ByteArray × VEnt)) (w : World) (hT : TxAt w sb T) (ho : OrAt w ob cb sb rb rows low) (hs : StoreAt w sb vm V) (hf : Fits T rows V) (hw : T.ws ≠ []) (hr : refT T rows low V ≠ 0) :
    Calls Tryz.prog 107 #[.pointer (some ⟨ob, 0, none⟩), .pointer (some ⟨T.tb, 0, none⟩)] w fun e w' => e = errE (refT T rows low V) ∧ Chg nobody w w' := by
  obtain ⟨_, c1, _, c3, _, _⟩ := hT.cells
  have hl := fun (w' : World) (hc : Chg nobody w w') ty => (hT.wm.of_block (hc.block _ hT.wm.lt (fun h => h))).len Tryz.underlying145 ty
  have hl0 := hl w (Chg.refl _ _)
  have hpos : 0 < T.ws.length := by cases h : T.ws with | nil => exact absurd h hw | cons a r => simp
  have b0 : ((T.ws.length : Int) == 0) = false := by simp; omega
  have h1 := mustRemember_any T ob sb low w hT (cell_of ho.o rfl) (by have := hf.ks; omega) (by have := hf.ps; omega)
  have h2 := fun (w' : World) (hc : Chg nobody w w') => mustNotConflict_any T ob cb sb rb rows low w' (hT.chg hc (fun h => h) (fun h => h) (fun h => h) (fun h => h)) (ho.chg hc (fun h => h) (fun h => h)) (fun r hr => by have := hf.rk r hr; omega)
  have h3 := fun (w' : World) (hc : Chg nobody w w') => mustHaveRoom_any ob sb vm V T.ws.length w' (cell_of (ho.chg hc (fun h => h) (fun h => h)).o rfl) (hs.chg hc (fun h => h) (fun h => h) (fun _ _ h => h)) (by have := hf.vs; omega) (by have := hf.ws; omega)
  have HL : Hid (∀ (w' : World), Chg nobody w w' → ∀ ty, (Builtin.len_ #[145] ty #[.map (some T.wb)]).run Tryz.prog w' = .ok (.int .i64 T.ws.length) w') := hl
  unfold refT at hr ⊢
  by_cases k1 : 0 < T.ks.length + T.ps.length ∧ T.start < low
  · rw [if_pos k1] at h1 ⊢
    clear hT ho hs hf hw hr k1 h2 h3 hl
    go_enter Tryz.func107, Tryz.ntmps107
    go_wp2_with (first | (go_at_call 118; refine (writes_any T.tb T.wb w c3).mono ?_; rintro e w' ⟨rfl, rfl⟩) | (go_at_call 119; refine h1.mono ?_; rintro e w' ⟨rfl, hch⟩))
    exact ⟨rfl, rfl, hch⟩
  · rw [if_neg k1] at h1 hr ⊢
    by_cases k2 : conflT rows T = true
    · rw [if_pos k2] at h2 ⊢
      clear hT ho hs hf hw hr k1 k2 h3 hl
      go_enter Tryz.func107, Tryz.ntmps107
      go_wp2_with (first | (go_at_call 118; refine (writes_any T.tb T.wb w c3).mono ?_; rintro e w' ⟨rfl, rfl⟩) | (go_at_call 119; refine h1.mono ?_; rintro e w2 ⟨rfl, hch⟩) | (go_at_call 120; refine (h2 _ hch).mono ?_; rintro e w3 ⟨rfl, hch3⟩))
      exact ⟨rfl, rfl, hch.trans hch3⟩
    · rw [if_neg k2] at h2 hr ⊢
      by_cases k3 : 100 < sumV V + T.ws.length
      · rw [if_pos k3] at h3 ⊢
        clear hT ho hs hf hw hr k1 k2 k3 hl
        go_enter Tryz.func107, Tryz.ntmps107
        go_wp2_with (first | (go_at_call 118; refine (writes_any T.tb T.wb w c3).mono ?_; rintro e w' ⟨rfl, rfl⟩) | (go_at_call 119; refine h1.mono ?_; rintro e w2 ⟨rfl, hch⟩) | (go_at_call 120; refine (h2 _ hch).mono ?_; rintro e w3 ⟨rfl, hch3⟩; have hl3 := HL.out _ (hch.trans hch3)) | (go_at_call 121; refine (h3 _ (hch.trans hch3)).mono ?_; rintro e w4 ⟨rfl, hch4⟩))
        exact ⟨rfl, rfl, (hch.trans hch3).trans hch4⟩
      · rw [if_neg k3] at hr
        exact absurd rfl hr
end Go.Proofs.YtkfjafndplmdkaaGreat
