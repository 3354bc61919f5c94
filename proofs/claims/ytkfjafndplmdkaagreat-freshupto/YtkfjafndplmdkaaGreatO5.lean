import Derived.Test.YtkfjafndplmdkaaGreatO4
namespace Go.Proofs.YtkfjafndplmdkaaGreat
open Go.RowKit Go.Sort
open Go.Maps (Keyed)
def rowT (rows : List (ByteArray × Int)) (a : ByteArray) : Int := (getA a rows).getD 0
def cfR (rows : List (ByteArray × Int)) (a b : ByteArray) : Int := if cmpM (rowT rows a) (rowT rows b) = 0 then cmpB a b else cmpM (rowT rows a) (rowT rows b)
set_option maxRecDepth 100000 in
set_option maxHeartbeats 4000000 in
theorem oldest1_any (bx ob cb sb rb : Nat) (rows : List (ByteArray × Int)) (low : Int) (a b : ByteArray) (w : World) (hbx : w.cell? ⟨bx, 0, none⟩ = some (.pointer (some ⟨ob, 0, none⟩))) (ho : OrAt w ob cb sb rb rows low) (ha : a.size ≤ maxLen) (hb : b.size ≤ maxLen) :
    Calls Tryz.prog 147 #[.string a, .string b, .pointer (some ⟨bx, 0, none⟩)] w fun e w' => e = .returned (.int .i64 (cfR rows a b)) ∧ Chg nobody w w' := by
  have c2 := cell_of ho.o (i := 2) (v := .map (some rb)) rfl
  have hl : ∀ (w' : World) (s : ByteArray), w'.heap[rb]? = w.heap[rb]? → s.size ≤ maxLen → (Instr.lookup 115 (.map (some rb)) (.string s) false).run Tryz.prog w' = .ok (.int .i64 (rowT rows s)) w' := fun w' s hw hs => by
    have := (ho.r.of_block hw).look1 keyS mkS_inj Tryz.underlying115 (zeroI w') (keyOfS hs)
    rw [this]
    unfold rowT
    cases getA s rows <;> rfl
  have l1 := hl w.drew a rfl ha
  have l2 := hl w.drew b rfl hb
  clear hl ho
  unfold cfR
  generalize rowT rows a = ra at *
  generalize rowT rows b = rb' at *
  have h1 := cmpI_any ra rb' w.drew
  have h2 := cmpS_any a b w.drew
  generalize cmpM ra rb' = x at *
  generalize cmpB a b = y at *
  have h3 := fun w' h0 h1 => cmpOr_any w.heap.size x y w' h0 h1
  have HV : Hid ((if x = 0 then y else x) = (if x = 0 then y else x)) := rfl
  generalize hz : (if x = 0 then y else x) = z at *
  clear hz HV ha hb
  go_enter Tryz.func147, Tryz.ntmps147
  go_wp2
  go_region_with (first | (go_at_call 149; refine h1.mono ?_; rintro e w' ⟨rfl, hw'⟩; replace hw' := hw'.symm; subst hw') | (go_at_call 150; refine h2.mono ?_; rintro e w' ⟨rfl, hw'⟩; replace hw' := hw'.symm; subst hw') | (go_at_call 148; refine (h3 _ (by simp [go_sem]) (by simp [go_sem])).mono ?_; rintro e w' ⟨rfl, hw'⟩; replace hw' := hw'.symm; subst hw'))
  all_goals go_wp2
  all_goals go_ret
  all_goals exact ⟨rfl, ((Chg.refl _ _).drew).alloc _⟩
end Go.Proofs.YtkfjafndplmdkaaGreat
