import Derived.Test.YtkfjafndplmdkaaGreatSF
namespace Go.Proofs.YtkfjafndplmdkaaGreat
open Go.RowKit Go.Sort
/-- what 'redone' reads of one step. -/
structure StepCells (w : World) (b off ga : Nat) (j : Nat) (o : OpM) (A : AnsM) (y : Sl) (base : Nat) : Prop where
  k : w.cell? ⟨b, off + j * 5, none⟩ = some (.int .i64 o.kind)
  t : w.cell? ⟨b, off + j * 5 + 1, none⟩ = some (.int .i64 o.t)
  key : w.cell? ⟨b, off + j * 5 + 2, none⟩ = some (.string o.key)
  val : w.cell? ⟨b, off + j * 5 + 3, none⟩ = some (.string o.val)
  n : w.cell? ⟨b, off + j * 5 + 4, none⟩ = some (.int .i64 o.n)
  code : w.cell? ⟨ga, j * 7, none⟩ = some (.int .i64 A.code)
  found : w.cell? ⟨ga, j * 7 + 2, none⟩ = some (.bool A.found)
  value : w.cell? ⟨ga, j * 7 + 3, none⟩ = some (.string A.value)
  items : w.cell? ⟨ga, j * 7 + 4, none⟩ = some (slV y)
  row : w.ownsRow base 66 2 (slV y) A.items.length (itemCells A.items)
theorem chg_cell {w w' : World} {tb b i : Nat} (hc : Chg (fun k => k = tb) w w') (hb : b < w.heap.size) (hne : b ≠ tb) : w'.cell? ⟨b, i, none⟩ = w.cell? ⟨b, i, none⟩ := by
  have := hc.block b hb hne
  unfold World.cell?
  simp [this]
theorem StepCells.chg {w w' : World} {tb b off ga j base : Nat} {o : OpM} {A : AnsM} {y : Sl} (h : StepCells w b off ga j o A y base) (hc : Chg (fun k => k = tb) w w') (hb : b < w.heap.size) (hbt : b ≠ tb) (hg : ga < w.heap.size) (hgt : ga ≠ tb) (hy : ∀ g, (slV y).ownBlock = some g → ¬ g = tb) : StepCells w' b off ga j o A y base := by
  have e1 : ∀ i, w'.cell? ⟨b, i, none⟩ = w.cell? ⟨b, i, none⟩ := fun i => chg_cell hc hb hbt
  have e2 : ∀ i, w'.cell? ⟨ga, i, none⟩ = w.cell? ⟨ga, i, none⟩ := fun i => chg_cell hc hg hgt
  exact ⟨(e1 _).trans h.k, (e1 _).trans h.t, (e1 _).trans h.key, (e1 _).trans h.val, (e1 _).trans h.n, (e2 _).trans h.code, (e2 _).trans h.found, (e2 _).trans h.value, (e2 _).trans h.items, ownsRow_chg h.row hc hy⟩
theorem TblAt.chg {w w' : World} {tb base : Nat} {x : Sl} {l : Tbl} (h : TblAt w tb base x l) (hc : Chg nobody w w') (hb : tb < w.heap.size) : TblAt w' tb base x l :=
  ⟨((bcell hc).1 _ _ hb).trans h.c, ((bcell hc).2 _ _ hb).trans h.f, ownsRow_chg h.r hc (fun _ _ hf => hf)⟩
theorem logOf_cons (e : Ent) (r : List Ent) (n : Int) : logOf (e :: r) n = if logB n e then e :: logOf r n else logOf r n := by
  unfold logOf
  rw [List.filter_cons]
/-- what the loop knows of the table. -/
structure Tracks (V : View) (wf : List Ver) (l : Tbl) (ws : List Ver) (rest : List Ent) : Prop where
  tbl : TblIs l (seesV ws V)
  fit : fitsFrom V ws rest
  fin : rest.foldl wsE ws = wf
theorem Tracks.skip {V : View} {wf : List Ver} {l : Tbl} {ws : List Ver} {e : Ent} {r : List Ent} {n : Int} (h : Tracks V wf l ws (logOf (e :: r) n)) (hb : logB n e = false) : Tracks V wf l ws (logOf r n) := by
  rw [logOf_cons, hb] at h
  simpa using h
theorem Tracks.next {V : View} {wf : List Ver} {l : Tbl} {ws : List Ver} {e : Ent} {r : List Ent} {n : Int} (h : Tracks V wf l ws (logOf (e :: r) n)) (hb : logB n e = true) : okE V ws e ∧ Tracks V wf (tblE l e) (wsE ws e) (logOf r n) := by
  rw [logOf_cons, hb, if_pos rfl] at h
  exact ⟨h.fit.1, h.tbl.ent, h.fit.2, h.fin⟩
theorem tblE_len (l : Tbl) (e : Ent) : (tblE l e).length ≤ l.length + 1 := by
  have h := lessT_len l e.1.key
  unfold tblE
  split
  · show (lessT l e.1.key ++ [(e.1.key, e.1.val)]).length ≤ _
    rw [List.length_append, List.length_singleton]
    omega
  · split
    · show (lessT l e.1.key ++ []).length ≤ _
      rw [List.append_nil]
      omega
    · omega
end Go.Proofs.YtkfjafndplmdkaaGreat
