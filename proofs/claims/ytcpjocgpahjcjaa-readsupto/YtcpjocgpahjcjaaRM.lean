import Derived.Test.YtcpjocgpahjcjaaRL
namespace Go.Proofs.Ytcpjocgpahjcjaa
open Go.RowKit Go.Sort
theorem RInv.parts {w : World} {S : RSt} {k : Nat} (h : RInv w S) (hk : k < S.ts.length) : S.ts[k].blocks.Nodup ∧ (∀ b ∈ S.ts[k].blocks, b ≠ S.wb ∧ b ∉ S.others ∧ b ∉ vb S.ov) := by
  have e1 : S.ts = S.ts.take k ++ S.ts[k] :: S.ts.drop (k + 1) := by rw [← List.drop_eq_getElem_cons hk, List.take_append_drop]
  have hbl : S.blocks = (S.wb :: (S.others ++ vb S.ov) ++ (S.ts.take k).flatMap RT.blocks) ++ (S.ts[k].blocks ++ (S.ts.drop (k + 1)).flatMap RT.blocks) := by
    have e3 : S.ts.flatMap RT.blocks = (S.ts.take k).flatMap RT.blocks ++ (S.ts[k].blocks ++ (S.ts.drop (k + 1)).flatMap RT.blocks) := by
      conv => lhs; rw [e1]
      rw [List.flatMap_append, List.flatMap_cons]
    unfold RSt.blocks
    rw [e3]
    simp only [List.append_assoc, List.cons_append]
  have hnd := h.nd
  rw [hbl] at hnd
  obtain ⟨n1, n2, n3⟩ := List.nodup_append.1 hnd
  obtain ⟨m1, m2, m3⟩ := List.nodup_append.1 n2
  refine ⟨m1, fun b hb => ?_⟩
  have ap : ∀ x ∈ S.wb :: (S.others ++ vb S.ov) ++ (S.ts.take k).flatMap RT.blocks, x ≠ b := fun x hx e => n3 x hx b (List.mem_append.2 (Or.inl hb)) e
  refine ⟨fun e => ap S.wb (by simp) e.symm, fun hm => ap b (by simp [hm]) rfl, fun hm => ap b (by simp [hm]) rfl⟩
theorem vb_nodup (v : Value) : (vb v).Nodup := by
  unfold vb
  cases v.ownBlock <;> simp
theorem vb_eq {v v' : Value} (h : v.ownBlock = v'.ownBlock) : vb v = vb v' := by unfold vb; rw [h]
/-- pure -/
structure PT where
  start : Int
  ws : List Ver
  ks : List ByteArray
  ps : List ByteArray
structure PW where
  clock : Int
  L : List Ver
  ts : List PT
  q : List Int
  rows : List (ByteArray × Int)
  low : Int
def RT.abs (T : RT) : PT := ⟨T.start, T.ws, T.ks, T.ps⟩
def RSt.abs (S : RSt) : PW := ⟨S.clock, S.L, S.ts.map RT.abs, S.q, S.rows, S.low⟩
open Classical in
noncomputable def keysC (all : List Ver) (pre : ByteArray) : List ByteArray := if h : ∃ K, KeysOf all pre K then h.choose else []
theorem asc_unique : ∀ {K K' : List ByteArray}, Asc K → Asc K' → (∀ x, x ∈ K ↔ x ∈ K') → K = K'
  | [], [], _, _, _ => rfl
  | [], y :: _, _, _, h => by have := (h y).2 (List.mem_cons_self ..); simp at this
  | x :: _, [], _, _, h => by have := (h x).1 (List.mem_cons_self ..); simp at this
  | x :: r, y :: r', ha, hb, h => by
    obtain ⟨a1, a2⟩ := List.pairwise_cons.1 ha
    obtain ⟨b1, b2⟩ := List.pairwise_cons.1 hb
    have irr : ∀ z : ByteArray, ¬ z.data.toList < z.data.toList := fun z => List.lt_irrefl _
    have exy : x = y := by
      rcases List.mem_cons.1 ((h x).1 (List.mem_cons_self ..)) with e | e
      · exact e
      · rcases List.mem_cons.1 ((h y).2 (List.mem_cons_self ..)) with e' | e'
        · exact e'.symm
        · exact absurd (List.lt_trans (b1 x e) (a1 y e')) (irr y)
    subst exy
    congr 1
    refine asc_unique a2 b2 (fun z => ⟨fun hz => ?_, fun hz => ?_⟩)
    · rcases List.mem_cons.1 ((h z).1 (List.mem_cons_of_mem _ hz)) with e | e
      · exact absurd (e ▸ a1 z hz) (irr _)
      · exact e
    · rcases List.mem_cons.1 ((h z).2 (List.mem_cons_of_mem _ hz)) with e | e
      · exact absurd (e ▸ b1 z hz) (irr _)
      · exact e
theorem keysC_eq {all : List Ver} {pre : ByteArray} {K : List ByteArray} (h : KeysOf all pre K) : keysC all pre = K := by
  unfold keysC
  have hx : ∃ K, KeysOf all pre K := ⟨K, h⟩
  rw [dif_pos hx]
  have h2 := hx.choose_spec
  exact asc_unique h2.1 h.1 (fun x => (h2.2 x).trans (h.2 x).symm)
noncomputable def ofM' (W : PW) (k : Nat) (T : PT) (o : OpM) : AnsM × PW :=
  if (o.kind = 2 ∨ o.kind = 4 ∨ o.kind = 5) ∧ (o.key.size < 1 ∨ 8 < o.key.size) then (errA 4, W)
  else if o.kind = 2 then (⟨0, 0, (seesM T.ws W.L T.start o.key).2, getV (seesM T.ws W.L T.start o.key), []⟩, { W with ts := W.ts.set k { T with ks := T.ks ++ [o.key] } })
  else if o.kind = 3 then (⟨0, 0, false, ⟨#[]⟩, itemsR T.ws W.L T.start (keysC (W.L ++ T.ws) o.key)⟩, { W with ts := W.ts.set k { T with ps := T.ps ++ [o.key] } })
  else if o.kind = 4 then (if 20 < o.val.size then (errA 5, W) else (errA 0, { W with ts := W.ts.set k { T with ws := writeM T.ws ⟨o.key, 0, o.val, false⟩ } }))
  else if o.kind = 5 then (errA 0, { W with ts := W.ts.set k { T with ws := writeM T.ws ⟨o.key, 0, ⟨#[]⟩, true⟩ } })
  else (errA 0, { W with ts := W.ts.filter (fun x => decide (x.start ≠ T.start)) })
def RPost (w : World) (S : RSt) (A : AnsM) (W : PW) (e : Ending) (w' : World) : Prop :=
  ∃ S' it, e = .returned (ansV A.code A.number A.found A.value it) ∧ w'.ownsRow w.heap.size 48 2 it A.items.length (itemCells A.items) ∧ S'.abs = W ∧ S'.wb = S.wb ∧ ROk w S w' S'
theorem rpost_err {w w' : World} {S : RSt} (h : RInv w S) (hc : Chg nobody w w') (c : Int) : RPost w S (errA c) S.abs (.returned (ansV c 0 false ⟨#[]⟩ (.slice none 0 0))) w' :=
  ⟨S, .slice none 0 0, rfl, World.ownsRow_nil _ _ _ _, rfl, rfl, h.chg hc (fun _ _ h => h), fun _ hb => Or.inl hb, hc.any _⟩
theorem map_set_abs (ts : List RT) (k : Nat) (T : RT) : (ts.set k T).map RT.abs = (ts.map RT.abs).set k T.abs := List.map_set
theorem filter_abs (ts : List RT) (n : Int) : (lessT ts n).map RT.abs = (ts.map RT.abs).filter (fun x => decide (x.start ≠ n)) := by
  unfold lessT
  rw [List.filter_map]
  rfl
end Go.Proofs.Ytcpjocgpahjcjaa
