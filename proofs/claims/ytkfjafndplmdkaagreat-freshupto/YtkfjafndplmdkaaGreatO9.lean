import Derived.Test.YtkfjafndplmdkaaGreatO8
namespace Go.Proofs.YtkfjafndplmdkaaGreat
open Go.RowKit Go.Sort
open Go.Maps (Keyed)
/-- a block that is no row of versions. -/
theorem StoreAt.not_vb {w : World} {sb vm : Nat} {V : List (ByteArray × VEnt)} (h : StoreAt w sb vm V) {j : Nat} {o : Obj} (hj : w.heap[j]? = some o) (hno : ∀ cur, o ≠ .cells cur 167 (0, 0)) : j ∉ vBlocks V := fun hm => by
  obtain ⟨p, hp, hpj⟩ := List.mem_map.1 hm
  rcases (h.rows p hp).2 with ⟨hx, _⟩ | ⟨g, cap, cur, hv, _, hb, _⟩
  · cases hx
  · have hv' : mkV p.2 = .slice (some ⟨g, 0, none⟩) p.2.vs.length cap := hv
    have e1 : p.2.vb = g := by
      simp only [mkV] at hv'
      injection hv' with h1 _ _
      injection h1 with h1
      exact congrArg Addr.block h1
    rw [← hpj] at hj
    rw [e1, hb] at hj
    exact hno cur (Option.some.inj hj).symm
theorem rangeAt.not_vb {α β : Type} {P : Program} {k : TypeId} {mk : α → Value} {vl : β → Value} {w : World} {b r : Nat} {l left : List (α × β)} {sb vm : Nat} {V : List (ByteArray × VEnt)} (h : rangeAt w P k mk vl b r l left) (hs : StoreAt w sb vm V) : r ∉ vBlocks V ∧ b ∉ vBlocks V := by
  obtain ⟨es, clock, since, seen, c0, hb, _, hr, _⟩ := h
  exact ⟨hs.not_vb hr (fun cur e => by cases e), hs.not_vb hb (fun cur e => by cases e)⟩
theorem vBlocks_put {x : ByteArray} {E : VEnt} : ∀ {V : List (ByteArray × VEnt)}, ∀ b ∈ vBlocks (putA x E V), b = E.vb ∨ b ∈ vBlocks V := by
  intro V b hb
  obtain ⟨p, hp, rfl⟩ := List.mem_map.1 hb
  rcases putA_keys x E V p hp with rfl | h
  · exact Or.inl rfl
  · exact Or.inr (List.mem_map.2 ⟨p, h, rfl⟩)
theorem vBlocks_put_nodup {x : ByteArray} {E : VEnt} : ∀ {V : List (ByteArray × VEnt)}, (V.map Prod.fst).Nodup → (vBlocks V).Nodup → ((∃ e0, getA x V = some e0 ∧ E.vb = e0.vb) ∨ E.vb ∉ vBlocks V) → (vBlocks (putA x E V)).Nodup
  | [], _, _, _ => by simp [putA, vBlocks]
  | p :: r, nk, nd, h => by
    obtain ⟨n1, n2⟩ := List.nodup_cons.1 (by simpa using nk : (p.1 :: r.map Prod.fst).Nodup)
    obtain ⟨d1, d2⟩ := List.nodup_cons.1 (by simpa [vBlocks] using nd : (p.2.vb :: vBlocks r).Nodup)
    by_cases e : p.1 = x
    · have e1 : putA x E (p :: r) = (x, E) :: r := by unfold putA; rw [if_pos e]
      rw [e1]
      show (E.vb :: vBlocks r).Nodup
      refine List.nodup_cons.2 ⟨?_, d2⟩
      rcases h with ⟨e0, h0, hv⟩ | h
      · have : e0 = p.2 := by simp [getA, e] at h0; exact h0.symm
        rw [hv, this]; exact d1
      · exact fun hm => h (by simp [vBlocks] at hm ⊢; exact Or.inr hm)
    · have e1 : putA x E (p :: r) = p :: putA x E r := by rw [putA]; rw [if_neg e]
      rw [e1]
      show (p.2.vb :: vBlocks (putA x E r)).Nodup
      refine List.nodup_cons.2 ⟨fun hm => ?_, vBlocks_put_nodup n2 d2 ?_⟩
      · rcases vBlocks_put _ hm with hm | hm
        · rcases h with ⟨e0, h0, hv⟩ | h
          · have h0' : getA x r = some e0 := by simpa [getA, e] using h0
            exact d1 (by rw [hm, hv]; exact List.mem_map.2 ⟨(x, e0), getA_mem h0', rfl⟩)
          · exact h (by rw [← hm]; simp [vBlocks])
        · exact d1 hm
      · rcases h with ⟨e0, h0, hv⟩ | h
        · exact Or.inl ⟨e0, by simpa [getA, e] using h0, hv⟩
        · exact Or.inr (fun hm => h (by simp [vBlocks] at hm ⊢; exact Or.inr hm))
/-- what came of a commit, at the level of the lists: V' and rows1 (ahead of what is forgotten). -/
structure Added (T : Tx) (t : Int) (V V' : List (ByteArray × VEnt)) (rows rows1 : List (ByteArray × Int)) (left : List (ByteArray × (Bool × ByteArray))) (size : Nat) : Prop where
  vs : ∀ k, versOf k V' = versOf k V ++ addV T.ws left t k
  vk : ∀ k, (getA k V').isSome = true → (getA k V).isSome = true ∨ (getA k T.ws).isSome = true
  vn : (∀ p ∈ V, p.2.vs ≠ []) → ∀ p ∈ V', p.2.vs ≠ []
  vb : ∀ b ∈ vBlocks V', b ∈ vBlocks V ∨ size ≤ b
  nd : (vBlocks V').Nodup
  rs : ∀ k, getA k rows1 = rowV T.ws left t (getA k rows) k
  rn : (rows1.map Prod.fst).Nodup
  rl : rows1.length ≤ rows.length + (T.ws.length - left.length)
theorem Added.start (T : Tx) (t : Int) (V : List (ByteArray × VEnt)) (rows : List (ByteArray × Int)) (size : Nat) (hn : (vBlocks V).Nodup) (hr : (rows.map Prod.fst).Nodup) : Added T t V V rows rows T.ws size :=
  ⟨fun k => by rw [addV_start, List.append_nil], fun k h => Or.inl h, fun h => h, fun b h => Or.inl h, hn, fun k => by rw [rowV_start], hr, by omega⟩
theorem Added.step {T : Tx} {t : Int} {V V' : List (ByteArray × VEnt)} {rows rows1 : List (ByteArray × Int)} {left left' : List (ByteArray × (Bool × ByteArray))} {size : Nat} (h : Added T t V V' rows rows1 left size) {x : ByteArray} {c : Bool × ByteArray} {E : VEnt}
    (hx : getA x T.ws = some c) (hnd : (left.map Prod.fst).Nodup) (hp : left.Perm ((x, c) :: left')) (hll : left.length ≤ T.ws.length) (hk : (V'.map Prod.fst).Nodup) (hE : E.vs = versOf x V' ++ [(t, c)]) (hv : (∃ e0, getA x V' = some e0 ∧ E.vb = e0.vb) ∨ (size ≤ E.vb ∧ E.vb ∉ vBlocks V')) :
    Added T t V (putA x E V') rows (putA x t rows1) left' size := by
  refine ⟨fun k => ?_, fun k hk' => ?_, fun hV p hp' => ?_, fun b hb => ?_, vBlocks_put_nodup hk h.nd (hv.imp id And.right), fun k => ?_, putA_nodup x t rows1 h.rn, ?_⟩
  · rw [versOf_put, (addV_step hx hnd hp k).1]
    by_cases e : k = x
    · subst e; rw [if_pos rfl, hE, h.vs k, if_pos rfl, List.append_assoc]
    · rw [if_neg e, h.vs k, if_neg e, List.append_nil]
  · rw [getA_put] at hk'
    by_cases e : k = x
    · subst e; exact Or.inr (by rw [hx]; rfl)
    · rw [if_neg e] at hk'; exact h.vk k hk'
  · rcases putA_keys x E V' p hp' with rfl | h'
    · rw [hE]; simp
    · exact h.vn hV p h'
  · rcases vBlocks_put b hb with e | hb
    · rcases hv with ⟨e0, h0, hv⟩ | hv
      · exact h.vb b (by rw [e, hv]; exact List.mem_map.2 ⟨(x, e0), getA_mem h0, rfl⟩)
      · exact Or.inr (by rw [e]; exact hv.1)
    · exact h.vb b hb
  · rw [getA_put, (addV_step hx hnd hp k).2, h.rs k]
  · have h1 := putA_len x t rows1
    have h2 := h.rl
    have h3 := hp.length_eq
    simp at h3
    omega
def CommitPost (T : Tx) (ob cb sb rb vm : Nat) (rows : List (ByteArray × Int)) (low c : Int) (V : List (ByteArray × VEnt)) (w w' : World) : Prop :=
  ∃ V' rows1 rows' low', Added T (c + 1) V V' rows rows1 [] w.heap.size ∧ StoreAt w' sb vm V' ∧ OrAt w' ob cb sb rb rows' low' ∧ (∀ n, rows1.length ≤ n → ∀ rs, (rs.map Prod.fst).Nodup → rows1.Perm rs → rows'.Perm (trimM n rs low).1 ∧ low' = (trimM n rs low).2) ∧
    w'.heap[cb]? = some (.cells #[.int .i64 (c + 1)] 86) ∧ Chg (fun b => b = cb ∨ b = ob ∨ b = rb ∨ b = vm ∨ b ∈ vBlocks V) w w'
set_option maxRecDepth 100000 in
set_option maxHeartbeats 4000000 in
theorem ocommit_ok (T : Tx) (ob cb sb rb vm : Nat) (rows : List (ByteArray × Int)) (low c : Int) (V : List (ByteArray × VEnt)) (w : World) (hT : TxAt w sb T) (ho : OrAt w ob cb sb rb rows low) (hs : StoreAt w sb vm V) (hcb : w.heap[cb]? = some (.cells #[.int .i64 c] 86)) (hc0 : 0 ≤ c) (hc1 : c < 1000000000) (hf : Fits T rows V)
    (hnv : (vBlocks V).Nodup) (hvr : vm ≠ rb) (hvw : vm ≠ T.wb) (hrw : rb ≠ T.wb) (hw : T.ws ≠ []) (hr : refT T rows low V = 0) :
    Calls Tryz.prog 107 #[.pointer (some ⟨ob, 0, none⟩), .pointer (some ⟨T.tb, 0, none⟩)] w fun e w' => e = .returned (.int .i64 (c + 1)) ∧ CommitPost T ob cb sb rb vm rows low c V w w' := by
  obtain ⟨_, c1, _, c3, _, _⟩ := hT.cells
  have hl := fun (w' : World) (hc : Chg nobody w w') ty => (hT.wm.of_block (hc.block _ hT.wm.lt (fun h => h))).len Tryz.underlying145 ty
  have hl0 := hl w (Chg.refl _ _)
  have hpos : 0 < T.ws.length := by cases h : T.ws with | nil => exact absurd h hw | cons a r => simp
  have b0 : ((T.ws.length : Int) == 0) = false := by simp; omega
  have h1 := mustRemember_any T ob sb low w hT (cell_of ho.o rfl) (by have := hf.ks; omega) (by have := hf.ps; omega)
  have h2 := fun (w' : World) (hc : Chg nobody w w') => mustNotConflict_any T ob cb sb rb rows low w' (hT.chg hc (fun h => h) (fun h => h) (fun h => h) (fun h => h)) (ho.chg hc (fun h => h) (fun h => h)) (fun r hr => by have := hf.rk r hr; omega)
  have h3 := fun (w' : World) (hc : Chg nobody w w') => mustHaveRoom_any ob sb vm V T.ws.length w' (cell_of (ho.chg hc (fun h => h) (fun h => h)).o rfl) (hs.chg hc (fun h => h) (fun h => h) (fun _ _ h => h)) (by have := hf.vs; omega) (by have := hf.ws; omega)
  have HL : Hid (∀ (w' : World), Chg nobody w w' → ∀ ty, (Builtin.len_ #[145] ty #[.map (some T.wb)]).run Tryz.prog w' = .ok (.int .i64 T.ws.length) w') := hl
  unfold refT at hr
  have k1 : ¬ (0 < T.ks.length + T.ps.length ∧ T.start < low) := fun h => by rw [if_pos h] at hr; cases hr
  rw [if_neg k1] at h1 hr
  have k2 : ¬ conflT rows T = true := fun h => by rw [if_pos h] at hr; cases hr
  rw [if_neg k2] at h2 hr
  have k3 : ¬ 100 < sumV V + T.ws.length := fun h => by rw [if_pos h] at hr; cases hr
  rw [if_neg k3] at h3
  have HA : Hid (TxAt w sb T ∧ OrAt w ob cb sb rb rows low ∧ StoreAt w sb vm V ∧ w.heap[cb]? = some (.cells #[.int .i64 c] 86) ∧ Fits T rows V ∧ (vBlocks V).Nodup ∧ vm ≠ rb ∧ vm ≠ T.wb ∧ rb ≠ T.wb ∧ sumV V + T.ws.length ≤ 100) := ⟨hT, ho, hs, hcb, hf, hnv, hvr, hvw, hrw, by omega⟩
  have c0 := fun (w' : World) (hc : Chg nobody w w') => cell_of (ho.chg hc (fun h => h) (fun h => h)).o (i := 0) (v := .pointer (some ⟨cb, 0, none⟩)) rfl
  clear hT ho hs hcb hf hnv hvr hvw hrw hw hr k1 k2 k3 hl
  go_enter Tryz.func107, Tryz.ntmps107
  go_wp2_with (first | (go_at_call 118; refine (writes_any T.tb T.wb w c3).mono ?_; rintro e w' ⟨rfl, hw'⟩; replace hw' := hw'.symm; subst hw') | (go_at_call 119; refine h1.mono ?_; rintro e w2 ⟨rfl, hch⟩) | (go_at_call 120; refine (h2 _ hch).mono ?_; rintro e w3 ⟨rfl, hch3⟩; have hl3 := HL.out _ (hch.trans hch3)) | (go_at_call 121; refine (h3 _ (hch.trans hch3)).mono ?_; rintro e w4 ⟨rfl, hch4⟩; have c04 := c0 _ ((hch.trans hch3).trans hch4)) | fail)
  obtain ⟨hT, ho, hs, hcb, hf, hnv, hvr, hvw, hrw, h100⟩ := HA.out
  have hcw4 : Chg nobody w w4 := (hch.trans hch3).trans hch4
  have hcb4 : w4.heap[cb]? = some (.cells #[.int .i64 c] 86) := (hcw4.block _ (lt_of_block hcb) (fun h => h)).trans hcb
  refine (takeTime_any cb c w4 hc0 hc1 (cell_of hcb4 rfl) (unfrozen_of hcb4 0)).mono ?_
  rintro e w5 ⟨rfl, hw5⟩
  have hc45 : Chg (fun b => b = cb) w4 w5 := by rw [hw5]; exact chg_set1 _ _ _ _
  have hcb5 : w5.heap[cb]? = some (.cells #[.int .i64 (c + 1)] 86) := by rw [hw5]; simp [World.setCell, Array.getElem?_modify, hcb4]
  have hcw5 : Chg (fun b => b = cb) w w5 := (hcw4.any _).trans hc45
  have nT : T.wb ≠ cb := fun e => by
    obtain ⟨es, ck, hb, _⟩ := hT.wm
    rw [e, hcb] at hb; cases hb
  have nS : sb ≠ cb := fun e => by have := hs.st; rw [e, hcb] at this; cases this
  have nV : vm ≠ cb := fun e => by
    obtain ⟨es, ck, hb, _⟩ := hs.vs
    rw [e, hcb] at hb; cases hb
  have nVb : cb ∉ vBlocks V := hs.not_vb hcb (fun cur e => by cases e)
  have nO : ob ≠ cb := fun e => by have := ho.o; rw [e, hcb] at this; cases this
  have nR : rb ≠ cb := fun e => by
    obtain ⟨es, ck, hb, _⟩ := ho.r
    rw [e, hcb] at hb; cases hb
  have hm5 : mapAt w5 Tryz.prog 9 mkS mkC T.wb T.ws := hT.wm.of_block (hcw5.block _ hT.wm.lt nT)
  have hs5 : StoreAt w5 sb vm V := hs.chg hcw5 nS nV (fun b hb e => nVb (e ▸ hb))
  have ho5 : OrAt w5 ob cb sb rb rows low := ho.chg hcw5 nO nR
  have H5 : Hid (StoreAt w5 sb vm V ∧ OrAt w5 ob cb sb rb rows low ∧ w5.heap[cb]? = some (.cells #[.int .i64 (c + 1)] 86) ∧ Chg (fun b => b = cb ∨ b = ob ∨ b = rb ∨ b = vm ∨ b ∈ vBlocks V) w w5 ∧ (T.ws.map Prod.fst).Nodup ∧ (rows.map Prod.fst).Nodup) := ⟨hs5, ho5, hcb5, hcw5.mono (fun _ _ h => Or.inl h), hT.wm.nodup, ho.r.nodup⟩
  have hwl : w.heap.size ≤ w5.heap.size := hcw5.size
  clear hT ho hs hcb hf hnv hvr hvw hrw h100 hcw4 hcb4 hc45 hcb5 hcw5 nT nS nV nVb nO nR hs5 ho5 hw5 h1 h2 h3 c0 c04 hch hch3 hch4 HL hl3 hl0 c1 c3
  go_wp2_with (first | (at_range; refine wpList_range_at _ rfl _ 145 rfl 9 127 mkS mkC Tryz.underlying145 T.wb T.ws rfl hm5 ?_; intro w0 hrg0 hg0 hs0) | go_in)
  go_frame
  go_loopw [] (fun wr => ∃ (left : List (ByteArray × (Bool × ByteArray))) (Vr : List (ByteArray × VEnt)) (rowsr : List (ByteArray × Int)), rangeAt wr Tryz.prog 9 mkS mkC T.wb w5.heap.size T.ws left ∧ (left.map Prod.fst).Nodup ∧ left.length ≤ T.ws.length ∧ (∀ p ∈ left, p ∈ T.ws) ∧ StoreAt wr sb vm Vr ∧ OrAt wr ob cb sb rb rowsr low ∧
      Added T (c + 1) V Vr rows rowsr left w.heap.size ∧ wr.heap[cb]? = some (.cells #[.int .i64 (c + 1)] 86) ∧ Chg (fun b => b = cb ∨ b = ob ∨ b = rb ∨ b = vm ∨ b ∈ vBlocks V) w wr)
    (fun wr => wr.rangeLeft T.wb w5.heap.size)
  case atStart =>
    obtain ⟨hs5, ho5, hcb5, hcw5, hnd1, hnd2⟩ := H5.out
    have hc0' : Chg nobody w5 w0 := (Chg.refl _ _).grown hg0 (fun k e => by cases e)
    exact ⟨T.ws, V, rows, hrg0, hnd1, Nat.le_refl _, fun p hp => hp, hs5.chg hc0' (fun h => h) (fun h => h) (fun _ _ h => h), ho5.chg hc0' (fun h => h) (fun h => h), Added.start _ _ _ _ _ HA.out.2.2.2.2.2.1 hnd2, (hc0'.block _ (lt_of_block hcb5) (fun h => h)).trans hcb5, hcw5.trans (hc0'.any _)⟩
  case round =>
    obtain ⟨left, Vr, rowsr, hrg, hnd, hll, hsub, hsr, hor, hadd, hcbr, hchr⟩ := hrel
    have HR : Hid ((left.map Prod.fst).Nodup ∧ left.length ≤ T.ws.length ∧ (∀ p ∈ left, p ∈ T.ws) ∧ StoreAt wr sb vm Vr ∧ OrAt wr ob cb sb rb rowsr low ∧ Added T (c + 1) V Vr rows rowsr left w.heap.size ∧ wr.heap[cb]? = some (.cells #[.int .i64 (c + 1)] 86) ∧ Chg (fun b => b = cb ∨ b = ob ∨ b = rb ∨ b = vm ∨ b ∈ vBlocks V) w wr) := ⟨hnd, hll, hsub, hsr, hor, hadd, hcbr, hchr⟩
    clear hnd hll hsub hsr hor hadd hcbr hchr
    go_wp2_with (first | (at_next; refine wpList_next_at _ rfl _ rfl 9 mkS mkC T.wb w5.heap.size T.ws left rfl hrg (fun hl0 => ?_) (fun x cc left' w2 hp hrg2 hg2 hs2 hen => ?_)) | (at_len; fail))
    · obtain ⟨hnd, hll, hsub, hsr, hor, hadd, hcbr, hchr⟩ := HR.out
      rw [hl0] at hadd
      have hne : ob ≠ rb := fun e => by
        obtain ⟨es, ck, hb, _⟩ := hor.r
        rw [← e, hor.o] at hb; cases hb
      have hfg := forget_any ob cb sb rb rowsr low wr hor hne (by have := hadd.rl; have := HA.out.2.2.2.2.1.rs; have := HA.out.2.2.2.2.2.2.2.2.2; omega)
      have n1 : sb ≠ ob := fun e => by have := hsr.st; rw [e, hor.o] at this; cases this
      have n2 : sb ≠ rb := fun e => by
        obtain ⟨es, ck, hb, _⟩ := hor.r
        rw [← e, hsr.st] at hb; cases hb
      have n3 : vm ≠ ob := fun e => by
        obtain ⟨es, ck, hb, _⟩ := hsr.vs
        rw [e, hor.o] at hb; cases hb
      have n4 : ob ∉ vBlocks Vr := hsr.not_vb hor.o (fun cur e => by cases e)
      have n5 : rb ∉ vBlocks Vr := by
        obtain ⟨es, ck, hb, _⟩ := hor.r
        exact hsr.not_vb hb (fun cur e => by cases e)
      have n6 : cb ≠ ob := fun e => by rw [e, hor.o] at hcbr; cases hcbr
      have n7 : cb ≠ rb := fun e => by
        obtain ⟨es, ck, hb, _⟩ := hor.r
        rw [← e, hcbr] at hb; cases hb
      have HF : Hid (∀ w' rows' low', OrAt w' ob cb sb rb rows' low' → (∀ n, rowsr.length ≤ n → ∀ rs, (rs.map Prod.fst).Nodup → rowsr.Perm rs → rows'.Perm (trimM n rs low).1 ∧ low' = (trimM n rs low).2) → Chg (fun b => b = ob ∨ b = rb) wr w' → CommitPost T ob cb sb rb vm rows low c V w w') := fun w' rows' low' g1 g2 g3 =>
        ⟨Vr, rowsr, rows', low', hadd, hsr.chg g3 (fun h => h.elim n1 n2) (fun h => h.elim n3 HA.out.2.2.2.2.2.2.1) (fun b hb h => h.elim (fun e => n4 (e ▸ hb)) (fun e => n5 (e ▸ hb))), g1, g2, (g3.block _ (lt_of_block hcbr) (fun h => h.elim n6 n7)).trans hcbr, hchr.trans (g3.mono (fun _ _ h => h.elim (fun e => Or.inr (Or.inl e)) (fun e => Or.inr (Or.inr (Or.inl e)))))⟩
      clear hnd hll hsub hsr hor hadd hcbr hchr hne n1 n2 n3 n4 n5 n6 n7
      go_wp2_with fail
      refine hfg.mono ?_
      rintro e w6 ⟨rfl, rows', low', g1, g2, g3⟩
      have HP : Hid (CommitPost T ob cb sb rb vm rows low c V w w6) := HF.out w6 rows' low' g1 g2 g3
      clear g1 g2 g3 hfg
      go_wp2_with fail
      go_ret
      exact ⟨rfl, HP.out⟩
    · have hlm : Hid (left'.length < left.length) := by have := hp.length_eq; simp at this; show _ < _; omega
      have hc2 : Chg nobody w wr → True := fun _ => trivial
      have HADD : Hid (∀ wq, Chg nobody w2 wq → Calls Tryz.prog 122 #[.pointer (some ⟨sb, 0, none⟩), .string x, .int .i64 (c + 1), .agg #[.bool cc.1, .string cc.2]] wq fun e w' => e = .returned (.tuple #[]) ∧ ∃ w4, w'.cell? ⟨ob, 2, none⟩ = some (.map (some rb)) ∧
          (Instr.mapUpdate 115 (.map (some rb)) (.string x) (.int .i64 (c + 1))).run Tryz.prog w' = .ok () w4 ∧ Hid (∃ Vr' rowsr', rangeAt w4 Tryz.prog 9 mkS mkC T.wb w5.heap.size T.ws left' ∧ (left'.map Prod.fst).Nodup ∧ left'.length ≤ T.ws.length ∧ (∀ p ∈ left', p ∈ T.ws) ∧ StoreAt w4 sb vm Vr' ∧ OrAt w4 ob cb sb rb rowsr' low ∧
            Added T (c + 1) V Vr' rows rowsr' left' w.heap.size ∧ w4.heap[cb]? = some (.cells #[.int .i64 (c + 1)] 86) ∧ Chg (fun b => b = cb ∨ b = ob ∨ b = rb ∨ b = vm ∨ b ∈ vBlocks V) w w4)) := fun wq hq => by
        obtain ⟨hnd, hll, hsub, hsr, hor, hadd, hcbr, hchr⟩ := HR.out
        obtain ⟨hT, ho, hs, hcb, hf, hnv, hvr, hvw, hrw, h100⟩ := HA.out
        have hit := hrg.not_vb hsr
        have hc02 : Chg (fun b => b = w5.heap.size) wr w2 := (Chg.refl _ _).grown hg2 (fun k e => Or.inl (by cases e; rfl))
        have hcq : Chg (fun b => b = w5.heap.size) wr wq := hc02.trans (hq.any _)
        have sIt : ∀ j o, wr.heap[j]? = some o → (∀ b s a n, o ≠ .mapIter b s a n) → j ≠ w5.heap.size := fun j o hj hno e => by
          obtain ⟨es, clock, since, seen, c0, hb, _, hr, _⟩ := hrg
          rw [e, hr] at hj
          exact hno _ _ _ _ (Option.some.inj hj).symm
        have hsq : StoreAt wq sb vm Vr := hsr.chg hcq (sIt _ _ hsr.st (fun _ _ _ _ e => by cases e)) (by obtain ⟨es, ck, hb, _⟩ := hsr.vs; exact sIt _ _ hb (fun _ _ _ _ e => by cases e)) (fun b hb e => hit.1 (e ▸ hb))
        have hoq : OrAt wq ob cb sb rb rowsr low := hor.chg hcq (sIt _ _ hor.o (fun _ _ _ _ e => by cases e)) (by obtain ⟨es, ck, hb, _⟩ := hor.r; exact sIt _ _ hb (fun _ _ _ _ e => by cases e))
        have hcbq : wq.heap[cb]? = some (.cells #[.int .i64 (c + 1)] 86) := (hcq.block _ (lt_of_block hcbr) (sIt _ _ hcbr (fun _ _ _ _ e => by cases e))).trans hcbr
        have hrgq : rangeAt wq Tryz.prog 9 mkS mkC T.wb w5.heap.size T.ws left' := hrg2.of_block (hq.block _ hrg2.owns.lt (fun h => h)) (hq.block _ hrg2.lt (fun h => h))
        have hxm : (x, cc) ∈ T.ws := hsub _ (hp.mem_iff.2 (by simp))
        have hxk : x.size ≤ 8 := hf.wk _ hxm
        have hxl : (versOf x Vr).length ≤ 2000000 := by
          rw [hadd.vs x, List.length_append]
          have := versOf_le x V
          have h2 : (addV T.ws left (c + 1) x).length ≤ 1 := by unfold addV; split <;> (try split) <;> simp
          omega
        have n1 : sb ≠ vm := fun e => by
          obtain ⟨es, ck, hb, _⟩ := hsq.vs
          rw [← e, hsq.st] at hb; cases hb
        have hmapvb : ∀ {b : Nat} {es : Array MapEntry} {ck : Nat}, wq.heap[b]? = some (.map es ck) → b ∉ vBlocks Vr := fun hb => hsq.not_vb hb (fun cur e => by cases e)
        have hndq : (sb :: vm :: vBlocks Vr).Nodup := by
          refine List.nodup_cons.2 ⟨fun hm => ?_, List.nodup_cons.2 ⟨?_, hadd.nd⟩⟩
          · rcases List.mem_cons.1 hm with e | hm
            · exact n1 e
            · exact hsq.not_vb hsq.st (fun cur e => by cases e) hm
          · obtain ⟨es, ck, hb, _⟩ := hsq.vs
            exact hmapvb hb
        refine (add_any sb vm Vr x (c + 1) cc.1 cc.2 wq (by unfold maxLen; omega) hsq hxl hndq).mono ?_
        rintro e w3 ⟨rfl, E, hE, hs3, hv3, hc3⟩
        have n2 : ob ≠ vm := fun e => by
          obtain ⟨es, ck, hb, _⟩ := hsq.vs
          rw [← e, hoq.o] at hb; cases hb
        have n3 : ob ∉ vBlocks Vr := hsq.not_vb hoq.o (fun cur e => by cases e)
        have n4 : rb ∉ vBlocks Vr := by obtain ⟨es, ck, hb, _⟩ := hoq.r; exact hmapvb hb
        have ho3 : OrAt w3 ob cb sb rb rowsr low := hoq.chg hc3 (fun h => h.elim n2 n3) (fun h => h.elim (fun e => hvr e.symm) n4)
        obtain ⟨w4, hrun4, hm4, hg4, _⟩ := ho3.r.store keyS mkS_inj Tryz.underlying115 (a := x) (keyOfS (by unfold maxLen; omega)) (c + 1)
        have hc4 : Chg (fun b => b = rb) w3 w4 := (Chg.refl _ _).grown hg4 (fun k e => Or.inl (by cases e; rfl))
        have n5 : ob ≠ rb := fun e => by
          obtain ⟨es, ck, hb, _⟩ := ho3.r
          rw [← e, ho3.o] at hb; cases hb
        have n6 : sb ≠ rb := fun e => by
          obtain ⟨es, ck, hb, _⟩ := ho3.r
          rw [← e, hs3.st] at hb; cases hb
        have n7 : rb ∉ vBlocks (putA x E Vr) := by
          obtain ⟨es, ck, hb, _⟩ := ho3.r
          exact hs3.not_vb hb (fun cur e => by cases e)
        have n8 : cb ≠ vm := fun e => by
          obtain ⟨es, ck, hb, _⟩ := hsq.vs
          rw [← e, hcbq] at hb; cases hb
        have n9 : cb ∉ vBlocks Vr := hsq.not_vb hcbq (fun cur e => by cases e)
        have n10 : cb ≠ rb := fun e => by
          obtain ⟨es, ck, hb, _⟩ := hoq.r
          rw [← e, hcbq] at hb; cases hb
        have hcb3 : w3.heap[cb]? = some (.cells #[.int .i64 (c + 1)] 86) := (hc3.block _ (lt_of_block hcbq) (fun h => h.elim n8 n9)).trans hcbq
        have n11 : T.wb ∉ vBlocks Vr ∧ w5.heap.size ∉ vBlocks Vr := ⟨hit.2, hit.1⟩
        have n12 : w5.heap.size ≠ vm := fun e => by obtain ⟨es, ck, hb, _⟩ := hsr.vs; exact sIt vm _ hb (fun _ _ _ _ e => by cases e) e.symm
        have n13 : w5.heap.size ≠ rb := fun e => by obtain ⟨es, ck, hb, _⟩ := hor.r; exact sIt rb _ hb (fun _ _ _ _ e => by cases e) e.symm
        have hrg3 := hrgq.of_block (w' := w3) (hc3.block _ hrgq.owns.lt (fun h => h.elim (fun e => hvw e.symm) n11.1)) (hc3.block _ hrgq.lt (fun h => h.elim n12 n11.2))
        have hrg4 := hrg3.of_block (w' := w4) (hc4.block _ hrg3.owns.lt (fun e => hrw e.symm)) (hc4.block _ hrg3.lt n13)
        refine ⟨rfl, w4, cell_of ho3.o rfl, hrun4, putA x E Vr, putA x (c + 1) rowsr, hrg4, ?_, ?_, fun p hp' => hsub p (hp.mem_iff.2 (by simp [hp'])), hs3.chg hc4 n6 hvr (fun b hb e => n7 (e ▸ hb)), ⟨(hc4.block _ (lt_of_block ho3.o) n5).trans ho3.o, hm4⟩, ?_, (hc4.block _ (lt_of_block hcb3) n10).trans hcb3, ?_⟩
        · exact ((List.nodup_cons.1 (by simpa using (hp.map Prod.fst).nodup_iff.1 hnd : (x :: left'.map Prod.fst).Nodup))).2
        · have := hp.length_eq; simp at this; omega
        · refine hadd.step (getA_of_mem hT.wm.nodup hxm) hnd hp hll hsq.vs.nodup hE (hv3.imp id (fun h => ⟨?_, fun hm => ?_⟩))
          · have := hcq.size; have := hchr.size; omega
          · have := hsq.lts _ hm; omega
        · refine ((hchr.andThen hcq (fun i hi (e : i = _) => by omega)).andThen hc3 (fun i hi h => ?_)).trans (hc4.mono (fun _ _ e => Or.inr (Or.inr (Or.inl e))))
          rcases h with e | e
          · exact Or.inr (Or.inr (Or.inr (Or.inl e)))
          · rcases hadd.vb i e with e | e
            · exact Or.inr (Or.inr (Or.inr (Or.inr e)))
            · omega
      have cs1 : ∀ o, (w2.alloc o).cell? ⟨ob, 1, none⟩ = some (.pointer (some ⟨sb, 0, none⟩)) := fun o => by
        have hc02 : Chg (fun b => b = w5.heap.size) wr w2 := (Chg.refl _ _).grown hg2 (fun k e => Or.inl (by cases e; rfl))
        obtain ⟨hnd, hll, hsub, hsr, hor, hadd, hcbr, hchr⟩ := HR.out
        have nit : ob ≠ w5.heap.size := fun e => by
          obtain ⟨es, clock, since, seen, c0, hb, _, hr, _⟩ := hrg
          rw [← e, hor.o] at hr; cases hr
        exact cell_of ((((hc02.alloc o).block ob (lt_of_block hor.o) nit)).trans hor.o) (i := 1) rfl
      have HS2 : Hid (w2.heap.size = wr.heap.size) := hs2
      clear hs2 hp hg2 hc2 hm5
      obtain ⟨f, u⟩ := cc
      go_wp2
      have d0 : (w2.alloc (.cells #[.bool f, .string u] 127)).cell? ⟨wr.heap.size, 0, none⟩ = some (.bool f) := by rw [← HS2.out]; simp [go_sem]
      have d1 : (w2.alloc (.cells #[.bool f, .string u] 127)).cell? ⟨wr.heap.size, 1, none⟩ = some (.string u) := by rw [← HS2.out]; simp [go_sem]
      have cs1' := cs1 (.cells #[.bool f, .string u] 127)
      have HQ : Hid (Chg nobody w2 (w2.alloc (.cells #[.bool f, .string u] 127)).drew) := ((Chg.refl _ _).alloc _).drew
      clear cs1
      generalize w2.alloc (.cells #[.bool f, .string u] 127) = wa at *
      go_region_with (go_at_call 122; refine (HADD.out wa.drew HQ.out).mono ?_; rintro e w3 ⟨rfl, w4, cs2, hrun4, HF⟩)
      all_goals go_wp2
      all_goals go_roundw
      all_goals first
        | (obtain ⟨Vr', rowsr', q⟩ := HF.out; exact ⟨left', Vr', rowsr', q⟩)
        | (obtain ⟨Vr', rowsr', q, _⟩ := HF.out; rw [q.left_eq, hrg.left_eq]; exact hlm.out)
end Go.Proofs.YtkfjafndplmdkaaGreat
