import Derived.Test.YtkfjafndplmdkaaGreatTC
namespace Go.Proofs.YtkfjafndplmdkaaGreat
open Go.RowKit Go.Sort
open Go.Maps (Keyed)
theorem chg_setChan (w : World) (c cap : Nat) (buf : Array Value) (cl : Bool) (s r : Nat) (tm : Bool) : Chg (fun b => b = c) w (w.setChan c cap buf cl s r tm) :=
  ⟨rfl, rfl, rfl, by simp [World.setChan], fun k _ hk => by simp only [World.setChan]; rw [Array.getElem?_setIfInBounds_ne (fun e => hk e.symm)]⟩
theorem qPut_spec (qb ch tb s r : Nat) (buf : Array Value) (x1 x2 x3 x4 x5 : Value) (w : World) (h0 : w.heap[qb]? = some (.cells #[.chan (some ch)] 121)) (hc : w.heap[ch]? = some (.chan 3 buf false s r false)) (hroom : buf.size < 3)
    (ht : w.heap[tb]? = some (.cells #[.bool false, x1, x2, x3, x4, x5] 148)) :
    Calls Tryz.prog 83 #[.pointer (some ⟨qb, 0, none⟩), .pointer (some ⟨tb, 0, none⟩)] w fun e w' => e = .returned (.tuple #[]) ∧ w'.heap[ch]? = some (.chan 3 (buf.push (mkP tb)) false (s + 1) r false) ∧ w'.heap[tb]? = some (.cells #[.bool true, x1, x2, x3, x4, x5] 148) ∧ Chg (fun b => b = ch ∨ b = tb) w w' := by
  have hne : tb ≠ ch := fun e => by rw [e, hc] at ht; cases ht
  have hc1 := chg_setChan w ch 3 (buf.push (.pointer (some ⟨tb, 0, none⟩))) false (s + 1) r false
  have ht1 := (hc1.block tb (lt_of_block ht) hne).trans ht
  refine (qPut_ok qb ch tb s r buf false w (cell_of h0 rfl) hc hroom (cell_of ht1 rfl) (unfrozen_of ht1 0)).mono ?_
  rintro e w' ⟨rfl, rfl⟩
  have hc2 := chg_set1 (w.setChan ch 3 (buf.push (.pointer (some ⟨tb, 0, none⟩))) false (s + 1) r false) tb 0 (.bool true)
  have hch1 : (w.setChan ch 3 (buf.push (.pointer (some ⟨tb, 0, none⟩))) false (s + 1) r false).heap[ch]? = some (.chan 3 (buf.push (mkP tb)) false (s + 1) r false) := Conc.heap_setChan _ _ _ _ _ _ _ _ (lt_of_block hc)
  refine ⟨rfl, (hc2.block ch (lt_of_block hch1) (fun e => hne e.symm)).trans hch1, ?_, (hc1.mono (fun _ _ h => Or.inl h)).trans (hc2.mono (fun _ _ h => Or.inr h))⟩
  generalize w.setChan ch 3 (buf.push (.pointer (some ⟨tb, 0, none⟩))) false (s + 1) r false = w1 at *
  simp [World.setCell, Array.getElem?_modify, ht1]
set_option maxRecDepth 100000 in
set_option maxHeartbeats 1000000 in
theorem pcommit_none (p om : Nat) (l : List (Int × Nat)) (o : OpM) (c : Int) (qb : Nat) (w : World) (h : Named w p om l o.t c) (h3 : w.cell? ⟨p, 3, none⟩ = some (.pointer (some ⟨qb, 0, none⟩))) :
    Calls Tryz.prog 63 #[.pointer (some ⟨p, 0, none⟩), o.v] w fun e w' => e = errE c ∧ Chg nobody w w' := by
  have hd : Chg nobody w (two w o).drew := (two_chg w o).drew
  have h2 := h.calls (two w o).drew hd
  have c3 : (two w o).cell? ⟨p, 3, none⟩ = some (.pointer (some ⟨qb, 0, none⟩)) := ((two_chg w o).below.cell (p := ⟨p, 3, none⟩) (lt_of_cell h3)).trans h3
  clear h h3
  go_enter Tryz.func63, Tryz.ntmps63
  go_wp2
  go_region_dies
  all_goals
    refine h2.mono ?_
    rintro e w' ⟨rfl, hw'⟩
    replace hw' := hw'.symm
    subst hw'
    exact ⟨rfl, rfl, hd⟩
set_option maxRecDepth 100000 in
set_option maxHeartbeats 1000000 in
theorem pcommit_full (p om : Nat) (T : Tx) (sb : Nat) (l : List (Int × Nat)) (o : OpM) (qb ch s r : Nat) (buf : Array Value) (w : World) (h : Plays w p om l) (hn : isInt o.t) (hg : getA o.t l = some T.tb) (hT : TxAt w sb T) (hqq : T.queued = false) (h3 : w.cell? ⟨p, 3, none⟩ = some (.pointer (some ⟨qb, 0, none⟩)))
    (h0 : w.heap[qb]? = some (.cells #[.chan (some ch)] 121)) (hc : w.heap[ch]? = some (.chan 3 buf false s r false)) (hf : 3 ≤ buf.size) :
    Calls Tryz.prog 63 #[.pointer (some ⟨p, 0, none⟩), o.v] w fun e w' => e = errE 7 ∧ Chg nobody w w' := by
  have hd : Chg nobody w (two w o).drew := (two_chg w o).drew
  have h2 := (h.chg hd).named_yes hn hg (by have := (hT.chg hd (fun h => h) (fun h => h) (fun h => h) (fun h => h)).cells.1; rw [hqq] at this; exact this)
  have c3 : (two w o).cell? ⟨p, 3, none⟩ = some (.pointer (some ⟨qb, 0, none⟩)) := ((two_chg w o).below.cell (p := ⟨p, 3, none⟩) (lt_of_cell h3)).trans h3
  have h4 := qPut_full qb ch T.tb s r buf (two w o).drew (cell_of ((hd.block _ (lt_of_block h0) (fun h => h)).trans h0) rfl) ((hd.block _ (lt_of_block hc) (fun h => h)).trans hc) hf
  clear h h3 hT h0 hc hg
  go_enter Tryz.func63, Tryz.ntmps63
  go_wp2
  go_region_dies
  · rename_i K hK
    refine h2.mono ?_
    rintro e w' ⟨rfl, hw'⟩
    replace hw' := hw'.symm
    subst hw'
    refine hK _ _ ?_
    clear hK K
    refine wpAny_ready (rs := [8]) (by kernel_rfl) (by simp) ?_
    refine AllReady.cons rfl (fun K hK => ?_) AllReady.nil
    go_simp
    refine h4.mono ?_
    rintro e w' ⟨rfl, hw'⟩
    replace hw' := hw'.symm
    subst hw'
    exact ⟨rfl, rfl, hd⟩
  · rename_i K hK
    refine h2.mono ?_
    rintro e w' ⟨rfl, hw'⟩
    replace hw' := hw'.symm
    subst hw'
    refine hK _ _ ?_
    clear hK K
    refine wpAny_ready (rs := [8]) (by kernel_rfl) (by simp) ?_
    refine AllReady.cons rfl (fun K hK => ?_) AllReady.nil
    go_simp
    refine h4.mono ?_
    rintro e w' ⟨rfl, hw'⟩
    replace hw' := hw'.symm
    subst hw'
    exact ⟨rfl, rfl, hd⟩
  · rename_i K hK
    refine h2.mono ?_
    rintro e w' ⟨rfl, hw'⟩
    replace hw' := hw'.symm
    subst hw'
    refine hK _ _ ?_
    clear hK K
    refine wpAny_ready (rs := [3]) (by kernel_rfl) (by simp) ?_
    refine AllReady.cons rfl (fun K hK => ?_) AllReady.nil
    go_simp
    refine hK _ _ ?_
    clear hK K
    refine wpAny_ready (rs := [8]) (by kernel_rfl) (by simp) ?_
    refine AllReady.cons rfl (fun K hK => ?_) AllReady.nil
    go_simp
    refine h4.mono ?_
    rintro e w' ⟨rfl, hw'⟩
    replace hw' := hw'.symm
    subst hw'
    exact ⟨rfl, rfl, hd⟩
set_option maxRecDepth 100000 in
set_option maxHeartbeats 1000000 in
theorem pcommit_ok (p om : Nat) (T : Tx) (sb : Nat) (l : List (Int × Nat)) (o : OpM) (qb ch s r : Nat) (buf : Array Value) (w : World) (h : Plays w p om l) (hn : isInt o.t) (hg : getA o.t l = some T.tb) (hT : TxAt w sb T) (hqq : T.queued = false) (h3 : w.cell? ⟨p, 3, none⟩ = some (.pointer (some ⟨qb, 0, none⟩)))
    (h0 : w.heap[qb]? = some (.cells #[.chan (some ch)] 121)) (hc : w.heap[ch]? = some (.chan 3 buf false s r false)) (hf : buf.size < 3) (hne : T.tb ≠ T.wb ∧ T.tb ≠ T.kb ∧ T.tb ≠ T.pb ∧ ch ≠ T.wb ∧ ch ≠ T.kb ∧ ch ≠ T.pb) :
    Calls Tryz.prog 63 #[.pointer (some ⟨p, 0, none⟩), o.v] w fun e w' => e = .returned (ansV 0 0 false ⟨#[]⟩ (.slice none 0 0)) ∧ w'.heap[ch]? = some (.chan 3 (buf.push (mkP T.tb)) false (s + 1) r false) ∧ TxAt w' sb { T with queued := true } ∧ Chg (fun b => b = ch ∨ b = T.tb) w w' := by
  have hd : Chg nobody w (two w o).drew := (two_chg w o).drew
  have h2 := (h.chg hd).named_yes hn hg (by have := (hT.chg hd (fun h => h) (fun h => h) (fun h => h) (fun h => h)).cells.1; rw [hqq] at this; exact this)
  have c3 : (two w o).cell? ⟨p, 3, none⟩ = some (.pointer (some ⟨qb, 0, none⟩)) := ((two_chg w o).below.cell (p := ⟨p, 3, none⟩) (lt_of_cell h3)).trans h3
  have hTd := hT.chg hd (fun h => h) (fun h => h) (fun h => h) (fun h => h)
  have htx := hTd.tx
  rw [hqq] at htx
  have h4 := qPut_spec qb ch T.tb s r buf _ _ _ _ _ (two w o).drew ((hd.block _ (lt_of_block h0) (fun h => h)).trans h0) ((hd.block _ (lt_of_block hc) (fun h => h)).trans hc) hf htx
  have HK : Hid (T.tb < w.heap.size ∧ T.wb < w.heap.size ∧ T.kb < w.heap.size ∧ T.pb < w.heap.size ∧ ch < w.heap.size ∧ TxAt (two w o).drew sb T ∧ (T.tb ≠ T.wb ∧ T.tb ≠ T.kb ∧ T.tb ≠ T.pb ∧ ch ≠ T.wb ∧ ch ≠ T.kb ∧ ch ≠ T.pb)) := ⟨lt_of_block hT.tx, hT.wm.lt, hT.km.lt, hT.pm.lt, lt_of_block hc, hTd, hne⟩
  clear h h3 hT h0 hc hg htx hTd hne hf
  go_enter Tryz.func63, Tryz.ntmps63
  go_wp2
  go_region_with (first | (go_at_call 76; refine h2.mono ?_; rintro e w' ⟨rfl, hw'⟩; replace hw' := hw'.symm; subst hw') | (go_at_call 83; refine h4.mono ?_; rintro e w3 ⟨rfl, hch3, ht3, hc3⟩; obtain ⟨hres, hz3⟩ := res_two hc3.undrew (by have := HK.out; omega); obtain ⟨k0, k1, k2, k3, k4, k5, k6, kf⟩ := cells7 hres; have HF : Hid (w3.heap[ch]? = some (.chan 3 (buf.push (mkP T.tb)) false (s + 1) r false) ∧ TxAt w3 sb { T with queued := true } ∧ Chg (fun b => b = ch ∨ b = T.tb) w w3 ∧ w3.heap[w.heap.size + 1]? = some ans0) := ⟨hch3, ⟨ht3, HK.out.2.2.2.2.2.1.wm.of_block (hc3.block _ HK.out.2.2.2.2.2.1.wm.lt (fun h => by have := HK.out.2.2.2.2.2.2; omega)), HK.out.2.2.2.2.2.1.km.of_block (hc3.block _ HK.out.2.2.2.2.2.1.km.lt (fun h => by have := HK.out.2.2.2.2.2.2; omega)), HK.out.2.2.2.2.2.1.pm.of_block (hc3.block _ HK.out.2.2.2.2.2.1.pm.lt (fun h => by have := HK.out.2.2.2.2.2.2; omega))⟩, (hd.any _).andThen hc3 (fun _ _ h => h), hres⟩; clear hch3 ht3 hc3 hres))
  all_goals go_wp2
  all_goals
    obtain ⟨hch3, hT3, hc3, hres⟩ := HF.out
    obtain ⟨l1, l2, l3, l4, l5, _⟩ := HK.out
    obtain ⟨r0, r1, r2, r3, r4, r5, r6⟩ := set7 hres rfl (.int .i64 0) (.int .i64 0) (.bool false) (.string ⟨#[]⟩) (.slice none 0 0) (.slice none 0 0) (.slice none 0 0)
    have hc7 := (chg_set7 w3 (w.heap.size + 1) (.int .i64 0) (.int .i64 0) (.bool false) (.string ⟨#[]⟩) (.slice none 0 0) (.slice none 0 0) (.slice none 0 0))
    refine bodyPost_ret (v := ansV 0 0 false ⟨#[]⟩ (.slice none 0 0)) (by simp [results, Tryz.results63, go_sem, r0, r1, r2, r3, r4, r5, r6]) rfl ⟨rfl, (hc7.block _ (lt_of_block hch3) (by omega)).trans hch3, hT3.chg hc7 ?_ ?_ ?_ ?_, hc3.andThen hc7 (fun i hi h => by omega)⟩
    all_goals simp only
    all_goals omega
end Go.Proofs.YtkfjafndplmdkaaGreat
