import Derived.Test.YtkfjafndplmdkaaGreatTB
import Derived.RegionDies
namespace Go.Proofs.YtkfjafndplmdkaaGreat
open Go.RowKit Go.Sort
open Go.Maps (Keyed)
set_option maxHeartbeats 400000 in
theorem drop_none (p om : Nat) (l : List (Int × Nat)) (o : OpM) (c : Int) (w : World) (h : Named w p om l o.t c) :
    Calls Tryz.prog 62 #[.pointer (some ⟨p, 0, none⟩), o.v] w fun e w' => e = errE c ∧ Chg nobody w w' := by
  have h2 := h.calls (two w o) (two_chg w o)
  clear h
  go_enter Tryz.func62, Tryz.ntmps62
  go_wp2_with (go_at_call 76; refine h2.mono ?_; rintro e w' ⟨rfl, rfl⟩)
  exact ⟨rfl, rfl, two_chg w o⟩
set_option maxHeartbeats 1000000 in
theorem drop_ok (p om tb : Nat) (l : List (Int × Nat)) (o : OpM) (w : World) (h : Plays w p om l) (hn : isInt o.t) (hg : getA o.t l = some tb) (hq : w.cell? ⟨tb, 0, none⟩ = some (.bool false)) :
    Calls Tryz.prog 62 #[.pointer (some ⟨p, 0, none⟩), o.v] w fun e w' => e = .returned (ansV 0 0 false ⟨#[]⟩ (.slice none 0 0)) ∧ mapAt w' Tryz.prog 3 mkI mkP om (delA o.t l) ∧ Chg (fun b => b = om) w w' := by
  have h1 := h.chg (two_chg w o)
  have h2 := h1.named_yes hn hg (((two_chg w o).below.cell (p := ⟨tb, 0, none⟩) (lt_of_cell hq)).trans hq)
  have hpl := lt_of_cell h.c4
  have hml := h.m.lt
  have c2 : (two w o).cell? ⟨p, 4, none⟩ = some (.map (some om)) := h1.c4
  obtain ⟨w3, hrun, hm3, hg3, _⟩ := (h1.m.of_block (w' := (two w o).drew) rfl).drop keyI mkI_inj Tryz.underlying91 (keyOfI hn) 0
  have hc3 : Chg (fun b => b = om) (two w o) w3 := ((Chg.refl _ _).drew).grown hg3 (fun k e => Or.inl (by cases e; rfl))
  obtain ⟨hres, hz3⟩ := res_two hc3 (by omega)
  have HF : Hid (mapAt w3 Tryz.prog 3 mkI mkP om (delA o.t l) ∧ Chg (fun b => b = om) w w3 ∧ w3.heap[w.heap.size + 1]? = some ans0) := ⟨hm3, ((two_chg w o).any _).andThen hc3 (fun _ _ h => h), hres⟩
  obtain ⟨k0, k1, k2, k3, k4, k5, k6, kf⟩ := cells7 hres
  clear hm3 hc3 hres h h1 hg hg3
  simp only [mkI] at hrun
  go_enter Tryz.func62, Tryz.ntmps62
  go_wp2_with (first | (go_at_call 76; refine h2.mono ?_; rintro e w' ⟨rfl, rfl⟩) | fail)
  go_region
  go_wp2
  obtain ⟨hm3, hc3, hres⟩ := HF.out
  obtain ⟨r0, r1, r2, r3, r4, r5, r6⟩ := set7 hres rfl (.int .i64 0) (.int .i64 0) (.bool false) (.string ⟨#[]⟩) (.slice none 0 0) (.slice none 0 0) (.slice none 0 0)
  have hc7 := (chg_set7 w3 (w.heap.size + 1) (.int .i64 0) (.int .i64 0) (.bool false) (.string ⟨#[]⟩) (.slice none 0 0) (.slice none 0 0) (.slice none 0 0))
  exact bodyPost_ret (v := ansV 0 0 false ⟨#[]⟩ (.slice none 0 0)) (by simp [results, Tryz.results62, go_sem, r0, r1, r2, r3, r4, r5, r6]) rfl ⟨rfl, hm3.of_block (hc7.block _ hm3.lt (by omega)), hc3.andThen hc7 (fun i hi h => by omega)⟩
set_option maxHeartbeats 1000000 in
theorem scan_none (p om : Nat) (l : List (Int × Nat)) (o : OpM) (c : Int) (w : World) (h : Named w p om l o.t c) :
    Calls Tryz.prog 59 #[.pointer (some ⟨p, 0, none⟩), o.v] w fun e w' => e = errE c ∧ Chg nobody w w' := by
  have h2 := h.calls (two w o).drew (two_chg w o).drew
  clear h
  go_enter Tryz.func59, Tryz.ntmps59
  go_wp2
  go_region_dies
  all_goals
    refine h2.mono ?_
    rintro e w' ⟨rfl, rfl⟩
    exact ⟨rfl, rfl, (two_chg w o).drew⟩
theorem slices_of {f : FuncId} {args : Array Value} {w : World} {base : Nat} {e : TypeId} {size n : Nat} {xs : List Value} {X : World → Prop} (h : Calls Tryz.prog f args w fun en w' => ∃ v, en = .returned v ∧ w'.ownsRow base e size v n xs ∧ X w') :
    Calls Tryz.prog f args w fun en w' => ∃ a n' c, en = .returned (.slice a n' c) ∧ w'.ownsRow base e size (.slice a n' c) n xs ∧ X w' := by
  refine h.mono ?_
  rintro en w' ⟨v, rfl, hr, hx⟩
  rcases hr.2 with ⟨rfl, _⟩ | ⟨g, cap, cur, rfl, _⟩
  · exact ⟨_, _, _, rfl, hr, hx⟩
  · exact ⟨_, _, _, rfl, hr, hx⟩
set_option maxHeartbeats 1000000 in
theorem scan_ok (p sb vm om : Nat) (V : List (ByteArray × VEnt)) (T : Tx) (l : List (Int × Nat)) (o : OpM) (w : World) (h : Plays w p om l) (hn : isInt o.t) (hg : getA o.t l = some T.tb) (hqq : T.queued = false) (hk : o.key.size ≤ maxLen) (hT : TxAt w sb T) (hs : StoreAt w sb vm V) (hws : T.ws.length ≤ 100000000) (hvl : V.length ≤ 100000000) (hvo : ∀ key, (versOf key V).length ≤ 2000000) (hkeys : ∀ p ∈ T.ws, p.1.size ≤ maxLen) (hkv : ∀ p ∈ V, p.1.size ≤ maxLen) (hne : T.pb ≠ T.tb ∧ T.pb ≠ T.wb ∧ T.pb ≠ T.kb ∧ T.pb ≠ sb ∧ T.pb ≠ vm ∧ T.pb ∉ vBlocks V) :
    Calls Tryz.prog 59 #[.pointer (some ⟨p, 0, none⟩), o.v] w fun e w' => ∃ a n c, e = .returned (ansV 0 0 false ⟨#[]⟩ (.slice a n c)) ∧ w'.ownsRow w.heap.size 66 2 (.slice a n c) (itemsOf T V (knownK o.key V T.ws)).length (itemCells (itemsOf T V (knownK o.key V T.ws))) ∧
      TxAt w' sb { T with ps := putA o.key () T.ps } ∧ Chg (fun b => b = T.pb) w w' := by
  have hd : Chg nobody w (two w o).drew := (two_chg w o).drew
  have h2 := (h.chg hd).named_yes hn hg (by have := (hT.chg hd (fun h => h) (fun h => h) (fun h => h) (fun h => h)).cells.1; rw [hqq] at this; exact this)
  have hT2 := hT.chg hd (fun h => h) (fun h => h) (fun h => h) (fun h => h)
  have hs2 := hs.chg hd (fun h => h) (fun h => h) (fun _ _ h => h)
  have h4 := slices_of (txScan_any T sb vm V o.key (two w o).drew hk hT2 hs2 hws hvl hvo hkeys hkv hne)
  have HK : Hid (T.tb < w.heap.size ∧ T.wb < w.heap.size ∧ T.kb < w.heap.size ∧ T.pb < w.heap.size) := ⟨lt_of_block hT.tx, hT.wm.lt, hT.km.lt, hT.pm.lt⟩
  clear h hg hT hs hT2 hs2 hne hkeys hws hvl hvo hkv
  go_enter Tryz.func59, Tryz.ntmps59
  go_wp2
  go_region_with (first | (go_at_call 76; refine h2.mono ?_; rintro e w' ⟨rfl, rfl⟩) | (go_at_call 79; refine h4.mono ?_; rintro e w3 ⟨a, n, c, rfl, hrow3, hT3, hc3⟩; obtain ⟨hres, hz3⟩ := res_two hc3.undrew (by have := HK.out; omega); obtain ⟨k0, k1, k2, k3, k4, k5, k6, kf⟩ := cells7 hres))
  all_goals
    have hk := HK.out
    have HF : Hid (TxAt w3 sb { T with ps := putA o.key () T.ps } ∧ Chg (fun b => b = T.pb) w w3 ∧ w3.heap[w.heap.size + 1]? = some ans0 ∧ w3.ownsRow (w.heap.size + 2) 66 2 (.slice a n c) (itemsOf T V (knownK o.key V T.ws)).length (itemCells (itemsOf T V (knownK o.key V T.ws)))) := ⟨hT3, (hd.any _).andThen hc3 (fun _ _ h => h), hres, ownsRow_base hrow3 (by simp)⟩
    clear hT3 hc3 hres h2 h4 hrow3 hk
    go_wp2
    obtain ⟨hT3, hc3, hres, hrow3⟩ := HF.out
    have hk := HK.out
    obtain ⟨r0, r1, r2, r3, r4, r5, r6⟩ := set7 hres rfl (.int .i64 0) (.int .i64 0) (.bool false) (.string ⟨#[]⟩) (.slice a n c) (.slice none 0 0) (.slice none 0 0)
    have hc7 := (chg_set7 w3 (w.heap.size + 1) (.int .i64 0) (.int .i64 0) (.bool false) (.string ⟨#[]⟩) (.slice a n c) (.slice none 0 0) (.slice none 0 0))
    refine bodyPost_ret (v := ansV 0 0 false ⟨#[]⟩ (.slice a n c)) (by simp [results, Tryz.results59, go_sem, r0, r1, r2, r3, r4, r5, r6]) rfl ⟨a, n, c, rfl, ownsRow_base (ownsRow_chg hrow3 hc7 (fun g hg => ?_)) (by omega), hT3.chg hc7 ?_ ?_ ?_ ?_, hc3.andThen hc7 (fun i hi h => by omega)⟩
    · have := (hrow3.lt g hg).1
      omega
    all_goals simp only
    all_goals omega
end Go.Proofs.YtkfjafndplmdkaaGreat
