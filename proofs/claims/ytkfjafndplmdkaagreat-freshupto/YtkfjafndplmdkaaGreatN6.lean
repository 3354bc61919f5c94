import Derived.Test.YtkfjafndplmdkaaGreatN4
import Derived.Test.YtkfjafndplmdkaaGreatT9
import Derived.Deep.RegionHeld3
namespace Go.Proofs.YtkfjafndplmdkaaGreat
open Go.RowKit Go.Sort
theorem res_new (w : World) : (w.alloc ans0).heap[w.heap.size]? = some ans0 := (MapKept.heap_alloc w _).1
set_option maxRecDepth 100000 in
set_option maxHeartbeats 1000000 in
theorem pfence_any (p cb sb ob qb om : Nat) (c : Int) (l : List (Int × Nat)) (w : World) (hb : w.heap[p]? = some (.cells #[.pointer (some ⟨cb, 0, none⟩), .pointer (some ⟨sb, 0, none⟩), .pointer (some ⟨ob, 0, none⟩), .pointer (some ⟨qb, 0, none⟩), .map (some om)] 93)) (hcb : w.heap[cb]? = some (.cells #[.int .i64 c] 86)) (hm : mapAt w Tryz.prog 3 mkI mkP om l) :
    Calls Tryz.prog 65 #[.pointer (some ⟨p, 0, none⟩)] w fun e w' => e = .returned (ansV 0 l.length false ⟨#[]⟩ (.slice none 0 0)) ∧ Chg (fun b => b = w.heap.size) (ren3 (w.alloc ans0).drew p cb sb c) w' := by
  have hpl := lt_of_block hb
  have hlen : ∀ o ty, (Builtin.len_ #[91] ty #[.map (some om)]).run Tryz.prog (w.alloc o) = .ok (.int .i64 l.length) (w.alloc o) := fun o ty => (hm.of_block (Below.heap_alloc w o om hm.lt)).len Tryz.underlying91 ty
  have hc' : ∀ o, (w.alloc o).cell? ⟨p, 4, none⟩ = some (.map (some om)) := fun o => by rw [World.cell?_alloc_past _ _ _ hpl]; exact cell_of hb rfl
  have hb1 : (w.alloc ans0).heap[p]? = some (.cells #[.pointer (some ⟨cb, 0, none⟩), .pointer (some ⟨sb, 0, none⟩), .pointer (some ⟨ob, 0, none⟩), .pointer (some ⟨qb, 0, none⟩), .map (some om)] 93) := (Below.heap_alloc _ _ _ hpl).trans hb
  have hcb1 : (w.alloc ans0).cell? ⟨cb, 0, none⟩ = some (.int .i64 c) := cell_of ((Below.heap_alloc _ _ _ (lt_of_block hcb)).trans hcb) rfl
  have hrn := renew_any p cb sb c _ _ _ (w.alloc ans0) hb1 hcb1
  have hpw : p ≠ w.heap.size := by omega
  have HRES : Hid ((ren3 (w.alloc ans0).drew p cb sb c).heap[w.heap.size]? = some ans0) := by
    have hf := (ren3_facts (w.alloc ans0).drew p cb sb c _ _ _ hb1).2.2.2.2.2.2.2
    exact (hf.block _ (by show _ < (w.alloc ans0).heap.size; simp) (by show ¬ (_ = p); omega)).trans (res_new w)
  clear hb hcb hm hb1 hcb1
  go_enter Tryz.func65, Tryz.ntmps65
  go_wp2_with fail
  refine hrn.mono ?_
  rintro e w2 ⟨rfl, hw2⟩
  have hres : w2.heap[w.heap.size]? = some ans0 := by rw [hw2]; exact HRES.out
  have HW2 : Hid (w2 = ren3 (w.alloc ans0).drew p cb sb c) := hw2
  obtain ⟨k0, k1, kk2, k3, k4, k5, k6, kf⟩ := cells7 hres
  have HR : Hid (w2.heap[w.heap.size]? = some ans0) := hres
  clear hw2 hres hrn HRES hlen
  go_wp2
  obtain ⟨r0, r1, r2, r3, r4, r5, r6⟩ := set7 HR.out rfl (.int .i64 0) (.int .i64 l.length) (.bool false) (.string ⟨#[]⟩) (.slice none 0 0) (.slice none 0 0) (.slice none 0 0)
  have hc7 := (chg_set7 w2 w.heap.size (.int .i64 0) (.int .i64 l.length) (.bool false) (.string ⟨#[]⟩) (.slice none 0 0) (.slice none 0 0) (.slice none 0 0))
  rw [HW2.out] at hc7
  exact bodyPost_ret (v := ansW 0 l.length false ⟨#[]⟩ (.slice none 0 0) (.slice none 0 0) (.slice none 0 0)) (by simp [results, Tryz.results65, go_sem, r0, r1, r2, r3, r4, r5, r6]) rfl ⟨rfl, by rw [HW2.out]; exact hc7⟩
theorem ClS.lift {w w3 w4 w5 : World} {sb vm r : Nat} {V : List (ByteArray × VEnt)} {times : List Int} {done : List (List UInt8)} {gone : Nat} (h : ClS w3 sb vm V times done gone w4) (hs : StoreAt w sb vm V) (hc : Chg nobody w w3) (hr0 : w.heap.size ≤ r) (hr1 : r < w3.heap.size) (hc5 : Chg (fun b => b = r) w4 w5) : ClS w sb vm V times done gone w5 := by
  obtain ⟨V', q1, q2, q3, q4, q5, q6, q7, q8⟩ := h
  have hsz := hc.size
  refine ⟨V', q1.chg hc5 (fun e => by have := lt_of_block hs.st; omega) (fun e => by have := hs.vs.lt; omega) (fun b hb e => ?_), q2, q3, q4, q5, fun b hb => ⟨(q6 b hb).1.imp id (fun h => by omega), (q6 b hb).2⟩, q7, ((hc.any _).andThen q8 (fun _ _ h => h)).andThen hc5 (fun i hi e => by omega)⟩
  rcases (q6 b hb).1 with h1 | h1
  · have := hs.lts b h1; omega
  · omega
set_option maxRecDepth 100000 in
set_option maxHeartbeats 1000000 in
theorem pclean_any (p sb vm om : Nat) (V : List (ByteArray × VEnt)) (l : List (Int × Nat)) (w : World) (h1 : w.cell? ⟨p, 1, none⟩ = some (.pointer (some ⟨sb, 0, none⟩))) (h4 : w.cell? ⟨p, 4, none⟩ = some (.map (some om))) (hm : mapAt w Tryz.prog 3 mkI mkP om l) (hl : l.length ≤ 1000) (hs : StoreAt w sb vm V)
    (hsum : sumV V ≤ 100) (hvk : ∀ p ∈ V, p.1.size ≤ 8) (hvn : ∀ p ∈ V, p.2.vs ≠ []) (hnd : (sb :: vm :: vBlocks V).Nodup) :
    Calls Tryz.prog 66 #[.pointer (some ⟨p, 0, none⟩)] w fun e w' => ∃ (gone : Nat) (times : List Int), e = .returned (ansV 0 gone false ⟨#[]⟩ (.slice none 0 0)) ∧ times.Perm (l.map Prod.fst) ∧ ClS w sb vm V times (coll ⟨#[]⟩ V) gone w' := by
  have hpl := lt_of_cell h1
  have hpl1 : p < w.heap.size := hpl
  have g4 : ∀ o, (w.alloc o).cell? ⟨p, 4, none⟩ = some (.map (some om)) := fun o => by rw [World.cell?_alloc_past _ _ _ hpl]; exact h4
  have hK := fun W => mapsKeysI_any (some om) W
  have HCO : Hid (∀ o o', Calls Tryz.prog 88 #[.func (.func 109) #[] #[.pointer (some ⟨w.heap.size + 1, 0, none⟩)]] ((w.alloc o).alloc (.cells #[.map (some om)] o')) fun e w' => ∃ v, e = .returned v ∧ ∃ ss : List Int, ss.Perm (l.map Prod.fst) ∧ w'.ownsRow ((w.alloc o).alloc (.cells #[.map (some om)] o')).heap.size 3 1 v ss.length (ss.map (fun n => Value.int .i64 n)) ∧ Chg nobody ((w.alloc o).alloc (.cells #[.map (some om)] o')) w') := fun o o' =>
    collectI_any (n := w.heap.size + 1) _ (by simp) (by simp [go_sem]) (hm.of_block ((Below.heap_alloc _ _ _ (by have := hm.lt; simp; omega)).trans (Below.heap_alloc _ _ _ hm.lt))) (by omega)
  have HS : Hid (StoreAt w sb vm V ∧ sumV V ≤ 100 ∧ (∀ p ∈ V, p.1.size ≤ 8) ∧ (∀ p ∈ V, p.2.vs ≠ []) ∧ (sb :: vm :: vBlocks V).Nodup ∧ w.cell? ⟨p, 1, none⟩ = some (.pointer (some ⟨sb, 0, none⟩))) := ⟨hs, hsum, hvk, hvn, hnd, h1⟩
  clear hs hsum hvk hvn hnd h1 h4 hm
  go_enter Tryz.func66, Tryz.ntmps66
  go_wp2_with fail
  refine (hK _).mono ?_
  rintro e w1 ⟨rfl, hw1⟩
  replace hw1 := hw1.symm
  subst hw1
  go_wp2_with fail
  refine (HCO.out _ _).mono ?_
  rintro e w3 ⟨v, rfl, ss, hperm, hrow, hch⟩
  obtain ⟨ad, capt, rfl⟩ := row_form hrow
  have hcw : Chg nobody w w3 := (((Chg.refl nobody w).alloc _).alloc _).trans hch
  have hsz3 : w.heap.size + 2 ≤ w3.heap.size := by have := hch.size; simpa using this
  have hssl : ss.length ≤ 1000 := by have := hperm.length_eq; simp at this; omega
  have c1 : w3.cell? ⟨p, 1, none⟩ = some (.pointer (some ⟨sb, 0, none⟩)) := by rw [(bcell hcw).1 _ _ hpl1]; exact HS.out.2.2.2.2.2
  have hres3 : w3.heap[w.heap.size]? = some ans0 := by
    rw [hch.block _ (by simp; omega) (fun h => h), Below.heap_alloc _ _ _ (by simp)]
    exact res_new w
  have hcl := clean_any sb vm V ss ad capt w3 (HS.out.1.chg hcw (fun h => h) (fun h => h) (fun _ _ h => h)) (ownsRow_base hrow (Nat.zero_le _)) HS.out.2.1 hssl HS.out.2.2.1 HS.out.2.2.2.1 HS.out.2.2.2.2.1
  have HX : Hid (ss.Perm (l.map Prod.fst) ∧ Chg nobody w w3 ∧ w3.heap[w.heap.size]? = some ans0) := ⟨hperm, hcw, hres3⟩
  clear hperm hrow hch hcw hres3 HCO hK g4
  go_wp2_with fail
  refine hcl.mono ?_
  rintro e w4 ⟨gone, rfl, hC⟩
  have hres : w4.heap[w.heap.size]? = some ans0 := by
    obtain ⟨V', q1, q2, q3, q4, q5, q6, q7, q8⟩ := hC
    exact (q8.block _ (by omega) (fun e => by have := HS.out.1.vs.lt; omega)).trans HX.out.2.2
  obtain ⟨k0, k1, kk2, k3, k4, k5, k6, kf⟩ := cells7 hres
  have HR : Hid (w4.heap[w.heap.size]? = some ans0) := hres
  have HC : Hid (ClS w3 sb vm V ss (coll ⟨#[]⟩ V) gone w4) := hC
  clear hres hC hcl
  go_wp2
  obtain ⟨r0, r1, r2, r3, r4, r5, r6⟩ := set7 HR.out rfl (.int .i64 0) (.int .i64 gone) (.bool false) (.string ⟨#[]⟩) (.slice none 0 0) (.slice none 0 0) (.slice none 0 0)
  have hc7 := (chg_set7 w4 w.heap.size (.int .i64 0) (.int .i64 gone) (.bool false) (.string ⟨#[]⟩) (.slice none 0 0) (.slice none 0 0) (.slice none 0 0))
  exact bodyPost_ret (v := ansW 0 gone false ⟨#[]⟩ (.slice none 0 0) (.slice none 0 0) (.slice none 0 0)) (by simp [results, Tryz.results66, go_sem, r0, r1, r2, r3, r4, r5, r6]) rfl ⟨gone, ss, rfl, HX.out.1, HC.out.lift HS.out.1 HX.out.2.1 (Nat.le_refl _) (by omega) hc7⟩
end Go.Proofs.YtkfjafndplmdkaaGreat
namespace Go.Proofs.YtkfjafndplmdkaaGreat
open Go.RowKit Go.Sort
theorem name_worldN {P : Program} {c : Code} {Q : Exit → Act → World → Prop} {a : Act} {W : World} (K : ∀ wz, wz = W → Code.wp P c Q a wz) : Code.wp P c Q a W := K W rfl
theorem cell_block {w w' : World} {b : Nat} (h : w'.heap[b]? = w.heap[b]?) (i : Nat) : w'.cell? ⟨b, i, none⟩ = w.cell? ⟨b, i, none⟩ := by simp [World.cell?, h]
/-- what SUMS looks at. -/
structure SumsAt (w : World) (p cb sb vm ob rb qb ch om : Nat) (V : List (ByteArray × VEnt)) (rows : List (ByteArray × Int)) (low c : Int) (vs : List Value) (qs qr : Nat) (l : List (Int × Nat)) : Prop where
  pl : w.heap[p]? = some (.cells #[.pointer (some ⟨cb, 0, none⟩), .pointer (some ⟨sb, 0, none⟩), .pointer (some ⟨ob, 0, none⟩), .pointer (some ⟨qb, 0, none⟩), .map (some om)] 93)
  ck : w.heap[cb]? = some (.cells #[.int .i64 c] 86)
  st : StoreAt w sb vm V
  orc : OrAt w ob cb sb rb rows low
  qu : w.heap[qb]? = some (.cells #[.chan (some ch)] 121)
  chn : w.heap[ch]? = some (.chan 3 vs.toArray false qs qr false)
  om : mapAt w Tryz.prog 3 mkI mkP om l
theorem SumsAt.chg {w w' : World} {p cb sb vm ob rb qb ch om : Nat} {V : List (ByteArray × VEnt)} {rows : List (ByteArray × Int)} {low c : Int} {vs : List Value} {qs qr : Nat} {l : List (Int × Nat)} (h : SumsAt w p cb sb vm ob rb qb ch om V rows low c vs qs qr l) (hc : Chg nobody w w') : SumsAt w' p cb sb vm ob rb qb ch om V rows low c vs qs qr l :=
  ⟨(hc.block _ (lt_of_block h.pl) (fun h => h)).trans h.pl, (hc.block _ (lt_of_block h.ck) (fun h => h)).trans h.ck, h.st.chg hc (fun h => h) (fun h => h) (fun _ _ h => h), h.orc.chg hc (fun h => h) (fun h => h), (hc.block _ (lt_of_block h.qu) (fun h => h)).trans h.qu, (hc.block _ (lt_of_block h.chn) (fun h => h)).trans h.chn, h.om.of_block (hc.block _ h.om.lt (fun h => h))⟩
/-- what the loads read. -/
def PCells (w : World) (p cb sb ob qb om : Nat) (l : List (Int × Nat)) : Prop := w.cell? ⟨p, 0, none⟩ = some (.pointer (some ⟨cb, 0, none⟩)) ∧ w.cell? ⟨p, 1, none⟩ = some (.pointer (some ⟨sb, 0, none⟩)) ∧ w.cell? ⟨p, 2, none⟩ = some (.pointer (some ⟨ob, 0, none⟩)) ∧ w.cell? ⟨p, 3, none⟩ = some (.pointer (some ⟨qb, 0, none⟩)) ∧ w.cell? ⟨p, 4, none⟩ = some (.map (some om)) ∧ ∀ ty, (Builtin.len_ #[91] ty #[.map (some om)]).run Tryz.prog w = .ok (.int .i64 l.length) w
theorem SumsAt.cells {w : World} {p cb sb vm ob rb qb ch om : Nat} {V : List (ByteArray × VEnt)} {rows : List (ByteArray × Int)} {low c : Int} {vs : List Value} {qs qr : Nat} {l : List (Int × Nat)} (h : SumsAt w p cb sb vm ob rb qb ch om V rows low c vs qs qr l) : PCells w p cb sb ob qb om l :=
  ⟨cell_of h.pl rfl, cell_of h.pl rfl, cell_of h.pl rfl, cell_of h.pl rfl, cell_of h.pl rfl, fun ty => h.om.len Tryz.underlying91 ty⟩
set_option maxRecDepth 100000 in
set_option maxHeartbeats 4000000 in
theorem psums_any (p cb sb vm ob rb qb ch om : Nat) (V : List (ByteArray × VEnt)) (rows : List (ByteArray × Int)) (low c : Int) (vs : List Value) (qs qr : Nat) (l : List (Int × Nat)) (w : World) (h : SumsAt w p cb sb vm ob rb qb ch om V rows low c vs qs qr l) (hsum : sumV V ≤ 100) :
    Calls Tryz.prog 67 #[.pointer (some ⟨p, 0, none⟩)] w fun e w' => ∃ g, e = .returned (ansW 0 0 false ⟨#[]⟩ (.slice none 0 0) (.slice none 0 0) (.slice (some ⟨g, 0, none⟩) 6 6)) ∧ w'.ownsRow w.heap.size 3 1 (.slice (some ⟨g, 0, none⟩) 6 6) 6 ([(sumV V : Int), l.length, vs.length, rows.length, low, c].map (fun n => Value.int .i64 n)) ∧ Chg nobody w w' := by
  have hpl := lt_of_block h.pl
  have HS : Hid (∀ w', Chg nobody w w' → SumsAt w' p cb sb vm ob rb qb ch om V rows low c vs qs qr l) := fun w' hc => h.chg hc
  have HR : Hid (∀ w', Chg nobody (w.alloc ans0) w' → w'.heap[w.heap.size]? = some ans0) := fun w' hc => (hc.block _ (by simp) (fun h => h)).trans (res_new w)
  have HL : Hid (∀ w' : World, w'.heap[om]? = w.heap[om]? → ∀ ty, (Builtin.len_ #[91] ty #[.map (some om)]).run Tryz.prog w' = .ok (.int .i64 l.length) w') := fun w' hw ty => (h.om.of_block hw).len Tryz.underlying91 ty
  have hom := h.om.lt
  clear h
  go_enter Tryz.func67, Tryz.ntmps67
  go_wp2
  refine name_worldN ?_
  intro wz hwz
  have HC : Hid (Chg nobody w wz ∧ Chg nobody (w.alloc ans0) wz) := ⟨by rw [hwz]; exact (Chg.refl _ _).alloc _, by rw [hwz]; exact Chg.refl _ _⟩
  obtain ⟨s0, s1, s2, s3, s4, s5⟩ := (HS.out wz HC.out.1).cells
  obtain ⟨k0, k1, kk2, k3, k4, k5, k6, kf⟩ := cells7 (HR.out wz HC.out.2)
  have hpw : p ≠ w.heap.size := by omega
  have hno : om ≠ w.heap.size := by omega
  have ho : wz.heap[om]? = w.heap[om]? := HC.out.1.block _ hom (fun h => h)
  have s5d := HL.out wz.drew ho
  clear hwz
  go_region_held3 (fun w' => w'.cell? ⟨p, 0, none⟩ = some (.pointer (some ⟨cb, 0, none⟩)) ∧ w'.cell? ⟨p, 1, none⟩ = some (.pointer (some ⟨sb, 0, none⟩)) ∧ w'.cell? ⟨p, 2, none⟩ = some (.pointer (some ⟨ob, 0, none⟩)) ∧ w'.cell? ⟨p, 3, none⟩ = some (.pointer (some ⟨qb, 0, none⟩)) ∧ w'.cell? ⟨p, 4, none⟩ = some (.map (some om)) ∧ ∀ ty, (Builtin.len_ #[91] ty #[.map (some om)]).run Tryz.prog w' = .ok (.int .i64 l.length) w') (go_keep)
    (first
      | (go_at_call 91; refine (count_any sb vm V _ (by first | exact (HS.out _ HC.out.1).st | exact (HS.out _ HC.out.1.drew).st) (by omega)).mono ?_; rintro e w2 ⟨rfl, hc2⟩; have HC : Hid (Chg nobody w w2 ∧ Chg nobody (w.alloc ans0) w2) := (by first | exact ⟨HC.out.1.trans hc2, HC.out.2.trans hc2⟩ | exact ⟨HC.out.1.drew.trans hc2, HC.out.2.drew.trans hc2⟩); obtain ⟨s0, s1, s2, s3, s4, s5⟩ := (HS.out w2 HC.out.1).cells; have ho : w2.heap[om]? = w.heap[om]? := HC.out.1.block _ hom (fun h => h); have hoz : om < w2.heap.size := Nat.lt_of_lt_of_le hom HC.out.1.size; have s5a := (fun o => HL.out (w2.alloc o) ((Below.heap_alloc _ _ _ hoz).trans ho)); have s5s := (fun o v0 v1 v2 v3 v4 v5 v6 => HL.out ((((((((w2.alloc o).setCell ⟨w.heap.size, 0, none⟩ v0).setCell ⟨w.heap.size, 1, none⟩ v1).setCell ⟨w.heap.size, 2, none⟩ v2).setCell ⟨w.heap.size, 3, none⟩ v3).setCell ⟨w.heap.size, 4, none⟩ v4).setCell ⟨w.heap.size, 5, none⟩ v5).setCell ⟨w.heap.size, 6, none⟩ v6) (((chg_set7 (w2.alloc o) w.heap.size v0 v1 v2 v3 v4 v5 v6).block om (by simp; omega) hno).trans ((Below.heap_alloc _ _ _ hoz).trans ho))); have sx : ∀ o v0 v1 v2 v3 v4 v5 v6 i u, w2.cell? ⟨p, i, none⟩ = some u → ((((((((w2.alloc o).setCell ⟨w.heap.size, 0, none⟩ v0).setCell ⟨w.heap.size, 1, none⟩ v1).setCell ⟨w.heap.size, 2, none⟩ v2).setCell ⟨w.heap.size, 3, none⟩ v3).setCell ⟨w.heap.size, 4, none⟩ v4).setCell ⟨w.heap.size, 5, none⟩ v5).setCell ⟨w.heap.size, 6, none⟩ v6).cell? ⟨p, i, none⟩ = some u := (fun o v0 v1 v2 v3 v4 v5 v6 i u hu => (cell_block (((chg_set7 (w2.alloc o) w.heap.size v0 v1 v2 v3 v4 v5 v6).block p (by simp; have := HC.out.1.size; omega) hpw).trans (Below.heap_alloc _ _ _ (Nat.lt_of_lt_of_le hpl HC.out.1.size))) i).trans hu); have x0 := (fun o v0 v1 v2 v3 v4 v5 v6 => sx o v0 v1 v2 v3 v4 v5 v6 0 _ s0); have x1 := (fun o v0 v1 v2 v3 v4 v5 v6 => sx o v0 v1 v2 v3 v4 v5 v6 1 _ s1); have x2 := (fun o v0 v1 v2 v3 v4 v5 v6 => sx o v0 v1 v2 v3 v4 v5 v6 2 _ s2); have x3 := (fun o v0 v1 v2 v3 v4 v5 v6 => sx o v0 v1 v2 v3 v4 v5 v6 3 _ s3); have x4 := (fun o v0 v1 v2 v3 v4 v5 v6 => sx o v0 v1 v2 v3 v4 v5 v6 4 _ s4); clear sx; have ka := fun o => cells7 (HR.out (w2.alloc o) (HC.out.2.alloc o)); have k0 := fun o => (ka o).1; have k1 := fun o => (ka o).2.1; have k2 := fun o => (ka o).2.2.1; have k3 := fun o => (ka o).2.2.2.1; have k4 := fun o => (ka o).2.2.2.2.1; have k5 := fun o => (ka o).2.2.2.2.2.1; have k6 := fun o => (ka o).2.2.2.2.2.2.1; have kf := fun o => (ka o).2.2.2.2.2.2.2; clear ka)
      | (go_at_call 92; refine (qCount_any qb ch qs qr vs _ (by first | exact cell_of (HS.out _ HC.out.1).qu rfl | exact cell_of (HS.out _ HC.out.1.drew).qu rfl) (by first | exact (HS.out _ HC.out.1).chn | exact (HS.out _ HC.out.1.drew).chn)).mono ?_; rintro e w2 ⟨rfl, rfl⟩)
      | (go_at_call 93; refine (orRows_any ob cb sb rb rows low _ (by first | exact (HS.out _ HC.out.1).orc | exact (HS.out _ HC.out.1.drew).orc)).mono ?_; rintro e w2 ⟨rfl, rfl⟩)
      | (go_at_call 94; refine (orLow_any ob cb sb rb rows low _ (by first | exact (HS.out _ HC.out.1).orc | exact (HS.out _ HC.out.1.drew).orc)).mono ?_; rintro e w2 ⟨rfl, rfl⟩)
      | (go_at_call 73; refine (now_any cb c _ (by first | exact cell_of (HS.out _ HC.out.1).ck rfl | exact cell_of (HS.out _ HC.out.1.drew).ck rfl)).mono ?_; rintro e w2 ⟨rfl, rfl⟩))
  obtain ⟨R, hR⟩ : ∃ R : Obj, (.cells #[.int .i64 (sumV V), .int .i64 l.length, .int .i64 vs.length, .int .i64 rows.length, .int .i64 low, .int .i64 c] 3) = R := ⟨_, rfl⟩
  rw [hR]
  have HRR : Hid ((.cells #[.int .i64 (sumV V), .int .i64 l.length, .int .i64 vs.length, .int .i64 rows.length, .int .i64 low, .int .i64 c] 3) = R) := hR
  clear hR
  go_wp2
  obtain ⟨r0, r1, r2, r3, r4, r5, r6⟩ := set7 (HR.out (w2.alloc R) (HC.out.2.alloc R)) rfl (.int .i64 0) (.int .i64 0) (.bool false) (.string ⟨#[]⟩) (.slice none 0 0) (.slice none 0 0) (.slice (some ⟨w2.heap.size, 0, none⟩) 6 6)
  have hc7 := (chg_set7 (w2.alloc R) w.heap.size (.int .i64 0) (.int .i64 0) (.bool false) (.string ⟨#[]⟩) (.slice none 0 0) (.slice none 0 0) (.slice (some ⟨w2.heap.size, 0, none⟩) 6 6))
  have hw2 : w.heap.size + 1 ≤ w2.heap.size := by have := HC.out.2.size; simpa using this
  have hrow : w2.alloc R = w2.alloc R → (w2.alloc R).ownsRow w.heap.size 3 1 (.slice (some ⟨w2.heap.size, 0, none⟩) 6 6) 6 ([(sumV V : Int), l.length, vs.length, rows.length, low, c].map (fun n => Value.int .i64 n)) := fun _ => by
    rw [← HRR.out]
    exact ⟨rfl, Or.inr ⟨w2.heap.size, 6, _, rfl, by omega, (MapKept.heap_alloc w2 _).1, by omega, by unfold maxLen; omega, rfl, rfl⟩⟩
  exact bodyPost_ret (v := ansW 0 0 false ⟨#[]⟩ (.slice none 0 0) (.slice none 0 0) (.slice (some ⟨w2.heap.size, 0, none⟩) 6 6)) (by simp [results, Tryz.results67, go_sem, r0, r1, r2, r3, r4, r5, r6]) rfl ⟨w2.heap.size, rfl, ownsRow_chg (hrow rfl) hc7 (fun g hg (e : g = _) => by
    have : w2.heap.size = g := by simpa [Value.ownBlock] using hg
    omega), (HC.out.1.alloc R).andThen hc7 (fun i hi e => by omega)⟩
end Go.Proofs.YtkfjafndplmdkaaGreat
