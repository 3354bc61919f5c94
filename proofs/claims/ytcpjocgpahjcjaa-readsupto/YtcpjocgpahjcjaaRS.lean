import Derived.Test.YtcpjocgpahjcjaaRR
namespace Go.Proofs.Ytcpjocgpahjcjaa
open Go.RowKit Go.Sort
set_option maxRecDepth 100000 in
set_option maxHeartbeats 1000000 in
theorem rstep_queued (S : RSt) (o : OpM) (w : World) (h : RInv w S) (hf : S.ts.length ≤ 2000000) (hq : S.q.length ≤ 2000000) (hkd : o.kind = 2 ∨ o.kind = 3 ∨ o.kind = 4 ∨ o.kind = 5 ∨ o.kind = 6) (k : Nat) (hno : findI (S.ts.map RT.start) o.t = k) (hin : o.t ∈ S.q) :
    Calls Try.prog 18 #[.pointer (some ⟨S.wb, 0, none⟩), o.v] w fun e w' => e = .returned (ansV 3 0 false ⟨#[]⟩ (.slice none 0 0)) ∧ Chg nobody w w' := by
  have hwl := lt_of_block h.wb
  have HH : Hid ((∀ w2, Chg nobody w w2 → Calls Try.prog 27 #[.pointer (some ⟨S.wb, 0, none⟩), .int .i64 o.t] w2 fun e w' => e = .returned (.int .i64 k) ∧ w' = w2) ∧ ∀ w2, Chg nobody w w2 → Calls Try.prog 28 #[.pointer (some ⟨S.wb, 0, none⟩), .int .i64 o.t] w2 fun e w' => e = .returned (.bool (decide (o.t ∈ S.q))) ∧ w' = w2) := ⟨fun w2 hc => by have := find_at (h.chg hc (fun _ _ h => h)) hf o.t; rw [hno] at this; exact this, fun w2 hc => queued_at (h.chg hc (fun _ _ h => h)) hq o.t⟩
  clear h
  rw [decide_eq_true hin] at HH
  have hk0 : decide ((k : Int) < 0) = false := decide_eq_false (by omega)
  rcases hkd with hkd | hkd | hkd | hkd | hkd
  all_goals
    go_enter Try.func18, Try.ntmps18
    go_wp2_with fail
    refine (HH.out.1 _ (((Chg.refl _ _).alloc _).alloc _)).mono ?_
    rintro e w' ⟨rfl, hw'⟩
    replace hw' := hw'.symm
    subst hw'
    go_wp2_with fail
    refine (HH.out.2 _ (((Chg.refl _ _).alloc _).alloc _)).mono ?_
    rintro e w' ⟨rfl, hw'⟩
    replace hw' := hw'.symm
    subst hw'
    go_wp2_with fail
    refine (no_any 3 _).mono ?_
    rintro e w5 ⟨rfl, hch⟩
    have fB : w5.heap[w.heap.size + 1]? = some ans0 := by
      rw [hch.block _ (by simp <;> omega) (fun h => h)]
      exact heap_new (by simp)
    have hc5 : Chg nobody w w5 := (((Chg.refl nobody w).alloc _).alloc _).trans hch
    obtain ⟨k0, k1, k2, k3, k4, k5, k6, kf⟩ := cells7 fB
    have HZ : Hid (w5.heap[w.heap.size + 1]? = some ans0 ∧ Chg nobody w w5) := ⟨fB, hc5⟩
    clear fB hch hc5
    go_wp2
    obtain ⟨f9B, hc5⟩ := HZ.out
    obtain ⟨r0, r1, r2, r3, r4, r5, r6⟩ := set7 f9B rfl (.int .i64 3) (.int .i64 0) (.bool false) (.string ⟨#[]⟩) (.slice none 0 0) (.slice none 0 0) (.slice none 0 0)
    have hc10 := chg_set7 w5 (w.heap.size + 1) (.int .i64 3) (.int .i64 0) (.bool false) (.string ⟨#[]⟩) (.slice none 0 0) (.slice none 0 0) (.slice none 0 0)
    refine bodyPost_ret (v := ansV 3 0 false ⟨#[]⟩ (.slice none 0 0)) (by simp [results, Try.results18, go_sem, r0, r1, r2, r3, r4, r5, r6]) rfl ⟨rfl, hc5.andThen hc10 ?_⟩
    exact fun i hi (h : i = _) => by omega
set_option maxRecDepth 100000 in
set_option maxHeartbeats 1000000 in
theorem rstep_of (S : RSt) (o : OpM) (w : World) (h : RInv w S) (hf : RFit S) (hq : S.q.length ≤ 2000000) (hkd : o.kind = 2 ∨ o.kind = 3 ∨ o.kind = 4 ∨ o.kind = 5 ∨ o.kind = 6) (k : Nat) (hk : k < S.ts.length) (hno : findI (S.ts.map RT.start) o.t = k) (hin : o.t ∉ S.q) :
    Calls Try.prog 18 #[.pointer (some ⟨S.wb, 0, none⟩), o.v] w (RPost w S (ofM' S.abs k S.ts[k].abs o).1 (ofM' S.abs k S.ts[k].abs o).2) := by
  have hwl := lt_of_block h.wb
  have HH : Hid ((∀ w2, Chg nobody w w2 → Calls Try.prog 27 #[.pointer (some ⟨S.wb, 0, none⟩), .int .i64 o.t] w2 fun e w' => e = .returned (.int .i64 k) ∧ w' = w2) ∧ ∀ w2, Chg nobody w w2 → Calls Try.prog 28 #[.pointer (some ⟨S.wb, 0, none⟩), .int .i64 o.t] w2 fun e w' => e = .returned (.bool (decide (o.t ∈ S.q))) ∧ w' = w2) := ⟨fun w2 hc => by have := find_at (h.chg hc (fun _ _ h => h)) hf.ts o.t; rw [hno] at this; exact this, fun w2 hc => queued_at (h.chg hc (fun _ _ h => h)) hq o.t⟩
  have HO : Hid (∀ w2, Chg nobody w w2 → Calls Try.prog 29 #[.pointer (some ⟨S.wb, 0, none⟩), .int .i64 k, o.v] w2 (RPost w2 S (ofM' S.abs k S.ts[k].abs o).1 (ofM' S.abs k S.ts[k].abs o).2)) := fun w2 hc => of_any S k o w2 (h.chg hc (fun _ _ h => h)) hf hk (by omega)
  have hbl : Hid (∀ b ∈ S.blocks, b < w.heap.size) := h.lt
  generalize (ofM' S.abs k S.ts[k].abs o).1 = A at *
  generalize (ofM' S.abs k S.ts[k].abs o).2 = W at *
  clear h
  rw [decide_eq_false hin] at HH
  have hk0 : decide ((k : Int) < 0) = false := decide_eq_false (by omega)
  rcases hkd with hkd | hkd | hkd | hkd | hkd
  all_goals
    go_enter Try.func18, Try.ntmps18
    go_wp2_with fail
    refine (HH.out.1 _ (((Chg.refl _ _).alloc _).alloc _)).mono ?_
    rintro e w' ⟨rfl, hw'⟩
    replace hw' := hw'.symm
    subst hw'
    go_wp2_with fail
    refine (HH.out.2 _ (((Chg.refl _ _).alloc _).alloc _)).mono ?_
    rintro e w' ⟨rfl, hw'⟩
    replace hw' := hw'.symm
    subst hw'
    go_wp2_with fail
    have HO2 := HO.out _ (((Chg.refl nobody w).alloc (opC o o.kind)).alloc ans0)
    unfold OpM.v at HO2
    simp only [hkd] at HO2
    refine HO2.mono ?_
    rintro e w5 ⟨S', it, rfl, hit, habs, hwb, hI, hbs, hc⟩
    obtain ⟨ia, ic, rfl⟩ := row_form hit
    have hs2 : ((w.alloc (opC o o.kind)).alloc ans0).heap.size = w.heap.size + 1 + 1 := by simp
    rw [hkd] at hs2
    have fB : w5.heap[w.heap.size + 1]? = some ans0 := by
      rw [hc.block _ (by rw [hs2]; omega) (fun hm => by have := hbl.out _ hm; omega)]
      exact heap_new (by simp)
    have hc5 : Chg (fun b => b ∈ S.blocks) w w5 := ((((Chg.refl nobody w).alloc _).alloc _).any _).trans hc
    rw [hs2] at hit hbs
    obtain ⟨k0, k1, k2, k3, k4, k5, k6, kf⟩ := cells7 fB
    have HZ : Hid (w5.heap[w.heap.size + 1]? = some ans0 ∧ Chg (fun b => b ∈ S.blocks) w w5 ∧ w5.ownsRow (w.heap.size + 1 + 1) 48 2 (.slice ia A.items.length ic) A.items.length (itemCells A.items) ∧ S'.abs = W ∧ S'.wb = S.wb ∧ RInv w5 S' ∧ ∀ b ∈ S'.blocks, b ∈ S.blocks ∨ w.heap.size + 1 + 1 ≤ b) := ⟨fB, hc5, hit, habs, hwb, hI, hbs⟩
    clear fB hc hc5 hit habs hwb hI hbs hs2 HO2
    go_wp2
    obtain ⟨f9B, hc5, hit, habs, hwb, hI, hbs⟩ := HZ.out
    obtain ⟨r0, r1, r2, r3, r4, r5, r6⟩ := set7 f9B rfl (.int .i64 A.code) (.int .i64 A.number) (.bool A.found) (.string A.value) (.slice ia A.items.length ic) (.slice none 0 0) (.slice none 0 0)
    have hc10 := chg_set7 w5 (w.heap.size + 1) (.int .i64 A.code) (.int .i64 A.number) (.bool A.found) (.string A.value) (.slice ia A.items.length ic) (.slice none 0 0) (.slice none 0 0)
    refine bodyPost_ret (v := ansV A.code A.number A.found A.value (.slice ia A.items.length ic)) (by simp [results, Try.results18, go_sem, r0, r1, r2, r3, r4, r5, r6]) rfl ⟨S', _, rfl, ?_, habs, hwb, hI.chg hc10 ?_, ?_, hc5.andThen hc10 ?_⟩
    · exact ownsRow_base (ownsRow_chg hit hc10 (fun b e (h : b = _) => by have := (hit.lt b e).1; omega)) (by omega)
    · exact fun b hb (h : b = _) => by
        rcases hbs b hb with h1 | h1
        · have := hbl.out b h1; omega
        · omega
    · exact fun b hb => (hbs b hb).imp id (fun h => by omega)
    · exact fun i hi (h : i = _) => by omega
set_option maxRecDepth 100000 in
set_option maxHeartbeats 1000000 in
theorem rstep_kind (wb : Nat) (o : OpM) (w : World) (hkd : o.kind < 1 ∨ 11 < o.kind) :
    Calls Try.prog 18 #[.pointer (some ⟨wb, 0, none⟩), o.v] w fun e w' => e = .returned (ansV 1 0 false ⟨#[]⟩ (.slice none 0 0)) ∧ Chg nobody w w' := by
  have e1 : (o.kind == 1) = false := by simp; omega
  have e2 : (o.kind == 2) = false := by simp; omega
  have e3 : (o.kind == 3) = false := by simp; omega
  have e4 : (o.kind == 4) = false := by simp; omega
  have e5 : (o.kind == 5) = false := by simp; omega
  have e6 : (o.kind == 6) = false := by simp; omega
  have e7 : (o.kind == 7) = false := by simp; omega
  have e8 : (o.kind == 8) = false := by simp; omega
  have e9 : (o.kind == 9) = false := by simp; omega
  have e10 : (o.kind == 10) = false := by simp; omega
  have e11 : (o.kind == 11) = false := by simp; omega
  clear hkd
  all_goals
    go_enter Try.func18, Try.ntmps18
    go_wp2_with fail
    refine (no_any 1 _).mono ?_
    rintro e w5 ⟨rfl, hch⟩
    have fB : w5.heap[w.heap.size + 1]? = some ans0 := by
      rw [hch.block _ (by simp <;> omega) (fun h => h)]
      exact heap_new (by simp)
    have hc5 : Chg nobody w w5 := (((Chg.refl nobody w).alloc _).alloc _).trans hch
    obtain ⟨k0, k1, k2, k3, k4, k5, k6, kf⟩ := cells7 fB
    have HZ : Hid (w5.heap[w.heap.size + 1]? = some ans0 ∧ Chg nobody w w5) := ⟨fB, hc5⟩
    clear fB hch hc5
    go_wp2
    obtain ⟨f9B, hc5⟩ := HZ.out
    obtain ⟨r0, r1, r2, r3, r4, r5, r6⟩ := set7 f9B rfl (.int .i64 1) (.int .i64 0) (.bool false) (.string ⟨#[]⟩) (.slice none 0 0) (.slice none 0 0) (.slice none 0 0)
    have hc10 := chg_set7 w5 (w.heap.size + 1) (.int .i64 1) (.int .i64 0) (.bool false) (.string ⟨#[]⟩) (.slice none 0 0) (.slice none 0 0) (.slice none 0 0)
    refine bodyPost_ret (v := ansV 1 0 false ⟨#[]⟩ (.slice none 0 0)) (by simp [results, Try.results18, go_sem, r0, r1, r2, r3, r4, r5, r6]) rfl ⟨rfl, hc5.andThen hc10 ?_⟩
    exact fun i hi (h : i = _) => by omega
end Go.Proofs.Ytcpjocgpahjcjaa
