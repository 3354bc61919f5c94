import Derived.Test.YtcpjocgpahjcjaaRQ
namespace Go.Proofs.Ytcpjocgpahjcjaa
open Go.RowKit Go.Sort
theorem find_at {w : World} {S : RSt} (h : RInv w S) (hf : S.ts.length ≤ 2000000) (n : Int) :
    Calls Try.prog 27 #[.pointer (some ⟨S.wb, 0, none⟩), .int .i64 n] w fun e w' => e = .returned (.int .i64 (findI (S.ts.map RT.start) n)) ∧ w' = w := by
  have hl : (S.ts.map RT.start).length = S.ts.length := List.length_map ..
  refine find_any S.wb S.oc S.oa (S.ts.map RT.start) n w (by rw [hl]; exact hf) (by rw [hl]; exact cell_of h.wb rfl) (fun hp => ?_)
  rw [hl] at hp
  have hor : w.ownsRow 0 66 4 (.slice S.oa S.ts.length S.oc) S.ts.length (rtCells S.ts) := h.or
  obtain ⟨g, hg, _⟩ := row_open hor hp
  rw [hg] at hor
  exact ⟨g, hg, fun j hj => by rw [(rt_at hor j (by rw [hl] at hj; exact hj)).1]; simp⟩
theorem queued_at {w : World} {S : RSt} (h : RInv w S) (hf : S.q.length ≤ 2000000) (n : Int) :
    Calls Try.prog 28 #[.pointer (some ⟨S.wb, 0, none⟩), .int .i64 n] w fun e w' => e = .returned (.bool (decide (n ∈ S.q))) ∧ w' = w := by
  refine queued_any S.wb S.qc S.qa S.q n w hf (cell_of h.wb rfl) (fun hp => ?_)
  have hqr : w.ownsRow 0 3 1 (.slice S.qa S.q.length S.qc) S.q.length (S.q.map (.int .i64 ·)) := h.qr
  obtain ⟨g, hg, _, _, _, hx⟩ := row_open hqr hp
  exact ⟨g, hg, fun j hj => hx j _ (by simp [List.getElem?_eq_getElem hj])⟩
set_option maxRecDepth 100000 in
set_option maxHeartbeats 1000000 in
theorem rstep_none (S : RSt) (o : OpM) (w : World) (h : RInv w S) (hf : S.ts.length ≤ 2000000) (hq : S.q.length ≤ 2000000) (hkd : o.kind = 2 ∨ o.kind = 3 ∨ o.kind = 4 ∨ o.kind = 5 ∨ o.kind = 6) (hno : findI (S.ts.map RT.start) o.t = -1) :
    Calls Try.prog 18 #[.pointer (some ⟨S.wb, 0, none⟩), o.v] w fun e w' => e = .returned (ansV 2 0 false ⟨#[]⟩ (.slice none 0 0)) ∧ Chg nobody w w' := by
  have hwl := lt_of_block h.wb
  have HH : Hid ((∀ w2, Chg nobody w w2 → Calls Try.prog 27 #[.pointer (some ⟨S.wb, 0, none⟩), .int .i64 o.t] w2 fun e w' => e = .returned (.int .i64 (-1)) ∧ w' = w2) ∧ ∀ w2, Chg nobody w w2 → Calls Try.prog 28 #[.pointer (some ⟨S.wb, 0, none⟩), .int .i64 o.t] w2 fun e w' => e = .returned (.bool (decide (o.t ∈ S.q))) ∧ w' = w2) := ⟨fun w2 hc => by have := find_at (h.chg hc (fun _ _ h => h)) hf o.t; rw [hno] at this; exact this, fun w2 hc => queued_at (h.chg hc (fun _ _ h => h)) hq o.t⟩
  clear h
  generalize decide (o.t ∈ S.q) = qb at *
  rcases hkd with hkd | hkd | hkd | hkd | hkd
  all_goals
    go_enter Try.func18, Try.ntmps18
    go_wp2_with fail
    refine (HH.out.1 _ (((Chg.refl _ _).alloc _).alloc _)).mono ?_
    rintro e w' ⟨rfl, hw'⟩
    replace hw' := hw'.symm
    subst hw'
    go_wp2_with fail
    refine (HH.out.2 _ (((Chg.refl _ _).alloc _).alloc _)).mono ?_
    rintro e w' ⟨rfl, hw'⟩
    replace hw' := hw'.symm
    subst hw'
    go_wp2_with fail
    refine (no_any 2 _).mono ?_
    rintro e w5 ⟨rfl, hch⟩
    have fB : w5.heap[w.heap.size + 1]? = some ans0 := by
      rw [hch.block _ (by simp <;> omega) (fun h => h)]
      exact heap_new (by simp)
    have hc5 : Chg nobody w w5 := (((Chg.refl nobody w).alloc _).alloc _).trans hch
    obtain ⟨k0, k1, k2, k3, k4, k5, k6, kf⟩ := cells7 fB
    have HZ : Hid (w5.heap[w.heap.size + 1]? = some ans0 ∧ Chg nobody w w5) := ⟨fB, hc5⟩
    clear fB hch hc5
    go_wp2
    obtain ⟨f9B, hc5⟩ := HZ.out
    obtain ⟨r0, r1, r2, r3, r4, r5, r6⟩ := set7 f9B rfl (.int .i64 2) (.int .i64 0) (.bool false) (.string ⟨#[]⟩) (.slice none 0 0) (.slice none 0 0) (.slice none 0 0)
    have hc10 := chg_set7 w5 (w.heap.size + 1) (.int .i64 2) (.int .i64 0) (.bool false) (.string ⟨#[]⟩) (.slice none 0 0) (.slice none 0 0) (.slice none 0 0)
    refine bodyPost_ret (v := ansV 2 0 false ⟨#[]⟩ (.slice none 0 0)) (by simp [results, Try.results18, go_sem, r0, r1, r2, r3, r4, r5, r6]) rfl ⟨rfl, hc5.andThen hc10 ?_⟩
    exact fun i hi (h : i = _) => by omega
end Go.Proofs.Ytcpjocgpahjcjaa
