import Derived.Test.YtkfjafndplmdkaaGreatSG
namespace Go.Proofs.YtkfjafndplmdkaaGreat
open Go.RowKit Go.Sort
set_option maxRecDepth 100000 in
set_option maxHeartbeats 4000000 in
theorem redone_some (tb b off cap ga capa bs : Nat) (ops : List OpM) (As : List AnsM) (x : Sl) (l0 : Tbl) (V : View) (wf ws0 : List Ver) (w : World) (number : Int) (hlen : As.length = ops.length)
    (HS : ∀ j (hj : j < ops.length), ∃ y base, StepCells w b off ga j ops[j] (As[j]'(by omega)) y base ∧ (∀ g, (slV y).ownBlock = some g → ¬ g = tb))
    (hb : b < w.heap.size) (hbt : b ≠ tb) (hg : ga < w.heap.size) (hgt : ga ≠ tb) (htb : tb < w.heap.size) (hn : l0.length + ops.length ≤ 10000000)
    (hT : TblAt w tb bs x l0) (hR : Tracks V wf l0 ws0 (logOf (ops.zip As) number)) :
    Calls Tryz.prog 23 #[.pointer (some ⟨tb, 0, none⟩), .slice (some ⟨b, off, none⟩) ops.length cap, .slice (some ⟨ga, 0, none⟩) As.length capa, .int .i64 number] w fun e w' => e = .returned (.bool true) ∧ ∃ x' l' bs', TblAt w' tb bs' x' l' ∧ TblIs l' (seesV wf V) ∧ l'.length ≤ l0.length + ops.length ∧ Chg (fun k => k = tb) w w' := by
  rw [hlen]
  have HZ : Hid ((∀ j (hj : j < ops.length), ∃ y base, StepCells w b off ga j ops[j] (As[j]'(by omega)) y base ∧ (∀ g, (slV y).ownBlock = some g → ¬ g = tb)) ∧ b < w.heap.size ∧ b ≠ tb ∧ ga < w.heap.size ∧ ga ≠ tb ∧ tb < w.heap.size) := ⟨HS, hb, hbt, hg, hgt, htb⟩
  have HD : Hid (∀ j (hj : j < ops.length), (ops.zip As).drop j = (ops[j], As[j]'(by omega)) :: (ops.zip As).drop (j + 1)) := fun j hj => by
    rw [List.drop_eq_getElem_cons (by simp; omega)]
    simp
  have H0 : Hid (TblAt w tb bs x l0 ∧ Tracks V wf l0 ws0 (logOf (ops.zip As) number)) := ⟨hT, hR⟩
  clear HS hb hbt hg hgt htb hT hR
  go_enter Tryz.func23, Tryz.ntmps23
  go_wp2
  go_loopw [9] (fun i wr => ∃ (j : Nat) (x : Sl) (l : Tbl) (ws : List Ver) (bs : Nat), j ≤ ops.length ∧ i = .int .i64 j ∧ Hid (TblAt wr tb bs x l) ∧ Hid (Tracks V wf l ws (logOf ((ops.zip As).drop j) number)) ∧ l.length ≤ l0.length + j ∧ Hid (Chg (fun k => k = tb) w wr)) (fun i _ => ops.length - (intOf i).toNat)
  case atStart => exact ⟨0, x, l0, ws0, bs, Nat.zero_le _, rfl, H0.out.1, H0.out.2, Nat.le_refl _, Chg.refl _ _⟩
  case round =>
    obtain ⟨j, x, l, ws, bs, hj, rfl, HTb, HTr, hll, HCh⟩ := hrel
    by_cases hlt : j < ops.length
    · obtain ⟨HS, hb, hbt, hg, hgt, htb⟩ := HZ.out
      obtain ⟨y, base, hsc, hy⟩ := HS j hlt
      have hsc2 := hsc.chg HCh.out hb hbt hg hgt hy
      have hsz := HCh.out.size
      have hdr := HD.out j hlt
      have htr := HTr.out
      rw [hdr] at htr
      obtain ⟨c1, c2, c3, c4, c5, c6, c7, c8, c9, c10⟩ := hsc2
      have htbw : tb < wr.heap.size := by omega
      have hga : ga < wr.heap.size := by omega
      have d6 : ∀ ob, (wr.alloc ob).cell? ⟨ga, j * 7, none⟩ = some (.int .i64 (As[j]'(by omega)).code) := fun ob => ((bcell ((Chg.refl _ _).alloc ob)).1 _ _ hga).trans c6
      have d7 : ∀ ob, (wr.alloc ob).cell? ⟨ga, j * 7 + 2, none⟩ = some (.bool (As[j]'(by omega)).found) := fun ob => ((bcell ((Chg.refl _ _).alloc ob)).1 _ _ hga).trans c7
      have d8 : ∀ ob, (wr.alloc ob).cell? ⟨ga, j * 7 + 3, none⟩ = some (.string (As[j]'(by omega)).value) := fun ob => ((bcell ((Chg.refl _ _).alloc ob)).1 _ _ hga).trans c8
      have d9 : ∀ ob, (wr.alloc ob).cell? ⟨ga, j * 7 + 4, none⟩ = some (slV y) := fun ob => ((bcell ((Chg.refl _ _).alloc ob)).1 _ _ hga).trans c9
      clear c6 c7 c8 c9 hga
      clear hsc HS hb hbt hg hgt htb hy hdr HTr
      generalize ops[j] = o at *
      generalize As[j]'(by omega) = A at *
      by_cases h1 : o.t = number
      · have b1 : (o.t != number) = false := by simp [h1]
        by_cases h2 : A.code = 0
        · have b2 : (A.code != 0) = false := by simp [h2]
          have HLB : Hid (2 ≤ o.kind → o.kind ≤ 5 → logB number (o, A) = true) := fun a1 a2 => by simp [logB, h1, h2, a1, a2]
          have HNB : Hid (¬ (2 ≤ o.kind ∧ o.kind ≤ 5) → logB number (o, A) = false) := fun a1 => by simp [logB, a1]
          clear h1 h2
          by_cases k2 : o.kind = 2
          · obtain ⟨hok, htr2⟩ := htr.next (HLB.out (by omega) (by omega))
            obtain ⟨hg1, hg2⟩ := get_table htr.tbl k2 hok
            have e1 : tblE l (o, A) = l := by simp [tblE, k2]
            rw [e1] at htr2
            have HTn : Hid (Tracks V wf l (wsE ws (o, A)) (logOf ((ops.zip As).drop (j + 1)) number)) := htr2
            have HG : Hid (∀ W, TblAt W tb bs x l → Calls Tryz.prog 33 #[.pointer (some ⟨tb, 0, none⟩), .string o.key] W fun e w' => e = .returned (.tuple #[.string A.value, .bool A.found]) ∧ ∃ n, w' = W.drewN n) := fun W hW => by
              refine (tget_any o.key hW (by omega)).mono ?_
              rintro e w' ⟨rfl, h⟩
              refine ⟨?_, h⟩
              simp only at hg1 hg2
              rw [hg1]
              cases hf : A.found
              · rw [hg2 hf]; rfl
              · rfl
            clear htr htr2 hok hg1 hg2 HLB HNB
            go_wp2_with (go_at_call 33; refine (HG.out _ (HTb.out.chg ((Chg.refl _ _).alloc _) htbw)).mono ?_; rintro e w' ⟨rfl, n, rfl⟩)
            go_roundw
            case rel => exact ⟨j + 1, x, l, wsE ws (o, A), bs, by omega, by go_num, HTb.out.chg (((Chg.refl _ _).alloc _).drewN n) htbw, HTn, by omega, (HCh.out.alloc _).drewN n⟩
            case measure => simp [intOf]; omega
          · by_cases k3 : o.kind = 3
            · obtain ⟨hok, htr2⟩ := htr.next (HLB.out (by omega) (by omega))
              obtain ⟨s1, s2, s3⟩ := scan_table htr.tbl k3 hok
              have e1 : tblE l (o, A) = l := by simp [tblE, k3]
              rw [e1] at htr2
              have HTn : Hid (Tracks V wf l (wsE ws (o, A)) (logOf ((ops.zip As).drop (j + 1)) number)) := htr2
              have HG : Hid (∀ ob q, Calls Tryz.prog 34 #[.pointer (some ⟨tb, 0, none⟩), .string o.key, slV y] ((wr.alloc ob).drewN q) fun e w' => e = .returned (.bool true) ∧ ∃ n, w' = ((wr.alloc ob).drewN q).drewN n) := fun ob q => by
                have hch : Chg nobody wr ((wr.alloc ob).drewN q) := ((Chg.refl _ _).alloc ob).drewN q
                exact scanned_any (HTb.out.chg hch htbw) (by omega) (ownsRow_chg c10 hch (fun _ _ hf => hf)) (by have h0 := countT_le l o.key; have h1 : countT l o.key = A.items.length := s3; omega) s1 s2 s3
              obtain ⟨y1, y2, y3⟩ := y
              simp only [slV] at d9 HG
              clear htr htr2 hok s1 s2 s3 HLB HNB c10
              go_wp2_with fail
              go_quiet ((go_at_call 34; exact Calls.quiet_of (HG.out _ _)))
              go_wp2
              go_roundw
              case rel => exact ⟨j + 1, x, l, wsE ws (o, A), bs, by omega, by go_num, HTb.out.chg (((Chg.refl _ _).alloc _).drewN _) htbw, HTn, by omega, (HCh.out.alloc _).drewN _⟩
              case measure => simp [intOf]; omega
            by_cases k4 : o.kind = 4
            · obtain ⟨hok, htr2⟩ := htr.next (HLB.out (by omega) (by omega))
              have e1 : tblE l (o, A) = setT l o.key o.val false := by simp [tblE, k4]
              have e2 := tblE_len l (o, A)
              rw [e1] at htr2 e2
              have HTn : Hid (Tracks V wf (setT l o.key o.val false) (wsE ws (o, A)) (logOf ((ops.zip As).drop (j + 1)) number)) := htr2
              have HG : Hid (∀ W, TblAt W tb bs x l → tb < W.heap.size → Calls Tryz.prog 35 #[.pointer (some ⟨tb, 0, none⟩), .string o.key, .string o.val, .bool false] W fun e w' => e = .returned (.tuple #[]) ∧ ∃ x, TblAt w' tb W.heap.size x (setT l o.key o.val false) ∧ Chg (fun b => b = tb) W w') := fun W hW hb => tset_any o.key o.val false hW (by omega) hb
              have e3 : Hid ((setT l o.key o.val false).length ≤ l.length + 1) := e2
              clear htr htr2 hok HLB HNB e1 e2
              go_wp2_with (go_at_call 35; refine (HG.out _ (HTb.out.chg ((Chg.refl _ _).alloc _) htbw) (by simp; omega)).mono ?_; rintro e w' ⟨rfl, x', ht', hc'⟩)
              go_roundw
              case rel => exact ⟨j + 1, x', setT l o.key o.val false, wsE ws (o, A), _, by omega, by go_num, ht', HTn, by have := e3.out; omega, (HCh.out.alloc _).trans hc'⟩
              case measure => simp [intOf]; omega
            by_cases k5 : o.kind = 5
            · obtain ⟨hok, htr2⟩ := htr.next (HLB.out (by omega) (by omega))
              have e1 : tblE l (o, A) = setT l o.key ⟨#[]⟩ true := by simp [tblE, k5]
              have e2 := tblE_len l (o, A)
              rw [e1] at htr2 e2
              have HTn : Hid (Tracks V wf (setT l o.key ⟨#[]⟩ true) (wsE ws (o, A)) (logOf ((ops.zip As).drop (j + 1)) number)) := htr2
              have HG : Hid (∀ W, TblAt W tb bs x l → tb < W.heap.size → Calls Tryz.prog 35 #[.pointer (some ⟨tb, 0, none⟩), .string o.key, .string ⟨#[]⟩, .bool true] W fun e w' => e = .returned (.tuple #[]) ∧ ∃ x, TblAt w' tb W.heap.size x (setT l o.key ⟨#[]⟩ true) ∧ Chg (fun b => b = tb) W w') := fun W hW hb => tset_any o.key ⟨#[]⟩ true hW (by omega) hb
              have e3 : Hid ((setT l o.key ⟨#[]⟩ true).length ≤ l.length + 1) := e2
              clear htr htr2 hok HLB HNB e1 e2
              go_wp2_with (go_at_call 35; refine (HG.out _ (HTb.out.chg ((Chg.refl _ _).alloc _) htbw) (by simp; omega)).mono ?_; rintro e w' ⟨rfl, x', ht', hc'⟩)
              go_roundw
              case rel => exact ⟨j + 1, x', setT l o.key ⟨#[]⟩ true, wsE ws (o, A), _, by omega, by go_num, ht', HTn, by have := e3.out; omega, (HCh.out.alloc _).trans hc'⟩
              case measure => simp [intOf]; omega
            have hsk : Hid (Tracks V wf l ws (logOf ((ops.zip As).drop (j + 1)) number)) := htr.skip (HNB.out (by omega))
            clear htr HLB HNB
            go_wp2
            go_roundw
            case rel => exact ⟨j + 1, x, l, ws, bs, by omega, by go_num, HTb.out.chg ((Chg.refl _ _).alloc _) htbw, hsk, by omega, HCh.out.alloc _⟩
            case measure => simp [intOf]; omega
        · have b2 : (A.code != 0) = true := by simp [h2]
          have hsk : Hid (Tracks V wf l ws (logOf ((ops.zip As).drop (j + 1)) number)) := htr.skip (by simp [logB, h2])
          clear htr
          go_wp2
          go_roundw
          case rel => exact ⟨j + 1, x, l, ws, bs, by omega, by go_num, HTb.out.chg ((Chg.refl _ _).alloc _) htbw, hsk, by omega, HCh.out.alloc _⟩
          case measure => simp [intOf]; omega
      · have hsk : Hid (Tracks V wf l ws (logOf ((ops.zip As).drop (j + 1)) number)) := htr.skip (by simp [logB, h1])
        clear htr
        go_wp2
        go_roundw
        case rel => exact ⟨j + 1, x, l, ws, bs, by omega, by go_num, HTb.out.chg ((Chg.refl _ _).alloc _) htbw, hsk, by omega, HCh.out.alloc _⟩
        case measure => simp [intOf]; omega
    · have hjl : j = ops.length := by omega
      subst hjl
      have htr := HTr.out
      rw [List.drop_eq_nil_of_le (by simp; omega)] at htr
      go_wp2
      go_ret
      refine ⟨rfl, x, l, bs, HTb.out, ?_, hll, HCh.out⟩
      have e : ws = wf := htr.fin
      rw [← e]
      exact htr.tbl
end Go.Proofs.YtkfjafndplmdkaaGreat
