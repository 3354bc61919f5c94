import Derived.Test.YtkfjafndplmdkaaGreatPJ
import Derived.Defers
import Derived.Recover
import Derived.Laws.Pointers
import Derived.Laws.MakeOwn
namespace Go.Proofs.YtkfjafndplmdkaaGreat
open Go.RowKit Go.Sort
abbrev sets7 (w : World) (b : Nat) (c : Int) : World := ((((((w.setCell ⟨b, 0, none⟩ (.int .i64 c)).setCell ⟨b, 1, none⟩ (.int .i64 0)).setCell ⟨b, 2, none⟩ (.bool false)).setCell ⟨b, 3, none⟩ (.string ⟨#[]⟩)).setCell ⟨b, 4, none⟩ (.slice none 0 0)).setCell ⟨b, 5, none⟩ (.slice none 0 0)).setCell ⟨b, 6, none⟩ (.slice none 0 0)
set_option maxRecDepth 100000 in
set_option maxHeartbeats 400000 in
theorem catch_panicking (b : Nat) (c : Int) (older : List PanicEntry) (w : World) (hb : w.heap[b]? = some ans0) :
    CallsD Tryz.prog 47 #[.pointer (some ⟨b, 0, none⟩)] (.panicking ({ v := .iface 31 (.int .i64 c), recovered := false } :: older)) w fun e u' w' =>
      e = .returned (.tuple #[]) ∧ u' = .panicking ({ v := .iface 31 (.int .i64 c), recovered := true } :: older) ∧ w' = sets7 w b c := by
  obtain ⟨k0, k1, k2, k3, k4, k5, k6, kf⟩ := cells7 hb
  refine callsD_of_wpS Tryz.func47 rfl fun c₀ cs hu => ?_
  apply wpS_seq
  apply wpS_region
  simp [wpOpsS, go_sem, recoverD, hu, Tryz.ntmps47, Exit.thenS]
  refine wpS_of_wp ?_
  clear hu hb
  have hta := assertE c
  go_wp2
  simp [bodyPostS, results, Tryz.results47]
set_option maxRecDepth 100000 in
theorem catch_idle (b : Nat) (w : World) :
    CallsD Tryz.prog 47 #[.pointer (some ⟨b, 0, none⟩)] .returning w fun e u' w' => e = .returned (.tuple #[]) ∧ u' = .returning ∧ w' = w := by
  refine callsD_of_wpS Tryz.func47 rfl fun c₀ cs hu => ?_
  apply wpS_seq
  apply wpS_region
  simp [wpOpsS, go_sem, recoverD, hu, Tryz.ntmps47, Exit.thenS]
  refine wpS_of_wp ?_
  go_wp2
  cases c₀
  simp_all [bodyPostS, results, Tryz.results47]
def PlayPost (st : PSt) (n : Nat) (w : World) (r : AnsM × PW) (e : Ending) (w' : World) : Prop :=
  ∃ st' : PSt, st'.p = st.p ∧ Inv w' st' (n + 1) ∧ Rel st' r.2 ∧ Chg (fun b => b ∈ st.blocks) w w' ∧ Kept st st' w ∧
   ∃ a k c a2 k2 c2 a3 k3 c3, e = .returned (ansW r.1.code r.1.number r.1.found r.1.value (.slice a k c) (.slice a2 k2 c2) (.slice a3 k3 c3)) ∧ w'.ownsRow w.heap.size 66 2 (.slice a k c) r.1.items.length (itemCells r.1.items) ∧ w'.ownsRow w.heap.size 44 3 (.slice a2 k2 c2) r.1.done.length (decCells r.1.done) ∧ w'.ownsRow w.heap.size 3 1 (.slice a3 k3 c3) r.1.sums.length (r.1.sums.map (fun n => Value.int .i64 n)) ∧ (∀ g, (Value.slice a k c).ownBlock = some g → g ∉ st'.blocks) ∧ (∀ g, (Value.slice a2 k2 c2).ownBlock = some g → g ∉ st'.blocks) ∧ (∀ g, (Value.slice a3 k3 c3).ownBlock = some g → g ∉ st'.blocks)
theorem play_of_step {st : PSt} {n : Nat} {w w' : World} {r : AnsM × PW} {e : Ending} {v : Value} (hI : Inv w st n) (h : StepAny st n w r e w') (hv : ∀ c, e = errE c → v = ansV c 0 false ⟨#[]⟩ (.slice none 0 0)) (hr : ∀ u, e = .returned u → v = u) : PlayPost st n w r (.returned v) w' := by
  rcases h with h | h
  · obtain ⟨st', q1, q2, q3, q4, q5, q6⟩ := h
    refine ⟨st', q1, q2, q3, q4, q5, ?_⟩
    rcases q6 with ⟨h0, h0', a, k, c, a2, k2, c2, rfl, hrow, hrow2, hg, hg2⟩ | ⟨c, h0, hrr, rfl⟩
    · refine ⟨a, k, c, a2, k2, c2, none, 0, 0, ?_, hrow, hrow2, ?_, hg, hg2, (fun g hg => by cases hg)⟩
      · rw [hr _ rfl, h0]
      · rw [h0']; exact World.ownsRow_nil _ _ _ _
    · refine ⟨none, 0, 0, none, 0, 0, none, 0, 0, ?_, ?_, ?_, ?_, (fun g hg => by cases hg), (fun g hg => by cases hg), (fun g hg => by cases hg)⟩
      · rw [hv c rfl, hrr]
      · rw [hrr]
        exact noItems _ _ _ _
      · rw [hrr]
        exact noDecs _ _ _ _
      · rw [hrr]
        exact World.ownsRow_nil _ _ _ _
  · obtain ⟨S, q1, a, k, c, rfl, q3, q4, q5, q6⟩ := h
    refine ⟨st, rfl, q4, q5, q6.any _, kept_refl _ _, none, 0, 0, none, 0, 0, a, k, c, ?_, ?_, ?_, ?_, (fun g hg => by cases hg), (fun g hg => by cases hg), (fun g hg hm => by have := (q3.lt g hg).1; have := hI.there g hm; omega)⟩
    · rw [hr _ rfl, q1]
    · rw [q1]; exact noItems _ _ _ _
    · rw [q1]; exact noDecs _ _ _ _
    · rw [q1]; exact q3
theorem any_lift {st : PSt} {n : Nat} {w W w3 w4 : World} {r : AnsM × PW} {e : Ending} (h : Inv w st n) (hW : Chg nobody w W) (hp : StepAny st n W r e w3) (hc4 : Chg (fun b => w.heap.size ≤ b ∧ b < W.heap.size) w3 w4) : StepAny st n w r e w4 := hp.imp (fun h1 => post_lift h hW h1 hc4) (fun h1 => sums_lift h hW h1 hc4)
theorem any_form {st : PSt} {n : Nat} {w w' : World} {r : AnsM × PW} {e : Ending} (h : StepAny st n w r e w') : Chg (fun b => b ∈ st.blocks) w w' ∧ ((∃ num fd vl a k c a2 k2 c2 a3 k3 c3, e = .returned (ansW 0 num fd vl (.slice a k c) (.slice a2 k2 c2) (.slice a3 k3 c3))) ∨ ∃ c, e = errE c) := by
  rcases h with ⟨st', q1, q2, q3, q4, q5, q6⟩ | ⟨S, q1, a, k, c, rfl, q3, q4, q5, q6⟩
  · refine ⟨q4, ?_⟩
    rcases q6 with ⟨h0, h0', a, k, c, a2, k2, c2, rfl, hrow, hrow2, hg, hg2⟩ | ⟨c, h0, hrr, rfl⟩
    · exact Or.inl ⟨_, _, _, _, _, _, _, _, _, _, _, _, rfl⟩
    · exact Or.inr ⟨c, rfl⟩
  · exact ⟨q6.any _, Or.inl ⟨_, _, _, _, _, _, _, _, _, _, _, _, rfl⟩⟩
set_option maxRecDepth 100000 in
set_option maxHeartbeats 1000000 in
theorem play_any {st : PSt} {n : Nat} {w : World} {o : OpM} {W : PW} (h : Inv w st n) (hr : Rel st W) (hn : n ≤ 10000000) (ho : o.ok) : Calls Tryz.prog 32 #[.pointer (some ⟨st.p, 0, none⟩), o.v] w (PlayPost st n w (stepP W o)) := by
  have HC := step_any (h.chg (two_chg w o) (fun _ _ hf => hf) (Nat.le_refl _)) hr hn ho
  have HI : Hid (Inv w st n) := h
  generalize stepP W o = r at HC ⊢
  clear h hn ho hr
  have hmf : ∀ (fn : Fn) (first cap : Array Value) (w : World), (Instr.makeFunc fn first cap).run Tryz.prog w = .ok (.func fn first cap) w := fun _ _ _ _ => rfl
  go_enter_defers Tryz.func32, Tryz.ntmps32
  go_wp2_with fail
  refine HC.mono ?_
  rintro e w3 hp
  have HP : Hid (StepAny st n (two w o) r e w3) := hp
  obtain ⟨q4, q6⟩ := any_form hp
  obtain ⟨hres, hz3⟩ := res_two q4 (fun hm => by have := HI.out.there _ hm; omega)
  have HR : Hid (w3.heap[w.heap.size + 1]? = some ans0) := hres
  rcases q6 with ⟨num, fd, vl, a, k, c, a2, k2, c2, a3, kk3, c3, rfl⟩ | ⟨c, rfl⟩
  · obtain ⟨k0, k1, kk2, k3, k4, k5, k6, kf⟩ := cells7 hres
    clear q4 hp hres HC
    go_wp2
    obtain ⟨r0, r1, r2, r3, r4, r5, r6⟩ := set7 HR.out rfl (.int .i64 0) (.int .i64 num) (.bool fd) (.string vl) (.slice a k c) (.slice a2 k2 c2) (.slice a3 kk3 c3)
    have hc7 := (chg_set7 w3 (w.heap.size + 1) (.int .i64 0) (.int .i64 num) (.bool fd) (.string vl) (.slice a k c) (.slice a2 k2 c2) (.slice a3 kk3 c3))
    have hfin := play_of_step (v := ansW 0 num fd vl (.slice a k c) (.slice a2 k2 c2) (.slice a3 kk3 c3)) HI.out (any_lift HI.out (two_chg w o) HP.out (hc7.mono (fun i _ e => by have := two_size w o; omega))) (fun c e => by cases e) (fun u e => by cases e; rfl)
    refine leaves_cons (f := 47) (args := #[.pointer (some ⟨w.heap.size + 1, 0, none⟩)]) (by simp) (by simp [go_sem]) ?_
    refine (catch_idle (w.heap.size + 1) _).mono ?_
    rintro e u' w'' ⟨rfl, rfl, rfl⟩
    clear HR HP HI hc7
    simp [Leaves, settle, results, Tryz.results32, go_sem, r0, r1, r2, r3, r4, r5, r6]
    exact hfin
  · clear q4 hp HC hres
    go_wp2
    obtain ⟨r0, r1, r2, r3, r4, r5, r6⟩ := set7 HR.out rfl (.int .i64 c) (.int .i64 0) (.bool false) (.string ⟨#[]⟩) (.slice none 0 0) (.slice none 0 0) (.slice none 0 0)
    have hc7 := (chg_set7 w3 (w.heap.size + 1) (.int .i64 c) (.int .i64 0) (.bool false) (.string ⟨#[]⟩) (.slice none 0 0) (.slice none 0 0) (.slice none 0 0))
    have hfin := play_of_step (v := ansV c 0 false ⟨#[]⟩ (.slice none 0 0)) HI.out (any_lift HI.out (two_chg w o) HP.out (hc7.mono (fun i _ e => by have := two_size w o; omega))) (fun c' e => by cases e; rfl) (fun u e => by cases e)
    refine leaves_cons (f := 47) (args := #[.pointer (some ⟨w.heap.size + 1, 0, none⟩)]) (by simp) (by simp [go_sem]) ?_
    refine (catch_panicking (w.heap.size + 1) c [] _ HR.out).mono ?_
    rintro e u' w'' ⟨rfl, rfl, rfl⟩
    clear HR HP HI hc7
    simp [Leaves, settle, results, Tryz.results32, go_sem, r0, r1, r2, r3, r4, r5, r6]
    exact hfin
end Go.Proofs.YtkfjafndplmdkaaGreat
namespace Go.Proofs.YtkfjafndplmdkaaGreat
open Go.RowKit Go.Sort
theorem stP_append : ∀ (l l' : List OpM) (s : PW), stP s (l ++ l') = stP (stP s l) l'
  | [], _, _ => rfl
  | x :: r, l', s => by simp only [List.cons_append, stP]; exact stP_append r l' _
theorem ansP_append : ∀ (l l' : List OpM) (s : PW), ansP s (l ++ l') = ansP s l ++ ansP (stP s l) l'
  | [], l', s => rfl
  | x :: r, l', s => by
    simp only [List.cons_append, ansP, stP]
    rw [ansP_append r]
theorem ansP_len : ∀ (l : List OpM) (s : PW), (ansP s l).length = l.length
  | [], _ => rfl
  | x :: r, s => by simp [ansP, ansP_len r]
theorem stP_snoc (s : PW) (l : List OpM) (o : OpM) : stP s (l ++ [o]) = (stepP (stP s l) o).2 := by rw [stP_append]; rfl
theorem ansP_snoc (l : List OpM) (s : PW) (o : OpM) : ansP s (l ++ [o]) = ansP s l ++ [(stepP (stP s l) o).1] := by rw [ansP_append]; rfl
abbrev Sl : Type := Option Addr × Nat × Nat
abbrev Sl3 : Type := Sl × Sl × Sl
abbrev slV (x : Sl) : Value := .slice x.1 x.2.1 x.2.2
def ansCell (p : AnsM × Sl3) : List Value := [.int .i64 p.1.code, .int .i64 p.1.number, .bool p.1.found, .string p.1.value, slV p.2.1, slV p.2.2.1, slV p.2.2.2]
def ansCells (As : List AnsM) (sl : List Sl3) : List Value := (As.zip sl).flatMap ansCell
/-- An answer's lists lie in memory of their own. -/
def RowsOf (w : World) (base : Nat) (A : AnsM) (x : Sl3) : Prop := w.ownsRow base 66 2 (slV x.1) A.items.length (itemCells A.items) ∧ w.ownsRow base 44 3 (slV x.2.1) A.done.length (decCells A.done) ∧ w.ownsRow base 3 1 (slV x.2.2) A.sums.length (A.sums.map (fun n => Value.int .i64 n))
def ItemsAt (w : World) (base : Nat) (As : List AnsM) (sl : List Sl3) : Prop := sl.length = As.length ∧ ∀ p ∈ As.zip sl, RowsOf w base p.1 p.2
theorem RowsOf.chg {w w' : World} {base : Nat} {A : AnsM} {x : Sl3} {S : Nat → Prop} (h : RowsOf w base A x) (hc : Chg S w w') (hs : ∀ v g, (v = slV x.1 ∨ v = slV x.2.1 ∨ v = slV x.2.2) → v.ownBlock = some g → ¬ S g) : RowsOf w' base A x :=
  ⟨ownsRow_chg h.1 hc (fun g e => hs _ g (Or.inl rfl) e), ownsRow_chg h.2.1 hc (fun g e => hs _ g (Or.inr (Or.inl rfl)) e), ownsRow_chg h.2.2 hc (fun g e => hs _ g (Or.inr (Or.inr rfl)) e)⟩
theorem RowsOf.base {w : World} {base base' : Nat} {A : AnsM} {x : Sl3} (h : RowsOf w base A x) (hb : base' ≤ base) : RowsOf w base' A x := ⟨ownsRow_base h.1 hb, ownsRow_base h.2.1 hb, ownsRow_base h.2.2 hb⟩
/-- The script. -/
def OpsAt (w : World) (b off : Nat) (ops : List OpM) : Prop := ∀ j, (h : j < ops.length) → w.cell? ⟨b, off + j * 5, none⟩ = some (.int .i64 ops[j].kind) ∧ w.cell? ⟨b, off + j * 5 + 1, none⟩ = some (.int .i64 ops[j].t) ∧ w.cell? ⟨b, off + j * 5 + 2, none⟩ = some (.string ops[j].key) ∧ w.cell? ⟨b, off + j * 5 + 3, none⟩ = some (.string ops[j].val) ∧ w.cell? ⟨b, off + j * 5 + 4, none⟩ = some (.int .i64 ops[j].n)
theorem infoAns : (Tryz.prog.info? 36).map (fun i => (i.zero, i.size, i.bytes)) = some (some (ansV 0 0 false ⟨#[]⟩ (.slice none 0 0)), 7, 112) := by kernel_rfl
abbrev pnW (w : World) : World := (((w.alloc (.cells #[.int .i64 0] 86)).alloc (.map #[] 0)).alloc (.cells #[.map (some (w.heap.size + 1))] 106)).alloc (.cells #[.pointer (some ⟨w.heap.size, 0, none⟩), .pointer (some ⟨w.heap.size + 2, 0, none⟩), .pointer none, .pointer none, .map none] 93)
theorem pnW_facts (w : World) : (pnW w).heap[w.heap.size]? = some (.cells #[.int .i64 0] 86) ∧ (pnW w).heap[w.heap.size + 1]? = some (.map #[] 0) ∧ (pnW w).heap[w.heap.size + 2]? = some (.cells #[.map (some (w.heap.size + 1))] 106) ∧
    (pnW w).heap[w.heap.size + 3]? = some (.cells #[.pointer (some ⟨w.heap.size, 0, none⟩), .pointer (some ⟨w.heap.size + 2, 0, none⟩), .pointer none, .pointer none, .map none] 93) ∧ (pnW w).heap.size = w.heap.size + 4 ∧ Chg nobody w (pnW w) := by
  have hh : (pnW w).heap = (((w.heap.push (.cells #[.int .i64 0] 86)).push (.map #[] 0)).push (.cells #[.map (some (w.heap.size + 1))] 106)).push (.cells #[.pointer (some ⟨w.heap.size, 0, none⟩), .pointer (some ⟨w.heap.size + 2, 0, none⟩), .pointer none, .pointer none, .map none] 93) := rfl
  refine ⟨?_, ?_, ?_, ?_, by simp, ((((Chg.refl _ _).alloc _).alloc _).alloc _).alloc _⟩
  all_goals
    rw [hh]
    simp only [Array.getElem?_push, Array.size_push]
    repeat (first | rw [if_pos trivial] | rw [if_pos (by omega)] | rw [if_neg (by omega)])
set_option maxRecDepth 100000 in
set_option maxHeartbeats 1000000 in
theorem playerNew_any (w : World) :
    Calls Tryz.prog 31 #[] w fun e w' => e = .returned (.pointer (some ⟨w.heap.size + 3, 0, none⟩)) ∧ w' = ren3 (pnW w).drew (w.heap.size + 3) w.heap.size (w.heap.size + 2) 0 := by
  have hrn := renew_any (w.heap.size + 3) w.heap.size (w.heap.size + 2) 0 _ _ _ (pnW w) (pnW_facts w).2.2.2.1 (cell_of (pnW_facts w).1 rfl)
  generalize ren3 (pnW w).drew (w.heap.size + 3) w.heap.size (w.heap.size + 2) 0 = wf at *
  go_enter Tryz.func31, Tryz.ntmps31
  go_wp2_with (first | (go_at_call 45; refine (storeNew_any _).mono ?_; rintro e w' ⟨rfl, rfl⟩) | (go_at_call 46; refine hrn.mono ?_; rintro e w' ⟨rfl, hw'⟩))
  go_ret
  exact ⟨by simp, rfl⟩
end Go.Proofs.YtkfjafndplmdkaaGreat
namespace Go.Proofs.YtkfjafndplmdkaaGreat
open Go.RowKit Go.Sort
def stNew (s : Nat) : PSt := { p := s + 3, cb := s, sb := s + 2, vm := s + 1, ob := s + 4 + 1, rb := s + 4, qb := s + 4 + 3, ch := s + 4 + 2, om := s + 4 + 4, clock := 0, low := 0, V := [], rows := [], q := [], qs := 0, qr := 0, txs := [] }
theorem playerNew_spec (w : World) :
    Calls Tryz.prog 31 #[] w fun e w' => ∃ st : PSt, e = .returned (.pointer (some ⟨st.p, 0, none⟩)) ∧ Inv w' st 0 ∧ Rel st p0 ∧ Chg nobody w w' ∧ ∀ b ∈ st.blocks, w.heap.size ≤ b := by
  refine (playerNew_any w).mono ?_
  rintro e w' ⟨rfl, rfl⟩
  obtain ⟨a0, a1, a2, a3, a4, a5⟩ := pnW_facts w
  obtain ⟨f1, f2, f3, f4, f5, f6, f7, f8⟩ := ren3_facts (pnW w).drew (w.heap.size + 3) w.heap.size (w.heap.size + 2) 0 _ _ _ a3
  have hz : (pnW w).drew.heap.size = w.heap.size + 4 := a4
  rw [hz] at f1 f2 f3 f4 f5 f6 f7
  generalize ren3 (pnW w).drew (w.heap.size + 3) w.heap.size (w.heap.size + 2) 0 = w2 at *
  have g0 := (f8.block w.heap.size (by omega) (by show ¬ (_ = _); omega)).trans a0
  have g1 := (f8.block (w.heap.size + 1) (by omega) (by show ¬ (_ = _); omega)).trans a1
  have g2 := (f8.block (w.heap.size + 2) (by omega) (by show ¬ (_ = _); omega)).trans a2
  refine ⟨stNew w.heap.size, rfl, ⟨f1, g0, ⟨g2, mapAt_made _ _ _ _ _ g1, by simp [stNew]⟩, ⟨f3, mapAt_made _ _ _ _ _ f2⟩, f5, f4, mapAt_made _ _ _ _ _ f6, by simp [stNew], ?_, by simp [stNew], by simp [stNew], by simp [stNew], by simp [stNew], by simp [stNew], by simp [stNew], by simp [stNew], by simp [stNew], by simp [stNew, sumV], by simp [stNew], by simp [stNew]⟩, ⟨rfl, rfl, trivial, rfl, fun _ => rfl, List.Pairwise.nil, fun _ => rfl, by simp [p0], List.Pairwise.nil, by simp [p0], List.Pairwise.nil⟩, a5.andThen f8.undrew (fun i hi e => by omega), ?_⟩
  · simp [stNew, PSt.blocks, PSt.fix, vBlocks]; try omega
  · intro b hb
    simp [stNew, PSt.blocks, PSt.fix, vBlocks] at hb
    omega
theorem ansCells_snoc {As : List AnsM} {sl : List Sl3} (h : sl.length = As.length) (A : AnsM) (x : Sl3) : ansCells (As ++ [A]) (sl ++ [x]) = ansCells As sl ++ ansCell (A, x) := by
  unfold ansCells
  rw [List.zip_append h.symm]
  simp
theorem row_apart {w : World} {base base' : Nat} {e e' : TypeId} {size size' : Nat} {v v' : Value} {n n' : Nat} {xs xs' : List Value} (h : w.ownsRow base e size v n xs) (h' : w.ownsRow base' e' size' v' n' xs') (hne : e ≠ e') : ∀ g, v.ownBlock = some g → v'.ownBlock ≠ some g := by
  intro g hg hg'
  rcases h.2 with ⟨rfl, _⟩ | ⟨g1, c1, cur1, rfl, _, hb1, _⟩
  · cases hg
  rcases h'.2 with ⟨rfl, _⟩ | ⟨g2, c2, cur2, rfl, _, hb2, _⟩
  · cases hg'
  have e1 : g1 = g := by simpa [Value.ownBlock] using hg
  have e2 : g2 = g := by simpa [Value.ownBlock] using hg'
  subst e1
  subst e2
  rw [hb1] at hb2
  cases hb2
  exact hne rfl
/-- A row of items, of decisions, or of answers, is none of the player's blocks. -/
theorem Inv.row {w : World} {st : PSt} {n : Nat} (h : Inv w st n) {base : Nat} {e : TypeId} {size : Nat} {v : Value} {k : Nat} {xs : List Value} (hr : w.ownsRow base e size v k xs) (he : e ≠ 93 ∧ e ≠ 86 ∧ e ≠ 106 ∧ e ≠ 118 ∧ e ≠ 121 ∧ e ≠ 167 ∧ e ≠ 148) : ∀ g, v.ownBlock = some g → g ∉ st.blocks := by
  intro g hg hm
  rcases hr.2 with ⟨rfl, _⟩ | ⟨g1, c1, cur1, rfl, _, hb1, _⟩
  · cases hg
  have e1 : g1 = g := by simpa [Value.ownBlock] using hg
  subst e1
  have nomap : ∀ {α β : Type} {k : TypeId} {mk : α → Value} {vl : β → Value} {l : List (α × β)}, ¬ mapAt w Tryz.prog k mk vl g1 l := fun hmp => by
    obtain ⟨es, cl, hb2, _⟩ := hmp
    rw [hb1] at hb2
    cases hb2
  have nocell : ∀ {b : Nat} {c : Array Value} {t : TypeId}, w.heap[b]? = some (.cells c t) → b = g1 → e = t := fun hb2 eb => by
    rw [eb, hb1] at hb2
    cases hb2
    rfl
  unfold PSt.blocks PSt.fix at hm
  rcases List.mem_append.1 hm with hm | hm
  · simp only [List.mem_cons, List.not_mem_nil, or_false] at hm
    rcases hm with e1 | e1 | e1 | e1 | e1 | e1 | e1 | e1 | e1
    · exact he.1 (nocell h.pl e1.symm)
    · exact he.2.1 (nocell h.ck e1.symm)
    · exact he.2.2.1 (nocell h.store.st e1.symm)
    · exact nomap (e1 ▸ h.store.vs)
    · exact he.2.2.2.1 (nocell h.orc.o e1.symm)
    · exact nomap (e1 ▸ h.orc.r)
    · exact he.2.2.2.2.1 (nocell h.qu e1.symm)
    · have := h.chn
      rw [← e1, hb1] at this
      cases this
    · exact nomap (e1 ▸ h.om)
  · rcases List.mem_append.1 hm with hm | hm
    · exact h.store.not_vb hb1 (fun cur e2 => by cases e2; exact he.2.2.2.2.2.1 rfl) hm
    · obtain ⟨T, hT, hb⟩ := List.mem_flatMap.1 hm
      have hx := h.txs T hT
      simp only [Tx.blocks, List.mem_cons, List.not_mem_nil, or_false] at hb
      rcases hb with e1 | e1 | e1 | e1
      · exact he.2.2.2.2.2.2 (nocell hx.tx e1.symm)
      · exact nomap (e1 ▸ hx.wm)
      · exact nomap (e1 ▸ hx.km)
      · exact nomap (e1 ▸ hx.pm)
theorem Inv.rows {w : World} {st : PSt} {n : Nat} (h : Inv w st n) {base : Nat} {A : AnsM} {x : Sl3} (hr : RowsOf w base A x) : ∀ v g, (v = slV x.1 ∨ v = slV x.2.1 ∨ v = slV x.2.2) → v.ownBlock = some g → g ∉ st.blocks := by
  rintro v g (rfl | rfl | rfl) hg
  · exact h.row hr.1 (by decide) g hg
  · exact h.row hr.2.1 (by decide) g hg
  · exact h.row hr.2.2 (by decide) g hg
theorem ItemsAt.keep {w w' : World} {base : Nat} {As : List AnsM} {sl : List Sl3} (h : ItemsAt w base As sl) {S : Nat → Prop} (hc : Chg S w w') (hs : ∀ p ∈ As.zip sl, ∀ v g, (v = slV p.2.1 ∨ v = slV p.2.2.1 ∨ v = slV p.2.2.2) → v.ownBlock = some g → ¬ S g) : ItemsAt w' base As sl :=
  ⟨h.1, fun p hp => (h.2 p hp).chg hc (hs p hp)⟩
theorem rows_apart {w : World} {base base' : Nat} {A : AnsM} {x : Sl3} {v' : Value} {n' : Nat} {xs' : List Value} (h : RowsOf w base A x) (h' : w.ownsRow base' 36 7 v' n' xs') : ∀ v g, (v = slV x.1 ∨ v = slV x.2.1 ∨ v = slV x.2.2) → v.ownBlock = some g → ¬ v'.ownBlock = some g := by
  rintro v g (rfl | rfl | rfl) hg
  · exact row_apart h.1 h' (by decide) g hg
  · exact row_apart h.2.1 h' (by decide) g hg
  · exact row_apart h.2.2 h' (by decide) g hg
set_option maxRecDepth 100000 in
set_option maxHeartbeats 1000000 in
theorem run_any (b off cap : Nat) (ops : List OpM) (w : World) (hops : OpsAt w b off ops) (hbl : b < w.heap.size) (hok : ∀ o ∈ ops, o.ok) (hn : ops.length ≤ 10000000) :
    Calls Tryz.prog 16 #[.slice (some ⟨b, off, none⟩) ops.length cap] w fun e w' => ∃ (g c : Nat) (sl : List Sl3), e = .returned (.slice (some ⟨g, 0, none⟩) ops.length c) ∧ w'.ownsRow w.heap.size 36 7 (.slice (some ⟨g, 0, none⟩) ops.length c) ops.length (ansCells (ansP p0 ops) sl) ∧ ItemsAt w' w.heap.size (ansP p0 ops) sl ∧ Chg nobody w w' := by
  obtain ⟨i0, hi, hz0, hz1, hz2⟩ := info_parts infoAns
  have HO : Hid (OpsAt w b off ops ∧ ∀ o ∈ ops, o.ok) := ⟨hops, hok⟩
  clear hops hok
  go_enter Tryz.func16, Tryz.ntmps16
  go_wp2_with fail
  refine (playerNew_spec _).mono ?_
  rintro e w1 ⟨st1, rfl, hI1, hs1, hc1, hb1⟩
  have H1 : Hid (Inv w1 st1 0 ∧ Rel st1 p0 ∧ Chg nobody w w1 ∧ ∀ b ∈ st1.blocks, w.heap.size ≤ b) := ⟨hI1, hs1, hc1, hb1⟩
  have hsz1 : w.heap.size ≤ w1.heap.size := hc1.size
  clear hI1 hs1 hc1 hb1
  go_wp2_with (at_make; refine wpList_make_own _ rfl _ _ 26 rfl w.heap.size 36 i0 (ansV 0 0 false ⟨#[]⟩ (.slice none 0 0)) 7 Tryz.underlying26 hi hz0 hz1 _ _ _ ops.length rfl rfl rfl (by rw [hz2]; omega) (by unfold maxLen; omega) hsz1 ?_; intro w2 hrow2 hg2)
  go_loopw [4, 13] (fun v i wr => ∃ (j : Nat) (st : PSt) (sl : List Sl3), j ≤ ops.length ∧ i = .int .i64 j ∧ st.p = st1.p ∧ Inv wr st j ∧ Rel st (stP p0 (ops.take j)) ∧ wr.ownsRow w.heap.size 36 7 v j (ansCells (ansP p0 (ops.take j)) sl) ∧ ItemsAt wr w.heap.size (ansP p0 (ops.take j)) sl ∧ Chg nobody w wr ∧ (∀ b ∈ st.blocks, w.heap.size ≤ b) ∧ v ≠ .slice none 0 0)
    (fun _ i _ => ops.length - (intOf i).toNat)
  case atStart =>
    obtain ⟨hI1, hs1, hc1, hb1⟩ := H1.out
    have hcg : Chg nobody w1 w2 := (Chg.refl _ _).grown hg2 (fun k e => by cases e)
    exact ⟨0, st1, [], Nat.zero_le _, rfl, rfl, hI1.chg hcg (fun _ _ h => h) (Nat.le_refl _), hs1, hrow2, ⟨rfl, by simp⟩, hc1.trans hcg, hb1, by simp⟩
  case round =>
    obtain ⟨j, st, sl, hj, rfl, hp, hI, hs, hrow, hit, hc, hb, hnn⟩ := hrel
    have HN : Hid (u4 ≠ .slice none 0 0) := hnn
    clear hnn
    by_cases hlt : j < ops.length
    · obtain ⟨hops, hok⟩ := HO.out
      obtain ⟨o0, o1, o2, o3, o4⟩ := hops j hlt
      have hcl : ∀ i, wr.cell? ⟨b, i, none⟩ = w.cell? ⟨b, i, none⟩ := fun i => hc.below.cell (p := ⟨b, i, none⟩) hbl
      rw [← hcl] at o0 o1 o2 o3 o4
      have hoo := hok _ (List.getElem_mem hlt)
      have HG : Hid (ops.take (j + 1) = ops.take j ++ [ops[j]]) := List.take_succ_eq_append_getElem hlt
      generalize ops[j] = o at *
      have HP := play_any (o := o) (hI.chg ((Chg.refl nobody wr).alloc (.cells #[.int .i64 o.kind, .int .i64 o.t, .string o.key, .string o.val, .int .i64 o.n] 30)) (fun _ _ h => h) (Nat.le_refl _)) hs (by omega) hoo
      rw [hp] at HP
      have HJ : Hid (st.p = st1.p ∧ Inv wr st j ∧ Rel st (stP p0 (ops.take j)) ∧ wr.ownsRow w.heap.size 36 7 u4 j (ansCells (ansP p0 (ops.take j)) sl) ∧ ItemsAt wr w.heap.size (ansP p0 (ops.take j)) sl ∧ Chg nobody w wr ∧ ∀ b ∈ st.blocks, w.heap.size ≤ b) := ⟨hp, hI, hs, hrow, hit, hc, hb⟩
      clear hp hI hs hrow hit hc hb hcl hops hok hoo
      go_wp2_with fail
      refine HP.mono ?_
      rintro e w4 ⟨st', q1, q2, q3, q4, q5, a, k, c, a2, k2, c2, a3, k3, c3, rfl, hrw, hrw2, hrw3, hg, hg2, hg3⟩
      obtain ⟨hp, hI, hs, hrow, hit, hc, hb⟩ := HJ.out
      have hcw : Chg nobody wr (wr.alloc (.cells #[.int .i64 o.kind, .int .i64 o.t, .string o.key, .string o.val, .int .i64 o.n] 30)) := (Chg.refl nobody wr).alloc _
      have hc4 : Chg (fun b => b ∈ st.blocks) wr w4 := (hcw.any _).andThen q4 (fun _ _ h => h)
      have hrow4 : w4.ownsRow w.heap.size 36 7 u4 j (ansCells (ansP p0 (ops.take j)) sl) := ownsRow_chg hrow hc4 (hI.row hrow (by decide))
      have hit4 : ItemsAt w4 w.heap.size (ansP p0 (ops.take j)) sl := hit.keep hc4 (fun p hp => hI.rows (hit.2 p hp))
      have hcc4 : Chg nobody w w4 := hc.andThen hc4 (fun i hi h => by have := hb i h; omega)
      have hb4 : ∀ b ∈ st'.blocks, w.heap.size ≤ b := fun x hx => by
        rcases q5 x hx with h | h
        · exact hb x h
        · have := hcw.size; have := hc.size; omega
      have hs4 : Rel st' (stP p0 (ops.take (j + 1))) := by rw [HG.out, stP_snoc]; exact q3
      have ha4 : ansP p0 (ops.take (j + 1)) = ansP p0 (ops.take j) ++ [(stepP (stP p0 (ops.take j)) o).1] := by rw [HG.out, ansP_snoc]
      have hrw4 : RowsOf w4 w.heap.size (stepP (stP p0 (ops.take j)) o).1 ((a, k, c), (a2, k2, c2), (a3, k3, c3)) := ⟨ownsRow_base hrw (by have := hcw.size; have := hc.size; omega), ownsRow_base hrw2 (by have := hcw.size; have := hc.size; omega), ownsRow_base hrw3 (by have := hcw.size; have := hc.size; omega)⟩
      have hle4 : w.heap.size ≤ w4.heap.size := hcc4.size
      have HK : Hid (st'.p = st1.p ∧ Inv w4 st' (j + 1) ∧ Rel st' (stP p0 (ops.take (j + 1))) ∧ ItemsAt w4 w.heap.size (ansP p0 (ops.take j)) sl ∧ Chg nobody w w4 ∧ (∀ b ∈ st'.blocks, w.heap.size ≤ b) ∧ ansP p0 (ops.take (j + 1)) = ansP p0 (ops.take j) ++ [(stepP (stP p0 (ops.take j)) o).1] ∧ RowsOf w4 w.heap.size (stepP (stP p0 (ops.take j)) o).1 ((a, k, c), (a2, k2, c2), (a3, k3, c3))) := ⟨q1.trans hp, q2, hs4, hit4, hcc4, hb4, ha4, hrw4⟩
      clear q1 q2 q3 q4 q5 hrw hrw2 hrw3 hg hg2 hg3 hp hI hs hrow hit hc hb hcw hc4 hit4 hcc4 hb4 hs4 ha4 hrw4 HP HJ o0 o1 o2 o3 o4
      generalize (stepP (stP p0 (ops.take j)) o).1 = A at *
      go_wp2_with (at_builtin; refine wpList_append_own _ rfl _ _ 26 rfl w.heap.size 36 i0 (ansV 0 0 false ⟨#[]⟩ (.slice none 0 0)) 7 112 Tryz.underlying26 hi hz0 hz1 hz2 rfl (by decide) _ _ _ rfl (hrow4.alloc _) ⟨w4.heap.size, 0, none⟩ 1 1 (ansCell (A, ((a, k, c), (a2, k2, c2), (a3, k3, c3)))) rfl rfl (cells_new w4 #[.int .i64 A.code, .int .i64 A.number, .bool A.found, .string A.value, .slice a k c, .slice a2 k2 c2, .slice a3 k3 c3] 36) (by simp [ansCell, Value.oneCell']) (by unfold maxLen; omega) (by omega) (by simp; omega) ?_; intro v' w5 hown' hg5 hnil; have HV : Hid (v' ≠ .slice none 0 0) := (fun e => HN.out (hnil.1 e).1); clear hnil; go_frame)
      go_roundw
      case rel =>
        obtain ⟨hp, hI, hs, hit, hc, hb, ha, hrw⟩ := HK.out
        have hc5 : Chg (fun g => u4.ownBlock = some g) w4 w5 := ((Chg.refl _ _).alloc _).grown hg5 (fun g e => Or.inl e)
        have hno : ∀ x ∈ st'.blocks, ¬ u4.ownBlock = some x := fun x hx e => hI.row hrow4 (by decide) x e hx
        refine ⟨j + 1, st', sl ++ [((a, k, c), (a2, k2, c2), (a3, k3, c3))], by omega, by go_num, hp, hI.chg hc5 hno (Nat.le_refl _), hs, ?_, ?_, hc.andThen hc5 (fun i hi e => by have := (hrow4.lt i e).1; omega), hb, HV.out⟩
        · rw [ha, ansCells_snoc hit.1]
          exact hown'
        · rw [ha]
          refine ⟨by simp [hit.1], fun q hq => ?_⟩
          rw [List.zip_append hit.1.symm] at hq
          rcases List.mem_append.1 hq with hq | hq
          · exact (hit.2 q hq).chg hc5 (rows_apart (hit.2 q hq) hrow4)
          · simp only [List.zip_cons_cons, List.zip_nil_right, List.mem_singleton] at hq
            subst hq
            exact hrw.chg hc5 (rows_apart hrw hrow4)
      case measure => simp [intOf]; omega
    · go_wp2
      go_ret
      have hjl : j = ops.length := by omega
      subst hjl
      rw [List.take_length] at hrow hit
      rcases hrow.2 with ⟨e0, _⟩ | ⟨g, cap', cur, rfl, _⟩
      · exact absurd e0 HN.out
      · exact ⟨g, cap', sl, rfl, hrow, hit, hc⟩
set_option maxRecDepth 100000 in
set_option maxHeartbeats 1000000 in
/-- no step at all. -/
theorem run_zero (ad : Option Addr) (cap : Nat) (w : World) :
    Calls Tryz.prog 16 #[.slice ad 0 cap] w fun e w' => ∃ (g c : Nat) (sl : List Sl3), e = .returned (.slice (some ⟨g, 0, none⟩) 0 c) ∧ w'.ownsRow w.heap.size 36 7 (.slice (some ⟨g, 0, none⟩) 0 c) 0 (ansCells (ansP p0 []) sl) ∧ ItemsAt w' w.heap.size (ansP p0 []) sl ∧ Chg nobody w w' := by
  obtain ⟨i0, hi, hz0, hz1, hz2⟩ := info_parts infoAns
  go_enter Tryz.func16, Tryz.ntmps16
  go_wp2_with fail
  refine (playerNew_spec _).mono ?_
  rintro e w1 ⟨st1, rfl, hI1, hs1, hc1, hb1⟩
  have hsz1 : w.heap.size ≤ w1.heap.size := hc1.size
  go_wp2_with (at_make; refine wpList_make_own _ rfl _ _ 26 rfl w.heap.size 36 i0 (ansV 0 0 false ⟨#[]⟩ (.slice none 0 0)) 7 Tryz.underlying26 hi hz0 hz1 _ _ _ 0 rfl rfl rfl (by omega) (by unfold maxLen; omega) hsz1 ?_; intro w2 hrow2 hg2)
  have hcg : Chg nobody w1 w2 := (Chg.refl _ _).grown hg2 (fun k e => by cases e)
  refine wp_loop_rounds 1 ?_
  rw [rounds_succ]
  go_wp2
  go_ret
  exact ⟨_, _, [], rfl, hrow2, ⟨rfl, by simp [ansP]⟩, hc1.trans hcg⟩
end Go.Proofs.YtkfjafndplmdkaaGreat
