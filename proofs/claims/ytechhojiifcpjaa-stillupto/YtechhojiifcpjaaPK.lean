import Derived.Test.YtechhojiifcpjaaPJ
import Derived.Defers
import Derived.Recover
import Derived.Laws.Pointers
namespace Go.Proofs.Ytechhojiifcpjaa
open Go.RowKit Go.Sort
abbrev sets7 (w : World) (b : Nat) (c : Int) : World := ((((((w.setCell ⟨b, 0, none⟩ (.int .i64 c)).setCell ⟨b, 1, none⟩ (.int .i64 0)).setCell ⟨b, 2, none⟩ (.bool false)).setCell ⟨b, 3, none⟩ (.string ⟨#[]⟩)).setCell ⟨b, 4, none⟩ (.slice none 0 0)).setCell ⟨b, 5, none⟩ (.slice none 0 0)).setCell ⟨b, 6, none⟩ (.slice none 0 0)
set_option maxRecDepth 100000 in
set_option maxHeartbeats 400000 in
theorem catch_panicking (b : Nat) (c : Int) (older : List PanicEntry) (w : World) (hb : w.heap[b]? = some ans0) :
    CallsD Try.prog 24 #[.pointer (some ⟨b, 0, none⟩)] (.panicking ({ v := .iface 29 (.int .i64 c), recovered := false } :: older)) w fun e u' w' =>
      e = .returned (.tuple #[]) ∧ u' = .panicking ({ v := .iface 29 (.int .i64 c), recovered := true } :: older) ∧ w' = sets7 w b c := by
  obtain ⟨k0, k1, k2, k3, k4, k5, k6, kf⟩ := cells7 hb
  refine callsD_of_wpS Try.func24 rfl fun c₀ cs hu => ?_
  apply wpS_seq
  apply wpS_region
  simp [wpOpsS, go_sem, recoverD, hu, Try.ntmps24, Exit.thenS]
  refine wpS_of_wp ?_
  clear hu hb
  have hta := assertE c
  go_wp2
  simp [bodyPostS, results, Try.results24]
set_option maxRecDepth 100000 in
theorem catch_idle (b : Nat) (w : World) :
    CallsD Try.prog 24 #[.pointer (some ⟨b, 0, none⟩)] .returning w fun e u' w' => e = .returned (.tuple #[]) ∧ u' = .returning ∧ w' = w := by
  refine callsD_of_wpS Try.func24 rfl fun c₀ cs hu => ?_
  apply wpS_seq
  apply wpS_region
  simp [wpOpsS, go_sem, recoverD, hu, Try.ntmps24, Exit.thenS]
  refine wpS_of_wp ?_
  go_wp2
  cases c₀
  simp_all [bodyPostS, results, Try.results24]
def PlayPost (st : PSt) (n : Nat) (w : World) (r : AnsM × PW) (e : Ending) (w' : World) : Prop :=
  ∃ st' : PSt, st'.p = st.p ∧ Inv w' st' (n + 1) ∧ Rel st' r.2 ∧ Chg (fun b => b ∈ st.blocks) w w' ∧ Kept st st' w ∧
   ∃ a k c a2 k2 c2, e = .returned (ansW r.1.code r.1.number r.1.found r.1.value (.slice a k c) (.slice a2 k2 c2) (.slice none 0 0)) ∧ w'.ownsRow w.heap.size 53 2 (.slice a k c) r.1.items.length (itemCells r.1.items) ∧ w'.ownsRow w.heap.size 42 3 (.slice a2 k2 c2) r.1.done.length (decCells r.1.done) ∧ r.1.sums = [] ∧ (∀ g, (Value.slice a k c).ownBlock = some g → g ∉ st'.blocks) ∧ (∀ g, (Value.slice a2 k2 c2).ownBlock = some g → g ∉ st'.blocks)
theorem play_of_step {st : PSt} {n : Nat} {w w' : World} {r : AnsM × PW} {e : Ending} {v : Value} (h : StepPost st n w r e w') (hv : ∀ c, e = errE c → v = ansV c 0 false ⟨#[]⟩ (.slice none 0 0)) (hr : ∀ u, e = .returned u → v = u) : PlayPost st n w r (.returned v) w' := by
  obtain ⟨st', q1, q2, q3, q4, q5, q6⟩ := h
  refine ⟨st', q1, q2, q3, q4, q5, ?_⟩
  rcases q6 with ⟨h0, h0', a, k, c, a2, k2, c2, rfl, hrow, hrow2, hg, hg2⟩ | ⟨c, h0, hrr, rfl⟩
  · refine ⟨a, k, c, a2, k2, c2, ?_, hrow, hrow2, h0', hg, hg2⟩
    rw [hr _ rfl, h0]
  · refine ⟨none, 0, 0, none, 0, 0, ?_, ?_, ?_, ?_, (fun g hg => by cases hg), (fun g hg => by cases hg)⟩
    · rw [hv c rfl, hrr]
    · rw [hrr]
      exact noItems _ _ _ _
    · rw [hrr]
      exact noDecs _ _ _ _
    · rw [hrr]
set_option maxRecDepth 100000 in
set_option maxHeartbeats 1000000 in
theorem play_any {st : PSt} {n : Nat} {w : World} {o : OpM} {W : PW} (h : Inv w st n) (hr : Rel st W) (hn : n ≤ 10000000) (ho : o.ok) : Calls Try.prog 17 #[.pointer (some ⟨st.p, 0, none⟩), o.v] w (PlayPost st n w (stepP W o)) := by
  have HC := step_any (h.chg (two_chg w o) (fun _ _ hf => hf) (Nat.le_refl _)) hr hn ho
  have HI : Hid (Inv w st n) := h
  generalize stepP W o = r at HC ⊢
  clear h hn ho hr
  have hmf : ∀ (fn : Fn) (first cap : Array Value) (w : World), (Instr.makeFunc fn first cap).run Try.prog w = .ok (.func fn first cap) w := fun _ _ _ _ => rfl
  go_enter_defers Try.func17, Try.ntmps17
  go_wp2_with fail
  refine HC.mono ?_
  rintro e w3 hp
  have HP : Hid (StepPost st n (two w o) r e w3) := hp
  obtain ⟨st', q1, q2, q3, q4, q5, q6⟩ := hp
  obtain ⟨hres, hz3⟩ := res_two q4 (fun hm => by have := HI.out.there _ hm; omega)
  have HR : Hid (w3.heap[w.heap.size + 1]? = some ans0) := hres
  rcases q6 with ⟨h0, h0', a, k, c, a2, k2, c2, rfl, hrow, hrow2, hg, hg2⟩ | ⟨c, h0, hr, rfl⟩
  · obtain ⟨k0, k1, kk2, k3, k4, k5, k6, kf⟩ := cells7 hres
    clear q1 q2 q3 q4 q5 hrow hrow2 hg hg2 h0 h0' hres HC
    go_wp2
    obtain ⟨r0, r1, r2, r3, r4, r5, r6⟩ := set7 HR.out rfl (.int .i64 0) (.int .i64 r.1.number) (.bool r.1.found) (.string r.1.value) (.slice a k c) (.slice a2 k2 c2) (.slice none 0 0)
    have hc7 := (chg_set7 w3 (w.heap.size + 1) (.int .i64 0) (.int .i64 r.1.number) (.bool r.1.found) (.string r.1.value) (.slice a k c) (.slice a2 k2 c2) (.slice none 0 0))
    have hfin := play_of_step (v := ansW 0 r.1.number r.1.found r.1.value (.slice a k c) (.slice a2 k2 c2) (.slice none 0 0)) (post_lift HI.out (two_chg w o) HP.out (hc7.mono (fun i _ e => by have := two_size w o; omega))) (fun c e => by cases e) (fun u e => by cases e; rfl)
    refine leaves_cons (f := 24) (args := #[.pointer (some ⟨w.heap.size + 1, 0, none⟩)]) (by simp) (by simp [go_sem]) ?_
    refine (catch_idle (w.heap.size + 1) _).mono ?_
    rintro e u' w'' ⟨rfl, rfl, rfl⟩
    clear HR HP HI hc7
    simp [Leaves, settle, results, Try.results17, go_sem, r0, r1, r2, r3, r4, r5, r6]
    exact hfin
  · clear q1 q2 q3 q4 q5 hr h0 HC hres
    go_wp2
    obtain ⟨r0, r1, r2, r3, r4, r5, r6⟩ := set7 HR.out rfl (.int .i64 c) (.int .i64 0) (.bool false) (.string ⟨#[]⟩) (.slice none 0 0) (.slice none 0 0) (.slice none 0 0)
    have hc7 := (chg_set7 w3 (w.heap.size + 1) (.int .i64 c) (.int .i64 0) (.bool false) (.string ⟨#[]⟩) (.slice none 0 0) (.slice none 0 0) (.slice none 0 0))
    have hfin := play_of_step (v := ansV c 0 false ⟨#[]⟩ (.slice none 0 0)) (post_lift HI.out (two_chg w o) HP.out (hc7.mono (fun i _ e => by have := two_size w o; omega))) (fun c' e => by cases e; rfl) (fun u e => by cases e)
    refine leaves_cons (f := 24) (args := #[.pointer (some ⟨w.heap.size + 1, 0, none⟩)]) (by simp) (by simp [go_sem]) ?_
    refine (catch_panicking (w.heap.size + 1) c [] _ HR.out).mono ?_
    rintro e u' w'' ⟨rfl, rfl, rfl⟩
    clear HR HP HI hc7
    simp [Leaves, settle, results, Try.results17, go_sem, r0, r1, r2, r3, r4, r5, r6]
    exact hfin
end Go.Proofs.Ytechhojiifcpjaa
