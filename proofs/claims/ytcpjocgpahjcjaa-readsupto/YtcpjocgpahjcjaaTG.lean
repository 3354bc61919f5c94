import Derived.Test.YtcpjocgpahjcjaaTF
import Derived.Defers
import Derived.Recover
namespace Go.Proofs.Ytcpjocgpahjcjaa
open Go.RowKit Go.Sort
set_option maxRecDepth 100000 in
set_option maxHeartbeats 1000000 in
theorem step_bad {p : Nat} {w : World} {o : OpM} (hk : o.kind < 1 ∨ 6 < o.kind) : Calls Try.prog 25 #[.pointer (some ⟨p, 0, none⟩), o.v] w fun e w' => e = errE 1 ∧ w' = two w o := by
  have b1 : (o.kind == 1) = false := beq_eq_false_iff_ne.2 (by omega)
  have b2 : (o.kind == 2) = false := beq_eq_false_iff_ne.2 (by omega)
  have b3 : (o.kind == 3) = false := beq_eq_false_iff_ne.2 (by omega)
  have b4 : (o.kind == 4) = false := beq_eq_false_iff_ne.2 (by omega)
  have b5 : (o.kind == 5) = false := beq_eq_false_iff_ne.2 (by omega)
  have b6 : (o.kind == 6) = false := beq_eq_false_iff_ne.2 (by omega)
  clear hk
  go_enter Try.func25, Try.ntmps25
  go_wp2
  exact ⟨rfl, rfl, rfl⟩
/-- A step's outcome, seen from before the boxes that its caller made. -/
theorem post_lift {st : PSt} {n : Nat} {w W w3 w4 : World} {r : AnsM × MSt} {e : Ending} (h : Inv w st n) (hW : Chg nobody w W) (hp : StepPost st n W r e w3) (hc4 : Chg (fun b => w.heap.size ≤ b ∧ b < W.heap.size) w3 w4) : StepPost st n w r e w4 := by
  obtain ⟨st', q1, q2, q3, q4, q5, q6⟩ := hp
  have hz := hW.size
  have hout : ∀ b ∈ st'.blocks, ¬ (w.heap.size ≤ b ∧ b < W.heap.size) := fun b hb hx => by
    rcases q5 b hb with h1 | h1
    · have := h.there b h1
      omega
    · omega
  refine ⟨st', q1, q2.chg hc4 hout (Nat.le_refl _), q3, ((hW.any _).andThen q4 (fun _ _ h => h)).andThen hc4 (fun i hi hx => by omega), fun b hb => (q5 b hb).imp id (fun h => by omega), ?_⟩
  rcases q6 with ⟨h0, a, k, c, he, hrow, hg⟩ | h2
  · exact Or.inl ⟨h0, a, k, c, he, ownsRow_base (ownsRow_chg hrow hc4 (fun g hg' hx => by have := (hrow.lt g hg').1; omega)) hz, hg⟩
  · exact Or.inr h2
theorem two_size (w : World) (o : OpM) : (two w o).heap.size = w.heap.size + 2 := by simp
set_option maxRecDepth 100000 in
set_option maxHeartbeats 1000000 in
theorem step_1 {st : PSt} {n : Nat} {w : World} {o : OpM} (h : Inv w st n) (hn : n ≤ 100000000) (_ho : o.ok) (hk : o.kind = 1) : Calls Try.prog 25 #[.pointer (some ⟨st.p, 0, none⟩), o.v] w (StepPost st n w (stepM st.abs o)) := by
  have HC := begin_step (h.chg (two_chg w o) (fun _ _ hf => hf) (Nat.le_refl _)) hn hk
  have b1 : (o.kind == 1) = true := beq_iff_eq.2 hk
  have HI : Hid (Inv w st n) := h
  generalize stepM st.abs o = r at HC ⊢
  clear hk h hn
  go_enter Try.func25, Try.ntmps25
  go_wp2_with fail
  refine HC.mono ?_
  rintro e w3 hp
  have HP : Hid (StepPost st n (two w o) r e w3) := hp
  obtain ⟨st', q1, q2, q3, q4, q5, q6⟩ := hp
  rcases q6 with ⟨h0, a, k, c, rfl, hrow, hg⟩ | ⟨c, h0, hr, rfl⟩
  · obtain ⟨hres, hz3⟩ := res_two q4 (fun hm => by have := HI.out.there _ hm; omega)
    have HR : Hid (w3.heap[w.heap.size + 1]? = some ans0) := hres
    obtain ⟨k0, k1, k2, k3, k4, k5, k6, kf⟩ := cells7 hres
    clear q1 q2 q3 q4 q5 hrow hg h0 hres HC
    go_wp2
    obtain ⟨r0, r1, r2, r3, r4, r5, r6⟩ := set7 HR.out rfl (.int .i64 0) (.int .i64 r.1.number) (.bool r.1.found) (.string r.1.value) (.slice a k c) (.slice none 0 0) (.slice none 0 0)
    have hc7 := (chg_set7 w3 (w.heap.size + 1) (.int .i64 0) (.int .i64 r.1.number) (.bool r.1.found) (.string r.1.value) (.slice a k c) (.slice none 0 0) (.slice none 0 0))
    exact bodyPost_ret (v := ansV 0 r.1.number r.1.found r.1.value (.slice a k c)) (by simp [results, Try.results25, go_sem, r0, r1, r2, r3, r4, r5, r6]) rfl (post_lift HI.out (two_chg w o) HP.out (hc7.mono (fun i _ e => by have := two_size w o; omega)))
  · clear q1 q2 q3 q4 q5 hr h0 HC
    go_wp2
    exact ⟨rfl, post_lift HI.out (two_chg w o) HP.out (Chg.refl _ _)⟩
set_option maxRecDepth 100000 in
set_option maxHeartbeats 1000000 in
theorem step_2 {st : PSt} {n : Nat} {w : World} {o : OpM} (h : Inv w st n) (_hn : n ≤ 100000000) (ho : o.ok) (hk : o.kind = 2) : Calls Try.prog 25 #[.pointer (some ⟨st.p, 0, none⟩), o.v] w (StepPost st n w (stepM st.abs o)) := by
  have HC := get_step (h.chg (two_chg w o) (fun _ _ hf => hf) (Nat.le_refl _)) ho hk
  have b1 : (o.kind == 1) = false := beq_eq_false_iff_ne.2 (by omega)
  have b2 : (o.kind == 2) = true := beq_iff_eq.2 hk
  have HI : Hid (Inv w st n) := h
  generalize stepM st.abs o = r at HC ⊢
  clear hk h ho
  go_enter Try.func25, Try.ntmps25
  go_wp2_with fail
  refine HC.mono ?_
  rintro e w3 hp
  have HP : Hid (StepPost st n (two w o) r e w3) := hp
  obtain ⟨st', q1, q2, q3, q4, q5, q6⟩ := hp
  rcases q6 with ⟨h0, a, k, c, rfl, hrow, hg⟩ | ⟨c, h0, hr, rfl⟩
  · obtain ⟨hres, hz3⟩ := res_two q4 (fun hm => by have := HI.out.there _ hm; omega)
    have HR : Hid (w3.heap[w.heap.size + 1]? = some ans0) := hres
    obtain ⟨k0, k1, k2, k3, k4, k5, k6, kf⟩ := cells7 hres
    clear q1 q2 q3 q4 q5 hrow hg h0 hres HC
    go_wp2
    obtain ⟨r0, r1, r2, r3, r4, r5, r6⟩ := set7 HR.out rfl (.int .i64 0) (.int .i64 r.1.number) (.bool r.1.found) (.string r.1.value) (.slice a k c) (.slice none 0 0) (.slice none 0 0)
    have hc7 := (chg_set7 w3 (w.heap.size + 1) (.int .i64 0) (.int .i64 r.1.number) (.bool r.1.found) (.string r.1.value) (.slice a k c) (.slice none 0 0) (.slice none 0 0))
    exact bodyPost_ret (v := ansV 0 r.1.number r.1.found r.1.value (.slice a k c)) (by simp [results, Try.results25, go_sem, r0, r1, r2, r3, r4, r5, r6]) rfl (post_lift HI.out (two_chg w o) HP.out (hc7.mono (fun i _ e => by have := two_size w o; omega)))
  · clear q1 q2 q3 q4 q5 hr h0 HC
    go_wp2
    exact ⟨rfl, post_lift HI.out (two_chg w o) HP.out (Chg.refl _ _)⟩
set_option maxRecDepth 100000 in
set_option maxHeartbeats 1000000 in
theorem step_3 {st : PSt} {n : Nat} {w : World} {o : OpM} (h : Inv w st n) (hn : n ≤ 100000000) (ho : o.ok) (hk : o.kind = 3) : Calls Try.prog 25 #[.pointer (some ⟨st.p, 0, none⟩), o.v] w (StepPost st n w (stepM st.abs o)) := by
  have HC := scan_step (h.chg (two_chg w o) (fun _ _ hf => hf) (Nat.le_refl _)) hn ho hk
  have b1 : (o.kind == 1) = false := beq_eq_false_iff_ne.2 (by omega)
  have b2 : (o.kind == 2) = false := beq_eq_false_iff_ne.2 (by omega)
  have b3 : (o.kind == 3) = true := beq_iff_eq.2 hk
  have HI : Hid (Inv w st n) := h
  generalize stepM st.abs o = r at HC ⊢
  clear hk h ho hn
  go_enter Try.func25, Try.ntmps25
  go_wp2_with fail
  refine HC.mono ?_
  rintro e w3 hp
  have HP : Hid (StepPost st n (two w o) r e w3) := hp
  obtain ⟨st', q1, q2, q3, q4, q5, q6⟩ := hp
  rcases q6 with ⟨h0, a, k, c, rfl, hrow, hg⟩ | ⟨c, h0, hr, rfl⟩
  · obtain ⟨hres, hz3⟩ := res_two q4 (fun hm => by have := HI.out.there _ hm; omega)
    have HR : Hid (w3.heap[w.heap.size + 1]? = some ans0) := hres
    obtain ⟨k0, k1, k2, k3, k4, k5, k6, kf⟩ := cells7 hres
    clear q1 q2 q3 q4 q5 hrow hg h0 hres HC
    go_wp2
    obtain ⟨r0, r1, r2, r3, r4, r5, r6⟩ := set7 HR.out rfl (.int .i64 0) (.int .i64 r.1.number) (.bool r.1.found) (.string r.1.value) (.slice a k c) (.slice none 0 0) (.slice none 0 0)
    have hc7 := (chg_set7 w3 (w.heap.size + 1) (.int .i64 0) (.int .i64 r.1.number) (.bool r.1.found) (.string r.1.value) (.slice a k c) (.slice none 0 0) (.slice none 0 0))
    exact bodyPost_ret (v := ansV 0 r.1.number r.1.found r.1.value (.slice a k c)) (by simp [results, Try.results25, go_sem, r0, r1, r2, r3, r4, r5, r6]) rfl (post_lift HI.out (two_chg w o) HP.out (hc7.mono (fun i _ e => by have := two_size w o; omega)))
  · clear q1 q2 q3 q4 q5 hr h0 HC
    go_wp2
    exact ⟨rfl, post_lift HI.out (two_chg w o) HP.out (Chg.refl _ _)⟩
set_option maxRecDepth 100000 in
set_option maxHeartbeats 1000000 in
theorem step_4 {st : PSt} {n : Nat} {w : World} {o : OpM} (h : Inv w st n) (_hn : n ≤ 100000000) (ho : o.ok) (hk : o.kind = 4) : Calls Try.prog 25 #[.pointer (some ⟨st.p, 0, none⟩), o.v] w (StepPost st n w (stepM st.abs o)) := by
  have HC := put_step (h.chg (two_chg w o) (fun _ _ hf => hf) (Nat.le_refl _)) ho hk
  have b1 : (o.kind == 1) = false := beq_eq_false_iff_ne.2 (by omega)
  have b2 : (o.kind == 2) = false := beq_eq_false_iff_ne.2 (by omega)
  have b3 : (o.kind == 3) = false := beq_eq_false_iff_ne.2 (by omega)
  have b4 : (o.kind == 4) = true := beq_iff_eq.2 hk
  have HI : Hid (Inv w st n) := h
  generalize stepM st.abs o = r at HC ⊢
  clear hk h ho
  go_enter Try.func25, Try.ntmps25
  go_wp2_with fail
  refine HC.mono ?_
  rintro e w3 hp
  have HP : Hid (StepPost st n (two w o) r e w3) := hp
  obtain ⟨st', q1, q2, q3, q4, q5, q6⟩ := hp
  rcases q6 with ⟨h0, a, k, c, rfl, hrow, hg⟩ | ⟨c, h0, hr, rfl⟩
  · obtain ⟨hres, hz3⟩ := res_two q4 (fun hm => by have := HI.out.there _ hm; omega)
    have HR : Hid (w3.heap[w.heap.size + 1]? = some ans0) := hres
    obtain ⟨k0, k1, k2, k3, k4, k5, k6, kf⟩ := cells7 hres
    clear q1 q2 q3 q4 q5 hrow hg h0 hres HC
    go_wp2
    obtain ⟨r0, r1, r2, r3, r4, r5, r6⟩ := set7 HR.out rfl (.int .i64 0) (.int .i64 r.1.number) (.bool r.1.found) (.string r.1.value) (.slice a k c) (.slice none 0 0) (.slice none 0 0)
    have hc7 := (chg_set7 w3 (w.heap.size + 1) (.int .i64 0) (.int .i64 r.1.number) (.bool r.1.found) (.string r.1.value) (.slice a k c) (.slice none 0 0) (.slice none 0 0))
    exact bodyPost_ret (v := ansV 0 r.1.number r.1.found r.1.value (.slice a k c)) (by simp [results, Try.results25, go_sem, r0, r1, r2, r3, r4, r5, r6]) rfl (post_lift HI.out (two_chg w o) HP.out (hc7.mono (fun i _ e => by have := two_size w o; omega)))
  · clear q1 q2 q3 q4 q5 hr h0 HC
    go_wp2
    exact ⟨rfl, post_lift HI.out (two_chg w o) HP.out (Chg.refl _ _)⟩
set_option maxRecDepth 100000 in
set_option maxHeartbeats 1000000 in
theorem step_5 {st : PSt} {n : Nat} {w : World} {o : OpM} (h : Inv w st n) (_hn : n ≤ 100000000) (ho : o.ok) (hk : o.kind = 5) : Calls Try.prog 25 #[.pointer (some ⟨st.p, 0, none⟩), o.v] w (StepPost st n w (stepM st.abs o)) := by
  have HC := del_step (h.chg (two_chg w o) (fun _ _ hf => hf) (Nat.le_refl _)) ho hk
  have b1 : (o.kind == 1) = false := beq_eq_false_iff_ne.2 (by omega)
  have b2 : (o.kind == 2) = false := beq_eq_false_iff_ne.2 (by omega)
  have b3 : (o.kind == 3) = false := beq_eq_false_iff_ne.2 (by omega)
  have b4 : (o.kind == 4) = false := beq_eq_false_iff_ne.2 (by omega)
  have b5 : (o.kind == 5) = true := beq_iff_eq.2 hk
  have HI : Hid (Inv w st n) := h
  generalize stepM st.abs o = r at HC ⊢
  clear hk h ho
  go_enter Try.func25, Try.ntmps25
  go_wp2_with fail
  refine HC.mono ?_
  rintro e w3 hp
  have HP : Hid (StepPost st n (two w o) r e w3) := hp
  obtain ⟨st', q1, q2, q3, q4, q5, q6⟩ := hp
  rcases q6 with ⟨h0, a, k, c, rfl, hrow, hg⟩ | ⟨c, h0, hr, rfl⟩
  · obtain ⟨hres, hz3⟩ := res_two q4 (fun hm => by have := HI.out.there _ hm; omega)
    have HR : Hid (w3.heap[w.heap.size + 1]? = some ans0) := hres
    obtain ⟨k0, k1, k2, k3, k4, k5, k6, kf⟩ := cells7 hres
    clear q1 q2 q3 q4 q5 hrow hg h0 hres HC
    go_wp2
    obtain ⟨r0, r1, r2, r3, r4, r5, r6⟩ := set7 HR.out rfl (.int .i64 0) (.int .i64 r.1.number) (.bool r.1.found) (.string r.1.value) (.slice a k c) (.slice none 0 0) (.slice none 0 0)
    have hc7 := (chg_set7 w3 (w.heap.size + 1) (.int .i64 0) (.int .i64 r.1.number) (.bool r.1.found) (.string r.1.value) (.slice a k c) (.slice none 0 0) (.slice none 0 0))
    exact bodyPost_ret (v := ansV 0 r.1.number r.1.found r.1.value (.slice a k c)) (by simp [results, Try.results25, go_sem, r0, r1, r2, r3, r4, r5, r6]) rfl (post_lift HI.out (two_chg w o) HP.out (hc7.mono (fun i _ e => by have := two_size w o; omega)))
  · clear q1 q2 q3 q4 q5 hr h0 HC
    go_wp2
    exact ⟨rfl, post_lift HI.out (two_chg w o) HP.out (Chg.refl _ _)⟩
set_option maxRecDepth 100000 in
set_option maxHeartbeats 1000000 in
theorem step_6 {st : PSt} {n : Nat} {w : World} {o : OpM} (h : Inv w st n) (_hn : n ≤ 100000000) (ho : o.ok) (hk : o.kind = 6) : Calls Try.prog 25 #[.pointer (some ⟨st.p, 0, none⟩), o.v] w (StepPost st n w (stepM st.abs o)) := by
  have HC := drop_step (h.chg (two_chg w o) (fun _ _ hf => hf) (Nat.le_refl _)) ho hk
  have b1 : (o.kind == 1) = false := beq_eq_false_iff_ne.2 (by omega)
  have b2 : (o.kind == 2) = false := beq_eq_false_iff_ne.2 (by omega)
  have b3 : (o.kind == 3) = false := beq_eq_false_iff_ne.2 (by omega)
  have b4 : (o.kind == 4) = false := beq_eq_false_iff_ne.2 (by omega)
  have b5 : (o.kind == 5) = false := beq_eq_false_iff_ne.2 (by omega)
  have b6 : (o.kind == 6) = true := beq_iff_eq.2 hk
  have HI : Hid (Inv w st n) := h
  generalize stepM st.abs o = r at HC ⊢
  clear hk h ho
  go_enter Try.func25, Try.ntmps25
  go_wp2_with fail
  refine HC.mono ?_
  rintro e w3 hp
  have HP : Hid (StepPost st n (two w o) r e w3) := hp
  obtain ⟨st', q1, q2, q3, q4, q5, q6⟩ := hp
  rcases q6 with ⟨h0, a, k, c, rfl, hrow, hg⟩ | ⟨c, h0, hr, rfl⟩
  · obtain ⟨hres, hz3⟩ := res_two q4 (fun hm => by have := HI.out.there _ hm; omega)
    have HR : Hid (w3.heap[w.heap.size + 1]? = some ans0) := hres
    obtain ⟨k0, k1, k2, k3, k4, k5, k6, kf⟩ := cells7 hres
    clear q1 q2 q3 q4 q5 hrow hg h0 hres HC
    go_wp2
    obtain ⟨r0, r1, r2, r3, r4, r5, r6⟩ := set7 HR.out rfl (.int .i64 0) (.int .i64 r.1.number) (.bool r.1.found) (.string r.1.value) (.slice a k c) (.slice none 0 0) (.slice none 0 0)
    have hc7 := (chg_set7 w3 (w.heap.size + 1) (.int .i64 0) (.int .i64 r.1.number) (.bool r.1.found) (.string r.1.value) (.slice a k c) (.slice none 0 0) (.slice none 0 0))
    exact bodyPost_ret (v := ansV 0 r.1.number r.1.found r.1.value (.slice a k c)) (by simp [results, Try.results25, go_sem, r0, r1, r2, r3, r4, r5, r6]) rfl (post_lift HI.out (two_chg w o) HP.out (hc7.mono (fun i _ e => by have := two_size w o; omega)))
  · clear q1 q2 q3 q4 q5 hr h0 HC
    go_wp2
    exact ⟨rfl, post_lift HI.out (two_chg w o) HP.out (Chg.refl _ _)⟩
theorem step_any {st : PSt} {n : Nat} {w : World} {o : OpM} (h : Inv w st n) (hn : n ≤ 100000000) (ho : o.ok) : Calls Try.prog 25 #[.pointer (some ⟨st.p, 0, none⟩), o.v] w (StepPost st n w (stepM st.abs o)) := by
  by_cases hb : o.kind < 1 ∨ 6 < o.kind
  · refine (step_bad hb).mono ?_
    rintro e w' ⟨rfl, rfl⟩
    have : stepM st.abs o = (errA 1, st.abs) := by
      unfold stepM
      rw [if_neg (by omega), if_neg (by omega)]
    rw [this]
    exact err_post h (two_chg w o) (by decide)
  · by_cases h1 : o.kind = 1
    · exact step_1 h hn ho h1
    by_cases h2 : o.kind = 2
    · exact step_2 h hn ho h2
    by_cases h3 : o.kind = 3
    · exact step_3 h hn ho h3
    by_cases h4 : o.kind = 4
    · exact step_4 h hn ho h4
    by_cases h5 : o.kind = 5
    · exact step_5 h hn ho h5
    exact step_6 h hn ho (by omega)
end Go.Proofs.Ytcpjocgpahjcjaa
