import Derived.Test.YtcpjocgpahjcjaaTO
namespace Go.Proofs.Ytcpjocgpahjcjaa
/-! ### plain: what a transaction sees does not change -/
def LowM (s : MSt) : Prop := ∀ T ∈ s.txs, T.start ≤ s.clock
theorem findM_mem {n : Int} : ∀ {l : List MTx} {T : MTx}, findM n l = some T → T ∈ l ∧ T.start = n
  | [], _, h => by simp [findM] at h
  | X :: r, T, h => by
    unfold findM at h
    split at h
    · rename_i hx
      cases h
      exact ⟨by simp, hx⟩
    · have := findM_mem h
      exact ⟨by simp [this.1], this.2⟩
theorem replM_mem {n : Int} {ws : List (ByteArray × (Bool × ByteArray))} : ∀ {l : List MTx} {X : MTx}, X ∈ replM n ws l → X ∈ l ∨ (X = ⟨n, ws⟩ ∧ ∃ T ∈ l, T.start = n)
  | [], _, h => by simp [replM] at h
  | Y :: r, X, h => by
    unfold replM at h
    split at h
    · rename_i hy
      rcases List.mem_cons.1 h with h | h
      · exact Or.inr ⟨h, Y, by simp, hy⟩
      · exact Or.inl (by simp [h])
    · rcases List.mem_cons.1 h with h | h
      · exact Or.inl (by simp [h])
      · rcases replM_mem h with h | ⟨h, T, hT, hs⟩
        · exact Or.inl (by simp [h])
        · exact Or.inr ⟨h, T, by simp [hT], hs⟩
theorem dropM_mem {n : Int} : ∀ {l : List MTx} {X : MTx}, X ∈ dropM n l → X ∈ l
  | [], _, h => by simp [dropM] at h
  | Y :: r, X, h => by
    unfold dropM at h
    split at h
    · simp [h]
    · rcases List.mem_cons.1 h with h | h
      · simp [h]
      · simp [dropM_mem h]
/-- what a step may make of the open transactions. -/
theorem step_cases (s : MSt) (o : OpM) : (stepM s o).2 = s ∨ (o.kind = 1 ∧ (stepM s o).2 = ⟨s.clock + 1, s.txs ++ [⟨s.clock + 1, []⟩]⟩) ∨
    (∃ T, findM o.t s.txs = some T ∧ ∃ ws, (stepM s o).2 = { s with txs := replM o.t ws s.txs }) ∨ (stepM s o).2 = { s with txs := dropM o.t s.txs } := by
  unfold stepM
  split
  · rename_i h1
    split
    · exact Or.inl rfl
    · exact Or.inr (Or.inl ⟨h1, rfl⟩)
  · split
    · cases hf : findM o.t s.txs with
      | none => exact Or.inl rfl
      | some T =>
        simp only
        unfold ofM
        split
        · split <;> exact Or.inl rfl
        · split
          · exact Or.inl rfl
          · split
            · split
              · exact Or.inl rfl
              · split
                · exact Or.inl rfl
                · exact Or.inr (Or.inr (Or.inl ⟨T, rfl, _, rfl⟩))
            · split
              · split
                · exact Or.inl rfl
                · exact Or.inr (Or.inr (Or.inl ⟨T, rfl, _, rfl⟩))
              · exact Or.inr (Or.inr (Or.inr rfl))
    · exact Or.inl rfl
theorem LowM.step {s : MSt} (h : LowM s) (o : OpM) : LowM (stepM s o).2 := by
  rcases step_cases s o with e | ⟨_, e⟩ | ⟨T, hT, ws, e⟩ | e
  · rw [e]; exact h
  · rw [e]
    intro X hX
    rcases List.mem_append.1 hX with hX | hX
    · have := h X hX
      simp only
      omega
    · rw [List.mem_singleton.1 hX]
      exact Int.le_refl _
  · rw [e]
    intro X hX
    rcases replM_mem hX with hX | ⟨rfl, Y, hY, hs⟩
    · exact h X hX
    · have := h Y hY
      simp only
      omega
  · rw [e]
    exact fun X hX => h X (dropM_mem hX)
theorem LowM.run : ∀ (l : List OpM) {s : MSt}, LowM s → LowM (stM s l)
  | [], _, h => h
  | o :: r, _, h => LowM.run r (h.step o)
theorem low0 : LowM s0 := fun _ h => by simp [s0] at h
def HasM (t : Int) (ws : List (ByteArray × (Bool × ByteArray))) (s : MSt) : Prop := findM t s.txs = some ⟨t, ws⟩ ∧ t ≤ s.clock
theorem findM_append {n : Int} {T : MTx} : ∀ {l l' : List MTx}, findM n l = some T → findM n (l ++ l') = some T
  | [], _, h => by simp [findM] at h
  | X :: r, l', h => by
    simp only [List.cons_append, findM] at h ⊢
    split
    · rename_i hx; rw [if_pos hx] at h; exact h
    · rename_i hx; rw [if_neg hx] at h; exact findM_append h
theorem findM_none_append {n : Int} : ∀ {l l' : List MTx}, (∀ T ∈ l, T.start ≠ n) → findM n (l ++ l') = findM n l'
  | [], _, _ => rfl
  | X :: r, l', h => by
    simp only [List.cons_append, findM]
    rw [if_neg (h X (by simp))]
    exact findM_none_append fun T hT => h T (by simp [hT])
theorem findM_repl_other {n m : Int} (hne : m ≠ n) (ws : List (ByteArray × (Bool × ByteArray))) : ∀ l : List MTx, findM n (replM m ws l) = findM n l
  | [] => rfl
  | X :: r => by
    simp only [replM]
    split
    · rename_i hx
      simp only [findM]
      rw [if_neg hne, if_neg (by rw [hx]; exact hne)]
    · simp only [findM]
      split
      · rfl
      · exact findM_repl_other hne ws r
theorem findM_drop_other {n m : Int} (hne : m ≠ n) : ∀ l : List MTx, findM n (dropM m l) = findM n l
  | [] => rfl
  | X :: r => by
    simp only [dropM]
    split
    · rename_i hx
      simp only [findM]
      rw [if_neg (by rw [hx]; exact hne)]
    · simp only [findM]
      split
      · rfl
      · exact findM_drop_other hne r
theorem findM_repl_same {n : Int} (ws : List (ByteArray × (Bool × ByteArray))) : ∀ {l : List MTx} {T : MTx}, findM n l = some T → findM n (replM n ws l) = some ⟨n, ws⟩
  | [], _, h => by simp [findM] at h
  | X :: r, T, h => by
    simp only [findM] at h
    simp only [replM]
    by_cases hx : X.start = n
    · rw [if_pos hx]
      simp [findM]
    · rw [if_neg hx] at h
      rw [if_neg hx]
      simp only [findM]
      rw [if_neg hx]
      exact findM_repl_same ws h
theorem HasM.other {t : Int} {ws : List (ByteArray × (Bool × ByteArray))} {s : MSt} (h : HasM t ws s) {o : OpM} (hne : o.t ≠ t) : HasM t ws (stepM s o).2 := by
  rcases step_cases s o with e | ⟨_, e⟩ | ⟨T, hT, ws', e⟩ | e
  · rw [e]; exact h
  · rw [e]
    exact ⟨findM_append h.1, by have := h.2; simp only; omega⟩
  · rw [e]
    exact ⟨(findM_repl_other hne ws' s.txs).trans h.1, h.2⟩
  · rw [e]
    exact ⟨(findM_drop_other hne s.txs).trans h.1, h.2⟩
theorem HasM.others {t : Int} {ws : List (ByteArray × (Bool × ByteArray))} : ∀ (l : List OpM) {s : MSt}, HasM t ws s → (∀ o ∈ l, o.t ≠ t) → HasM t ws (stM s l)
  | [], _, h, _ => h
  | o :: r, s, h, ho => HasM.others r (h.other (ho o (by simp))) (fun x hx => ho x (by simp [hx]))
theorem step_t {t : Int} {ws : List (ByteArray × (Bool × ByteArray))} {s : MSt} (h : HasM t ws s) {o : OpM} (ho : o.t = t) (h2 : 2 ≤ o.kind) (h6 : o.kind ≤ 6) : stepM s o = ofM s o ⟨t, ws⟩ := by
  rw [stepM_of h2 h6, ho, h.1]
theorem notBad {k : ByteArray} (h1 : 1 ≤ k.size) (h8 : k.size ≤ 8) : badKey k = false := by
  unfold badKey
  exact decide_eq_false (by omega)
theorem get_t {t : Int} {ws : List (ByteArray × (Bool × ByteArray))} {s : MSt} (h : HasM t ws s) (key val : ByteArray) (h1 : 1 ≤ key.size) (h8 : key.size ≤ 8) : stepM s ⟨2, t, key, val, 0⟩ = (⟨0, 0, (seenM ws key).1, (seenM ws key).2, []⟩, s) := by
  rw [step_t h rfl (by simp) (by simp)]
  simp [ofM, notBad h1 h8]
theorem scan_t {t : Int} {ws : List (ByteArray × (Bool × ByteArray))} {s : MSt} (h : HasM t ws s) (pre val : ByteArray) : stepM s ⟨3, t, pre, val, 0⟩ = (⟨0, 0, false, ⟨#[]⟩, itemsM ws pre⟩, s) := by
  rw [step_t h rfl (by simp) (by simp)]
  simp [ofM]
theorem put_t {t : Int} {ws : List (ByteArray × (Bool × ByteArray))} {s : MSt} (h : HasM t ws s) (key val : ByteArray) (h1 : 1 ≤ key.size) (h8 : key.size ≤ 8) (hv : val.size ≤ 20) : (stepM s ⟨4, t, key, val, 0⟩).1 = okA ∧ HasM t (putA key (true, val) ws) (stepM s ⟨4, t, key, val, 0⟩).2 := by
  rw [step_t h rfl (by simp) (by simp)]
  have : ¬ 20 < val.size := by omega
  simp [ofM, notBad h1 h8, this]
  exact ⟨findM_repl_same _ h.1, h.2⟩
theorem del_t {t : Int} {ws : List (ByteArray × (Bool × ByteArray))} {s : MSt} (h : HasM t ws s) (key val : ByteArray) (h1 : 1 ≤ key.size) (h8 : key.size ≤ 8) : (stepM s ⟨5, t, key, val, 0⟩).1 = okA ∧ HasM t (putA key noCell ws) (stepM s ⟨5, t, key, val, 0⟩).2 := by
  rw [step_t h rfl (by simp) (by simp)]
  simp [ofM, notBad h1 h8]
  exact ⟨findM_repl_same _ h.1, h.2⟩
abbrev bOp : OpM := ⟨1, 0, ⟨#[]⟩, ⟨#[]⟩, 0⟩
abbrev gOp (t : Int) (key : ByteArray) : OpM := ⟨2, t, key, ⟨#[]⟩, 0⟩
abbrev sOp (t : Int) (pre : ByteArray) : OpM := ⟨3, t, pre, ⟨#[]⟩, 0⟩
abbrev ownV : ByteArray := ⟨#[111, 119, 110]⟩
abbrev pOp (t : Int) (key : ByteArray) : OpM := ⟨4, t, key, ownV, 0⟩
abbrev dOp (t : Int) (key : ByteArray) : OpM := ⟨5, t, key, ⟨#[]⟩, 0⟩
/-- BEGIN's answer. -/
theorem begin_ans (l : List OpM) : (stepM (stM s0 l) bOp).1 = errA 6 ∨ ∃ t, (stepM (stM s0 l) bOp).1 = ⟨0, t, false, ⟨#[]⟩, []⟩ ∧ HasM t [] (stepM (stM s0 l) bOp).2 := by
  have hlow := LowM.run l low0
  generalize stM s0 l = s at *
  unfold stepM
  simp only [if_true]
  split
  · exact Or.inl rfl
  · refine Or.inr ⟨s.clock + 1, rfl, ?_, Int.le_refl _⟩
    rw [findM_none_append (fun T hT => by have := hlow T hT; omega)]
    simp [findM]
theorem itemsM_nil (pre : ByteArray) : itemsM [] pre = [] := by
  simp [itemsM, sortedKeys, coll]
/-- THE ANSWERS OF THE LONG SCRIPT. -/
theorem still_ans (l m : List OpM) (t : Int) (key pre : ByteArray) (h1 : 1 ≤ key.size) (h8 : key.size ≤ 8) (hm : ∀ o ∈ m, o.t ≠ t) (hb : HasM t [] (stepM (stM s0 l) bOp).2) :
    ∃ A2, A2.length = m.length ∧ ansM s0 (((l ++ [bOp, gOp t key, sOp t pre]) ++ m) ++ [gOp t key, sOp t pre, pOp t key, gOp t key, dOp t key, gOp t key]) =
      ansM s0 l ++ ((stepM (stM s0 l) bOp).1 :: okA :: okA :: (A2 ++ [okA, okA, okA, ⟨0, 0, true, ownV, []⟩, okA, okA])) := by
  have e1 : stM s0 (l ++ [bOp, gOp t key, sOp t pre]) = (stepM (stM s0 l) bOp).2 := by
    simp only [stM, List.foldl_append, List.foldl_cons, List.foldl_nil]
    have hb' : HasM t [] (stepM (List.foldl (fun s o => (stepM s o).2) s0 l) bOp).2 := hb
    rw [get_t hb' key _ h1 h8]
    rw [scan_t hb' pre _]
  have hm3 := HasM.others m hb hm
  have e2 : stM s0 ((l ++ [bOp, gOp t key, sOp t pre]) ++ m) = stM (stepM (stM s0 l) bOp).2 m := by
    rw [← e1]
    simp [stM]
  refine ⟨ansM (stepM (stM s0 l) bOp).2 m, ansM_len _ _, ?_⟩
  rw [ansM_append, ansM_append, ansM_append, e2, e1]
  have hA1 : ansM (stM s0 l) [bOp, gOp t key, sOp t pre] = [(stepM (stM s0 l) bOp).1, okA, okA] := by
    simp only [ansM]
    rw [get_t hb key _ h1 h8]
    simp only
    rw [scan_t hb pre _, itemsM_nil]
    rfl
  have hown : ownV.size ≤ 20 := by decide
  have hA3 : ansM (stM (stepM (stM s0 l) bOp).2 m) [gOp t key, sOp t pre, pOp t key, gOp t key, dOp t key, gOp t key] = [okA, okA, okA, ⟨0, 0, true, ownV, []⟩, okA, okA] := by
    generalize stM (stepM (stM s0 l) bOp).2 m = s3 at *
    simp only [ansM]
    rw [get_t hm3 key _ h1 h8]
    simp only
    rw [scan_t hm3 pre _]
    simp only
    obtain ⟨p1, p2⟩ := put_t hm3 key ownV h1 h8 hown
    generalize hs4 : stepM s3 (pOp t key) = r4 at *
    rw [p1]
    rw [get_t p2 key _ h1 h8]
    simp only
    obtain ⟨d1, d2⟩ := del_t p2 key ⟨#[]⟩ h1 h8
    generalize hs5 : stepM r4.2 (dOp t key) = r5 at *
    rw [d1]
    rw [get_t d2 key _ h1 h8]
    simp [seenM, putA, getA, itemsM_nil]
  rw [hA1, hA3]
  simp
end Go.Proofs.Ytcpjocgpahjcjaa
