import Derived.Test.YtechhojiifcpjaaPD
namespace Go.Proofs.Ytechhojiifcpjaa
open Go.RowKit Go.Sort
theorem trim_sub : ∀ (n : Nat) (rs : List (ByteArray × Int)) (low : Int), ∀ p ∈ (trimM n rs low).1, p ∈ rs
  | 0, rs, low, p, h => h
  | n + 1, rs, low, p, h => by
    unfold trimM at h
    split at h
    · split at h
      · exact (List.mem_filter.1 (trim_sub n _ _ p h)).1
      · exact h
    · exact h
theorem trim_len : ∀ (n : Nat) (rs : List (ByteArray × Int)) (low : Int), rs.length ≤ n → (trimM n rs low).1.length ≤ 6
  | 0, rs, low, h => by have : rs.length = 0 := by omega
                        simp [trimM]; omega
  | n + 1, rs, low, h => by
    unfold trimM
    by_cases h6 : 6 < rs.length
    · rw [if_pos h6]
      obtain ⟨m, h1, h2⟩ := leastM_is (l := rs) (fun e => by rw [e] at h6; simp at h6)
      rw [h1]
      have hlt : (rs.filter (fun r => decide (r.1 ≠ m.1))).length < rs.length := by
        refine Nat.lt_of_le_of_ne (List.length_filter_le _ _) (fun e => ?_)
        have := List.length_filter_eq_length_iff.1 e m h2.1
        simp at this
      exact trim_len n _ _ (by omega)
    · rw [if_neg h6]; simpa using h6
theorem trim_nodup : ∀ (n : Nat) {rs : List (ByteArray × Int)} (low : Int), (rs.map Prod.fst).Nodup → ((trimM n rs low).1.map Prod.fst).Nodup
  | 0, _, _, h => h
  | n + 1, rs, low, h => by
    unfold trimM
    split
    · split
      · exact trim_nodup n _ (filter_nodup _ h)
      · exact h
    · exact h
theorem versM_append (k : ByteArray) (a b : List Ver) : versM k (a ++ b) = versM k a ++ versM k b := by simp [versM]
theorem versM_stamp (k : ByteArray) (t : Int) : ∀ {ws : List Ver}, (ws.map Ver.key).Nodup → versM k (stampM ws t) = (match ws.find? (fun v => decide (v.key = k)) with | some v => [(t, (!v.gone, v.val))] | none => [])
  | [], _ => rfl
  | v :: r, nd => by
    obtain ⟨n1, n2⟩ := List.nodup_cons.1 (by simpa using nd : (v.key :: r.map Ver.key).Nodup)
    have ih := versM_stamp k t n2
    have e1 : stampM (v :: r) t = { v with time := t } :: stampM r t := rfl
    rw [e1]
    by_cases h : v.key = k
    · have hr : versM k (stampM r t) = [] := by
        rw [ih]
        have : r.find? (fun v => decide (v.key = k)) = none := by
          rw [List.find?_eq_none]
          intro x hx e
          exact n1 (by rw [h]; exact List.mem_map.2 ⟨x, hx, by simpa using e⟩)
        rw [this]
      have e2 : versM k ({ v with time := t } :: stampM r t) = (t, (!v.gone, v.val)) :: versM k (stampM r t) := by
        unfold versM
        rw [List.filter_cons_of_pos (by simpa using h)]
        rfl
      rw [e2, hr, List.find?_cons]
      simp [h]
    · have e2 : versM k ({ v with time := t } :: stampM r t) = versM k (stampM r t) := by
        unfold versM
        rw [List.filter_cons_of_neg (by simpa using h)]
      rw [e2, ih, List.find?_cons]
      simp [h]
theorem fix_ne {l : List Nat} (h : l.Nodup) (i j : Nat) {a b : Nat} (hi : l[i]? = some a) (hj : l[j]? = some b) (hij : i ≠ j) : a ≠ b := fun e => by
  subst e
  obtain ⟨h1, h2⟩ := List.getElem?_eq_some_iff.1 hi
  obtain ⟨h3, h4⟩ := List.getElem?_eq_some_iff.1 hj
  have hp := List.pairwise_iff_getElem.1 h
  rcases Nat.lt_or_gt_of_ne hij with h5 | h5
  · exact hp i j h1 h3 h5 (h2.trans h4.symm)
  · exact hp j i h3 h1 h5 (h4.trans h2.symm)
def decV (d : Dec) : Value := .agg #[.int .i64 d.num, .int .i64 d.code, .int .i64 d.time]
def Kept (st st' : PSt) (w : World) : Prop := ∀ b ∈ st'.blocks, b ∈ st.blocks ∨ w.heap.size ≤ b
theorem kept_refl (st : PSt) (w : World) : Kept st st w := fun _ h => Or.inl h
/-- the rows of a commit, and the document's. -/
theorem rows1_perm {st : PSt} {W : PW} (h : Rel st W) {T : Tx} {P : PT} (hT : RelT T P) {t : Int} {V' : List (ByteArray × VEnt)} {rows1 : List (ByteArray × Int)} {size : Nat} (ha : Added T t st.V V' st.rows rows1 [] size) : rows1.Perm (notesM W.rows P.ws t) := by
  refine perm_of_getA ha.rn (notes_nodup t P.ws h.rn) (fun k => ?_)
  rw [ha.rs k, notes_get, h.rows k]
  unfold rowV
  rw [hT.ws k]
  cases hf : P.ws.find? (fun v => decide (v.key = k)) with
  | none =>
    have hx : ¬ ∃ v ∈ P.ws, v.key = k := by
      rintro ⟨v, hv, e⟩
      have := List.find?_eq_none.1 hf v hv
      simp [e] at this
    rw [if_neg hx]
    rfl
  | some v =>
    have hx : ∃ v ∈ P.ws, v.key = k := ⟨v, List.mem_of_find?_eq_some hf, by have := List.find?_some hf; simpa using this⟩
    rw [if_pos hx]
    rfl
theorem Rel.commit {st : PSt} {W : PW} (h : Rel st W) {T : Tx} {P : PT} (hT : RelT T P) {V' : List (ByteArray × VEnt)} {rows1 rows' : List (ByteArray × Int)} {low' : Int} {size : Nat} (ha : Added T (st.clock + 1) st.V V' st.rows rows1 [] size)
    (htr : ∀ n, rows1.length ≤ n → ∀ rs, (rs.map Prod.fst).Nodup → rows1.Perm rs → rows'.Perm (trimM n rs st.low).1 ∧ low' = (trimM n rs st.low).2) (hrn : (rows'.map Prod.fst).Nodup) :
    Rel { st with clock := st.clock + 1, V := V', rows := rows', low := low' } (commitM W P) := by
  have hp := rows1_perm h hT ha
  rw [h.clock] at hp
  obtain ⟨t1, t2⟩ := htr (notesM W.rows P.ws (W.clock + 1)).length (by have := hp.length_eq; omega) _ (notes_nodup _ P.ws h.rn) hp
  rw [h.low] at t1 t2
  refine ⟨by show st.clock + 1 = W.clock + 1; rw [h.clock], t2, h.txs, h.q, fun k => getA_perm hrn t1 k, trim_nodup _ _ (notes_nodup _ P.ws h.rn), fun k => ?_, fun v hv => ?_, h.nd, fun Q hQ => ?_, h.qn⟩
  · show versOf k V' = versM k (W.L ++ stampM P.ws (W.clock + 1))
    rw [ha.vs k, h.V k, versM_append, versM_stamp k _ hT.wn, h.clock]
    congr 1
    unfold addV
    rw [hT.ws k]
    cases P.ws.find? (fun v => decide (v.key = k)) with
    | none => rfl
    | some v => rfl
  · rcases List.mem_append.1 hv with hv | hv
    · exact h.Lg v hv
    · obtain ⟨x, hx, rfl⟩ := List.mem_map.1 hv
      exact hT.ng x hx
  · have := h.le Q hQ
    show Q.start ≤ W.clock + 1
    omega
set_option maxHeartbeats 400000 in
theorem decide_step {st : PSt} {n : Nat} {w : World} {W : PW} {T : Tx} {P : PT} (h : Inv w st n) (hr : Rel st W) (hT : TxAt w st.sb T) (hTb : ∀ b ∈ T.blocks, b ∉ st.blocks) (hrt : RelT T P) (hok : TxOk st.clock T n) (hroom : st.clock + st.q.length + 1 ≤ n) (hn : n ≤ 100000000) :
    Calls Try.prog 48 #[.pointer (some ⟨st.ob, 0, none⟩), .pointer (some ⟨T.tb, 0, none⟩)] w fun e w' => e = .returned (decV (decideM W P).1) ∧ ∃ c V' rows' low', Inv w' { st with clock := c, V := V', rows := rows', low := low' } n ∧ Rel { st with clock := c, V := V', rows := rows', low := low' } (decideM W P).2 ∧ Chg (fun b => b ∈ st.blocks) w w' ∧ Kept st { st with clock := c, V := V', rows := rows', low := low' } w := by
  obtain ⟨hfx, hvf, htf, hvn, _, _⟩ := h.lie
  have hfit : Fits T st.rows st.V := ⟨by have := hok.kl; omega, by have := hok.pl; omega, by have := hok.len; omega, h.vsum, by have := h.r6; omega, h.rk, hok.keys⟩
  have hse : { st with clock := st.clock, V := st.V, rows := st.rows, low := st.low } = st := rfl
  by_cases hw : T.ws = []
  · have hPw : P.ws = [] := List.eq_nil_of_length_eq_zero (by rw [← hrt.wl, hw]; rfl)
    have e1 : decideM W P = (⟨P.start, 0, P.start⟩, W) := by unfold decideM; rw [if_pos hPw]
    rw [e1]
    refine (decide_ret T st.ob st.sb T.start w hT nobody (fun _ _ => True) (fun _ hf => hf.elim) (fun wq hq => (ocommit_none T st.ob st.sb wq (hT.chg hq (fun h => h) (fun h => h) (fun h => h) (fun h => h)) hw).mono (fun e w' ⟨h1, h2⟩ => ⟨h1, h2, trivial⟩))).mono ?_
    rintro e w' ⟨rfl, wq, w1, rs, q1, q2, q3, q4, _, q5⟩
    have hc : Chg nobody w w' := (q1.trans q4).andThen q5 (fun i hi (e : i = rs) => by omega)
    refine ⟨by rw [hrt.st]; rfl, st.clock, st.V, st.rows, st.low, h.chg hc (fun _ _ hf => hf) (Nat.le_refl _), hr, hc.any _, kept_refl _ _⟩
  · have hPw : P.ws ≠ [] := fun e => hw (List.eq_nil_of_length_eq_zero (by rw [hrt.wl, e]; rfl))
    have href := ref_eq hr hrt h.store.vs.nodup h.orc.r.nodup
    by_cases hz : refusedM W P ≠ 0
    · have e1 : decideM W P = (⟨P.start, refusedM W P, 0⟩, W) := by unfold decideM; rw [if_neg hPw, if_pos hz]
      rw [e1]
      have hz' : refT T st.rows st.low st.V ≠ 0 := by rw [href]; exact hz
      refine (decide_err T st.ob st.sb (refT T st.rows st.low st.V) w hT (fun wq hq => ocommit_refused T st.ob st.cb st.sb st.rb st.vm st.rows st.low st.V wq (hT.chg hq (fun h => h) (fun h => h) (fun h => h) (fun h => h)) (h.orc.chg hq (fun h => h) (fun h => h)) (h.store.chg hq (fun h => h) (fun h => h) (fun _ _ h => h)) hfit hw hz')).mono ?_
      rintro e w' ⟨rfl, hc⟩
      exact ⟨by rw [hrt.st, href]; rfl, st.clock, st.V, st.rows, st.low, h.chg hc (fun _ _ hf => hf) (Nat.le_refl _), hr, hc.any _, kept_refl _ _⟩
    · have hz0 : refusedM W P = 0 := Classical.byContradiction hz
      have e1 : decideM W P = (⟨P.start, 0, W.clock + 1⟩, commitM W P) := by unfold decideM; rw [if_neg hPw, if_neg hz]
      rw [e1]
      have hz' : refT T st.rows st.low st.V = 0 := by rw [href]; exact hz0
      have hsum : sumV st.V + T.ws.length ≤ 100 := by
        unfold refT at hz'
        refine Classical.byContradiction fun hx => ?_
        have : 100 < sumV st.V + T.ws.length := by omega
        by_cases a1 : 0 < T.ks.length + T.ps.length ∧ T.start < st.low
        · rw [if_pos a1] at hz'; cases hz'
        · rw [if_neg a1] at hz'
          by_cases a2 : conflT st.rows T = true
          · rw [if_pos a2] at hz'; cases hz'
          · rw [if_neg a2, if_pos this] at hz'; cases hz'
      have hvr : st.vm ≠ st.rb := fix_ne hfx 3 5 rfl rfl (by decide)
      have hnf : ∀ b ∈ T.blocks, b ∉ st.fix := fun b hb hf => hTb b hb (PSt.mem_fix hf)
      have hvw : st.vm ≠ T.wb := fun e => hnf T.wb (by simp [Tx.blocks]) (by simp [PSt.fix, e])
      have hrw : st.rb ≠ T.wb := fun e => hnf T.wb (by simp [Tx.blocks]) (by simp [PSt.fix, e])
      have hSl : ∀ b, (b = st.cb ∨ b = st.ob ∨ b = st.rb ∨ b = st.vm ∨ b ∈ vBlocks st.V) → b ∈ st.blocks := fun b hb => by
        rcases hb with e | e | e | e | e
        · exact PSt.mem_fix (by simp [PSt.fix, e])
        · exact PSt.mem_fix (by simp [PSt.fix, e])
        · exact PSt.mem_fix (by simp [PSt.fix, e])
        · exact PSt.mem_fix (by simp [PSt.fix, e])
        · exact PSt.mem_v e
      refine (decide_ret T st.ob st.sb (st.clock + 1) w hT (fun b => b = st.cb ∨ b = st.ob ∨ b = st.rb ∨ b = st.vm ∨ b ∈ vBlocks st.V) (fun wq w1 => CommitPost T st.ob st.cb st.sb st.rb st.vm st.rows st.low st.clock st.V wq w1) (fun b hb => h.there b (hSl b hb)) (fun wq hq => (ocommit_ok T st.ob st.cb st.sb st.rb st.vm st.rows st.low st.clock st.V wq (hT.chg hq (fun h => h) (fun h => h) (fun h => h) (fun h => h)) (h.orc.chg hq (fun h => h) (fun h => h)) (h.store.chg hq (fun h => h) (fun h => h) (fun _ _ h => h)) ((hq.block _ (lt_of_block h.ck) (fun h => h)).trans h.ck) h.lo (by have := h.hi; omega) hfit hvn hvr hvw hrw hw hz').mono (fun e w' ⟨h1, h2⟩ => ⟨h1, by obtain ⟨_, _, _, _, _, _, _, _, _, hc⟩ := h2; exact hc, h2⟩))).mono ?_
      rintro e w' ⟨rfl, wq, w1, rs, q1, q2, q3, q4, ⟨V', rows1, rows', low', ha, hs1, ho1, htr, hck1, _⟩, q5⟩
      have hzq : w.heap.size ≤ wq.heap.size := q1.size
      have hcw : Chg (fun b => b = st.cb ∨ b = st.ob ∨ b = st.rb ∨ b = st.vm ∨ b ∈ vBlocks st.V) w w' := ((q1.any _).trans q4).andThen q5 (fun i hi (e : i = rs) => by omega)
      have lf : ∀ b ∈ st.fix, b ≠ rs := fun b hb e => by have := h.there b (PSt.mem_fix hb); omega
      have hvb : ∀ b ∈ vBlocks V', b ∈ vBlocks st.V ∨ wq.heap.size ≤ b := ha.vb
      have hs' : StoreAt w' st.sb st.vm V' := hs1.chg q5 (lf _ (by simp [PSt.fix])) (lf _ (by simp [PSt.fix])) (fun b hb e => by
        rcases hvb b hb with h1 | h1
        · have := h.there b (PSt.mem_v h1); omega
        · omega)
      have ho' : OrAt w' st.ob st.cb st.sb st.rb rows' low' := ho1.chg q5 (lf _ (by simp [PSt.fix])) (lf _ (by simp [PSt.fix]))
      have hck' : w'.heap[st.cb]? = some (.cells #[.int .i64 (st.clock + 1)] 60) := (q5.block _ (lt_of_block hck1) (lf _ (by simp [PSt.fix]))).trans hck1
      have hrel := hr.commit hrt ha htr ho'.r.nodup
      have nS : ∀ b ∈ st.fix, b ≠ st.cb → b ≠ st.ob → b ≠ st.rb → b ≠ st.vm → ¬ (b = st.cb ∨ b = st.ob ∨ b = st.rb ∨ b = st.vm ∨ b ∈ vBlocks st.V) := fun b hb e1 e2 e3 e4 hx => by
        rcases hx with e | e | e | e | e
        · exact e1 e
        · exact e2 e
        · exact e3 e
        · exact e4 e
        · exact hvf b e hb
      have np : ¬ (st.p = st.cb ∨ st.p = st.ob ∨ st.p = st.rb ∨ st.p = st.vm ∨ st.p ∈ vBlocks st.V) := nS _ (by simp [PSt.fix]) (fix_ne hfx 0 1 rfl rfl (by decide)) (fix_ne hfx 0 4 rfl rfl (by decide)) (fix_ne hfx 0 5 rfl rfl (by decide)) (fix_ne hfx 0 3 rfl rfl (by decide))
      have nq : ¬ (st.qb = st.cb ∨ st.qb = st.ob ∨ st.qb = st.rb ∨ st.qb = st.vm ∨ st.qb ∈ vBlocks st.V) := nS _ (by simp [PSt.fix]) (fix_ne hfx 6 1 rfl rfl (by decide)) (fix_ne hfx 6 4 rfl rfl (by decide)) (fix_ne hfx 6 5 rfl rfl (by decide)) (fix_ne hfx 6 3 rfl rfl (by decide))
      have nc : ¬ (st.ch = st.cb ∨ st.ch = st.ob ∨ st.ch = st.rb ∨ st.ch = st.vm ∨ st.ch ∈ vBlocks st.V) := nS _ (by simp [PSt.fix]) (fix_ne hfx 7 1 rfl rfl (by decide)) (fix_ne hfx 7 4 rfl rfl (by decide)) (fix_ne hfx 7 5 rfl rfl (by decide)) (fix_ne hfx 7 3 rfl rfl (by decide))
      have no : ¬ (st.om = st.cb ∨ st.om = st.ob ∨ st.om = st.rb ∨ st.om = st.vm ∨ st.om ∈ vBlocks st.V) := nS _ (by simp [PSt.fix]) (fix_ne hfx 8 1 rfl rfl (by decide)) (fix_ne hfx 8 4 rfl rfl (by decide)) (fix_ne hfx 8 5 rfl rfl (by decide)) (fix_ne hfx 8 3 rfl rfl (by decide))
      have hkept : Kept st { st with clock := st.clock + 1, V := V', rows := rows', low := low' } w := fun b hb => by
        rcases List.mem_append.1 hb with h1 | h1
        · exact Or.inl (PSt.mem_fix h1)
        · rcases List.mem_append.1 h1 with h2 | h2
          · rcases hvb b h2 with h3 | h3
            · exact Or.inl (PSt.mem_v h3)
            · exact Or.inr (by omega)
          · exact Or.inl (List.mem_append.2 (Or.inr (List.mem_append.2 (Or.inr h2))))
      have hapart : ({ st with clock := st.clock + 1, V := V', rows := rows', low := low' } : PSt).blocks.Nodup :=
        nodup_swap (A := st.fix) (B := st.txs.flatMap Tx.blocks) (X := vBlocks st.V) (X' := vBlocks V') (n := w.heap.size) h.apart ha.nd (fun b hb => (hvb b hb).imp id (fun h => by omega)) (fun b hb => h.there b (PSt.mem_fix hb)) (fun b hb => h.there b (List.mem_append.2 (Or.inr (List.mem_append.2 (Or.inr hb)))))
      obtain ⟨t1, t2⟩ := htr rows1.length (Nat.le_refl _) rows1 ha.rn (List.Perm.refl _)
      have hsum' : sumV V' ≤ 100 := by
        have e2 := hrel.sum hs'.vs.nodup
        have e3 := hr.sum h.store.vs.nodup
        have e4 : (commitM W P).L.length = W.L.length + P.ws.length := by simp [commitM, stampM]
        have e5 : sumV V' = (commitM W P).L.length := e2
        have := hrt.wl
        omega
      refine ⟨by rw [hrt.st, hr.clock]; rfl, st.clock + 1, V', rows', low', ⟨(hcw.block _ (lt_of_block h.pl) np).trans h.pl, hck', hs', ho', (hcw.block _ (lt_of_block h.qu) nq).trans h.qu, (hcw.block _ (lt_of_block h.chn) nc).trans h.chn, h.om.of_block (hcw.block _ h.om.lt no), fun X hX => ?_, hapart, by have := h.lo; simp only; omega, by simp only; omega, h.six, fun X hX => (h.ok X hX).up (by simp only; omega) (Nat.le_refl _), h.q3, h.qok, ?_, fun r hr' => ?_, hsum', fun p hp => ?_, ha.vn h.vn⟩, hrel, hcw.mono (fun b _ hb => hSl b hb), hkept⟩
      · refine (h.txs X hX).kept hcw (fun b hb hx => ?_)
        obtain ⟨f1, f2⟩ := htf X hX b hb
        rcases hx with e | e | e | e | e
        · exact f1 (by simp [PSt.fix, e])
        · exact f1 (by simp [PSt.fix, e])
        · exact f1 (by simp [PSt.fix, e])
        · exact f1 (by simp [PSt.fix, e])
        · exact f2 e
      · show rows'.length ≤ 6
        rw [t1.length_eq]
        exact trim_len _ _ _ (Nat.le_refl _)
      · have hm := trim_sub _ _ _ r (t1.mem_iff.1 hr')
        have hg : getA r.1 rows1 = some r.2 := getA_of_mem ha.rn hm
        rw [ha.rs r.1] at hg
        unfold rowV at hg
        cases hgw : getA r.1 T.ws with
        | some c => exact hok.keys _ (getA_mem hgw)
        | none =>
          rw [hgw] at hg
          exact h.rk _ (getA_mem hg)
      · have hs2 : (getA p.1 V').isSome = true := (getA_isSome p.1 V').2 (List.mem_map.2 ⟨p, hp, rfl⟩)
        rcases ha.vk p.1 hs2 with h1 | h1
        · obtain ⟨x, hx, e⟩ := List.mem_map.1 ((getA_isSome _ _).1 h1)
          rw [← e]; exact h.vk x hx
        · obtain ⟨x, hx, e⟩ := List.mem_map.1 ((getA_isSome _ _).1 h1)
          rw [← e]; exact hok.keys x hx
end Go.Proofs.Ytechhojiifcpjaa
