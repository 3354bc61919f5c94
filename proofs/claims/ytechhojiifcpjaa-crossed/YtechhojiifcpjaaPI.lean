import Derived.Test.YtechhojiifcpjaaPH
namespace Go.Proofs.Ytechhojiifcpjaa
open Go.RowKit Go.Sort
theorem ok_post {st st' : PSt} {n : Nat} {w w' : World} {W' : PW} {num : Int} {fd : Bool} {vl : ByteArray} (hp : st'.p = st.p) (hI : Inv w' st' (n + 1)) (hR : Rel st' W') (hc : Chg (fun b => b ∈ st.blocks) w w') (hk : Kept st st' w) :
    StepPost st n w (⟨0, num, fd, vl, [], [], []⟩, W') (.returned (ansV 0 num fd vl (.slice none 0 0))) w' :=
  ⟨st', hp, hI, hR, hc, hk, Or.inl ⟨rfl, rfl, none, 0, 0, none, 0, 0, rfl, noItems _ _ _ _, noDecs _ _ _ _, (fun g hg => by cases hg), (fun g hg => by cases hg)⟩⟩
theorem vl_le {w : World} {st : PSt} {n : Nat} (h : Inv w st n) : st.V.length ≤ 100 := by
  have aux : ∀ V : List (ByteArray × VEnt), (∀ p ∈ V, p.2.vs ≠ []) → V.length ≤ sumV V := by
    intro V
    induction V with
    | nil => intro _; simp
    | cons p r ih =>
      intro hv
      rw [sumV_cons, List.length_cons]
      have h1 := ih (fun q hq => hv q (by simp [hq]))
      have h2 : 0 < p.2.vs.length := List.length_pos_iff.2 (hv p (by simp))
      omega
  have := aux st.V h.vn
  have := h.vsum
  omega
theorem get_step {st : PSt} {n : Nat} {w : World} {o : OpM} {W : PW} (h : Inv w st n) (hr : Rel st W) (ho : o.ok) (hk : o.kind = 2) : Calls Try.prog 28 #[.pointer (some ⟨st.p, 0, none⟩), o.v] w (StepPost st n w (stepR W o)) := by
  refine of_step h hr ho (by omega) (by omega) (fun c hN => get_none _ _ _ o c w hN) (fun k T P e1 e2 hT e4 hrq e6 hq hqd => ?_)
  unfold ofM
  by_cases hb : o.key.size < 1 ∨ 8 < o.key.size
  · rw [if_pos ⟨Or.inl hk, hb⟩]
    refine (get_key _ _ _ _ o w h.plays ho.t e6 (by have := (h.txs T hT).cells.1; rw [hqd] at this; exact this) hb).mono ?_
    rintro e w' ⟨rfl, hc⟩
    exact err_post h hr hc (by decide)
  · rw [if_neg (fun hx => hb hx.2), if_pos hk]
    obtain ⟨o1, o2⟩ := h.own hT
    have hvl := versOf_le o.key st.V
    have hvs := h.vsum
    refine (get_ok _ _ _ _ st.V T _ o w h.plays ho.t e6 hqd (by omega) (by omega) (h.txs T hT) h.store (by omega) ⟨Ne.symm o1.2.1, Ne.symm o1.2.2.2.1, o1.2.2.2.2.2, o2.1, o2.2.1, o2.2.2.1⟩).mono ?_
    rintro e w' ⟨rfl, hT', hc⟩
    have hok := h.ok T hT
    obtain ⟨q1, q2⟩ := h.upd (T' := { T with ks := putA o.key () T.ks }) hT rfl rfl rfl hT' hc (fun b e => by subst e; simp [Tx.blocks]) ⟨hok.lo, hok.hi, by have := hok.len; simp only; omega, by have := hok.kl; have := putA_len o.key () T.ks; simp only; omega, by have := hok.pl; simp only; omega, hok.keys⟩
    obtain ⟨s1, s2, _⟩ := seen_sees hr hrq.1 o.key
    have hR' := hr.upd (T' := { T with ks := putA o.key () T.ks }) (P' := { P with ks := P.ks ++ [o.key] }) (by rw [e4]; exact e1) e2 hrq rfl rfl ⟨hrq.1.st, hrq.1.ws, hrq.1.wl, hrq.1.wn, hrq.1.nd, hrq.1.ng, set_iff hrq.1.ks o.key, hrq.1.ps⟩
    rw [s1, s2]
    exact ok_post (st' := { st with txs := repl { T with ks := putA o.key () T.ks } st.txs }) rfl q1 hR' (hc.mono (fun i _ e => by subst e; exact PSt.mem_tx hT (by simp [Tx.blocks]))) (fun b hb => Or.inl (q2 ▸ hb))
theorem scan_step {st : PSt} {n : Nat} {w : World} {o : OpM} {W : PW} (h : Inv w st n) (hr : Rel st W) (hn : n ≤ 10000000) (ho : o.ok) (hk : o.kind = 3) : Calls Try.prog 29 #[.pointer (some ⟨st.p, 0, none⟩), o.v] w (StepPost st n w (stepR W o)) := by
  refine of_step h hr ho (by omega) (by omega) (fun c hN => scan_none _ _ _ o c w hN) (fun k T P e1 e2 hT e4 hrq e6 hq hqd => ?_)
  unfold ofM
  rw [if_neg (by omega), if_neg (by omega), if_pos hk]
  obtain ⟨o1, o2⟩ := h.own hT
  have hok := h.ok T hT
  have hvs := h.vsum
  refine (scan_ok _ _ _ _ st.V T _ o w h.plays ho.t e6 hqd ho.key (h.txs T hT) h.store (by have := hok.len; omega) (by have := vl_le h; omega) (fun key => by have := versOf_le key st.V; omega) (fun q hq => by have := hok.keys q hq; unfold maxLen; omega) (fun q hq => by have := h.vk q hq; unfold maxLen; omega) ⟨Ne.symm o1.2.2.1, Ne.symm o1.2.2.2.2.1, Ne.symm o1.2.2.2.2.2, o2.2.2.2.1, o2.2.2.2.2.1, o2.2.2.2.2.2.1⟩).mono ?_
  rintro e w' ⟨a, k', c, rfl, hrow, hT', hc⟩
  obtain ⟨q1, q2⟩ := h.upd (T' := { T with ps := putA o.key () T.ps }) hT rfl rfl rfl hT' hc (fun b e => by subst e; simp [Tx.blocks]) ⟨hok.lo, hok.hi, by have := hok.len; simp only; omega, by have := hok.kl; simp only; omega, by have := hok.pl; have := putA_len o.key () T.ps; simp only; omega, hok.keys⟩
  have hR' := hr.upd (T' := { T with ps := putA o.key () T.ps }) (P' := { P with ps := P.ps ++ [o.key] }) (by rw [e4]; exact e1) e2 hrq rfl rfl ⟨hrq.1.st, hrq.1.ws, hrq.1.wl, hrq.1.wn, hrq.1.nd, hrq.1.ng, hrq.1.ks, set_iff hrq.1.ps o.key⟩
  rw [items_eq hr hrq.1 h.vn h.store.vs.nodup o.key] at hrow
  refine ⟨{ st with txs := repl { T with ps := putA o.key () T.ps } st.txs }, rfl, q1, hR', hc.mono (fun i _ e => by subst e; exact PSt.mem_tx hT (by simp [Tx.blocks])), fun b hb => Or.inl (q2 ▸ hb), Or.inl ⟨rfl, rfl, a, k', c, none, 0, 0, rfl, hrow, noDecs _ _ _ _, (fun g hg hm => ?_), (fun g hg => by cases hg)⟩⟩
  have h3 := h.there g (q2 ▸ hm)
  have h4 := (hrow.lt g hg).1
  omega
theorem putA_sizes {key : ByteArray} {c : Bool × ByteArray} {ws : List (ByteArray × (Bool × ByteArray))} (hw : ∀ q ∈ ws, q.1.size ≤ 8) (hk : key.size ≤ 8) : ∀ q ∈ putA key c ws, q.1.size ≤ 8 := fun q hq => by
  rcases putA_keys key c ws q hq with rfl | hq
  · exact hk
  · exact hw q hq
theorem put_step {st : PSt} {n : Nat} {w : World} {o : OpM} {W : PW} (h : Inv w st n) (hr : Rel st W) (ho : o.ok) (hk : o.kind = 4) : Calls Try.prog 30 #[.pointer (some ⟨st.p, 0, none⟩), o.v] w (StepPost st n w (stepR W o)) := by
  refine of_step h hr ho (by omega) (by omega) (fun c hN => put_none _ _ _ o c w hN) (fun k T P e1 e2 hT e4 hrq e6 hq hqd => ?_)
  have hqc : w.cell? ⟨T.tb, 0, none⟩ = some (.bool false) := by have := (h.txs T hT).cells.1; rw [hqd] at this; exact this
  unfold ofM
  by_cases hb : o.key.size < 1 ∨ 8 < o.key.size
  · rw [if_pos ⟨Or.inr (Or.inl hk), hb⟩]
    refine (put_key _ _ _ _ o w h.plays ho.t e6 hqc hb).mono ?_
    rintro e w' ⟨rfl, hc⟩
    exact err_post h hr hc (by decide)
  · rw [if_neg (fun hx => hb hx.2), if_neg (by omega), if_neg (by omega), if_pos hk]
    by_cases hv : 20 < o.val.size
    · rw [if_pos hv]
      refine (put_value _ _ _ _ o w h.plays ho.t e6 hqc (by omega) (by omega) hv).mono ?_
      rintro e w' ⟨rfl, hc⟩
      exact err_post h hr hc (by decide)
    · rw [if_neg hv]
      obtain ⟨o1, o2⟩ := h.own hT
      refine (put_ok _ _ _ T _ o w h.plays ho.t e6 hqd (by omega) (by omega) (by omega) (h.txs T hT) ⟨Ne.symm o1.1, o1.2.2.2.1, o1.2.2.2.2.1⟩).mono ?_
      rintro e w' ⟨rfl, hT', hc⟩
      have hok := h.ok T hT
      obtain ⟨q1, q2⟩ := h.upd (T' := { T with ws := putA o.key (true, o.val) T.ws }) hT rfl rfl rfl hT' hc (fun b e => by subst e; simp [Tx.blocks]) ⟨hok.lo, hok.hi, by have := hok.len; have := putA_len o.key (true, o.val) T.ws; simp only; omega, by have := hok.kl; simp only; omega, by have := hok.pl; simp only; omega, putA_sizes hok.keys (by omega)⟩
      have hR' := hr.upd (T' := { T with ws := putA o.key (true, o.val) T.ws }) (by rw [e4]; exact e1) e2 hrq rfl rfl (hrq.1.put o.key o.val false (by simp))
      exact ok_post (st' := { st with txs := repl { T with ws := putA o.key (true, o.val) T.ws } st.txs }) rfl q1 hR' (hc.mono (fun i _ e => by subst e; exact PSt.mem_tx hT (by simp [Tx.blocks]))) (fun b hb => Or.inl (q2 ▸ hb))
theorem del_step {st : PSt} {n : Nat} {w : World} {o : OpM} {W : PW} (h : Inv w st n) (hr : Rel st W) (ho : o.ok) (hk : o.kind = 5) : Calls Try.prog 31 #[.pointer (some ⟨st.p, 0, none⟩), o.v] w (StepPost st n w (stepR W o)) := by
  refine of_step h hr ho (by omega) (by omega) (fun c hN => del_none _ _ _ o c w hN) (fun k T P e1 e2 hT e4 hrq e6 hq hqd => ?_)
  have hqc : w.cell? ⟨T.tb, 0, none⟩ = some (.bool false) := by have := (h.txs T hT).cells.1; rw [hqd] at this; exact this
  unfold ofM
  by_cases hb : o.key.size < 1 ∨ 8 < o.key.size
  · rw [if_pos ⟨Or.inr (Or.inr hk), hb⟩]
    refine (del_key _ _ _ _ o w h.plays ho.t e6 hqc hb).mono ?_
    rintro e w' ⟨rfl, hc⟩
    exact err_post h hr hc (by decide)
  · rw [if_neg (fun hx => hb hx.2), if_neg (by omega), if_neg (by omega), if_neg (by omega), if_pos hk]
    obtain ⟨o1, o2⟩ := h.own hT
    refine (del_ok _ _ _ T _ o w h.plays ho.t e6 hqd (by omega) (by omega) (h.txs T hT) ⟨Ne.symm o1.1, o1.2.2.2.1, o1.2.2.2.2.1⟩).mono ?_
    rintro e w' ⟨rfl, hT', hc⟩
    have hok := h.ok T hT
    obtain ⟨q1, q2⟩ := h.upd (T' := { T with ws := putA o.key noCell T.ws }) hT rfl rfl rfl hT' hc (fun b e => by subst e; simp [Tx.blocks]) ⟨hok.lo, hok.hi, by have := hok.len; have := putA_len o.key noCell T.ws; simp only; omega, by have := hok.kl; simp only; omega, by have := hok.pl; simp only; omega, putA_sizes hok.keys (by omega)⟩
    have hR' := hr.upd (T' := { T with ws := putA o.key noCell T.ws }) (by rw [e4]; exact e1) e2 hrq rfl rfl (hrq.1.put o.key ⟨#[]⟩ true (fun _ => rfl))
    exact ok_post (st' := { st with txs := repl { T with ws := putA o.key noCell T.ws } st.txs }) rfl q1 hR' (hc.mono (fun i _ e => by subst e; exact PSt.mem_tx hT (by simp [Tx.blocks]))) (fun b hb => Or.inl (q2 ▸ hb))
theorem drop_step {st : PSt} {n : Nat} {w : World} {o : OpM} {W : PW} (h : Inv w st n) (hr : Rel st W) (ho : o.ok) (hk : o.kind = 6) : Calls Try.prog 32 #[.pointer (some ⟨st.p, 0, none⟩), o.v] w (StepPost st n w (stepR W o)) := by
  refine of_step h hr ho (by omega) (by omega) (fun c hN => drop_none _ _ _ o c w hN) (fun k T P e1 e2 hT e4 hrq e6 hq hqd => ?_)
  have hqc : w.cell? ⟨T.tb, 0, none⟩ = some (.bool false) := by have := (h.txs T hT).cells.1; rw [hqd] at this; exact this
  unfold ofM
  rw [if_neg (by omega), if_neg (by omega), if_neg (by omega), if_neg (by omega), if_neg (by omega), if_pos hk]
  refine (drop_ok _ _ _ _ o w h.plays ho.t e6 hqc).mono ?_
  rintro e w' ⟨rfl, hm, hc⟩
  obtain ⟨hfx, hvf, htf, _, _, _⟩ := h.lie
  have hPt : P.start = o.t := hrq.1.st ▸ e4
  have hsub := flat_sub Tx.blocks (drp_sub o.t st.txs)
  have hbs : ({ st with txs := drp o.t st.txs } : PSt).blocks.Sublist st.blocks := (List.Sublist.refl _).append ((List.Sublist.refl _).append hsub)
  have nS : ∀ (i : Nat) (b : Nat), st.fix[i]? = some b → i ≠ 8 → b ≠ st.om := fun i b hi h8 => fix_ne hfx i 8 hi rfl h8
  have hR' : Rel { st with txs := drp o.t st.txs } { W with ts := W.ts.filter (fun x => decide (x.start ≠ P.start)) } := by
    rw [hPt]
    exact ⟨hr.clock, hr.low, hr.txs.drop RelQ.start hr.nd, hr.q, hr.rows, hr.rn, hr.V, hr.Lg, (List.filter_sublist.map _).nodup hr.nd, fun X hX => hr.le X (List.mem_filter.1 hX).1, hr.qn⟩
  refine ok_post (st' := { st with txs := drp o.t st.txs }) rfl ⟨(hc.block _ (lt_of_block h.pl) (nS 0 _ rfl (by decide))).trans h.pl, (hc.block _ (lt_of_block h.ck) (nS 1 _ rfl (by decide))).trans h.ck, h.store.chg hc (nS 2 _ rfl (by decide)) (nS 3 _ rfl (by decide)) (fun b hb e => hvf b hb (by simp [PSt.fix, e])), h.orc.chg hc (nS 4 _ rfl (by decide)) (nS 5 _ rfl (by decide)), (hc.block _ (lt_of_block h.qu) (nS 6 _ rfl (by decide))).trans h.qu, (hc.block _ (lt_of_block h.chn) (nS 7 _ rfl (by decide))).trans h.chn, ?_, fun X hX => (h.txs X ((drp_sub o.t st.txs).subset hX)).kept hc (fun b hb e => (htf X ((drp_sub o.t st.txs).subset hX) b hb).1 (by simp [PSt.fix, e])), hbs.nodup h.apart, h.lo, by have := h.hi; simp only; omega, Nat.le_trans (drp_sub o.t st.txs).length_le h.six, fun X hX => (h.ok X ((drp_sub o.t st.txs).subset hX)).up (by simp only; omega) (by omega), h.q3, fun e he => ?_, h.r6, h.rk, h.vsum, h.vk, h.vn⟩ hR' (hc.mono (fun i _ e => by subst e; exact PSt.mem_fix (by simp [PSt.fix]))) (fun b hb => Or.inl (hbs.subset hb))
  · show mapAt w' Try.prog 3 mkI mkP st.om (numsOf (drp o.t st.txs))
    rw [drp_nums]
    exact hm
  · obtain ⟨X, hX, x1, x2⟩ := h.qok e he
    refine ⟨X, drp_mem o.t hX (fun e3 => hq ?_), x1, x2⟩
    rw [hr.q]
    exact List.mem_map.2 ⟨e, he, by rw [← x1, e3]⟩
theorem commit_step {st : PSt} {n : Nat} {w : World} {o : OpM} {W : PW} (h : Inv w st n) (hr : Rel st W) (ho : o.ok) (hk : o.kind = 7) : Calls Try.prog 33 #[.pointer (some ⟨st.p, 0, none⟩), o.v] w (StepPost st n w (stepR W o)) := by
  have c3 : w.cell? ⟨st.p, 3, none⟩ = some (.pointer (some ⟨st.qb, 0, none⟩)) := cell_of h.pl rfl
  refine of_step h hr ho (by omega) (by omega) (fun c hN => pcommit_none _ _ _ o c st.qb w hN c3) (fun k T P e1 e2 hT e4 hrq e6 hq hqd => ?_)
  unfold ofM
  rw [if_neg (by omega), if_neg (by omega), if_neg (by omega), if_neg (by omega), if_neg (by omega), if_neg (by omega)]
  have hql : W.q.length = st.q.length := by rw [hr.q]; simp
  have hPt : P.start = o.t := hrq.1.st ▸ e4
  by_cases hf : W.q.length = 3
  · rw [if_pos hf]
    refine (pcommit_full _ _ T st.sb _ o st.qb st.ch st.qs st.qr _ w h.plays ho.t e6 (h.txs T hT) hqd c3 h.qu h.chn (by simp; omega)).mono ?_
    rintro e w' ⟨rfl, hc⟩
    exact err_post h hr hc (by decide)
  · rw [if_neg hf]
    obtain ⟨o1, o2⟩ := h.own hT
    have hq3 := h.q3
    refine (pcommit_ok _ _ T st.sb _ o st.qb st.ch st.qs st.qr _ w h.plays ho.t e6 (h.txs T hT) hqd c3 h.qu h.chn (by simp; omega) ⟨o1.1, o1.2.1, o1.2.2.1, o2.2.2.2.2.2.2.1, o2.2.2.2.2.2.2.2.1, o2.2.2.2.2.2.2.2.2⟩).mono ?_
    rintro e w' ⟨rfl, hch, hT', hc⟩
    obtain ⟨hfx, hvf, htf, _, _, hD⟩ := h.lie
    have hS := h.starts
    have hok := h.ok T hT
    have fl : (repl { T with queued := true } st.txs).flatMap Tx.blocks = st.txs.flatMap Tx.blocks := by
      rw [List.flatMap_def, List.flatMap_def, repl_same (T := T) (T' := { T with queued := true }) rfl Tx.blocks rfl _ hS hT]
    have hbl : ({ st with q := st.q ++ [(T.start, T.tb)], qs := st.qs + 1, txs := repl { T with queued := true } st.txs } : PSt).blocks = st.blocks := by
      unfold PSt.blocks
      simp only [fl]
      rfl
    have nS : ∀ (i : Nat) (b : Nat), st.fix[i]? = some b → i ≠ 7 → ¬ (b = st.ch ∨ b = T.tb) := fun i b hi h7 hx => by
      rcases hx with e | e
      · exact fix_ne hfx i 7 hi rfl h7 e
      · exact (htf T hT T.tb (by simp [Tx.blocks])).1 (e ▸ List.mem_of_getElem? hi)
    have nV : ∀ b ∈ vBlocks st.V, ¬ (b = st.ch ∨ b = T.tb) := fun b hb hx => by
      rcases hx with e | e
      · exact hvf b hb (by simp [PSt.fix, e])
      · exact (htf T hT T.tb (by simp [Tx.blocks])).2 (e ▸ hb)
    have hnums : numsOf (repl { T with queued := true } st.txs) = numsOf st.txs := repl_same (T := T) (T' := { T with queued := true }) rfl (fun T => (T.start, T.tb)) rfl _ hS hT
    have hR' : Rel { st with q := st.q ++ [(T.start, T.tb)], qs := st.qs + 1, txs := repl { T with queued := true } st.txs } { W with q := W.q ++ [P.start] } := by
      refine ⟨hr.clock, hr.low, ?_, ?_, hr.rows, hr.rn, hr.V, hr.Lg, hr.nd, hr.le, ?_⟩
      · have key : ∀ {a : List Tx} {b : List PT}, SameL (RelQ W.q) a b → (a.map (·.start)).Nodup → T ∈ a → SameL (RelQ (W.q ++ [P.start])) (repl { T with queued := true } a) b := by
          intro a
          induction a with
          | nil => intro b _ _ hm; simp at hm
          | cons X r ih =>
            intro b hs hn hm
            cases b with
            | nil => exact hs.elim
            | cons Q q =>
              simp only [List.map_cons, List.nodup_cons] at hn
              by_cases hx : X.start = T.start
              · have hxT : X = T := by
                  rcases List.mem_cons.1 hm with e | e
                  · exact e.symm
                  · exact absurd (List.mem_map.2 ⟨T, e, hx.symm⟩) hn.1
                have e3 : repl { T with queued := true } (X :: r) = { T with queued := true } :: r := by simp only [repl]; rw [if_pos hx]
                rw [e3]
                have hQ : Q.start = P.start := by rw [← hs.1.1.st, hx, e4, hPt]
                refine ⟨⟨?_, ?_⟩, hs.2.imp (fun Y hY Z _ hr' => ⟨hr'.1, ?_⟩)⟩
                · have := hs.1.1
                  rw [hxT] at this
                  exact ⟨this.st, this.ws, this.wl, this.wn, this.nd, this.ng, this.ks, this.ps⟩
                · simp [hQ]
                · have hne : Z.start ≠ P.start := fun e5 => hn.1 (List.mem_map.2 ⟨Y, hY, by rw [hr'.1.st, e5, ← hQ, ← hs.1.1.st]⟩)
                  rw [hr'.2]
                  exact decide_eq_decide.2 (by simp [hne])
              · have hTr : T ∈ r := by
                  rcases List.mem_cons.1 hm with e | e
                  · exact absurd (by rw [e]) hx
                  · exact e
                have e3 : repl { T with queued := true } (X :: r) = X :: repl { T with queued := true } r := by simp only [repl]; rw [if_neg hx]
                rw [e3]
                have hne : Q.start ≠ P.start := fun e5 => hx (by rw [hs.1.1.st, e5, hPt, e4])
                refine ⟨⟨hs.1.1, ?_⟩, ih hs.2 hn.2 hTr⟩
                rw [hs.1.2]
                exact decide_eq_decide.2 (by simp [hne])
        exact key hr.txs hS hT
      · show W.q ++ [P.start] = (st.q ++ [(T.start, T.tb)]).map Prod.fst
        rw [hr.q, List.map_append, hrq.1.st]
        rfl
      · show (W.q ++ [P.start]).Nodup
        rw [List.nodup_append]
        refine ⟨hr.qn, by simp, fun a ha b hb => ?_⟩
        have e5 : b = P.start := by simpa using hb
        rw [e5, hPt]
        exact fun e6 => hq (e6 ▸ ha)
    refine ok_post (st' := { st with q := st.q ++ [(T.start, T.tb)], qs := st.qs + 1, txs := repl { T with queued := true } st.txs }) rfl ⟨(hc.block _ (lt_of_block h.pl) (nS 0 _ rfl (by decide))).trans h.pl, (hc.block _ (lt_of_block h.ck) (nS 1 _ rfl (by decide))).trans h.ck, h.store.chg hc (nS 2 _ rfl (by decide)) (nS 3 _ rfl (by decide)) nV, h.orc.chg hc (nS 4 _ rfl (by decide)) (nS 5 _ rfl (by decide)), (hc.block _ (lt_of_block h.qu) (nS 6 _ rfl (by decide))).trans h.qu, ?_, ?_, fun X hX => ?_, hbl ▸ h.apart, h.lo, by have := h.hi; simp; omega, by simp only; rw [repl_len]; exact h.six, fun X hX => ?_, by simp; omega, fun e he => ?_, h.r6, h.rk, h.vsum, h.vk, h.vn⟩ hR' (hc.mono (fun i _ e => ?_)) (fun b hb => Or.inl (hbl ▸ hb))
    · simp only [List.map_append, List.map_cons, List.map_nil]
      simpa using hch
    · show mapAt w' Try.prog 3 mkI mkP st.om (numsOf (repl { T with queued := true } st.txs))
      rw [hnums]
      exact h.om.of_block (hc.block _ h.om.lt (nS 8 _ rfl (by decide)))
    · rcases repl_mem hS hX with rfl | ⟨hX, hne⟩
      · exact hT'
      · refine (h.txs X hX).kept hc (fun b hb hx => ?_)
        rcases hx with e | e
        · exact (htf X hX b hb).1 (by simp [PSt.fix, e])
        · exact hD X hX T hT hne b hb (by rw [e]; simp [Tx.blocks])
    · rcases repl_mem hS hX with rfl | ⟨hX, hne⟩
      · exact ⟨hok.lo, hok.hi, by have := hok.len; simp only; omega, by have := hok.kl; simp only; omega, by have := hok.pl; simp only; omega, hok.keys⟩
      · exact (h.ok X hX).up (by simp only; omega) (by omega)
    · have hm : (e.1, e.2) ∈ numsOf (repl { T with queued := true } st.txs) := by
        rw [hnums]
        rcases List.mem_append.1 he with he | he
        · obtain ⟨X, hX, x1, x2⟩ := h.qok e he
          exact List.mem_map.2 ⟨X, hX, by rw [x1, x2]⟩
        · have : e = (T.start, T.tb) := by simpa using he
          subst this
          exact List.mem_map.2 ⟨T, hT, rfl⟩
      obtain ⟨Y, hY, hy⟩ := List.mem_map.1 hm
      exact ⟨Y, hY, congrArg Prod.fst hy, congrArg Prod.snd hy⟩
    · rcases e with e | e
      · subst e; exact PSt.mem_fix (by simp [PSt.fix])
      · subst e; exact PSt.mem_tx hT (by simp [Tx.blocks])
end Go.Proofs.Ytechhojiifcpjaa
