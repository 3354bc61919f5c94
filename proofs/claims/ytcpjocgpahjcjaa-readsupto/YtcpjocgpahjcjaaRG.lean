import Derived.Test.YtcpjocgpahjcjaaRF
namespace Go.Proofs.Ytcpjocgpahjcjaa
open Go.RowKit Go.Sort
/-- WHERE AN APPENDED ROW LIES: where it lay, or in new memory. -/
theorem append_where {P : Program} (w : World) (base : Nat) (t ty e : TypeId) (i : TypeInfo) (z : Value) (size bytes : Nat) (ht : P.underlying t = some (.slice e)) (hi : P.info? e = some i) (hz : i.zero = some z)
    (hsize : i.size = size) (hby : i.bytes = bytes) (hzs : z.cells.size = size) (hsz : 0 < size)
    (v : Value) (n : Nat) (xs : List Value) (hown : w.ownsRow base e size v n xs)
    (a : Addr) (m c : Nat) (news : List Value) (hl : news.length = m * size) (hnews : ∀ j u, news[j]? = some u → w.cell? (a.add j) = some u) (h1 : ∀ u ∈ news, u.oneCell' = true)
    (h63 : n + m ≤ maxLen) (hbytes : (n + m) * bytes ≤ 140737488355328) (hbase : base ≤ w.heap.size) :
    ∃ v' w', (Builtin.append_ #[t, t] ty #[v, .slice (some a) m c]).run P w = .ok v' w' ∧ w'.ownsRow base e size v' (n + m) (xs ++ news) ∧ w.grownBy w' v.ownBlock ∧
      (v' = .slice none 0 0 ↔ v = .slice none 0 0 ∧ m = 0) ∧ (v'.ownBlock = v.ownBlock ∨ v'.ownBlock = some w.heap.size) := by
  obtain ⟨v', w', hr, h2, h3, h4⟩ := run_append_own (P := P) w base t ty e i z size bytes ht hi hz hsize hby hzs hsz v n xs hown a m c news hl hnews h1 h63 hbytes hbase
  refine ⟨v', w', hr, h2, h3, h4, ?_⟩
  subst hsize
  subst hby
  have hsmall : n + m ≤ 9223372036854775807 := by simp only [maxLen] at h63; omega
  rcases hown.2 with ⟨rfl, rfl⟩ | ⟨g, cap, cur, rfl, hbg, hg, hnc, hcm, hcs, htake⟩
  · by_cases hm : m = 0
    · left
      rw [h4.2 ⟨rfl, hm⟩]
    · right
      have hr2 := run_append_nil (P := P) w t ty e i z ht hi hz a m c news hl hnews (by omega) (by omega) (by have hb := hbytes; simp only [Nat.zero_add] at hb; omega)
      rw [hr2] at hr
      cases hr
      rfl
  · by_cases hroom : n + m ≤ cap
    · left
      have hfit : n * i.size + news.length ≤ cur.size := by rw [hl, hcs, ← Nat.add_mul]; exact Nat.mul_le_mul_right _ hroom
      have hr2 := run_append_room (P := P) w t ty e i ht hi g n cap cur hg a m c news hl hnews h1 hroom hfit
      rw [hr2] at hr
      cases hr
      rfl
    · right
      have holds : ∀ j u, xs[j]? = some u → w.cell? ((⟨g, 0, none⟩ : Addr).add j) = some u := hown.cells (g := g) rfl
      have hr2 := run_append_grow (P := P) w t ty e i z ht hi hz ⟨g, 0, none⟩ n cap xs hown.1 holds a m c news hl hnews (by omega) (by omega) (growslice_fits (by omega) hbytes)
      rw [hr2] at hr
      cases hr
      rfl
theorem wpList_append_where {P : Program} {w : World} {ops : Array Oper} {rest : List Oper} {o : Oper} {a : Act} {Q : Exit → Act → World → Prop} (hgd : o.guard = none) (s x : Operand) (t : TypeId)
    (ho : o.op = .call { callee := .builtin .append, args := #[s, x], argTypes := #[t, t] })
    (base : Nat) (e : TypeId) (i : TypeInfo) (z : Value) (size bytes : Nat) (ht : P.underlying t = some (.slice e)) (hi : P.info? e = some i) (hz : i.zero = some z)
    (hsize : i.size = size) (hby : i.bytes = bytes) (hzs : z.cells.size = size) (hsz : 0 < size)
    (v : Value) (n : Nat) (xs : List Value) (hs : a.eval s = v) (hown : w.ownsRow base e size v n xs)
    (ad : Addr) (m c : Nat) (news : List Value) (hx : a.eval x = .slice (some ad) m c) (hl : news.length = m * size) (hnews : ∀ j u, news[j]? = some u → w.cell? (ad.add j) = some u) (h1 : ∀ u ∈ news, u.oneCell' = true)
    (h63 : n + m ≤ maxLen) (hbytes : (n + m) * bytes ≤ 140737488355328) (hbase : base ≤ w.heap.size)
    (h : ∀ v' w', w'.ownsRow base e size v' (n + m) (xs ++ news) → w.grownBy w' v.ownBlock → (v'.ownBlock = v.ownBlock ∨ v'.ownBlock = some w.heap.size) → wpList P ops Q rest (a.put o.dst v') w') : wpList P ops Q (o :: rest) a w := by
  refine wpList_plain hgd fun K hK => ?_
  obtain ⟨v', w', hr, h2, h3, _, h5⟩ := append_where (P := P) w base t o.type e i z size bytes ht hi hz hsize hby hzs hsz v n xs hown ad m c news hl hnews h1 h63 hbytes hbase
  unfold Oper.wp execOp
  simp only [ho, resolve, invoke, builtin, Sem.run_bind, Sem.run_pure, Result.andThen_ok, List.map_toArray, List.map_cons, List.map_nil, hs, hx, hr]
  exact hK _ _ (h v' w' h2 h3 h5)
/-- a row's block. -/
def vb (v : Value) : List Nat := v.ownBlock.toList
def RT.wv (T : RT) : Value := .slice T.wa T.ws.length T.wc
def RT.kv (T : RT) : Value := .slice T.ka T.ks.length T.kc
def RT.pv (T : RT) : Value := .slice T.pa T.ps.length T.pc
def RT.blocks (T : RT) : List Nat := vb T.wv ++ vb T.kv ++ vb T.pv
structure RTAt (w : World) (T : RT) : Prop where
  wr : w.ownsRow 0 72 4 T.wv T.ws.length (verCells T.ws)
  kr : w.ownsRow 0 9 1 T.kv T.ks.length (strCells T.ks)
  pr : w.ownsRow 0 9 1 T.pv T.ps.length (strCells T.ps)
/-- The reference's world. -/
structure RSt where
  wb : Nat
  clock : Int
  L : List Ver
  la : Option Addr
  lc : Nat
  ts : List RT
  oa : Option Addr
  oc : Nat
  q : List Int
  qa : Option Addr
  qc : Nat
  rows : List (ByteArray × Int)
  ra : Option Addr
  rc : Nat
  low : Int
def RSt.lv (S : RSt) : Value := .slice S.la S.L.length S.lc
def RSt.ov (S : RSt) : Value := .slice S.oa S.ts.length S.oc
def RSt.qv (S : RSt) : Value := .slice S.qa S.q.length S.qc
def RSt.rv (S : RSt) : Value := .slice S.ra S.rows.length S.rc
def RSt.others (S : RSt) : List Nat := vb S.lv ++ vb S.qv ++ vb S.rv
def RSt.blocks (S : RSt) : List Nat := S.wb :: (S.others ++ vb S.ov) ++ S.ts.flatMap RT.blocks
structure RInv (w : World) (S : RSt) : Prop where
  wb : w.heap[S.wb]? = some (.cells #[.int .i64 S.clock, S.lv, S.ov, S.qv, S.rv, .int .i64 S.low] 54)
  lr : w.ownsRow 0 72 4 S.lv S.L.length (verCells S.L)
  or : w.ownsRow 0 66 4 S.ov S.ts.length (rtCells S.ts)
  qr : w.ownsRow 0 3 1 S.qv S.q.length (S.q.map (.int .i64 ·))
  rr : w.ownsRow 0 73 2 S.rv S.rows.length (S.rows.flatMap fun p => [.string p.1, .int .i64 p.2])
  ts : ∀ T ∈ S.ts, RTAt w T
  nd : S.blocks.Nodup
theorem vb_mem {v : Value} {b : Nat} : b ∈ vb v ↔ v.ownBlock = some b := by simp [vb]
theorem RTAt.chg {w w' : World} {T : RT} {S : Nat → Prop} (h : RTAt w T) (hc : Chg S w w') (hs : ∀ b ∈ T.blocks, ¬ S b) : RTAt w' T :=
  ⟨ownsRow_chg h.wr hc (fun g e => hs g (by simp [RT.blocks, vb_mem, e])), ownsRow_chg h.kr hc (fun g e => hs g (by simp [RT.blocks, vb_mem, e])), ownsRow_chg h.pr hc (fun g e => hs g (by simp [RT.blocks, vb_mem, e]))⟩
theorem RTAt.lt {w : World} {T : RT} (h : RTAt w T) : ∀ b ∈ T.blocks, b < w.heap.size := by
  intro b hb
  simp only [RT.blocks, List.mem_append, vb_mem] at hb
  rcases hb with (hb | hb) | hb
  · exact (h.wr.lt b hb).2
  · exact (h.kr.lt b hb).2
  · exact (h.pr.lt b hb).2
theorem RInv.lt {w : World} {S : RSt} (h : RInv w S) : ∀ b ∈ S.blocks, b < w.heap.size := by
  intro b hb
  simp only [RSt.blocks, RSt.others, List.mem_append, List.mem_cons, vb_mem, List.mem_flatMap] at hb
  rcases hb with (rfl | ((hb | hb) | hb) | hb) | ⟨T, hT, hb⟩
  · exact lt_of_block h.wb
  · exact (h.lr.lt b hb).2
  · exact (h.qr.lt b hb).2
  · exact (h.rr.lt b hb).2
  · exact (h.or.lt b hb).2
  · exact (h.ts T hT).lt b hb
theorem RInv.chg {w w' : World} {S : RSt} {P : Nat → Prop} (h : RInv w S) (hc : Chg P w w') (hs : ∀ b ∈ S.blocks, ¬ P b) : RInv w' S := by
  have hm : ∀ {v : Value} {g : Nat}, vb v ⊆ S.blocks → v.ownBlock = some g → ¬ P g := fun hv e => hs _ (hv (vb_mem.2 e))
  refine ⟨(hc.block _ (lt_of_block h.wb) (hs _ (by simp [RSt.blocks]))).trans h.wb, ownsRow_chg h.lr hc (fun g e => hm ?_ e), ownsRow_chg h.or hc (fun g e => hm ?_ e), ownsRow_chg h.qr hc (fun g e => hm ?_ e), ownsRow_chg h.rr hc (fun g e => hm ?_ e), fun T hT => (h.ts T hT).chg hc (fun b hb => hs b ?_), h.nd⟩
  · intro x hx; simp [RSt.blocks, RSt.others, hx]
  · intro x hx; simp [RSt.blocks, hx]
  · intro x hx; simp [RSt.blocks, RSt.others, hx]
  · intro x hx; simp [RSt.blocks, RSt.others, hx]
  · simp only [RSt.blocks, List.mem_append, List.mem_flatMap]
    exact Or.inr ⟨T, hT, hb⟩
theorem nodup_swap {A B X X' : List Nat} {n : Nat} (h : (A ++ (X ++ B)).Nodup) (hn : X'.Nodup) (hx : ∀ b ∈ X', b ∈ X ∨ n ≤ b) (hA : ∀ b ∈ A, b < n) (hB : ∀ b ∈ B, b < n) : (A ++ (X' ++ B)).Nodup := by
  rw [List.nodup_append] at h ⊢
  obtain ⟨a1, a2, a3⟩ := h
  rw [List.nodup_append] at a2 ⊢
  obtain ⟨b1, b2, b3⟩ := a2
  refine ⟨a1, ⟨hn, b2, fun x hx' y hy => ?_⟩, fun x hx' y hy => ?_⟩
  · rcases hx x hx' with q | q
    · exact b3 x q y hy
    · have := hB y hy; omega
  · rcases List.mem_append.1 hy with hy | hy
    · rcases hx y hy with q | q
      · exact a3 x hx' y (List.mem_append.2 (Or.inl q))
      · have := hA x hx'; omega
    · exact a3 x hx' y (List.mem_append.2 (Or.inr hy))
end Go.Proofs.Ytcpjocgpahjcjaa
