import Derived.Test.YtkfjafndplmdkaaGreatT1
import Derived.Test.YtkfjafndplmdkaaGreatT7
import Derived.IntWalk
import Derived.Test.YtkfjafndplmdkaaGreatPF
namespace Go.Proofs.YtkfjafndplmdkaaGreat
open Go.RowKit Go.Sort
/-- one element, some times. -/
def rep (n : Nat) (x : List Value) : List Value := (List.replicate n x).flatten
theorem rep_succ (n : Nat) (x : List Value) : rep (n + 1) x = x ++ rep n x := by simp [rep, List.replicate_succ]
theorem rep_zero (x : List Value) : rep 0 x = [] := rfl
theorem rep_add (n m : Nat) (x : List Value) : rep (n + m) x = rep n x ++ rep m x := by simp [rep, ← List.replicate_append_replicate]
theorem rep_len (n : Nat) (x : List Value) : (rep n x).length = n * x.length := by simp [rep]
theorem rep_get {x : List Value} {size : Nat} (hx : x.length = size) (hs : 0 < size) : ∀ (n q : Nat), q < n * size → (rep n x)[q]? = x[q % size]?
  | 0, q, h => by omega
  | n + 1, q, h => by
    rw [rep_succ]
    by_cases hq : q < size
    · rw [List.getElem?_append_left (by omega), Nat.mod_eq_of_lt hq]
    · rw [List.getElem?_append_right (by omega), hx, rep_get hx hs n (q - size) (by rw [Nat.succ_mul] at h; omega)]
      congr 1
      exact (Nat.mod_eq_sub_mod (by omega)).symm
theorem rep_mem {x : List Value} {n : Nat} {u : Value} (h : u ∈ rep n x) : u ∈ x := by
  unfold rep at h
  obtain ⟨l, hl, hu⟩ := List.mem_flatten.1 h
  rw [List.eq_of_mem_replicate hl] at hu
  exact hu
/-- a list of marks that overlaps what is written. -/
theorem over_mark {cur x : List Value} {size n m K : Nat} (hx : x.length = size) (hs : 0 < size) (hn : (n + m) * size ≤ cur.length) (hK : K * size ≤ cur.length) (htK : cur.take (K * size) = rep K x) :
    (cur.take (n * size) ++ rep m x ++ cur.drop (n * size + (rep m x).length)).take (K * size) = rep K x := by
  have hm : (rep m x).length = m * size := by rw [rep_len, hx]
  have hnm : (n + m) * size = n * size + m * size := Nat.add_mul ..
  apply List.ext_getElem?
  intro q
  by_cases hq : q < K * size
  · rw [List.getElem?_take, if_pos hq, rep_get hx hs K q hq]
    have hc : cur[q]? = x[q % size]? := by
      rw [← rep_get hx hs K q hq, ← htK, List.getElem?_take, if_pos hq]
    by_cases h1 : q < n * size
    · rw [List.append_assoc, List.getElem?_append_left (by rw [List.length_take]; omega), List.getElem?_take, if_pos h1]
      exact hc
    · by_cases h2 : q < n * size + m * size
      · rw [List.getElem?_append_left (by rw [List.length_append, List.length_take, hm]; omega), List.getElem?_append_right (by rw [List.length_take]; omega), List.length_take, Nat.min_eq_left (by omega), rep_get hx hs m _ (by omega)]
        congr 1
        rw [Nat.mul_comm n size, Nat.sub_mul_mod (by rw [Nat.mul_comm]; omega)]
      · rw [List.getElem?_append_right (by rw [List.length_append, List.length_take, hm]; omega), List.length_append, List.length_take, hm, Nat.min_eq_left (by omega), List.getElem?_drop]
        rw [← hc]
        congr 1
        omega
  · rw [List.getElem?_eq_none (by rw [List.length_take]; omega), List.getElem?_eq_none (by rw [rep_len, hx]; omega)]
/-- APPENDING MARKS: what is all marks stays so. -/
theorem append_mark {P : Program} (w : World) (base : Nat) (t ty e : TypeId) (i : TypeInfo) (z : Value) (size bytes : Nat) (ht : P.underlying t = some (.slice e)) (hi : P.info? e = some i) (hz : i.zero = some z)
    (hsize : i.size = size) (hby : i.bytes = bytes) (hzs : z.cells.size = size) (hsz : 0 < size)
    (v : Value) (n : Nat) (x : List Value) (hx : x.length = size) (hown : w.ownsRow base e size v n (rep n x))
    (a : Addr) (m c : Nat) (hnews : ∀ j u, (rep m x)[j]? = some u → w.cell? (a.add j) = some u) (h1 : ∀ u ∈ x, u.oneCell' = true)
    (h63 : n + m ≤ maxLen) (hbytes : (n + m) * bytes ≤ 140737488355328) (hbase : base ≤ w.heap.size) :
    ∃ v' w', (Builtin.append_ #[t, t] ty #[v, .slice (some a) m c]).run P w = .ok v' w' ∧ w'.ownsRow base e size v' (n + m) (rep (n + m) x) ∧ w.grownBy w' v.ownBlock ∧
      (v'.ownBlock = v.ownBlock ∨ v'.ownBlock = some w.heap.size) ∧ ∀ b u K, w.ownsRow b e size u K (rep K x) → w'.ownsRow b e size u K (rep K x) := by
  have hl : (rep m x).length = m * size := by rw [rep_len, hx]
  obtain ⟨v', w', hr, h2, h3, _, h5⟩ := append_where (P := P) w base t ty e i z size bytes ht hi hz hsize hby hzs hsz v n (rep n x) hown a m c (rep m x) hl hnews (fun u hu => h1 u (rep_mem hu)) h63 hbytes hbase
  refine ⟨v', w', hr, by rw [rep_add]; exact h2, h3, h5, fun b u K hu => ?_⟩
  by_cases hb : u.ownBlock = none ∨ u.ownBlock ≠ v.ownBlock
  · exact hu.kept h3 hb
  rw [not_or, Classical.not_not] at hb
  refine ⟨hu.1, ?_⟩
  rcases hown.2 with ⟨rfl, rfl⟩ | ⟨g, cap, cur, rfl, hbg, hg, hnc, hcm, hcs, htake⟩
  · exact absurd hb.2 hb.1
  rcases hu.2 with h | ⟨g', cap', cur', rfl, hbg', hg', hnc', hcm', hcs', htake'⟩
  · exact Or.inl h
  have eg : g' = g := by simpa [Value.ownBlock] using hb.2
  subst eg
  rw [hg] at hg'
  cases hg'
  subst hsize
  have hcc : cap' = cap := Nat.eq_of_mul_eq_mul_right hsz (hcs'.symm.trans hcs)
  subst hcc
  refine Or.inr ?_
  by_cases hroom : n + m ≤ cap'
  · have hfit : n * i.size + (rep m x).length ≤ cur.size := by rw [hl, hcs, ← Nat.add_mul]; exact Nat.mul_le_mul_right _ hroom
    have hr2 := run_append_room (P := P) w t ty e i ht hi g' n cap' cur hg a m c (rep m x) hl hnews (fun u hu => h1 u (rep_mem hu)) hroom hfit
    rw [hr2] at hr
    cases hr
    refine ⟨g', cap', _, rfl, hbg', setRow_heap w g' cur _ e _ hg, hnc', hcm', ?_, ?_⟩
    · simp only [List.size_toArray, List.length_append, List.length_take, List.length_drop, Array.length_toList]
      omega
    · refine over_mark hx hsz ?_ ?_ htake'
      · rw [Array.length_toList, hcs]; exact Nat.mul_le_mul_right _ hroom
      · rw [Array.length_toList, hcs]; exact Nat.mul_le_mul_right _ hnc'
  · have holds : ∀ j u, (rep n x)[j]? = some u → w.cell? ((⟨g', 0, none⟩ : Addr).add j) = some u := hown.cells (g := g') rfl
    subst hby
    have hsmall : n + m ≤ 9223372036854775807 := by simp only [maxLen] at h63; omega
    have hr2 := run_append_grow (P := P) w t ty e i z ht hi hz ⟨g', 0, none⟩ n cap' (rep n x) hown.1 holds a m c (rep m x) hl hnews (by omega) (by omega) (growslice_fits (by omega) hbytes)
    rw [hr2] at hr
    cases hr
    exact ⟨g', cap', cur, rfl, hbg', (Below.heap_alloc w.drew _ g' (lt_of_block hg)).trans hg, hnc', hcm', hcs', htake'⟩
theorem wpList_append_mark {P : Program} {w : World} {ops : Array Oper} {rest : List Oper} {o : Oper} {a : Act} {Q : Exit → Act → World → Prop} (hgd : o.guard = none) (s y : Operand) (t : TypeId)
    (ho : o.op = .call { callee := .builtin .append, args := #[s, y], argTypes := #[t, t] })
    (base : Nat) (e : TypeId) (i : TypeInfo) (z : Value) (size bytes : Nat) (ht : P.underlying t = some (.slice e)) (hi : P.info? e = some i) (hz : i.zero = some z)
    (hsize : i.size = size) (hby : i.bytes = bytes) (hzs : z.cells.size = size) (hsz : 0 < size)
    (v : Value) (n : Nat) (x : List Value) (hx : x.length = size) (hs : a.eval s = v) (hown : w.ownsRow base e size v n (rep n x))
    (ad : Addr) (m c : Nat) (hy : a.eval y = .slice (some ad) m c) (hnews : ∀ j u, (rep m x)[j]? = some u → w.cell? (ad.add j) = some u) (h1 : ∀ u ∈ x, u.oneCell' = true)
    (h63 : n + m ≤ maxLen) (hbytes : (n + m) * bytes ≤ 140737488355328) (hbase : base ≤ w.heap.size)
    (h : ∀ v' w', w'.ownsRow base e size v' (n + m) (rep (n + m) x) → w.grownBy w' v.ownBlock → (v'.ownBlock = v.ownBlock ∨ v'.ownBlock = some w.heap.size) → (∀ b u K, w.ownsRow b e size u K (rep K x) → w'.ownsRow b e size u K (rep K x)) → wpList P ops Q rest (a.put o.dst v') w') : wpList P ops Q (o :: rest) a w := by
  refine wpList_plain hgd fun K hK => ?_
  obtain ⟨v', w', hr, h2, h3, h5, h6⟩ := append_mark (P := P) w base t o.type e i z size bytes ht hi hz hsize hby hzs hsz v n x hx hown ad m c hnews h1 h63 hbytes hbase
  unfold Oper.wp execOp
  simp only [ho, resolve, invoke, builtin, Sem.run_bind, Sem.run_pure, Result.andThen_ok, List.map_toArray, List.map_cons, List.map_nil, hs, hy, hr]
  exact hK _ _ (h v' w' h2 h3 h5 h6)
end Go.Proofs.YtkfjafndplmdkaaGreat
namespace Go.Proofs.YtkfjafndplmdkaaGreat
open Go.RowKit Go.Sort
def markDigit (k : Nat) : ByteArray := if k % 2 = 0 then ⟨#[48]⟩ else ⟨#[49]⟩
def markB : Nat → Nat → ByteArray → ByteArray
  | 0, _, s => s
  | f + 1, k, s => if k = 0 then s else markB f (k / 2) (s ++ markDigit k)
theorem markB_zero (f : Nat) (s : ByteArray) : markB f 0 s = s := by cases f <;> simp [markB]
theorem markB_pos {f k : Nat} (h : 0 < k) (s : ByteArray) : markB (f + 1) k s = markB f (k / 2) (s ++ markDigit k) := by simp [markB, show k ≠ 0 by omega]
def markS (k : Nat) : ByteArray := markB k k ⟨#[109, 97, 114, 107]⟩
set_option maxRecDepth 100000 in
set_option maxHeartbeats 1000000 in
theorem marked_any (k : Nat) (w : World) (hk : k ≤ 1000000000) :
    Calls Tryz.prog 44 #[.int .i64 k] w fun e w' => e = .returned (.string (markS k)) ∧ w' = w := by
  go_enter Tryz.func44, Tryz.ntmps44
  go_wp2
  go_loopw [0, 3] (fun kv sv wr => ∃ (n f : Nat) (s : ByteArray), n + s.size ≤ 1000000004 ∧ n ≤ f ∧ kv = .int .i64 n ∧ sv = .string s ∧ markB f n s = markS k ∧ wr = w) (fun kv _ _ => (intOf kv).toNat)
  case atStart => exact ⟨k, k, ⟨#[109, 97, 114, 107]⟩, (by show k + 4 ≤ 1000000004; omega), Nat.le_refl _, rfl, rfl, rfl, rfl⟩
  case round =>
    obtain ⟨n, f, s, hn, hnf, rfl, rfl, hm, rfl⟩ := hrel
    by_cases h0 : n = 0
    · subst h0
      have HE : Hid (s = markS k) := by rw [markB_zero] at hm; exact hm
      clear hm
      go_wp2
      go_ret
      exact ⟨congrArg (fun x => Ending.returned (Value.string x)) HE.out, rfl⟩
    · obtain ⟨f, rfl⟩ : ∃ x, f = x + 1 := ⟨f - 1, by omega⟩
      have HE : Hid (markB f (n / 2) (s ++ markDigit n) = markS k) := by rw [← markB_pos (by omega)]; exact hm
      have hd : IntKind.i64.wrap ((n : Int).tdiv 2) = ((n / 2 : Nat) : Int) := by rw [Go.IntWalk.i64_quo _ _ (by omega)]; omega
      have hsz : s.size ≤ 1000000004 := by omega
      have hx0 : ((⟨#[48, 49]⟩ : ByteArray).extract 0 1) = ⟨#[48]⟩ := by rfl
      have hx1 : ((⟨#[48, 49]⟩ : ByteArray).extract 1 2) = ⟨#[49]⟩ := by rfl
      have hy0 : (⟨#[48]⟩ : ByteArray).size = 1 := rfl
      have hy1 : (⟨#[49]⟩ : ByteArray).size = 1 := rfl
      rcases Nat.mod_two_eq_zero_or_one n with hp | hp
      · have h2 : ((n : Int) % 2) = 0 := by omega
        have h3 : Hid (markDigit n = ⟨#[48]⟩) := by show markDigit n = _; unfold markDigit; rw [if_pos hp]
        clear hm hp
        go_wp2
        go_roundw
        case rel => exact ⟨n / 2, f, s ++ ⟨#[48]⟩, (by rw [ByteArray.size_append]; show n / 2 + (s.size + 1) ≤ 1000000004; omega), by omega, by go_num, rfl, by rw [← h3.out]; exact HE.out, trivial⟩
        case measure => simp [intOf]; omega
      · have h2 : ((n : Int) % 2) = 1 := by omega
        have h3 : Hid (markDigit n = ⟨#[49]⟩) := by show markDigit n = _; unfold markDigit; rw [if_neg (by omega)]
        clear hm hp
        go_wp2
        go_roundw
        case rel => exact ⟨n / 2, f, s ++ ⟨#[49]⟩, (by rw [ByteArray.size_append]; show n / 2 + (s.size + 1) ≤ 1000000004; omega), by omega, by go_num, rfl, by rw [← h3.out]; exact HE.out, trivial⟩
        case measure => simp [intOf]; omega
end Go.Proofs.YtkfjafndplmdkaaGreat
namespace Go.Proofs.YtkfjafndplmdkaaGreat
open Go.RowKit Go.Sort
/-- a block of the book itself. -/
def BookT (w : World) (b : Nat) : Prop := ∃ c t, w.heap[b]? = some (.cells c t) ∧ (t = 58 ∨ t = 26 ∨ t = 32 ∨ t = 33 ∨ t = 34)
/-- from mb on, only the book's own blocks and those of L have turned. -/
def BChg (mb : Nat) (L : Nat → Prop) (w w' : World) : Prop := Chg (fun b => mb ≤ b ∧ (BookT w b ∨ L b)) w w'
theorem BChg.refl (mb : Nat) (L : Nat → Prop) (w : World) : BChg mb L w w := Chg.refl _ _
theorem BChg.trans {mb : Nat} {L : Nat → Prop} {a b c : World} (h : BChg mb L a b) (k : BChg mb L b c) : BChg mb L a c := by
  refine ⟨k.os.trans h.os, k.tape.trans h.tape, k.output.trans h.output, Nat.le_trans h.size k.size, fun i hi hn => ?_⟩
  have e1 := h.block i hi hn
  refine (k.block i (Nat.lt_of_lt_of_le hi h.size) (fun hx => hn ⟨hx.1, hx.2.imp (fun ⟨cc, t, h1, h2⟩ => ⟨cc, t, by rw [← e1]; exact h1, h2⟩) id⟩)).trans e1
theorem BChg.mono {mb : Nat} {L L' : Nat → Prop} {a b : World} (h : BChg mb L a b) (hl : ∀ i, i < a.heap.size → L i → L' i ∨ BookT a i) : BChg mb L' a b :=
  Chg.mono h (fun i hi hx => ⟨hx.1, by
    rcases hx.2 with h1 | h1
    · exact Or.inl h1
    · exact (hl i hi h1).symm⟩)
theorem BChg.of {mb : Nat} {L : Nat → Prop} {a b : World} {P : Nat → Prop} (h : Chg P a b) (hp : ∀ i, i < a.heap.size → P i → mb ≤ i ∧ (BookT a i ∨ L i)) : BChg mb L a b := Chg.mono h hp
theorem BChg.low {mb : Nat} {L : Nat → Prop} {a b : World} (h : BChg mb L a b) : Chg (fun b => mb ≤ b) a b := Chg.mono h (fun _ _ hx => hx.1)
/-- a list's block is none of the book's. -/
theorem row_notBook {w : World} {base : Nat} {e : TypeId} {size : Nat} {v : Value} {n : Nat} {xs : List Value} (h : w.ownsRow base e size v n xs) (he : e ≠ 58 ∧ e ≠ 26 ∧ e ≠ 32 ∧ e ≠ 33 ∧ e ≠ 34) : ∀ g, v.ownBlock = some g → ¬ BookT w g := by
  rintro g hg ⟨c, t, hb, ht⟩
  rcases h.2 with ⟨rfl, _⟩ | ⟨g1, c1, cur1, rfl, _, hb1, _⟩
  · cases hg
  have e1 : g1 = g := by simpa [Value.ownBlock] using hg
  subst e1
  rw [hb1] at hb
  cases hb
  rcases ht with h | h | h | h | h
  · exact he.1 h
  · exact he.2.1 h
  · exact he.2.2.1 h
  · exact he.2.2.2.1 h
  · exact he.2.2.2.2 h
theorem row_bchg {mb : Nat} {L : Nat → Prop} {w w' : World} {base : Nat} {e : TypeId} {size : Nat} {v : Value} {n : Nat} {xs : List Value} (h : w.ownsRow base e size v n xs) (hc : BChg mb L w w') (he : e ≠ 58 ∧ e ≠ 26 ∧ e ≠ 32 ∧ e ≠ 33 ∧ e ≠ 34) (hl : ∀ g, v.ownBlock = some g → ¬ L g) : w'.ownsRow base e size v n xs :=
  ownsRow_chg h hc (fun g hg hx => hx.2.elim (row_notBook h he g hg) (hl g hg))
/-- lists, all of whose elements are the marks of their places. -/
def MarkRows (w : World) (e : TypeId) (size : Nat) (x : Nat → List Value) (vs : List Value) : Prop := ∀ i (h : i < vs.length), ∃ L, w.ownsRow 0 e size vs[i] L (rep L (x (i / 4)))
theorem MarkRows.chg {w w' : World} {e : TypeId} {size : Nat} {x : Nat → List Value} {vs : List Value} {P : Nat → Prop} (h : MarkRows w e size x vs) (hc : Chg P w w') (hs : ∀ v ∈ vs, ∀ g, v.ownBlock = some g → ¬ P g) : MarkRows w' e size x vs := fun i hi => by
  obtain ⟨L, hL⟩ := h i hi
  exact ⟨L, ownsRow_chg hL hc (hs _ (List.getElem_mem hi))⟩
theorem MarkRows.bchg {mb : Nat} {L : Nat → Prop} {w w' : World} {e : TypeId} {size : Nat} {x : Nat → List Value} {vs : List Value} (h : MarkRows w e size x vs) (hc : BChg mb L w w') (he : e ≠ 58 ∧ e ≠ 26 ∧ e ≠ 32 ∧ e ≠ 33 ∧ e ≠ 34) (hl : ∀ v ∈ vs, ∀ g, v.ownBlock = some g → ¬ L g) : MarkRows w' e size x vs := fun i hi => by
  obtain ⟨K, hK⟩ := h i hi
  exact ⟨K, row_bchg hK hc he (hl _ (List.getElem_mem hi))⟩
/-- four more. -/
theorem MarkRows.four {w : World} {e : TypeId} {size : Nat} {x : Nat → List Value} {vs : List Value} (h : MarkRows w e size x vs) (h4 : vs.length % 4 = 0) {v0 v1 v2 v3 : Value} {n0 n1 n2 n3 : Nat} (q0 : w.ownsRow 0 e size v0 n0 (rep n0 (x (vs.length / 4)))) (q1 : w.ownsRow 0 e size v1 n1 (rep n1 (x (vs.length / 4)))) (q2 : w.ownsRow 0 e size v2 n2 (rep n2 (x (vs.length / 4)))) (q3 : w.ownsRow 0 e size v3 n3 (rep n3 (x (vs.length / 4)))) :
    MarkRows w e size x (vs ++ [v0, v1, v2, v3]) := fun i hi => by
  by_cases h1 : i < vs.length
  · rw [List.getElem_append_left h1]
    exact h i h1
  · have hl : (vs ++ [v0, v1, v2, v3]).length = vs.length + 4 := by simp
    rw [hl] at hi
    rw [List.getElem_append_right (by omega)]
    have e4 : i / 4 = vs.length / 4 := by omega
    rw [e4]
    have hc : i - vs.length = 0 ∨ i - vs.length = 1 ∨ i - vs.length = 2 ∨ i - vs.length = 3 := by omega
    rcases hc with hc | hc | hc | hc
    · simp only [hc]; exact ⟨n0, q0⟩
    · simp only [hc]; exact ⟨n1, q1⟩
    · simp only [hc]; exact ⟨n2, q2⟩
    · simp only [hc]; exact ⟨n3, q3⟩
def markA (k : Nat) : List Value := [.int .i64 0, .int .i64 (77 + k : Nat), .bool false, .string ⟨#[]⟩, .slice none 0 0, .slice none 0 0, .slice none 0 0]
def markI (k : Nat) : List Value := [.string (markS (77 + k)), .string ⟨#[]⟩]
def markD (k : Nat) : List Value := [.int .i64 (77 + k : Nat), .int .i64 0, .int .i64 0]
def markN (k : Nat) : List Value := [.int .i64 (77 + k : Nat)]
/-- The book. -/
structure Book where
  A : List Value
  aa : Option Addr
  ac : Nat
  I : List Value
  ia : Option Addr
  ic : Nat
  D : List Value
  da : Option Addr
  dc : Nat
  S : List Value
  sa : Option Addr
  sc : Nat
structure BookAt (w : World) (mb : Nat) (B : Book) : Prop where
  wb : w.heap[mb]? = some (.cells #[.slice B.aa B.A.length B.ac, .slice B.ia B.I.length B.ic, .slice B.da B.D.length B.dc, .slice B.sa B.S.length B.sc] 58)
  ar : w.ownsRow mb 26 1 (.slice B.aa B.A.length B.ac) B.A.length B.A
  ir : w.ownsRow mb 32 1 (.slice B.ia B.I.length B.ic) B.I.length B.I
  dr : w.ownsRow mb 33 1 (.slice B.da B.D.length B.dc) B.D.length B.D
  sr : w.ownsRow mb 34 1 (.slice B.sa B.S.length B.sc) B.S.length B.S
  am : MarkRows w 36 7 markA B.A
  im : MarkRows w 66 2 markI B.I
  dm : MarkRows w 44 3 markD B.D
  sm : MarkRows w 3 1 markN B.S
  a4 : B.A.length % 4 = 0
  i4 : B.I.length % 4 = 0
  d4 : B.D.length % 4 = 0
  s4 : B.S.length % 4 = 0
/-- what a change leaves, that touches nothing of the book. -/
theorem BookAt.keep {w w' : World} {mb : Nat} {B : Book} (h : BookAt w mb B) {P : Nat → Prop} (hc : Chg P w w') (hp : ∀ b, b < w.heap.size → P b → False) : BookAt w' mb B := by
  have hc' : Chg nobody w w' := hc.mono (fun b hb hx => hp b hb hx)
  exact ⟨(hc'.block _ (lt_of_block h.wb) (fun h => h)).trans h.wb, ownsRow_chg h.ar hc' (fun _ _ h => h), ownsRow_chg h.ir hc' (fun _ _ h => h), ownsRow_chg h.dr hc' (fun _ _ h => h), ownsRow_chg h.sr hc' (fun _ _ h => h), h.am.chg hc' (fun _ _ _ _ h => h), h.im.chg hc' (fun _ _ _ _ h => h), h.dm.chg hc' (fun _ _ _ _ h => h), h.sm.chg hc' (fun _ _ _ _ h => h), h.a4, h.i4, h.d4, h.s4⟩
theorem BookAt.bookT {w : World} {mb : Nat} {B : Book} (h : BookAt w mb B) : BookT w mb := ⟨_, _, h.wb, Or.inl rfl⟩
theorem row_bookT {w : World} {base : Nat} {e : TypeId} {size : Nat} {v : Value} {n : Nat} {xs : List Value} (h : w.ownsRow base e size v n xs) (he : e = 58 ∨ e = 26 ∨ e = 32 ∨ e = 33 ∨ e = 34) : ∀ g, v.ownBlock = some g → BookT w g := by
  intro g hg
  rcases h.2 with ⟨rfl, _⟩ | ⟨g1, c1, cur1, rfl, _, hb1, _⟩
  · cases hg
  have e1 : g1 = g := by simpa [Value.ownBlock] using hg
  subst e1
  exact ⟨_, _, hb1, he⟩
theorem row_off {w : World} {base b : Nat} {e t : TypeId} {size : Nat} {v : Value} {n : Nat} {xs : List Value} {c : Array Value} (h : w.ownsRow base e size v n xs) (hb : w.heap[b]? = some (.cells c t)) (he : e ≠ t) : v.ownBlock ≠ some b := by
  intro hg
  rcases h.2 with ⟨rfl, _⟩ | ⟨g1, c1, cur1, rfl, _, hb1, _⟩
  · cases hg
  have e1 : g1 = b := by simpa [Value.ownBlock] using hg
  subst e1
  rw [hb1] at hb
  cases hb
  exact he rfl
theorem rows_off {w : World} {base base' : Nat} {e e' : TypeId} {size size' : Nat} {v v' : Value} {n n' : Nat} {xs xs' : List Value} (h : w.ownsRow base e size v n xs) (h' : w.ownsRow base' e' size' v' n' xs') (he : e ≠ e') (g : Nat) (hg : v.ownBlock = some g) : v'.ownBlock ≠ some g := by
  intro hg'
  rcases h'.2 with ⟨rfl, _⟩ | ⟨g1, c1, cur1, rfl, _, hb1, _⟩
  · cases hg'
  have e1 : g1 = g := by simpa [Value.ownBlock] using hg'
  subst e1
  exact row_off h hb1 he hg
theorem marks_off {w : World} {e : TypeId} {size : Nat} {x : Nat → List Value} {vs : List Value} (h : MarkRows w e size x vs) {v : Value} (hv : v ∈ vs) : ∃ L xs, w.ownsRow 0 e size v L xs := by
  obtain ⟨i, hi, rfl⟩ := List.getElem_of_mem hv
  obtain ⟨L, hL⟩ := h i hi
  exact ⟨L, _, hL⟩
end Go.Proofs.YtkfjafndplmdkaaGreat
namespace Go.Proofs.YtkfjafndplmdkaaGreat
open Go.RowKit Go.Sort
/-- a piece of a list, written over. -/
def setL (ys : List Value) (q : Nat) (x : List Value) : List Value := ys.take q ++ x ++ ys.drop (q + x.length)
theorem setL_nil (ys : List Value) (q : Nat) : setL ys q [] = ys := by simp [setL]
theorem setL_cons (ys : List Value) (q : Nat) (a : Value) (x : List Value) (h : q < ys.length) : setL ys q (a :: x) = setL (ys.set q a) (q + 1) x := by
  unfold setL
  rw [List.take_add_one, List.take_set, List.getElem?_set_self h, List.drop_set_of_lt (by omega)]
  rw [List.set_eq_of_length_le (by rw [List.length_take]; omega)]
  simp only [List.length_cons, Option.toList_some, List.append_assoc, List.cons_append, List.nil_append]
  congr 3
  congr 1
  omega
theorem setL_len (ys : List Value) (q : Nat) (x : List Value) (h : q + x.length ≤ ys.length) : (setL ys q x).length = ys.length := by
  simp only [setL, List.length_append, List.length_take, List.length_drop]
  omega
theorem setL_take {ys x : List Value} {size j : Nat} (hx : x.length = size) (h : ys.take (j * size) = rep j x) : (setL ys (j * size) x).take ((j + 1) * size) = rep (j + 1) x := by
  have e : (j + 1) * size = j * size + size := Nat.succ_mul ..
  unfold setL
  rw [h, rep_add j 1]
  have e1 : rep 1 x = x := by simp [rep]
  rw [e1, e]
  rw [List.take_append_of_le_length (by rw [List.length_append, rep_len, hx]; omega)]
  exact List.take_of_length_le (by rw [List.length_append, rep_len, hx]; omega)
theorem row_setCell {w : World} {base g n cap q : Nat} {e : TypeId} {size : Nat} {xs : List Value} (h : w.ownsRow base e size (.slice (some ⟨g, 0, none⟩) n cap) n xs) (u : Value) : (w.setCell ⟨g, q, none⟩ u).ownsRow base e size (.slice (some ⟨g, 0, none⟩) n cap) n (xs.set q u) := by
  refine ⟨by rw [List.length_set]; exact h.1, ?_⟩
  rcases h.2 with ⟨e0, _⟩ | ⟨g', cap', cur, e0, hb, hg, h1, h2, h3, h4⟩
  · cases e0
  · cases e0
    refine Or.inr ⟨g, cap, _, rfl, hb, heap_setCell_same w g q cur e u hg, h1, h2, ?_, ?_⟩
    · simpa using h3
    · rw [← h4]
      simp [List.take_set]
theorem infoItems : (Tryz.prog.info? 32).map (fun i => (i.zero, i.size, i.bytes)) = some (some (.slice none 0 0), 1, 24) := by kernel_rfl
theorem row_sets2 {w : World} {base g n cap j : Nat} {e : TypeId} {ys : List Value} (h : w.ownsRow base e 2 (.slice (some ⟨g, 0, none⟩) n cap) n ys) (hj : j < n) (a b : Value) : ((w.setCell ⟨g, j * 2, none⟩ a).setCell ⟨g, j * 2 + 1, none⟩ b).ownsRow base e 2 (.slice (some ⟨g, 0, none⟩) n cap) n (setL ys (j * 2) [a, b]) := by
  have hl := h.1
  rw [setL_cons _ _ _ _ (by omega), setL_cons _ _ _ _ (by simp; omega), setL_nil]
  exact row_setCell (row_setCell h a) b
/-- what lies at the end of a list of marks' own writing. -/
def Filled (w wr : World) (mb n : Nat) (e : TypeId) (size : Nat) (l : Value) (x : List Value) (j : Nat) : Prop := (∃ ys, wr.ownsRow mb e size l n ys ∧ ys.take (j * size) = rep j x) ∧ Chg (fun b => l.ownBlock = some b) w wr
theorem Filled.all {w wr : World} {mb n : Nat} {e : TypeId} {size : Nat} {l : Value} {x : List Value} (h : Filled w wr mb n e size l x n) : wr.ownsRow mb e size l n (rep n x) := by
  obtain ⟨⟨ys, h1, h2⟩, _⟩ := h
  rw [List.take_of_length_le (by rw [h1.1]; exact Nat.le_refl _)] at h2
  rw [← h2]
  exact h1
theorem book_addI {w w6 : World} {mb n n0 n1 n2 n3 ic' : Nat} {l l1 l2 l3 : Value} {xs : List Value} {B : Book} {ia' : Option Addr} (h : BookAt w mb B) (hl : w.ownsRow mb 66 2 l n xs) (hap : ∀ v ∈ B.I, ∀ g, l.ownBlock = some g → v.ownBlock ≠ some g)
    (hc : Chg (fun b => b = mb ∨ (Value.slice B.ia B.I.length B.ic).ownBlock = some b ∨ l.ownBlock = some b) w w6)
    (hwb : w6.heap[mb]? = some (.cells #[.slice B.aa B.A.length B.ac, .slice ia' (B.I.length + 4) ic', .slice B.da B.D.length B.dc, .slice B.sa B.S.length B.sc] 58))
    (hir : w6.ownsRow mb 32 1 (.slice ia' (B.I.length + 4) ic') (B.I.length + 4) (B.I ++ [l, l1, l2, l3]))
    (q0 : w6.ownsRow 0 66 2 l n0 (rep n0 (markI (B.I.length / 4)))) (q1 : w6.ownsRow 0 66 2 l1 n1 (rep n1 (markI (B.I.length / 4)))) (q2 : w6.ownsRow 0 66 2 l2 n2 (rep n2 (markI (B.I.length / 4)))) (q3 : w6.ownsRow 0 66 2 l3 n3 (rep n3 (markI (B.I.length / 4)))) :
    BookAt w6 mb { B with I := B.I ++ [l, l1, l2, l3], ia := ia', ic := ic' } := by
  have hlen : (B.I ++ [l, l1, l2, l3]).length = B.I.length + 4 := by simp
  have keep : ∀ {e : TypeId} {size : Nat} {v : Value} {k : Nat} {ys : List Value} {base : Nat}, w.ownsRow base e size v k ys → e ≠ 58 → e ≠ 32 → (e = 66 → ∀ g, l.ownBlock = some g → v.ownBlock ≠ some g) → ∀ g, v.ownBlock = some g → ¬ (g = mb ∨ (Value.slice B.ia B.I.length B.ic).ownBlock = some g ∨ l.ownBlock = some g) := fun hr h1 h2 h3 g hg => by
    rintro (e | e | e)
    · exact row_off hr h.wb h1 (e ▸ hg)
    · exact rows_off hr h.ir h2 g hg e
    · rename_i ee _ _ _ _ _
      by_cases he : ee = 66
      · exact h3 he g e hg
      · exact rows_off hr hl he g hg e
  refine ⟨?_, ownsRow_chg h.ar hc (keep h.ar (by decide) (by decide) (fun e => absurd e (by decide))), ?_, ownsRow_chg h.dr hc (keep h.dr (by decide) (by decide) (fun e => absurd e (by decide))), ownsRow_chg h.sr hc (keep h.sr (by decide) (by decide) (fun e => absurd e (by decide))), ?_, ?_, ?_, ?_, h.a4, ?_, h.d4, h.s4⟩
  · show w6.heap[mb]? = some (.cells #[.slice B.aa B.A.length B.ac, .slice ia' (B.I ++ [l, l1, l2, l3]).length ic', .slice B.da B.D.length B.dc, .slice B.sa B.S.length B.sc] 58)
    rw [hlen]; exact hwb
  · show w6.ownsRow mb 32 1 (.slice ia' (B.I ++ [l, l1, l2, l3]).length ic') (B.I ++ [l, l1, l2, l3]).length (B.I ++ [l, l1, l2, l3])
    rw [hlen]; exact hir
  · exact h.am.chg hc (fun v hv => by obtain ⟨L, ys, hL⟩ := marks_off h.am hv; exact keep hL (by decide) (by decide) (fun e => absurd e (by decide)))
  · exact (h.im.chg hc (fun v hv => by obtain ⟨L, ys, hL⟩ := marks_off h.im hv; exact keep hL (by decide) (by decide) (fun _ => hap v hv))).four h.i4 q0 q1 q2 q3
  · exact h.dm.chg hc (fun v hv => by obtain ⟨L, ys, hL⟩ := marks_off h.dm hv; exact keep hL (by decide) (by decide) (fun e => absurd e (by decide)))
  · exact h.sm.chg hc (fun v hv => by obtain ⟨L, ys, hL⟩ := marks_off h.sm hv; exact keep hL (by decide) (by decide) (fun e => absurd e (by decide)))
  · show (B.I ++ [l, l1, l2, l3]).length % 4 = 0
    rw [hlen]; have := h.i4; omega
theorem row_form3 {w : World} {base : Nat} {e : TypeId} {k n : Nat} {v : Value} {xs : List Value} (h : w.ownsRow base e k v n xs) : ∃ a n c, v = .slice a n c := by
  obtain ⟨a, c, rfl⟩ := row_form h
  exact ⟨a, n, c, rfl⟩
theorem news_mark (w : World) (arr : Array Value) (t : TypeId) (m : Nat) (x : List Value) (h : arr.toList = rep m x) : ∀ j u, (rep m x)[j]? = some u → (w.alloc (.cells arr t)).cell? ((⟨w.heap.size, 0, none⟩ : Addr).add j) = some u := fun j u hu => by
  rw [← h] at hu
  exact cells_new w arr t j u (by simpa using hu)
theorem name_wz {P : Program} {c : Code} {Q : Exit → Act → World → Prop} {a : Act} {W : World} (K : ∀ wz, wz = W → Code.wp P c Q a wz) : Code.wp P c Q a W := K W rfl
theorem unfrozen_row {w : World} {base g n cap : Nat} {e : TypeId} {size : Nat} {xs : List Value} (h : w.ownsRow base e size (.slice (some ⟨g, 0, none⟩) n cap) n xs) (i : Nat) : w.frozen? ⟨g, i, none⟩ = false := by
  rcases h.2 with ⟨e0, _⟩ | ⟨g', cap', cur, e0, hb, hg, _⟩
  · cases e0
  · cases e0
    exact unfrozen_of hg i
set_option maxRecDepth 100000 in
set_option maxHeartbeats 4000000 in
theorem items_any (mb n : Nat) (l : Value) (xs : List Value) (B : Book) (w : World) (h : BookAt w mb B) (hl : w.ownsRow mb 66 2 l n xs) (hn : n ≤ 2000000) (hI : B.I.length ≤ 100000000) (hap : ∀ v ∈ B.I, ∀ g, l.ownBlock = some g → v.ownBlock ≠ some g) :
    Calls Tryz.prog 41 #[.pointer (some ⟨mb, 0, none⟩), l] w fun e w' => e = .returned (.tuple #[]) ∧ ∃ l1 l2 l3 ia' ic', BookAt w' mb { B with I := B.I ++ [l, l1, l2, l3], ia := ia', ic := ic' } ∧ (∀ v ∈ [l, l1, l2, l3], ∀ g, v.ownBlock = some g → l.ownBlock = some g ∨ w.heap.size ≤ g) ∧ BChg mb (fun b => l.ownBlock = some b) w w' := by
  obtain ⟨i0, hi, hz0, hz1, hz2⟩ := info_parts infoItem
  obtain ⟨j0, hj, hy0, hy1, hy2⟩ := info_parts infoItems
  obtain ⟨ad, cap, rfl⟩ := row_form hl
  have x1 := cell_of h.wb (i := 1) (v := .slice B.ia B.I.length B.ic) rfl
  have hml := lt_of_block h.wb
  have HH : Hid (BookAt w mb B ∧ w.ownsRow mb 66 2 (.slice ad n cap) n xs ∧ (∀ v ∈ B.I, ∀ g, (Value.slice ad n cap).ownBlock = some g → v.ownBlock ≠ some g)) := ⟨h, hl, hap⟩
  have HM := marked_any (77 + B.I.length / 4) w (by omega)
  have e77 : ((77 + B.I.length / 4 : Nat) : Int) = 77 + (B.I.length : Int) / 4 := by omega
  rw [e77] at HM
  have HX : Hid (markI (B.I.length / 4) = [.string (markS (77 + B.I.length / 4)), .string ⟨#[]⟩]) := rfl
  generalize markS (77 + B.I.length / 4) = s at HM HX
  clear h hl hap
  go_enter Tryz.func41, Tryz.ntmps41
  go_wp2_with (go_at_call 44; refine HM.mono ?_; rintro e w' ⟨rfl, hw'⟩; replace hw' := hw'.symm; subst hw')
  refine name_wz ?_
  intro w1 hw1
  have hc1 : Chg nobody w w1 := by rw [hw1]; exact (Chg.refl _ _).alloc _
  have bx : w1.heap[w.heap.size]? = some (.cells #[.string s, .string ⟨#[]⟩] 66) := by rw [hw1]; exact (MapKept.heap_alloc _ _).1
  have HZ : Hid (Chg nobody w w1 ∧ w1.heap[w.heap.size]? = some (.cells #[.string s, .string ⟨#[]⟩] 66)) := ⟨hc1, bx⟩
  clear hw1 hc1 bx x1 HM
  go_loopw [5] (fun i wr => ∃ j : Nat, j ≤ n ∧ i = .int .i64 j ∧ Filled w1 wr mb n 66 2 (.slice ad n cap) [.string s, .string ⟨#[]⟩] j) (fun i _ => n - (intOf i).toNat)
  case atStart => exact ⟨0, Nat.zero_le _, rfl, ⟨xs, ownsRow_chg HH.out.2.1 HZ.out.1 (fun _ _ h => h), by simp [rep]⟩, Chg.refl _ _⟩
  case round =>
    obtain ⟨j, hjn, rfl, hF⟩ := hrel
    have hlw : ∀ g, (Value.slice ad n cap).ownBlock = some g → g < w.heap.size := fun g e => (HH.out.2.1.lt g e).2
    have bx : wr.heap[w.heap.size]? = some (.cells #[.string s, .string ⟨#[]⟩] 66) := (hF.2.block _ (lt_of_block HZ.out.2) (fun e => by have := hlw _ e; omega)).trans HZ.out.2
    have y0 := cell_of bx (i := 0) (v := .string s) rfl
    have y1 := cell_of bx (i := 1) (v := .string ⟨#[]⟩) rfl
    by_cases hlt : j < n
    · obtain ⟨⟨ys, hrow, hys⟩, hc⟩ := hF
      obtain ⟨g, rfl, _, _, _, hcell⟩ := row_open hrow (by omega)
      have hyl := hrow.1
      have c0 := hcell (j * 2) _ (List.getElem?_eq_getElem (show j * 2 < ys.length by omega))
      have c1 := hcell (j * 2 + 1) _ (List.getElem?_eq_getElem (show j * 2 + 1 < ys.length by omega))
      have hf := fun i => unfrozen_row hrow i
      have hrow2 := row_sets2 hrow hlt (.string s) (.string ⟨#[]⟩)
      have hgw : g < w.heap.size := hlw g rfl
      have hne : g ≠ w.heap.size := by omega
      have HF2 : Hid (Filled w1 ((wr.setCell ⟨g, j * 2, none⟩ (.string s)).setCell ⟨g, j * 2 + 1, none⟩ (.string ⟨#[]⟩)) mb n 66 2 (.slice (some ⟨g, 0, none⟩) n cap) [.string s, .string ⟨#[]⟩] (j + 1)) := ⟨⟨_, hrow2, setL_take rfl hys⟩, Chg.setCell (p := ⟨g, j * 2 + 1, none⟩) (Chg.setCell (p := ⟨g, j * 2, none⟩) hc (Or.inl rfl) _) (Or.inl rfl) _⟩
      clear hrow hrow2 hc hcell hys bx
      go_wp2
      go_roundw
      case rel => exact ⟨j + 1, by omega, by go_num, HF2.out⟩
      case measure => simp [intOf]; omega
    · have hje : j = n := by omega
      subst hje
      have hrow := hF.all
      have hc0 := hF.2
      have H1X : Hid (∀ u ∈ ([.string s, .string ⟨#[]⟩] : List Value), u.oneCell' = true) := by intro u hu; simp only [List.mem_cons, List.not_mem_nil, or_false] at hu; rcases hu with rfl | rfl <;> rfl
      have hmw : mb ≤ wr.heap.size := by have := hc0.size; have := HZ.out.1.size; omega
      have HBK : Hid (∀ W, Chg (fun b => (Value.slice ad j cap).ownBlock = some b) w1 W → W.heap[w.heap.size]? = some (.cells #[.string s, .string ⟨#[]⟩] 66)) := fun W hc => (hc.block _ (lt_of_block HZ.out.2) (fun e => by have := hlw _ e; omega)).trans HZ.out.2
      have H4X : Hid (∀ v1 v2 v3 : Value, (∃ a n c, v1 = .slice a n c) → (∃ a n c, v2 = .slice a n c) → (∃ a n c, v3 = .slice a n c) → ∀ u ∈ ([.slice ad j cap, v1, v2, v3] : List Value), u.oneCell' = true) := by
        rintro _ _ _ ⟨a1, n1, c1, rfl⟩ ⟨a2, n2, c2, rfl⟩ ⟨a3, n3, c3, rfl⟩ u hu
        simp only [List.mem_cons, List.not_mem_nil, or_false] at hu
        rcases hu with rfl | rfl | rfl | rfl <;> rfl
      clear hF
      have HHI : Hid (∀ g, (Value.slice ad j cap).ownBlock = some g → ¬ BookT w g) := row_notBook HH.out.2.1 (by decide)
      have HMK : Hid (∀ W, Chg (fun b => (Value.slice ad j cap).ownBlock = some b) w1 W → W.heap[mb]? = w.heap[mb]?) := fun W hc => (hc.block _ (by have := HZ.out.1.size; omega) (fun e => HHI.out _ e HH.out.1.bookT)).trans (HZ.out.1.block _ hml (fun h => h))
      have HIK : Hid (∀ W, Chg (fun b => (Value.slice ad j cap).ownBlock = some b) w1 W → W.ownsRow mb 32 1 (.slice B.ia B.I.length B.ic) B.I.length B.I) := fun W hc => ownsRow_chg (ownsRow_chg HH.out.1.ir HZ.out.1 (fun _ _ h => h)) hc (fun g e e' => HHI.out g e' (row_bookT HH.out.1.ir (Or.inr (Or.inr (Or.inl rfl))) g e))
      have HC0 : Hid (Chg (fun b => (Value.slice ad j cap).ownBlock = some b) w1 wr) := hc0
      clear hc0 hlw bx
      go_wp2_with (at_builtin; first | (have hgd := hbr; clear hgd; refine wpList_append_where rfl _ _ 54 rfl mb 32 j0 (.slice none 0 0) 1 24 Tryz.underlying54 hj hy0 hy1 hy2 rfl (by decide) _ _ _ rfl (hbr.alloc _) ⟨w4.heap.size, 0, none⟩ 4 4 [.slice ad j cap, .slice a1 (j + 1) c1, .slice a2 (j + 2) c2, .slice a3 (j + 3) c3] rfl rfl (cells_new w4 #[.slice ad j cap, .slice a1 (j + 1) c1, .slice a2 (j + 2) c2, .slice a3 (j + 3) c3] 32) (H4X.out _ _ _ (row_form3 HV3.out.2.1) (row_form3 HV3.out.2.2.1) (row_form3 HV3.out.2.2.2.1)) (by unfold maxLen; omega) (by omega) (by simp; omega) ?_; intro v5 w5 hown5 hg5 hwh5; obtain ⟨ia', ic', rfl⟩ := row_form hown5; have b5 : w5.heap[mb]? = w4.heap[mb]? := (hg5.block mb (by simp; omega) (fun e => row_off hbr ((HMK.out w4 HC4.out).trans HH.out.1.wb) (by decide) e.symm)).trans (Below.heap_alloc _ _ _ hmw4); have b5' := b5.trans ((HMK.out w4 HC4.out).trans HH.out.1.wb); have n1 := cell_of b5' (i := 1) (v := .slice B.ia B.I.length B.ic) rfl; have nf := unfrozen_of b5' 1; have HN5 : Hid (w5.heap[mb]? = w.heap[mb]? ∧ w5.ownsRow mb 32 1 (.slice ia' (B.I.length + 4) ic') (B.I.length + 4) (B.I ++ [.slice ad j cap, .slice a1 (j + 1) c1, .slice a2 (j + 2) c2, .slice a3 (j + 3) c3]) ∧ (w4.alloc (.cells #[.slice ad j cap, .slice a1 (j + 1) c1, .slice a2 (j + 2) c2, .slice a3 (j + 3) c3] 32)).grownBy w5 (Value.slice B.ia B.I.length B.ic).ownBlock) := ⟨b5.trans (HMK.out w4 HC4.out), hown5, hg5⟩; clear b5 b5' hown5 hg5 hwh5 m1 mf) | (have hgd := hrow3; clear hgd; refine wpList_append_mark rfl _ _ 32 rfl mb 66 i0 (.agg #[.string ⟨#[]⟩, .string ⟨#[]⟩]) 2 32 Tryz.underlying32 hi hz0 hz1 hz2 rfl (by decide) _ _ [.string s, .string ⟨#[]⟩] rfl rfl (hrow3.alloc _) ⟨w3.heap.size, 0, none⟩ 3 3 rfl (news_mark w3 #[.string s, .string ⟨#[]⟩, .string s, .string ⟨#[]⟩, .string s, .string ⟨#[]⟩] 66 3 [.string s, .string ⟨#[]⟩] rfl) H1X.out (by unfold maxLen; omega) (by omega) (by simp; omega) ?_; intro v3 w4 hown hg hwh hall; obtain ⟨a3, c3, rfl⟩ := row_form hown; have HC3' : Chg (fun b => (Value.slice ad j cap).ownBlock = some b) w1 w4 := (HC3.out.alloc _).grown hg (fun k e => Or.inl e); have HC4 : Hid (Chg (fun b => (Value.slice ad j cap).ownBlock = some b) w1 w4) := HC3'; clear HC3'; have b4 := (HMK.out w4 HC4.out).trans HH.out.1.wb; have m1 := cell_of b4 (i := 1) (v := .slice B.ia B.I.length B.ic) rfl; have mf := unfrozen_of b4 1; have hbr := HIK.out w4 HC4.out; have HV3 : Hid (w4.ownsRow mb 66 2 (.slice ad j cap) j (rep j [.string s, .string ⟨#[]⟩]) ∧ w4.ownsRow mb 66 2 (.slice a1 (j + 1) c1) (j + 1) (rep (j + 1) [.string s, .string ⟨#[]⟩]) ∧ w4.ownsRow mb 66 2 (.slice a2 (j + 2) c2) (j + 2) (rep (j + 2) [.string s, .string ⟨#[]⟩]) ∧ w4.ownsRow mb 66 2 (.slice a3 (j + 3) c3) (j + 3) (rep (j + 3) [.string s, .string ⟨#[]⟩]) ∧ ((Value.slice a3 (j + 3) c3).ownBlock = (Value.slice ad j cap).ownBlock ∨ ∀ g, (Value.slice a3 (j + 3) c3).ownBlock = some g → w.heap.size ≤ g)) := ⟨hall _ _ _ (hrow3.alloc _), hall _ _ _ (HV2.out.1.alloc _), hall _ _ _ (HV2.out.2.1.alloc _), hown, hwh.imp id (fun e g e' => by rw [e] at e'; have := Option.some.inj e'; simp at this; have := HC3.out.size; have := HZ.out.1.size; omega)⟩; have hmw4 : mb < w4.heap.size := lt_of_block b4; clear b4 t0 t1 hown hg hwh hall hrow3) | (have hgd := hrow2; clear hgd; refine wpList_append_mark rfl _ _ 32 rfl mb 66 i0 (.agg #[.string ⟨#[]⟩, .string ⟨#[]⟩]) 2 32 Tryz.underlying32 hi hz0 hz1 hz2 rfl (by decide) _ _ [.string s, .string ⟨#[]⟩] rfl rfl (hrow2.alloc _) ⟨w2.heap.size, 0, none⟩ 2 2 rfl (news_mark w2 #[.string s, .string ⟨#[]⟩, .string s, .string ⟨#[]⟩] 66 2 [.string s, .string ⟨#[]⟩] rfl) H1X.out (by unfold maxLen; omega) (by omega) (by simp; omega) ?_; intro v2 w3 hown hg hwh hall; obtain ⟨a2, c2, rfl⟩ := row_form hown; have HC2' : Chg (fun b => (Value.slice ad j cap).ownBlock = some b) w1 w3 := (HC2.out.alloc _).grown hg (fun k e => Or.inl e); have HC3 : Hid (Chg (fun b => (Value.slice ad j cap).ownBlock = some b) w1 w3) := HC2'; clear HC2'; have b3 := HBK.out w3 HC3.out; have t0 := cell_of b3 (i := 0) (v := .string s) rfl; have t1 := cell_of b3 (i := 1) (v := .string ⟨#[]⟩) rfl; have hrow3 := hall _ _ _ (hrow2.alloc _); have HV2 : Hid (w3.ownsRow mb 66 2 (.slice a1 (j + 1) c1) (j + 1) (rep (j + 1) [.string s, .string ⟨#[]⟩]) ∧ w3.ownsRow mb 66 2 (.slice a2 (j + 2) c2) (j + 2) (rep (j + 2) [.string s, .string ⟨#[]⟩]) ∧ ((Value.slice a2 (j + 2) c2).ownBlock = (Value.slice ad j cap).ownBlock ∨ ∀ g, (Value.slice a2 (j + 2) c2).ownBlock = some g → w.heap.size ≤ g)) := ⟨hall _ _ _ (HV1.out.1.alloc _), hown, hwh.imp id (fun e g e' => by rw [e] at e'; have := Option.some.inj e'; simp at this; have := HC2.out.size; have := HZ.out.1.size; omega)⟩; have hmw3 : mb ≤ w3.heap.size := (by have := HC3.out.size; have := HZ.out.1.size; omega); clear b3 z0 z1 hown hg hwh hall hrow2) | (have hgd := hrow; clear hgd; refine wpList_append_mark rfl _ _ 32 rfl mb 66 i0 (.agg #[.string ⟨#[]⟩, .string ⟨#[]⟩]) 2 32 Tryz.underlying32 hi hz0 hz1 hz2 rfl (by decide) _ _ [.string s, .string ⟨#[]⟩] rfl rfl (hrow.alloc _) ⟨wr.heap.size, 0, none⟩ 1 1 rfl (news_mark wr #[.string s, .string ⟨#[]⟩] 66 1 [.string s, .string ⟨#[]⟩] rfl) H1X.out (by unfold maxLen; omega) (by omega) (by simp; omega) ?_; intro v1 w2 hown hg hwh hall; obtain ⟨a1, c1, rfl⟩ := row_form hown; have HC0' : Chg (fun b => (Value.slice ad j cap).ownBlock = some b) w1 w2 := (HC0.out.alloc _).grown hg (fun k e => Or.inl e); have HC2 : Hid (Chg (fun b => (Value.slice ad j cap).ownBlock = some b) w1 w2) := HC0'; clear HC0'; have b2 := HBK.out w2 HC2.out; have z0 := cell_of b2 (i := 0) (v := .string s) rfl; have z1 := cell_of b2 (i := 1) (v := .string ⟨#[]⟩) rfl; have hrow2 := hall _ _ _ (hrow.alloc _); have HV1 : Hid (w2.ownsRow mb 66 2 (.slice a1 (j + 1) c1) (j + 1) (rep (j + 1) [.string s, .string ⟨#[]⟩]) ∧ ((Value.slice a1 (j + 1) c1).ownBlock = (Value.slice ad j cap).ownBlock ∨ ∀ g, (Value.slice a1 (j + 1) c1).ownBlock = some g → w.heap.size ≤ g)) := ⟨hown, hwh.imp id (fun e g e' => by rw [e] at e'; have := Option.some.inj e'; simp at this; have := HC0.out.size; have := HZ.out.1.size; omega)⟩; have hmw2 : mb ≤ w2.heap.size := (by have := HC2.out.size; have := HZ.out.1.size; omega); clear b2 y0 y1 hown hg hwh hall hrow))
      go_end0
      obtain ⟨q0, q1, q2, q3, ho3⟩ := HV3.out
      obtain ⟨e5, hown5, hg5⟩ := HN5.out
      have hb5 := e5.trans HH.out.1.wb
      have c45 : Chg (fun b => (Value.slice B.ia B.I.length B.ic).ownBlock = some b) w4 w5 := ((Chg.refl _ _).alloc _).grown hg5 (fun k e => Or.inl e)
      have c56 : Chg (fun b => b = mb) w5 (w5.setCell ⟨mb, 1, none⟩ (.slice ia' (B.I.length + 4) ic')) := (Chg.refl (fun b => b = mb) w5).setCell (p := ⟨mb, 1, none⟩) (Or.inl rfl) _
      have hbr4 := HIK.out w4 HC4.out
      have lift : ∀ {v : Value} {K : Nat} {ys : List Value}, w4.ownsRow mb 66 2 v K ys → (w5.setCell ⟨mb, 1, none⟩ (.slice ia' (B.I.length + 4) ic')).ownsRow 0 66 2 v K ys := fun hq => by
        have r5 := ownsRow_chg hq c45 (fun g e e' => rows_off hq hbr4 (by decide) g e e')
        exact ownsRow_base (ownsRow_chg r5 c56 (fun g e e' => row_off r5 hb5 (by decide) (e' ▸ e))) (Nat.zero_le _)
      have hc6 : Chg (fun b => b = mb ∨ (Value.slice B.ia B.I.length B.ic).ownBlock = some b ∨ (Value.slice ad j cap).ownBlock = some b) w (w5.setCell ⟨mb, 1, none⟩ (.slice ia' (B.I.length + 4) ic')) := (((HZ.out.1.any _).trans (HC4.out.mono (fun _ _ h => Or.inr (Or.inr h)))).trans (c45.mono (fun _ _ h => Or.inr (Or.inl h)))).trans (c56.mono (fun _ _ h => Or.inl h))
      refine ⟨rfl, .slice a1 (j + 1) c1, .slice a2 (j + 2) c2, .slice a3 (j + 3) c3, ia', ic', book_addI (n0 := j) (n1 := j + 1) (n2 := j + 2) (n3 := j + 3) HH.out.1 HH.out.2.1 HH.out.2.2 hc6 (heap_setCell_same w5 mb 1 _ 58 _ hb5) (ownsRow_chg hown5 c56 (fun g e e' => row_off hown5 hb5 (by decide) (e' ▸ e))) (by rw [HX.out]; exact lift q0) (by rw [HX.out]; exact lift q1) (by rw [HX.out]; exact lift q2) (by rw [HX.out]; exact lift q3), ?_, ?_⟩
      · intro v hv g hg
        have one : ∀ {u : Value}, (u.ownBlock = (Value.slice ad j cap).ownBlock ∨ ∀ g, u.ownBlock = some g → w.heap.size ≤ g) → u.ownBlock = some g → (Value.slice ad j cap).ownBlock = some g ∨ w.heap.size ≤ g := fun h e => h.elim (fun h => Or.inl (h ▸ e)) (fun h => Or.inr (h g e))
        simp only [List.mem_cons, List.not_mem_nil, or_false] at hv
        rcases hv with rfl | rfl | rfl | rfl
        · exact Or.inl hg
        · exact one HV1.out.2 hg
        · exact one HV2.out.2.2 hg
        · exact one ho3 hg
      · refine BChg.of hc6 (fun b _ hb => ?_)
        rcases hb with hb | hb | hb
        · rw [hb]; exact ⟨Nat.le_refl _, Or.inl HH.out.1.bookT⟩
        · exact ⟨(HH.out.1.ir.lt b hb).1, Or.inl (row_bookT HH.out.1.ir (Or.inr (Or.inr (Or.inl rfl))) b hb)⟩
        · exact ⟨(HH.out.2.1.lt b hb).1, Or.inr hb⟩
end Go.Proofs.YtkfjafndplmdkaaGreat
namespace Go.Proofs.YtkfjafndplmdkaaGreat
open Go.RowKit Go.Sort
theorem infoDecs : (Tryz.prog.info? 33).map (fun i => (i.zero, i.size, i.bytes)) = some (some (.slice none 0 0), 1, 24) := by kernel_rfl
theorem row_sets3 {w : World} {base g n cap j : Nat} {e : TypeId} {ys : List Value} (h : w.ownsRow base e 3 (.slice (some ⟨g, 0, none⟩) n cap) n ys) (hj : j < n) (u0 u1 u2 : Value) : (((w.setCell ⟨g, j * 3, none⟩ u0).setCell ⟨g, j * 3 + 1, none⟩ u1).setCell ⟨g, j * 3 + 2, none⟩ u2).ownsRow base e 3 (.slice (some ⟨g, 0, none⟩) n cap) n (setL ys (j * 3) [u0, u1, u2]) := by
  have hl := h.1
  rw [setL_cons _ _ _ _ (by first | omega | (simp; omega)), setL_cons _ _ _ _ (by first | omega | (simp; omega)), setL_cons _ _ _ _ (by first | omega | (simp; omega)), setL_nil]
  exact row_setCell (row_setCell (row_setCell (h) u0) u1) u2
theorem book_addD {w w6 : World} {mb n n0 n1 n2 n3 ic' : Nat} {l l1 l2 l3 : Value} {xs : List Value} {B : Book} {ia' : Option Addr} (h : BookAt w mb B) (hl : w.ownsRow mb 44 3 l n xs) (hap : ∀ v ∈ B.D, ∀ g, l.ownBlock = some g → v.ownBlock ≠ some g)
    (hc : Chg (fun b => b = mb ∨ (Value.slice B.da B.D.length B.dc).ownBlock = some b ∨ l.ownBlock = some b) w w6)
    (hwb : w6.heap[mb]? = some (.cells #[.slice B.aa B.A.length B.ac, .slice B.ia B.I.length B.ic, .slice ia' (B.D.length + 4) ic', .slice B.sa B.S.length B.sc] 58))
    (hir : w6.ownsRow mb 33 1 (.slice ia' (B.D.length + 4) ic') (B.D.length + 4) (B.D ++ [l, l1, l2, l3]))
    (q0 : w6.ownsRow 0 44 3 l n0 (rep n0 (markD (B.D.length / 4)))) (q1 : w6.ownsRow 0 44 3 l1 n1 (rep n1 (markD (B.D.length / 4)))) (q2 : w6.ownsRow 0 44 3 l2 n2 (rep n2 (markD (B.D.length / 4)))) (q3 : w6.ownsRow 0 44 3 l3 n3 (rep n3 (markD (B.D.length / 4)))) :
    BookAt w6 mb { B with D := B.D ++ [l, l1, l2, l3], da := ia', dc := ic' } := by
  have hlen : (B.D ++ [l, l1, l2, l3]).length = B.D.length + 4 := by simp
  have keep : ∀ {e : TypeId} {size : Nat} {v : Value} {k : Nat} {ys : List Value} {base : Nat}, w.ownsRow base e size v k ys → e ≠ 58 → e ≠ 33 → (e = 44 → ∀ g, l.ownBlock = some g → v.ownBlock ≠ some g) → ∀ g, v.ownBlock = some g → ¬ (g = mb ∨ (Value.slice B.da B.D.length B.dc).ownBlock = some g ∨ l.ownBlock = some g) := fun hr h1 h2 h3 g hg => by
    rintro (e | e | e)
    · exact row_off hr h.wb h1 (e ▸ hg)
    · exact rows_off hr h.dr h2 g hg e
    · rename_i ee _ _ _ _ _
      by_cases he : ee = 44
      · exact h3 he g e hg
      · exact rows_off hr hl he g hg e
  refine ⟨?_, ownsRow_chg h.ar hc (keep h.ar (by decide) (by decide) (fun e => absurd e (by decide))), ownsRow_chg h.ir hc (keep h.ir (by decide) (by decide) (fun e => absurd e (by decide))), ?_, ownsRow_chg h.sr hc (keep h.sr (by decide) (by decide) (fun e => absurd e (by decide))), ?_, ?_, ?_, ?_, h.a4, h.i4, ?_, h.s4⟩
  · show w6.heap[mb]? = some (.cells #[.slice B.aa B.A.length B.ac, .slice B.ia B.I.length B.ic, .slice ia' (B.D ++ [l, l1, l2, l3]).length ic', .slice B.sa B.S.length B.sc] 58)
    rw [hlen]; exact hwb
  · show w6.ownsRow mb 33 1 (.slice ia' (B.D ++ [l, l1, l2, l3]).length ic') (B.D ++ [l, l1, l2, l3]).length (B.D ++ [l, l1, l2, l3])
    rw [hlen]; exact hir
  · exact h.am.chg hc (fun v hv => by obtain ⟨L, ys, hL⟩ := marks_off h.am hv; exact keep hL (by decide) (by decide) (fun e => absurd e (by decide)))
  · exact h.im.chg hc (fun v hv => by obtain ⟨L, ys, hL⟩ := marks_off h.im hv; exact keep hL (by decide) (by decide) (fun e => absurd e (by decide)))
  · exact (h.dm.chg hc (fun v hv => by obtain ⟨L, ys, hL⟩ := marks_off h.dm hv; exact keep hL (by decide) (by decide) (fun _ => hap v hv))).four h.d4 q0 q1 q2 q3
  · exact h.sm.chg hc (fun v hv => by obtain ⟨L, ys, hL⟩ := marks_off h.sm hv; exact keep hL (by decide) (by decide) (fun e => absurd e (by decide)))
  · show (B.D ++ [l, l1, l2, l3]).length % 4 = 0
    rw [hlen]; have := h.d4; omega
set_option maxRecDepth 100000 in
set_option maxHeartbeats 4000000 in
theorem done_any (mb n : Nat) (l : Value) (xs : List Value) (B : Book) (w : World) (h : BookAt w mb B) (hl : w.ownsRow mb 44 3 l n xs) (hn : n ≤ 2000000) (hI : B.D.length ≤ 100000000) (hap : ∀ v ∈ B.D, ∀ g, l.ownBlock = some g → v.ownBlock ≠ some g) :
    Calls Tryz.prog 42 #[.pointer (some ⟨mb, 0, none⟩), l] w fun e w' => e = .returned (.tuple #[]) ∧ ∃ l1 l2 l3 ia' ic', BookAt w' mb { B with D := B.D ++ [l, l1, l2, l3], da := ia', dc := ic' } ∧ (∀ v ∈ [l, l1, l2, l3], ∀ g, v.ownBlock = some g → l.ownBlock = some g ∨ w.heap.size ≤ g) ∧ BChg mb (fun b => l.ownBlock = some b) w w' := by
  obtain ⟨i0, hi, hz0, hz1, hz2⟩ := info_parts infoDec
  obtain ⟨j0, hj, hy0, hy1, hy2⟩ := info_parts infoDecs
  obtain ⟨ad, cap, rfl⟩ := row_form hl
  have x1 := cell_of h.wb (i := 2) (v := .slice B.da B.D.length B.dc) rfl
  have hml := lt_of_block h.wb
  have HH : Hid (BookAt w mb B ∧ w.ownsRow mb 44 3 (.slice ad n cap) n xs ∧ (∀ v ∈ B.D, ∀ g, (Value.slice ad n cap).ownBlock = some g → v.ownBlock ≠ some g)) := ⟨h, hl, hap⟩
  have e77 : ((77 + B.D.length / 4 : Nat) : Int) = 77 + (B.D.length : Int) / 4 := by omega
  have HX : Hid (markD (B.D.length / 4) = [.int .i64 (77 + (B.D.length : Int) / 4), .int .i64 0, .int .i64 0]) := by
    show markD (B.D.length / 4) = _
    unfold markD
    rw [e77]
  clear h hl hap
  go_enter Tryz.func42, Tryz.ntmps42
  go_wp2_with fail
  refine name_wz ?_
  intro w1 hw1
  have hc1 : Chg nobody w w1 := by rw [hw1]; exact (Chg.refl _ _).alloc _
  have bx : w1.heap[w.heap.size]? = some (.cells #[.int .i64 (77 + (B.D.length : Int) / 4), .int .i64 0, .int .i64 0] 44) := by rw [hw1]; exact (MapKept.heap_alloc _ _).1
  have HZ : Hid (Chg nobody w w1 ∧ w1.heap[w.heap.size]? = some (.cells #[.int .i64 (77 + (B.D.length : Int) / 4), .int .i64 0, .int .i64 0] 44)) := ⟨hc1, bx⟩
  clear hw1 hc1 bx x1
  go_loopw [5] (fun i wr => ∃ j : Nat, j ≤ n ∧ i = .int .i64 j ∧ Filled w1 wr mb n 44 3 (.slice ad n cap) [.int .i64 (77 + (B.D.length : Int) / 4), .int .i64 0, .int .i64 0] j) (fun i _ => n - (intOf i).toNat)
  case atStart => exact ⟨0, Nat.zero_le _, rfl, ⟨xs, ownsRow_chg HH.out.2.1 HZ.out.1 (fun _ _ h => h), by simp [rep]⟩, Chg.refl _ _⟩
  case round =>
    obtain ⟨j, hjn, rfl, hF⟩ := hrel
    have hlw : ∀ g, (Value.slice ad n cap).ownBlock = some g → g < w.heap.size := fun g e => (HH.out.2.1.lt g e).2
    have bx : wr.heap[w.heap.size]? = some (.cells #[.int .i64 (77 + (B.D.length : Int) / 4), .int .i64 0, .int .i64 0] 44) := (hF.2.block _ (lt_of_block HZ.out.2) (fun e => by have := hlw _ e; omega)).trans HZ.out.2
    have y0 := cell_of bx (i := 0) (v := .int .i64 (77 + (B.D.length : Int) / 4)) rfl
    have y1 := cell_of bx (i := 1) (v := .int .i64 0) rfl
    have y2 := cell_of bx (i := 2) (v := .int .i64 0) rfl
    by_cases hlt : j < n
    · obtain ⟨⟨ys, hrow, hys⟩, hc⟩ := hF
      obtain ⟨g, rfl, _, _, _, hcell⟩ := row_open hrow (by omega)
      have hyl := hrow.1
      have c0 := hcell (j * 3) _ (List.getElem?_eq_getElem (show j * 3 < ys.length by omega))
      have c1 := hcell (j * 3 + 1) _ (List.getElem?_eq_getElem (show j * 3 + 1 < ys.length by omega))
      have c2 := hcell (j * 3 + 2) _ (List.getElem?_eq_getElem (show j * 3 + 2 < ys.length by omega))
      have hf := fun i => unfrozen_row hrow i
      have hrow2 := row_sets3 hrow hlt (.int .i64 (77 + (B.D.length : Int) / 4)) (.int .i64 0) (.int .i64 0)
      have hgw : g < w.heap.size := hlw g rfl
      have hne : g ≠ w.heap.size := by omega
      have HF2 : Hid (Filled w1 (((wr.setCell ⟨g, j * 3, none⟩ (.int .i64 (77 + (B.D.length : Int) / 4))).setCell ⟨g, j * 3 + 1, none⟩ (.int .i64 0)).setCell ⟨g, j * 3 + 2, none⟩ (.int .i64 0)) mb n 44 3 (.slice (some ⟨g, 0, none⟩) n cap) [.int .i64 (77 + (B.D.length : Int) / 4), .int .i64 0, .int .i64 0] (j + 1)) := ⟨⟨_, hrow2, setL_take rfl hys⟩, Chg.setCell (p := ⟨g, j * 3 + 2, none⟩) (Chg.setCell (p := ⟨g, j * 3 + 1, none⟩) (Chg.setCell (p := ⟨g, j * 3, none⟩) (hc) (Or.inl rfl) _) (Or.inl rfl) _) (Or.inl rfl) _⟩
      clear hrow hrow2 hc hcell hys bx
      go_wp2
      go_roundw
      case rel => exact ⟨j + 1, by omega, by go_num, HF2.out⟩
      case measure => simp [intOf]; omega
    · have hje : j = n := by omega
      subst hje
      have hrow := hF.all
      have hc0 := hF.2
      have H1X : Hid (∀ u ∈ ([.int .i64 (77 + (B.D.length : Int) / 4), .int .i64 0, .int .i64 0] : List Value), u.oneCell' = true) := by intro u hu; simp only [List.mem_cons, List.not_mem_nil, or_false] at hu; rcases hu with rfl | rfl | rfl <;> rfl
      have hmw : mb ≤ wr.heap.size := by have := hc0.size; have := HZ.out.1.size; omega
      have HBK : Hid (∀ W, Chg (fun b => (Value.slice ad j cap).ownBlock = some b) w1 W → W.heap[w.heap.size]? = some (.cells #[.int .i64 (77 + (B.D.length : Int) / 4), .int .i64 0, .int .i64 0] 44)) := fun W hc => (hc.block _ (lt_of_block HZ.out.2) (fun e => by have := hlw _ e; omega)).trans HZ.out.2
      have H4X : Hid (∀ v1 v2 v3 : Value, (∃ a n c, v1 = .slice a n c) → (∃ a n c, v2 = .slice a n c) → (∃ a n c, v3 = .slice a n c) → ∀ u ∈ ([.slice ad j cap, v1, v2, v3] : List Value), u.oneCell' = true) := by
        rintro _ _ _ ⟨a1, n1, c1, rfl⟩ ⟨a2, n2, c2, rfl⟩ ⟨a3, n3, c3, rfl⟩ u hu
        simp only [List.mem_cons, List.not_mem_nil, or_false] at hu
        rcases hu with rfl | rfl | rfl | rfl <;> rfl
      clear hF
      have HHI : Hid (∀ g, (Value.slice ad j cap).ownBlock = some g → ¬ BookT w g) := row_notBook HH.out.2.1 (by decide)
      have HMK : Hid (∀ W, Chg (fun b => (Value.slice ad j cap).ownBlock = some b) w1 W → W.heap[mb]? = w.heap[mb]?) := fun W hc => (hc.block _ (by have := HZ.out.1.size; omega) (fun e => HHI.out _ e HH.out.1.bookT)).trans (HZ.out.1.block _ hml (fun h => h))
      have HIK : Hid (∀ W, Chg (fun b => (Value.slice ad j cap).ownBlock = some b) w1 W → W.ownsRow mb 33 1 (.slice B.da B.D.length B.dc) B.D.length B.D) := fun W hc => ownsRow_chg (ownsRow_chg HH.out.1.dr HZ.out.1 (fun _ _ h => h)) hc (fun g e e' => HHI.out g e' (row_bookT HH.out.1.dr (Or.inr (Or.inr (Or.inr (Or.inl rfl)))) g e))
      have HC0 : Hid (Chg (fun b => (Value.slice ad j cap).ownBlock = some b) w1 wr) := hc0
      clear hc0 hlw bx
      go_wp2_with (at_builtin; first | (have hgd := hbr; clear hgd; refine wpList_append_where rfl _ _ 55 rfl mb 33 j0 (.slice none 0 0) 1 24 Tryz.underlying55 hj hy0 hy1 hy2 rfl (by decide) _ _ _ rfl (hbr.alloc _) ⟨w4.heap.size, 0, none⟩ 4 4 [.slice ad j cap, .slice a1 (j + 1) c1, .slice a2 (j + 2) c2, .slice a3 (j + 3) c3] rfl rfl (cells_new w4 #[.slice ad j cap, .slice a1 (j + 1) c1, .slice a2 (j + 2) c2, .slice a3 (j + 3) c3] 33) (H4X.out _ _ _ (row_form3 HV3.out.2.1) (row_form3 HV3.out.2.2.1) (row_form3 HV3.out.2.2.2.1)) (by unfold maxLen; omega) (by omega) (by simp; omega) ?_; intro v5 w5 hown5 hg5 hwh5; obtain ⟨ia', ic', rfl⟩ := row_form hown5; have b5 : w5.heap[mb]? = w4.heap[mb]? := (hg5.block mb (by simp; omega) (fun e => row_off hbr ((HMK.out w4 HC4.out).trans HH.out.1.wb) (by decide) e.symm)).trans (Below.heap_alloc _ _ _ hmw4); have b5' := b5.trans ((HMK.out w4 HC4.out).trans HH.out.1.wb); have n1 := cell_of b5' (i := 2) (v := .slice B.da B.D.length B.dc) rfl; have nf := unfrozen_of b5' 2; have HN5 : Hid (w5.heap[mb]? = w.heap[mb]? ∧ w5.ownsRow mb 33 1 (.slice ia' (B.D.length + 4) ic') (B.D.length + 4) (B.D ++ [.slice ad j cap, .slice a1 (j + 1) c1, .slice a2 (j + 2) c2, .slice a3 (j + 3) c3]) ∧ (w4.alloc (.cells #[.slice ad j cap, .slice a1 (j + 1) c1, .slice a2 (j + 2) c2, .slice a3 (j + 3) c3] 33)).grownBy w5 (Value.slice B.da B.D.length B.dc).ownBlock) := ⟨b5.trans (HMK.out w4 HC4.out), hown5, hg5⟩; clear b5 b5' hown5 hg5 hwh5 m1 mf) | (have hgd := hrow3; clear hgd; refine wpList_append_mark rfl _ _ 33 rfl mb 44 i0 (.agg #[.int .i64 0, .int .i64 0, .int .i64 0]) 3 24 Tryz.underlying33 hi hz0 hz1 hz2 rfl (by decide) _ _ [.int .i64 (77 + (B.D.length : Int) / 4), .int .i64 0, .int .i64 0] rfl rfl (hrow3.alloc _) ⟨w3.heap.size, 0, none⟩ 3 3 rfl (news_mark w3 #[.int .i64 (77 + (B.D.length : Int) / 4), .int .i64 0, .int .i64 0, .int .i64 (77 + (B.D.length : Int) / 4), .int .i64 0, .int .i64 0, .int .i64 (77 + (B.D.length : Int) / 4), .int .i64 0, .int .i64 0] 44 3 [.int .i64 (77 + (B.D.length : Int) / 4), .int .i64 0, .int .i64 0] rfl) H1X.out (by unfold maxLen; omega) (by omega) (by simp; omega) ?_; intro v3 w4 hown hg hwh hall; obtain ⟨a3, c3, rfl⟩ := row_form hown; have HC3' : Chg (fun b => (Value.slice ad j cap).ownBlock = some b) w1 w4 := (HC3.out.alloc _).grown hg (fun k e => Or.inl e); have HC4 : Hid (Chg (fun b => (Value.slice ad j cap).ownBlock = some b) w1 w4) := HC3'; clear HC3'; have b4 := (HMK.out w4 HC4.out).trans HH.out.1.wb; have m1 := cell_of b4 (i := 2) (v := .slice B.da B.D.length B.dc) rfl; have mf := unfrozen_of b4 2; have hbr := HIK.out w4 HC4.out; have HV3 : Hid (w4.ownsRow mb 44 3 (.slice ad j cap) j (rep j [.int .i64 (77 + (B.D.length : Int) / 4), .int .i64 0, .int .i64 0]) ∧ w4.ownsRow mb 44 3 (.slice a1 (j + 1) c1) (j + 1) (rep (j + 1) [.int .i64 (77 + (B.D.length : Int) / 4), .int .i64 0, .int .i64 0]) ∧ w4.ownsRow mb 44 3 (.slice a2 (j + 2) c2) (j + 2) (rep (j + 2) [.int .i64 (77 + (B.D.length : Int) / 4), .int .i64 0, .int .i64 0]) ∧ w4.ownsRow mb 44 3 (.slice a3 (j + 3) c3) (j + 3) (rep (j + 3) [.int .i64 (77 + (B.D.length : Int) / 4), .int .i64 0, .int .i64 0]) ∧ ((Value.slice a3 (j + 3) c3).ownBlock = (Value.slice ad j cap).ownBlock ∨ ∀ g, (Value.slice a3 (j + 3) c3).ownBlock = some g → w.heap.size ≤ g)) := ⟨hall _ _ _ (hrow3.alloc _), hall _ _ _ (HV2.out.1.alloc _), hall _ _ _ (HV2.out.2.1.alloc _), hown, hwh.imp id (fun e g e' => by rw [e] at e'; have := Option.some.inj e'; simp at this; have := HC3.out.size; have := HZ.out.1.size; omega)⟩; have hmw4 : mb < w4.heap.size := lt_of_block b4; clear b4 t0 t1 t2 hown hg hwh hall hrow3) | (have hgd := hrow2; clear hgd; refine wpList_append_mark rfl _ _ 33 rfl mb 44 i0 (.agg #[.int .i64 0, .int .i64 0, .int .i64 0]) 3 24 Tryz.underlying33 hi hz0 hz1 hz2 rfl (by decide) _ _ [.int .i64 (77 + (B.D.length : Int) / 4), .int .i64 0, .int .i64 0] rfl rfl (hrow2.alloc _) ⟨w2.heap.size, 0, none⟩ 2 2 rfl (news_mark w2 #[.int .i64 (77 + (B.D.length : Int) / 4), .int .i64 0, .int .i64 0, .int .i64 (77 + (B.D.length : Int) / 4), .int .i64 0, .int .i64 0] 44 2 [.int .i64 (77 + (B.D.length : Int) / 4), .int .i64 0, .int .i64 0] rfl) H1X.out (by unfold maxLen; omega) (by omega) (by simp; omega) ?_; intro v2 w3 hown hg hwh hall; obtain ⟨a2, c2, rfl⟩ := row_form hown; have HC2' : Chg (fun b => (Value.slice ad j cap).ownBlock = some b) w1 w3 := (HC2.out.alloc _).grown hg (fun k e => Or.inl e); have HC3 : Hid (Chg (fun b => (Value.slice ad j cap).ownBlock = some b) w1 w3) := HC2'; clear HC2'; have b3 := HBK.out w3 HC3.out; have t0 := cell_of b3 (i := 0) (v := .int .i64 (77 + (B.D.length : Int) / 4)) rfl; have t1 := cell_of b3 (i := 1) (v := .int .i64 0) rfl; have t2 := cell_of b3 (i := 2) (v := .int .i64 0) rfl; have hrow3 := hall _ _ _ (hrow2.alloc _); have HV2 : Hid (w3.ownsRow mb 44 3 (.slice a1 (j + 1) c1) (j + 1) (rep (j + 1) [.int .i64 (77 + (B.D.length : Int) / 4), .int .i64 0, .int .i64 0]) ∧ w3.ownsRow mb 44 3 (.slice a2 (j + 2) c2) (j + 2) (rep (j + 2) [.int .i64 (77 + (B.D.length : Int) / 4), .int .i64 0, .int .i64 0]) ∧ ((Value.slice a2 (j + 2) c2).ownBlock = (Value.slice ad j cap).ownBlock ∨ ∀ g, (Value.slice a2 (j + 2) c2).ownBlock = some g → w.heap.size ≤ g)) := ⟨hall _ _ _ (HV1.out.1.alloc _), hown, hwh.imp id (fun e g e' => by rw [e] at e'; have := Option.some.inj e'; simp at this; have := HC2.out.size; have := HZ.out.1.size; omega)⟩; have hmw3 : mb ≤ w3.heap.size := (by have := HC3.out.size; have := HZ.out.1.size; omega); clear b3 z0 z1 z2 hown hg hwh hall hrow2) | (have hgd := hrow; clear hgd; refine wpList_append_mark rfl _ _ 33 rfl mb 44 i0 (.agg #[.int .i64 0, .int .i64 0, .int .i64 0]) 3 24 Tryz.underlying33 hi hz0 hz1 hz2 rfl (by decide) _ _ [.int .i64 (77 + (B.D.length : Int) / 4), .int .i64 0, .int .i64 0] rfl rfl (hrow.alloc _) ⟨wr.heap.size, 0, none⟩ 1 1 rfl (news_mark wr #[.int .i64 (77 + (B.D.length : Int) / 4), .int .i64 0, .int .i64 0] 44 1 [.int .i64 (77 + (B.D.length : Int) / 4), .int .i64 0, .int .i64 0] rfl) H1X.out (by unfold maxLen; omega) (by omega) (by simp; omega) ?_; intro v1 w2 hown hg hwh hall; obtain ⟨a1, c1, rfl⟩ := row_form hown; have HC0' : Chg (fun b => (Value.slice ad j cap).ownBlock = some b) w1 w2 := (HC0.out.alloc _).grown hg (fun k e => Or.inl e); have HC2 : Hid (Chg (fun b => (Value.slice ad j cap).ownBlock = some b) w1 w2) := HC0'; clear HC0'; have b2 := HBK.out w2 HC2.out; have z0 := cell_of b2 (i := 0) (v := .int .i64 (77 + (B.D.length : Int) / 4)) rfl; have z1 := cell_of b2 (i := 1) (v := .int .i64 0) rfl; have z2 := cell_of b2 (i := 2) (v := .int .i64 0) rfl; have hrow2 := hall _ _ _ (hrow.alloc _); have HV1 : Hid (w2.ownsRow mb 44 3 (.slice a1 (j + 1) c1) (j + 1) (rep (j + 1) [.int .i64 (77 + (B.D.length : Int) / 4), .int .i64 0, .int .i64 0]) ∧ ((Value.slice a1 (j + 1) c1).ownBlock = (Value.slice ad j cap).ownBlock ∨ ∀ g, (Value.slice a1 (j + 1) c1).ownBlock = some g → w.heap.size ≤ g)) := ⟨hown, hwh.imp id (fun e g e' => by rw [e] at e'; have := Option.some.inj e'; simp at this; have := HC0.out.size; have := HZ.out.1.size; omega)⟩; have hmw2 : mb ≤ w2.heap.size := (by have := HC2.out.size; have := HZ.out.1.size; omega); clear b2 y0 y1 y2 hown hg hwh hall hrow))
      go_end0
      obtain ⟨q0, q1, q2, q3, ho3⟩ := HV3.out
      obtain ⟨e5, hown5, hg5⟩ := HN5.out
      have hb5 := e5.trans HH.out.1.wb
      have c45 : Chg (fun b => (Value.slice B.da B.D.length B.dc).ownBlock = some b) w4 w5 := ((Chg.refl _ _).alloc _).grown hg5 (fun k e => Or.inl e)
      have c56 : Chg (fun b => b = mb) w5 (w5.setCell ⟨mb, 2, none⟩ (.slice ia' (B.D.length + 4) ic')) := (Chg.refl (fun b => b = mb) w5).setCell (p := ⟨mb, 2, none⟩) (Or.inl rfl) _
      have hbr4 := HIK.out w4 HC4.out
      have lift : ∀ {v : Value} {K : Nat} {ys : List Value}, w4.ownsRow mb 44 3 v K ys → (w5.setCell ⟨mb, 2, none⟩ (.slice ia' (B.D.length + 4) ic')).ownsRow 0 44 3 v K ys := fun hq => by
        have r5 := ownsRow_chg hq c45 (fun g e e' => rows_off hq hbr4 (by decide) g e e')
        exact ownsRow_base (ownsRow_chg r5 c56 (fun g e e' => row_off r5 hb5 (by decide) (e' ▸ e))) (Nat.zero_le _)
      have hc6 : Chg (fun b => b = mb ∨ (Value.slice B.da B.D.length B.dc).ownBlock = some b ∨ (Value.slice ad j cap).ownBlock = some b) w (w5.setCell ⟨mb, 2, none⟩ (.slice ia' (B.D.length + 4) ic')) := (((HZ.out.1.any _).trans (HC4.out.mono (fun _ _ h => Or.inr (Or.inr h)))).trans (c45.mono (fun _ _ h => Or.inr (Or.inl h)))).trans (c56.mono (fun _ _ h => Or.inl h))
      refine ⟨rfl, .slice a1 (j + 1) c1, .slice a2 (j + 2) c2, .slice a3 (j + 3) c3, ia', ic', book_addD (n0 := j) (n1 := j + 1) (n2 := j + 2) (n3 := j + 3) HH.out.1 HH.out.2.1 HH.out.2.2 hc6 (heap_setCell_same w5 mb 2 _ 58 _ hb5) (ownsRow_chg hown5 c56 (fun g e e' => row_off hown5 hb5 (by decide) (e' ▸ e))) (by rw [HX.out]; exact lift q0) (by rw [HX.out]; exact lift q1) (by rw [HX.out]; exact lift q2) (by rw [HX.out]; exact lift q3), ?_, ?_⟩
      · intro v hv g hg
        have one : ∀ {u : Value}, (u.ownBlock = (Value.slice ad j cap).ownBlock ∨ ∀ g, u.ownBlock = some g → w.heap.size ≤ g) → u.ownBlock = some g → (Value.slice ad j cap).ownBlock = some g ∨ w.heap.size ≤ g := fun h e => h.elim (fun h => Or.inl (h ▸ e)) (fun h => Or.inr (h g e))
        simp only [List.mem_cons, List.not_mem_nil, or_false] at hv
        rcases hv with rfl | rfl | rfl | rfl
        · exact Or.inl hg
        · exact one HV1.out.2 hg
        · exact one HV2.out.2.2 hg
        · exact one ho3 hg
      · refine BChg.of hc6 (fun b _ hb => ?_)
        rcases hb with hb | hb | hb
        · rw [hb]; exact ⟨Nat.le_refl _, Or.inl HH.out.1.bookT⟩
        · exact ⟨(HH.out.1.dr.lt b hb).1, Or.inl (row_bookT HH.out.1.dr (Or.inr (Or.inr (Or.inr (Or.inl rfl)))) b hb)⟩
        · exact ⟨(HH.out.2.1.lt b hb).1, Or.inr hb⟩
end Go.Proofs.YtkfjafndplmdkaaGreat
namespace Go.Proofs.YtkfjafndplmdkaaGreat
open Go.RowKit Go.Sort
theorem infoIntZ : (Tryz.prog.info? 3).map (fun i => (i.zero, i.size, i.bytes)) = some (some (.int .i64 0), 1, 8) := by kernel_rfl
theorem infoInts : (Tryz.prog.info? 34).map (fun i => (i.zero, i.size, i.bytes)) = some (some (.slice none 0 0), 1, 24) := by kernel_rfl
theorem row_sets1 {w : World} {base g n cap j : Nat} {e : TypeId} {ys : List Value} (h : w.ownsRow base e 1 (.slice (some ⟨g, 0, none⟩) n cap) n ys) (hj : j < n) (u0 : Value) : (w.setCell ⟨g, j * 1, none⟩ u0).ownsRow base e 1 (.slice (some ⟨g, 0, none⟩) n cap) n (setL ys (j * 1) [u0]) := by
  have hl := h.1
  rw [setL_cons _ _ _ _ (by first | omega | (simp; omega)), setL_nil]
  exact row_setCell (h) u0
theorem book_addS {w w6 : World} {mb n n0 n1 n2 n3 ic' : Nat} {l l1 l2 l3 : Value} {xs : List Value} {B : Book} {ia' : Option Addr} (h : BookAt w mb B) (hl : w.ownsRow mb 3 1 l n xs) (hap : ∀ v ∈ B.S, ∀ g, l.ownBlock = some g → v.ownBlock ≠ some g)
    (hc : Chg (fun b => b = mb ∨ (Value.slice B.sa B.S.length B.sc).ownBlock = some b ∨ l.ownBlock = some b) w w6)
    (hwb : w6.heap[mb]? = some (.cells #[.slice B.aa B.A.length B.ac, .slice B.ia B.I.length B.ic, .slice B.da B.D.length B.dc, .slice ia' (B.S.length + 4) ic'] 58))
    (hir : w6.ownsRow mb 34 1 (.slice ia' (B.S.length + 4) ic') (B.S.length + 4) (B.S ++ [l, l1, l2, l3]))
    (q0 : w6.ownsRow 0 3 1 l n0 (rep n0 (markN (B.S.length / 4)))) (q1 : w6.ownsRow 0 3 1 l1 n1 (rep n1 (markN (B.S.length / 4)))) (q2 : w6.ownsRow 0 3 1 l2 n2 (rep n2 (markN (B.S.length / 4)))) (q3 : w6.ownsRow 0 3 1 l3 n3 (rep n3 (markN (B.S.length / 4)))) :
    BookAt w6 mb { B with S := B.S ++ [l, l1, l2, l3], sa := ia', sc := ic' } := by
  have hlen : (B.S ++ [l, l1, l2, l3]).length = B.S.length + 4 := by simp
  have keep : ∀ {e : TypeId} {size : Nat} {v : Value} {k : Nat} {ys : List Value} {base : Nat}, w.ownsRow base e size v k ys → e ≠ 58 → e ≠ 34 → (e = 3 → ∀ g, l.ownBlock = some g → v.ownBlock ≠ some g) → ∀ g, v.ownBlock = some g → ¬ (g = mb ∨ (Value.slice B.sa B.S.length B.sc).ownBlock = some g ∨ l.ownBlock = some g) := fun hr h1 h2 h3 g hg => by
    rintro (e | e | e)
    · exact row_off hr h.wb h1 (e ▸ hg)
    · exact rows_off hr h.sr h2 g hg e
    · rename_i ee _ _ _ _ _
      by_cases he : ee = 3
      · exact h3 he g e hg
      · exact rows_off hr hl he g hg e
  refine ⟨?_, ownsRow_chg h.ar hc (keep h.ar (by decide) (by decide) (fun e => absurd e (by decide))), ownsRow_chg h.ir hc (keep h.ir (by decide) (by decide) (fun e => absurd e (by decide))), ownsRow_chg h.dr hc (keep h.dr (by decide) (by decide) (fun e => absurd e (by decide))), ?_, ?_, ?_, ?_, ?_, h.a4, h.i4, h.d4, ?_⟩
  · show w6.heap[mb]? = some (.cells #[.slice B.aa B.A.length B.ac, .slice B.ia B.I.length B.ic, .slice B.da B.D.length B.dc, .slice ia' (B.S ++ [l, l1, l2, l3]).length ic'] 58)
    rw [hlen]; exact hwb
  · show w6.ownsRow mb 34 1 (.slice ia' (B.S ++ [l, l1, l2, l3]).length ic') (B.S ++ [l, l1, l2, l3]).length (B.S ++ [l, l1, l2, l3])
    rw [hlen]; exact hir
  · exact h.am.chg hc (fun v hv => by obtain ⟨L, ys, hL⟩ := marks_off h.am hv; exact keep hL (by decide) (by decide) (fun e => absurd e (by decide)))
  · exact h.im.chg hc (fun v hv => by obtain ⟨L, ys, hL⟩ := marks_off h.im hv; exact keep hL (by decide) (by decide) (fun e => absurd e (by decide)))
  · exact h.dm.chg hc (fun v hv => by obtain ⟨L, ys, hL⟩ := marks_off h.dm hv; exact keep hL (by decide) (by decide) (fun e => absurd e (by decide)))
  · exact (h.sm.chg hc (fun v hv => by obtain ⟨L, ys, hL⟩ := marks_off h.sm hv; exact keep hL (by decide) (by decide) (fun _ => hap v hv))).four h.s4 q0 q1 q2 q3
  · show (B.S ++ [l, l1, l2, l3]).length % 4 = 0
    rw [hlen]; have := h.s4; omega
set_option maxRecDepth 100000 in
set_option maxHeartbeats 4000000 in
theorem sums_any (mb n : Nat) (l : Value) (xs : List Value) (B : Book) (w : World) (h : BookAt w mb B) (hl : w.ownsRow mb 3 1 l n xs) (hn : n ≤ 2000000) (hI : B.S.length ≤ 100000000) (hap : ∀ v ∈ B.S, ∀ g, l.ownBlock = some g → v.ownBlock ≠ some g) :
    Calls Tryz.prog 43 #[.pointer (some ⟨mb, 0, none⟩), l] w fun e w' => e = .returned (.tuple #[]) ∧ ∃ l1 l2 l3 ia' ic', BookAt w' mb { B with S := B.S ++ [l, l1, l2, l3], sa := ia', sc := ic' } ∧ (∀ v ∈ [l, l1, l2, l3], ∀ g, v.ownBlock = some g → l.ownBlock = some g ∨ w.heap.size ≤ g) ∧ BChg mb (fun b => l.ownBlock = some b) w w' := by
  obtain ⟨i0, hi, hz0, hz1, hz2⟩ := info_parts infoIntZ
  obtain ⟨j0, hj, hy0, hy1, hy2⟩ := info_parts infoInts
  obtain ⟨ad, cap, rfl⟩ := row_form hl
  have x1 := cell_of h.wb (i := 3) (v := .slice B.sa B.S.length B.sc) rfl
  have hml := lt_of_block h.wb
  have HH : Hid (BookAt w mb B ∧ w.ownsRow mb 3 1 (.slice ad n cap) n xs ∧ (∀ v ∈ B.S, ∀ g, (Value.slice ad n cap).ownBlock = some g → v.ownBlock ≠ some g)) := ⟨h, hl, hap⟩
  have e77 : ((77 + B.S.length / 4 : Nat) : Int) = 77 + (B.S.length : Int) / 4 := by omega
  have HX : Hid (markN (B.S.length / 4) = [.int .i64 (77 + (B.S.length : Int) / 4)]) := by
    show markN (B.S.length / 4) = _
    unfold markN
    rw [e77]
  clear h hl hap
  go_enter Tryz.func43, Tryz.ntmps43
  go_wp2_with fail
  refine name_wz ?_
  intro w1 hw1
  have hc1 : Chg nobody w w1 := by rw [hw1]; exact Chg.refl _ _
  have HZ : Hid (Chg nobody w w1 ∧ True) := ⟨hc1, trivial⟩
  clear hw1 hc1 x1
  go_loopw [5] (fun i wr => ∃ j : Nat, j ≤ n ∧ i = .int .i64 j ∧ Filled w1 wr mb n 3 1 (.slice ad n cap) [.int .i64 (77 + (B.S.length : Int) / 4)] j) (fun i _ => n - (intOf i).toNat)
  case atStart => exact ⟨0, Nat.zero_le _, rfl, ⟨xs, ownsRow_chg HH.out.2.1 HZ.out.1 (fun _ _ h => h), by simp [rep]⟩, Chg.refl _ _⟩
  case round =>
    obtain ⟨j, hjn, rfl, hF⟩ := hrel
    have hlw : ∀ g, (Value.slice ad n cap).ownBlock = some g → g < w.heap.size := fun g e => (HH.out.2.1.lt g e).2
    by_cases hlt : j < n
    · obtain ⟨⟨ys, hrow, hys⟩, hc⟩ := hF
      obtain ⟨g, rfl, _, _, _, hcell⟩ := row_open hrow (by omega)
      have hyl := hrow.1
      have c0 := hcell (j * 1) _ (List.getElem?_eq_getElem (show j * 1 < ys.length by omega))
      have hf := fun i => unfrozen_row hrow i
      have hrow2 := row_sets1 hrow hlt (.int .i64 (77 + (B.S.length : Int) / 4))
      have hgw : g < w.heap.size := hlw g rfl
      have hne : g ≠ w.heap.size := by omega
      have HF2 : Hid (Filled w1 (wr.setCell ⟨g, j * 1, none⟩ (.int .i64 (77 + (B.S.length : Int) / 4))) mb n 3 1 (.slice (some ⟨g, 0, none⟩) n cap) [.int .i64 (77 + (B.S.length : Int) / 4)] (j + 1)) := ⟨⟨_, hrow2, setL_take rfl hys⟩, Chg.setCell (p := ⟨g, j * 1, none⟩) (hc) (Or.inl rfl) _⟩
      simp only [Nat.mul_one] at c0 HF2
      clear hrow hrow2 hc hcell hys
      go_wp2
      go_roundw
      case rel => exact ⟨j + 1, by omega, by go_num, HF2.out⟩
      case measure => simp [intOf]; omega
    · have hje : j = n := by omega
      subst hje
      have hrow := hF.all
      have hc0 := hF.2
      have H1X : Hid (∀ u ∈ ([.int .i64 (77 + (B.S.length : Int) / 4)] : List Value), u.oneCell' = true) := by intro u hu; simp only [List.mem_cons, List.not_mem_nil, or_false] at hu; rw [hu]; rfl
      have hmw : mb ≤ wr.heap.size := by have := hc0.size; have := HZ.out.1.size; omega
      have H4X : Hid (∀ v1 v2 v3 : Value, (∃ a n c, v1 = .slice a n c) → (∃ a n c, v2 = .slice a n c) → (∃ a n c, v3 = .slice a n c) → ∀ u ∈ ([.slice ad j cap, v1, v2, v3] : List Value), u.oneCell' = true) := by
        rintro _ _ _ ⟨a1, n1, c1, rfl⟩ ⟨a2, n2, c2, rfl⟩ ⟨a3, n3, c3, rfl⟩ u hu
        simp only [List.mem_cons, List.not_mem_nil, or_false] at hu
        rcases hu with rfl | rfl | rfl | rfl <;> rfl
      clear hF
      have HHI : Hid (∀ g, (Value.slice ad j cap).ownBlock = some g → ¬ BookT w g) := row_notBook HH.out.2.1 (by decide)
      have HMK : Hid (∀ W, Chg (fun b => (Value.slice ad j cap).ownBlock = some b) w1 W → W.heap[mb]? = w.heap[mb]?) := fun W hc => (hc.block _ (by have := HZ.out.1.size; omega) (fun e => HHI.out _ e HH.out.1.bookT)).trans (HZ.out.1.block _ hml (fun h => h))
      have HIK : Hid (∀ W, Chg (fun b => (Value.slice ad j cap).ownBlock = some b) w1 W → W.ownsRow mb 34 1 (.slice B.sa B.S.length B.sc) B.S.length B.S) := fun W hc => ownsRow_chg (ownsRow_chg HH.out.1.sr HZ.out.1 (fun _ _ h => h)) hc (fun g e e' => HHI.out g e' (row_bookT HH.out.1.sr (Or.inr (Or.inr (Or.inr (Or.inr rfl)))) g e))
      have HC0 : Hid (Chg (fun b => (Value.slice ad j cap).ownBlock = some b) w1 wr) := hc0
      clear hc0 hlw
      go_wp2_with (at_builtin; first | (have hgd := hbr; clear hgd; refine wpList_append_where rfl _ _ 56 rfl mb 34 j0 (.slice none 0 0) 1 24 Tryz.underlying56 hj hy0 hy1 hy2 rfl (by decide) _ _ _ rfl (hbr.alloc _) ⟨w4.heap.size, 0, none⟩ 4 4 [.slice ad j cap, .slice a1 (j + 1) c1, .slice a2 (j + 2) c2, .slice a3 (j + 3) c3] rfl rfl (cells_new w4 #[.slice ad j cap, .slice a1 (j + 1) c1, .slice a2 (j + 2) c2, .slice a3 (j + 3) c3] 34) (H4X.out _ _ _ (row_form3 HV3.out.2.1) (row_form3 HV3.out.2.2.1) (row_form3 HV3.out.2.2.2.1)) (by unfold maxLen; omega) (by omega) (by simp; omega) ?_; intro v5 w5 hown5 hg5 hwh5; obtain ⟨ia', ic', rfl⟩ := row_form hown5; have b5 : w5.heap[mb]? = w4.heap[mb]? := (hg5.block mb (by simp; omega) (fun e => row_off hbr ((HMK.out w4 HC4.out).trans HH.out.1.wb) (by decide) e.symm)).trans (Below.heap_alloc _ _ _ hmw4); have b5' := b5.trans ((HMK.out w4 HC4.out).trans HH.out.1.wb); have n1 := cell_of b5' (i := 3) (v := .slice B.sa B.S.length B.sc) rfl; have nf := unfrozen_of b5' 3; have HN5 : Hid (w5.heap[mb]? = w.heap[mb]? ∧ w5.ownsRow mb 34 1 (.slice ia' (B.S.length + 4) ic') (B.S.length + 4) (B.S ++ [.slice ad j cap, .slice a1 (j + 1) c1, .slice a2 (j + 2) c2, .slice a3 (j + 3) c3]) ∧ (w4.alloc (.cells #[.slice ad j cap, .slice a1 (j + 1) c1, .slice a2 (j + 2) c2, .slice a3 (j + 3) c3] 34)).grownBy w5 (Value.slice B.sa B.S.length B.sc).ownBlock) := ⟨b5.trans (HMK.out w4 HC4.out), hown5, hg5⟩; clear b5 b5' hown5 hg5 hwh5 m1 mf) | (have hgd := hrow3; clear hgd; refine wpList_append_mark rfl _ _ 34 rfl mb 3 i0 (.int .i64 0) 1 8 Tryz.underlying34 hi hz0 hz1 hz2 rfl (by decide) _ _ [.int .i64 (77 + (B.S.length : Int) / 4)] rfl rfl (hrow3.alloc _) ⟨w3.heap.size, 0, none⟩ 3 3 rfl (news_mark w3 #[.int .i64 (77 + (B.S.length : Int) / 4), .int .i64 (77 + (B.S.length : Int) / 4), .int .i64 (77 + (B.S.length : Int) / 4)] 3 3 [.int .i64 (77 + (B.S.length : Int) / 4)] rfl) H1X.out (by unfold maxLen; omega) (by omega) (by simp; omega) ?_; intro v3 w4 hown hg hwh hall; obtain ⟨a3, c3, rfl⟩ := row_form hown; have HC3' : Chg (fun b => (Value.slice ad j cap).ownBlock = some b) w1 w4 := (HC3.out.alloc _).grown hg (fun k e => Or.inl e); have HC4 : Hid (Chg (fun b => (Value.slice ad j cap).ownBlock = some b) w1 w4) := HC3'; clear HC3'; have b4 := (HMK.out w4 HC4.out).trans HH.out.1.wb; have m1 := cell_of b4 (i := 3) (v := .slice B.sa B.S.length B.sc) rfl; have mf := unfrozen_of b4 3; have hbr := HIK.out w4 HC4.out; have HV3 : Hid (w4.ownsRow mb 3 1 (.slice ad j cap) j (rep j [.int .i64 (77 + (B.S.length : Int) / 4)]) ∧ w4.ownsRow mb 3 1 (.slice a1 (j + 1) c1) (j + 1) (rep (j + 1) [.int .i64 (77 + (B.S.length : Int) / 4)]) ∧ w4.ownsRow mb 3 1 (.slice a2 (j + 2) c2) (j + 2) (rep (j + 2) [.int .i64 (77 + (B.S.length : Int) / 4)]) ∧ w4.ownsRow mb 3 1 (.slice a3 (j + 3) c3) (j + 3) (rep (j + 3) [.int .i64 (77 + (B.S.length : Int) / 4)]) ∧ ((Value.slice a3 (j + 3) c3).ownBlock = (Value.slice ad j cap).ownBlock ∨ ∀ g, (Value.slice a3 (j + 3) c3).ownBlock = some g → w.heap.size ≤ g)) := ⟨hall _ _ _ (hrow3.alloc _), hall _ _ _ (HV2.out.1.alloc _), hall _ _ _ (HV2.out.2.1.alloc _), hown, hwh.imp id (fun e g e' => by rw [e] at e'; have := Option.some.inj e'; simp at this; have := HC3.out.size; have := HZ.out.1.size; omega)⟩; have hmw4 : mb < w4.heap.size := lt_of_block b4; clear b4 hown hg hwh hall hrow3) | (have hgd := hrow2; clear hgd; refine wpList_append_mark rfl _ _ 34 rfl mb 3 i0 (.int .i64 0) 1 8 Tryz.underlying34 hi hz0 hz1 hz2 rfl (by decide) _ _ [.int .i64 (77 + (B.S.length : Int) / 4)] rfl rfl (hrow2.alloc _) ⟨w2.heap.size, 0, none⟩ 2 2 rfl (news_mark w2 #[.int .i64 (77 + (B.S.length : Int) / 4), .int .i64 (77 + (B.S.length : Int) / 4)] 3 2 [.int .i64 (77 + (B.S.length : Int) / 4)] rfl) H1X.out (by unfold maxLen; omega) (by omega) (by simp; omega) ?_; intro v2 w3 hown hg hwh hall; obtain ⟨a2, c2, rfl⟩ := row_form hown; have HC2' : Chg (fun b => (Value.slice ad j cap).ownBlock = some b) w1 w3 := (HC2.out.alloc _).grown hg (fun k e => Or.inl e); have HC3 : Hid (Chg (fun b => (Value.slice ad j cap).ownBlock = some b) w1 w3) := HC2'; clear HC2'; have hrow3 := hall _ _ _ (hrow2.alloc _); have HV2 : Hid (w3.ownsRow mb 3 1 (.slice a1 (j + 1) c1) (j + 1) (rep (j + 1) [.int .i64 (77 + (B.S.length : Int) / 4)]) ∧ w3.ownsRow mb 3 1 (.slice a2 (j + 2) c2) (j + 2) (rep (j + 2) [.int .i64 (77 + (B.S.length : Int) / 4)]) ∧ ((Value.slice a2 (j + 2) c2).ownBlock = (Value.slice ad j cap).ownBlock ∨ ∀ g, (Value.slice a2 (j + 2) c2).ownBlock = some g → w.heap.size ≤ g)) := ⟨hall _ _ _ (HV1.out.1.alloc _), hown, hwh.imp id (fun e g e' => by rw [e] at e'; have := Option.some.inj e'; simp at this; have := HC2.out.size; have := HZ.out.1.size; omega)⟩; have hmw3 : mb ≤ w3.heap.size := (by have := HC3.out.size; have := HZ.out.1.size; omega); clear hown hg hwh hall hrow2) | (have hgd := hrow; clear hgd; refine wpList_append_mark rfl _ _ 34 rfl mb 3 i0 (.int .i64 0) 1 8 Tryz.underlying34 hi hz0 hz1 hz2 rfl (by decide) _ _ [.int .i64 (77 + (B.S.length : Int) / 4)] rfl rfl (hrow.alloc _) ⟨wr.heap.size, 0, none⟩ 1 1 rfl (news_mark wr #[.int .i64 (77 + (B.S.length : Int) / 4)] 3 1 [.int .i64 (77 + (B.S.length : Int) / 4)] rfl) H1X.out (by unfold maxLen; omega) (by omega) (by simp; omega) ?_; intro v1 w2 hown hg hwh hall; obtain ⟨a1, c1, rfl⟩ := row_form hown; have HC0' : Chg (fun b => (Value.slice ad j cap).ownBlock = some b) w1 w2 := (HC0.out.alloc _).grown hg (fun k e => Or.inl e); have HC2 : Hid (Chg (fun b => (Value.slice ad j cap).ownBlock = some b) w1 w2) := HC0'; clear HC0'; have hrow2 := hall _ _ _ (hrow.alloc _); have HV1 : Hid (w2.ownsRow mb 3 1 (.slice a1 (j + 1) c1) (j + 1) (rep (j + 1) [.int .i64 (77 + (B.S.length : Int) / 4)]) ∧ ((Value.slice a1 (j + 1) c1).ownBlock = (Value.slice ad j cap).ownBlock ∨ ∀ g, (Value.slice a1 (j + 1) c1).ownBlock = some g → w.heap.size ≤ g)) := ⟨hown, hwh.imp id (fun e g e' => by rw [e] at e'; have := Option.some.inj e'; simp at this; have := HC0.out.size; have := HZ.out.1.size; omega)⟩; have hmw2 : mb ≤ w2.heap.size := (by have := HC2.out.size; have := HZ.out.1.size; omega); clear hown hg hwh hall hrow))
      go_end0
      obtain ⟨q0, q1, q2, q3, ho3⟩ := HV3.out
      obtain ⟨e5, hown5, hg5⟩ := HN5.out
      have hb5 := e5.trans HH.out.1.wb
      have c45 : Chg (fun b => (Value.slice B.sa B.S.length B.sc).ownBlock = some b) w4 w5 := ((Chg.refl _ _).alloc _).grown hg5 (fun k e => Or.inl e)
      have c56 : Chg (fun b => b = mb) w5 (w5.setCell ⟨mb, 3, none⟩ (.slice ia' (B.S.length + 4) ic')) := (Chg.refl (fun b => b = mb) w5).setCell (p := ⟨mb, 3, none⟩) (Or.inl rfl) _
      have hbr4 := HIK.out w4 HC4.out
      have lift : ∀ {v : Value} {K : Nat} {ys : List Value}, w4.ownsRow mb 3 1 v K ys → (w5.setCell ⟨mb, 3, none⟩ (.slice ia' (B.S.length + 4) ic')).ownsRow 0 3 1 v K ys := fun hq => by
        have r5 := ownsRow_chg hq c45 (fun g e e' => rows_off hq hbr4 (by decide) g e e')
        exact ownsRow_base (ownsRow_chg r5 c56 (fun g e e' => row_off r5 hb5 (by decide) (e' ▸ e))) (Nat.zero_le _)
      have hc6 : Chg (fun b => b = mb ∨ (Value.slice B.sa B.S.length B.sc).ownBlock = some b ∨ (Value.slice ad j cap).ownBlock = some b) w (w5.setCell ⟨mb, 3, none⟩ (.slice ia' (B.S.length + 4) ic')) := (((HZ.out.1.any _).trans (HC4.out.mono (fun _ _ h => Or.inr (Or.inr h)))).trans (c45.mono (fun _ _ h => Or.inr (Or.inl h)))).trans (c56.mono (fun _ _ h => Or.inl h))
      refine ⟨rfl, .slice a1 (j + 1) c1, .slice a2 (j + 2) c2, .slice a3 (j + 3) c3, ia', ic', book_addS (n0 := j) (n1 := j + 1) (n2 := j + 2) (n3 := j + 3) HH.out.1 HH.out.2.1 HH.out.2.2 hc6 (heap_setCell_same w5 mb 3 _ 58 _ hb5) (ownsRow_chg hown5 c56 (fun g e e' => row_off hown5 hb5 (by decide) (e' ▸ e))) (by rw [HX.out]; exact lift q0) (by rw [HX.out]; exact lift q1) (by rw [HX.out]; exact lift q2) (by rw [HX.out]; exact lift q3), ?_, ?_⟩
      · intro v hv g hg
        have one : ∀ {u : Value}, (u.ownBlock = (Value.slice ad j cap).ownBlock ∨ ∀ g, u.ownBlock = some g → w.heap.size ≤ g) → u.ownBlock = some g → (Value.slice ad j cap).ownBlock = some g ∨ w.heap.size ≤ g := fun h e => h.elim (fun h => Or.inl (h ▸ e)) (fun h => Or.inr (h g e))
        simp only [List.mem_cons, List.not_mem_nil, or_false] at hv
        rcases hv with rfl | rfl | rfl | rfl
        · exact Or.inl hg
        · exact one HV1.out.2 hg
        · exact one HV2.out.2.2 hg
        · exact one ho3 hg
      · refine BChg.of hc6 (fun b _ hb => ?_)
        rcases hb with hb | hb | hb
        · rw [hb]; exact ⟨Nat.le_refl _, Or.inl HH.out.1.bookT⟩
        · exact ⟨(HH.out.1.sr.lt b hb).1, Or.inl (row_bookT HH.out.1.sr (Or.inr (Or.inr (Or.inr (Or.inr rfl)))) b hb)⟩
        · exact ⟨(HH.out.2.1.lt b hb).1, Or.inr hb⟩
end Go.Proofs.YtkfjafndplmdkaaGreat
