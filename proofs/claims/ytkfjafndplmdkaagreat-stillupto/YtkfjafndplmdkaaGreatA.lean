import Derived.Lib.Strings
namespace Go.Proofs.YtkfjafndplmdkaaGreat
/-- A step, as a value. -/
structure OpM where
  kind : Int
  t : Int
  key : ByteArray
  val : ByteArray
  n : Int
/-- A version. -/
structure Ver where
  key : ByteArray
  time : Int
  val : ByteArray
  gone : Bool
structure Dec where
  num : Int
  code : Int
  time : Int
structure AnsM where
  code : Int
  number : Int
  found : Bool
  value : ByteArray
  items : List (ByteArray × ByteArray)
  done : List Dec
  sums : List Int
abbrev errA (c : Int) : AnsM := ⟨c, 0, false, ⟨#[]⟩, [], [], []⟩
/-- A transaction, and all there is. -/
structure PT where
  start : Int
  ws : List Ver
  ks : List ByteArray
  ps : List ByteArray
structure PW where
  clock : Int
  L : List Ver
  ts : List PT
  q : List Int
  rows : List (ByteArray × Int)
  low : Int
def pk (pre k : ByteArray) : Bool := Lib.hasPrefix k.data.toList pre.data.toList
abbrev ltB (a b : ByteArray) : Prop := a.data.toList < b.data.toList
def Asc (l : List ByteArray) : Prop := l.Pairwise (fun a b => a.data.toList < b.data.toList)
theorem toList_inj {a b : ByteArray} (h : a.data.toList = b.data.toList) : a = b := by
  cases a; cases b
  simpa using h
def atM (L : List Ver) (key : ByteArray) (t : Int) : ByteArray × Bool := match L.reverse.find? (fun v => decide (v.key = key) && decide (v.time ≤ t)) with | some v => (v.val, !v.gone) | none => (⟨#[]⟩, false)
def seesM (ws L : List Ver) (start : Int) (key : ByteArray) : ByteArray × Bool := match ws.find? (fun v => decide (v.key = key)) with | some v => (v.val, !v.gone) | none => atM L key start
def lessK (l : List Ver) (key : ByteArray) : List Ver := l.filter (fun x => decide (x.key ≠ key))
def writeM (l : List Ver) (v : Ver) : List Ver := lessK l v.key ++ [v]
def itemR (ws L : List Ver) (t : Int) (k : ByteArray) : Option (ByteArray × ByteArray) := if (seesM ws L t k).2 then some (k, (seesM ws L t k).1) else none
def itemsR (ws L : List Ver) (t : Int) (K : List ByteArray) : List (ByteArray × ByteArray) := K.filterMap (itemR ws L t)
def KeysOf (all : List Ver) (pre : ByteArray) (K : List ByteArray) : Prop := Asc K ∧ ∀ x, x ∈ K ↔ ∃ v ∈ all, v.key = x ∧ pk pre x = true
def getV (p : ByteArray × Bool) : ByteArray := if p.2 then p.1 else ⟨#[]⟩
theorem asc_unique : ∀ {K K' : List ByteArray}, Asc K → Asc K' → (∀ x, x ∈ K ↔ x ∈ K') → K = K'
  | [], [], _, _, _ => rfl
  | [], y :: _, _, _, h => by have := (h y).2 (List.mem_cons_self ..); simp at this
  | x :: _, [], _, _, h => by have := (h x).1 (List.mem_cons_self ..); simp at this
  | x :: r, y :: r', ha, hb, h => by
    obtain ⟨a1, a2⟩ := List.pairwise_cons.1 ha
    obtain ⟨b1, b2⟩ := List.pairwise_cons.1 hb
    have irr : ∀ z : ByteArray, ¬ z.data.toList < z.data.toList := fun z => List.lt_irrefl _
    have exy : x = y := by
      rcases List.mem_cons.1 ((h x).1 (List.mem_cons_self ..)) with e | e
      · exact e
      · rcases List.mem_cons.1 ((h y).2 (List.mem_cons_self ..)) with e' | e'
        · exact e'.symm
        · exact absurd (List.lt_trans (b1 x e) (a1 y e')) (irr y)
    subst exy
    congr 1
    refine asc_unique a2 b2 (fun z => ⟨fun hz => ?_, fun hz => ?_⟩)
    · rcases List.mem_cons.1 ((h z).1 (List.mem_cons_of_mem _ hz)) with e | e
      · exact absurd (e ▸ a1 z hz) (irr _)
      · exact e
    · rcases List.mem_cons.1 ((h z).2 (List.mem_cons_of_mem _ hz)) with e | e
      · exact absurd (e ▸ b1 z hz) (irr _)
      · exact e
/-- a key, laid where it belongs. -/
def insK (x : ByteArray) : List ByteArray → List ByteArray
  | [] => [x]
  | y :: r => if x = y then y :: r else if x.data.toList < y.data.toList then x :: y :: r else y :: insK x r
theorem insK_mem (x z : ByteArray) : ∀ l : List ByteArray, z ∈ insK x l ↔ z = x ∨ z ∈ l
  | [] => by simp [insK]
  | y :: r => by
    unfold insK
    split
    · rename_i e
      subst e
      simp only [List.mem_cons]
      exact ⟨fun h => Or.inr h, fun h => h.elim Or.inl id⟩
    · split
      · simp only [List.mem_cons]
      · simp only [List.mem_cons, insK_mem x z r]
        exact ⟨fun h => h.elim (fun h => Or.inr (Or.inl h)) (fun h => h.elim Or.inl (fun h => Or.inr (Or.inr h))), fun h => h.elim (fun h => Or.inr (Or.inl h)) (fun h => h.elim Or.inl (fun h => Or.inr (Or.inr h)))⟩
theorem insK_asc (x : ByteArray) : ∀ l : List ByteArray, Asc l → Asc (insK x l)
  | [], _ => by simp [insK, Asc]
  | y :: r, h => by
    obtain ⟨h1, h2⟩ := List.pairwise_cons.1 h
    unfold insK
    split
    · exact h
    · rename_i hne
      split
      · rename_i hlt
        refine List.pairwise_cons.2 ⟨fun z hz => ?_, h⟩
        rcases List.mem_cons.1 hz with e | e
        · rw [e]; exact hlt
        · exact List.lt_trans hlt (h1 z e)
      · rename_i hge
        refine List.pairwise_cons.2 ⟨fun z hz => ?_, insK_asc x r h2⟩
        rcases (insK_mem x z r).1 hz with e | e
        · rw [e]
          rcases List.le_iff_lt_or_eq.1 (List.not_lt.1 hge) with h3 | h3
          · exact h3
          · exact absurd (toList_inj h3).symm hne
        · exact h1 z e
def keysC (all : List Ver) (pre : ByteArray) : List ByteArray := ((all.map Ver.key).filter (fun k => pk pre k)).foldr insK []
theorem foldK_asc : ∀ l : List ByteArray, Asc (l.foldr insK [])
  | [] => List.Pairwise.nil
  | x :: r => insK_asc x _ (foldK_asc r)
theorem foldK_mem (z : ByteArray) : ∀ l : List ByteArray, z ∈ l.foldr insK [] ↔ z ∈ l
  | [] => by simp
  | x :: r => by
    rw [List.foldr_cons, insK_mem, foldK_mem z r, List.mem_cons]
theorem keysC_of (all : List Ver) (pre : ByteArray) : KeysOf all pre (keysC all pre) := by
  refine ⟨foldK_asc _, fun x => ?_⟩
  unfold keysC
  rw [foldK_mem, List.mem_filter, List.mem_map]
  exact ⟨fun ⟨⟨v, hv, e⟩, hp⟩ => ⟨v, hv, e, hp⟩, fun ⟨v, hv, e, hp⟩ => ⟨⟨v, hv, e⟩, hp⟩⟩
theorem keysC_eq {all : List Ver} {pre : ByteArray} {K : List ByteArray} (h : KeysOf all pre K) : keysC all pre = K :=
  asc_unique (keysC_of all pre).1 h.1 (fun x => ((keysC_of all pre).2 x).trans (h.2 x).symm)
/-- does a row's key stand in a read set? -/
def hitM (T : PT) (key : ByteArray) : Bool := T.ks.any (fun k => decide (k = key)) || T.ps.any (fun p => pk p key)
def conflM (rows : List (ByteArray × Int)) (T : PT) : Bool := rows.any (fun r => decide (T.start < r.2) && hitM T r.1)
/-- what refuses a transaction that wrote something. -/
def refusedM (W : PW) (T : PT) : Int :=
  if 0 < T.ks.length + T.ps.length ∧ T.start < W.low then 8
  else if conflM W.rows T = true then 9
  else if 100 < W.L.length + T.ws.length then 10 else 0
def noteM (rows : List (ByteArray × Int)) (key : ByteArray) (t : Int) : List (ByteArray × Int) := rows.filter (fun r => decide (r.1 ≠ key)) ++ [(key, t)]
abbrev rowLt (a b : ByteArray × Int) : Prop := a.2 < b.2 ∨ (a.2 = b.2 ∧ ltB a.1 b.1)
def leastM : List (ByteArray × Int) → Option (ByteArray × Int)
  | [] => none
  | r :: l => some (l.foldl (fun b a => if rowLt a b then a else b) r)
def trimM : Nat → List (ByteArray × Int) → Int → List (ByteArray × Int) × Int
  | 0, rows, low => (rows, low)
  | n + 1, rows, low => if 6 < rows.length then (match leastM rows with
    | some m => trimM n (rows.filter (fun r => decide (r.1 ≠ m.1))) m.2
    | none => (rows, low)) else (rows, low)
def notesM (rows : List (ByteArray × Int)) (ws : List Ver) (t : Int) : List (ByteArray × Int) := ws.foldl (fun r v => noteM r v.key t) rows
def stampM (ws : List Ver) (t : Int) : List Ver := ws.map (fun v => { v with time := t })
def commitM (W : PW) (T : PT) : PW :=
  { W with
    clock := W.clock + 1
    L := W.L ++ stampM T.ws (W.clock + 1)
    rows := (trimM (notesM W.rows T.ws (W.clock + 1)).length (notesM W.rows T.ws (W.clock + 1)) W.low).1
    low := (trimM (notesM W.rows T.ws (W.clock + 1)).length (notesM W.rows T.ws (W.clock + 1)) W.low).2 }
def decideM (W : PW) (T : PT) : Dec × PW :=
  if T.ws = [] then (⟨T.start, 0, T.start⟩, W)
  else if refusedM W T ≠ 0 then (⟨T.start, refusedM W T, 0⟩, W)
  else (⟨T.start, 0, W.clock + 1⟩, commitM W T)
def outM (W : PW) (t : Int) (q : List Int) : PW := { W with q := q, ts := W.ts.filter (fun x => decide (x.start ≠ t)) }
def flushM : Nat → PW → List Dec × PW
  | 0, W => ([], W)
  | n + 1, W => match W.q with
    | [] => ([], W)
    | t :: q => match W.ts.find? (fun T => T.start == t) with
      | none => ([], W)
      | some T => ((decideM (outM W t q) T).1 :: (flushM n (decideM (outM W t q) T).2).1, (flushM n (decideM (outM W t q) T).2).2)
def ofM (W : PW) (k : Nat) (T : PT) (o : OpM) : AnsM × PW :=
  if (o.kind = 2 ∨ o.kind = 4 ∨ o.kind = 5) ∧ (o.key.size < 1 ∨ 8 < o.key.size) then (errA 4, W)
  else if o.kind = 2 then (⟨0, 0, (seesM T.ws W.L T.start o.key).2, getV (seesM T.ws W.L T.start o.key), [], [], []⟩, { W with ts := W.ts.set k { T with ks := T.ks ++ [o.key] } })
  else if o.kind = 3 then (⟨0, 0, false, ⟨#[]⟩, itemsR T.ws W.L T.start (keysC (W.L ++ T.ws) o.key), [], []⟩, { W with ts := W.ts.set k { T with ps := T.ps ++ [o.key] } })
  else if o.kind = 4 then (if 20 < o.val.size then (errA 5, W) else (errA 0, { W with ts := W.ts.set k { T with ws := writeM T.ws ⟨o.key, 0, o.val, false⟩ } }))
  else if o.kind = 5 then (errA 0, { W with ts := W.ts.set k { T with ws := writeM T.ws ⟨o.key, 0, ⟨#[]⟩, true⟩ } })
  else if o.kind = 6 then (errA 0, { W with ts := W.ts.filter (fun x => decide (x.start ≠ T.start)) })
  else (if W.q.length = 3 then (errA 7, W) else (errA 0, { W with q := W.q ++ [T.start] }))
def nextM (L : List Ver) (v : Ver) (k : Nat) : Option Ver := (L.drop (k + 1)).find? (fun x => decide (x.key = v.key))
def neededM (W : PW) (k : Nat) (v : Ver) : Bool := match nextM W.L v k with
  | none => true
  | some x => W.ts.any (fun T => decide (v.time ≤ T.start) && decide (T.start < x.time))
def cleanL (W : PW) : List Ver := (W.L.zipIdx.filter (fun p => neededM W p.2 p.1)).map Prod.fst
def stepR (W : PW) (o : OpM) : AnsM × PW :=
  if o.kind = 1 then (if 6 ≤ W.ts.length then (errA 6, W) else (⟨0, W.clock + 1, false, ⟨#[]⟩, [], [], []⟩, { W with clock := W.clock + 1, ts := W.ts ++ [⟨W.clock + 1, [], [], []⟩] }))
  else if 2 ≤ o.kind ∧ o.kind ≤ 7 then (match W.ts.findIdx? (fun T => T.start == o.t) with
    | none => (errA 2, W)
    | some k => if o.t ∈ W.q then (errA 3, W) else match W.ts[k]? with | some T => ofM W k T o | none => (errA 2, W))
  else if o.kind = 8 then (if o.n < 0 ∨ 100 < o.n then (errA 11, W) else (⟨0, 0, false, ⟨#[]⟩, [], (flushM o.n.toNat W).1, []⟩, (flushM o.n.toNat W).2))
  else if o.kind = 9 then (⟨0, W.ts.length, false, ⟨#[]⟩, [], [], []⟩, { W with ts := [], q := [], rows := [], low := W.clock })
  else if o.kind = 10 then (⟨0, W.L.length - (cleanL W).length, false, ⟨#[]⟩, [], [], []⟩, { W with L := cleanL W })
  else if o.kind = 11 then (⟨0, 0, false, ⟨#[]⟩, [], [], [(W.L.length : Int), W.ts.length, W.q.length, W.rows.length, W.low, W.clock]⟩, W)
  else (errA 1, W)
def p0 : PW := ⟨0, [], [], [], [], 0⟩
/-- the program: one step. -/
abbrev stepP (W : PW) (o : OpM) : AnsM × PW := stepR W o
def stP (W : PW) : List OpM → PW
  | [] => W
  | o :: r => stP (stepP W o).2 r
def ansP (W : PW) : List OpM → List AnsM
  | [] => []
  | o :: r => (stepP W o).1 :: ansP (stepP W o).2 r
end Go.Proofs.YtkfjafndplmdkaaGreat
