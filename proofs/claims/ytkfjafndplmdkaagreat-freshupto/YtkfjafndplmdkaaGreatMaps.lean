import Derived.Maps.OwnSet
import Derived.Maps.RangeWalk
namespace Go.Proofs.YtkfjafndplmdkaaGreat
open Go.ChangeMaps Go.MapKept
open Go.Maps (Keyed)

section plain
variable {α β : Type} [DecidableEq α]
def getA (a : α) : List (α × β) → Option β
  | [] => none
  | p :: r => if p.1 = a then some p.2 else getA a r
def putA (a : α) (b : β) : List (α × β) → List (α × β)
  | [] => [(a, b)]
  | p :: r => if p.1 = a then (a, b) :: r else p :: putA a b r
def delA (a : α) : List (α × β) → List (α × β)
  | [] => []
  | p :: r => if p.1 = a then r else p :: delA a r
theorem getA_none {a : α} : ∀ {l : List (α × β)}, (∀ p ∈ l, p.1 ≠ a) → getA a l = none
  | [], _ => rfl
  | p :: r, h => by
    unfold getA
    rw [if_neg (h p (by simp))]
    exact getA_none fun q hq => h q (by simp [hq])
theorem putA_none {a : α} {b : β} : ∀ {l : List (α × β)}, (∀ p ∈ l, p.1 ≠ a) → putA a b l = l ++ [(a, b)]
  | [], _ => rfl
  | p :: r, h => by
    unfold putA
    rw [if_neg (h p (by simp)), putA_none fun q hq => h q (by simp [hq])]
    rfl
theorem delA_none {a : α} : ∀ {l : List (α × β)}, (∀ p ∈ l, p.1 ≠ a) → delA a l = l
  | [], _ => rfl
  | p :: r, h => by
    unfold delA
    rw [if_neg (h p (by simp)), delA_none fun q hq => h q (by simp [hq])]
theorem at_some {a : α} {v : β} : ∀ {l : List (α × β)} {j : Nat}, (l.map Prod.fst).Nodup → l[j]? = some (a, v) → getA a l = some v ∧ (∀ b, putA a b l = l.set j (a, b)) ∧ delA a l = l.eraseIdx j
  | [], _, _, h => by simp at h
  | p :: r, 0, _, h => by
    simp at h
    subst h
    simp [getA, putA, delA]
  | p :: r, j + 1, hn, h => by
    simp only [List.map_cons, List.nodup_cons] at hn
    simp only [List.getElem?_cons_succ] at h
    have hm : (a, v) ∈ r := List.mem_of_getElem? h
    have hne : p.1 ≠ a := fun e => hn.1 (e ▸ List.mem_map.2 ⟨_, hm, rfl⟩)
    obtain ⟨h1, h2, h3⟩ := at_some hn.2 h
    refine ⟨?_, fun b => ?_, ?_⟩
    · unfold getA; rw [if_neg hne]; exact h1
    · unfold putA; rw [if_neg hne, h2]; rfl
    · unfold delA; rw [if_neg hne, h3]; rfl
theorem putA_keys (a : α) (b : β) : ∀ l : List (α × β), ∀ p ∈ putA a b l, p = (a, b) ∨ p ∈ l
  | [], p, h => by simp [putA] at h; exact Or.inl h
  | q :: r, p, h => by
    unfold putA at h
    split at h
    · rcases List.mem_cons.1 h with h | h
      · exact Or.inl h
      · exact Or.inr (List.mem_cons_of_mem _ h)
    · rcases List.mem_cons.1 h with h | h
      · exact Or.inr (by simp [h])
      · rcases putA_keys a b r p h with h | h
        · exact Or.inl h
        · exact Or.inr (List.mem_cons_of_mem _ h)
theorem putA_nodup (a : α) (b : β) : ∀ l : List (α × β), (l.map Prod.fst).Nodup → ((putA a b l).map Prod.fst).Nodup
  | [], _ => by simp [putA]
  | q :: r, h => by
    simp only [List.map_cons, List.nodup_cons] at h
    unfold putA
    split
    · rename_i e
      simp only [List.map_cons, List.nodup_cons]
      exact ⟨e ▸ h.1, h.2⟩
    · rename_i e
      simp only [List.map_cons, List.nodup_cons]
      refine ⟨fun hm => ?_, putA_nodup a b r h.2⟩
      obtain ⟨p, hp, hpe⟩ := List.mem_map.1 hm
      rcases putA_keys a b r p hp with rfl | hp
      · exact e hpe.symm
      · exact h.1 (List.mem_map.2 ⟨p, hp, hpe⟩)
theorem delA_sub (a : α) : ∀ l : List (α × β), (delA a l).Sublist l
  | [] => by simp [delA]
  | q :: r => by
    unfold delA
    split
    · exact List.sublist_cons_self _ _
    · exact (delA_sub a r).cons_cons _
theorem delA_nodup (a : α) (l : List (α × β)) (h : (l.map Prod.fst).Nodup) : ((delA a l).map Prod.fst).Nodup := ((delA_sub a l).map _).nodup h
theorem putA_len (a : α) (b : β) : ∀ l : List (α × β), (putA a b l).length ≤ l.length + 1
  | [] => by simp [putA]
  | q :: r => by
    unfold putA
    split
    · simp
    · have := putA_len a b r
      simp
      omega
end plain

section maps
variable {α β : Type} {P : Program} {k : TypeId} {mk : α → Value} {vl : β → Value} {w : World} {b : Nat} {l : List (α × β)}
def kv (e : MapEntry) : Value × Value := (e.key, e.val)
/-- THESE ENTRIES ARE THAT LIST. -/
structure Ents (P : Program) (k : TypeId) (mk : α → Value) (vl : β → Value) (es : Array MapEntry) (clock : Nat) (l : List (α × β)) : Prop where
  same : es.toList.map kv = l.map (fun p => (mk p.1, vl p.2))
  keys : ∀ p ∈ l, ∃ kl, keyOf P k (mk p.1) = some kl
  nodup : (l.map Prod.fst).Nodup
  stamps : Stamped es clock
/-- BLOCK b IS A MAP WITH THESE ENTRIES. -/
def mapAt (w : World) (P : Program) (k : TypeId) (mk : α → Value) (vl : β → Value) (b : Nat) (l : List (α × β)) : Prop :=
  ∃ es clock, w.heap[b]? = some (.map es clock) ∧ Ents P k mk vl es clock l
theorem mapAt.lt (h : mapAt w P k mk vl b l) : b < w.heap.size := by
  obtain ⟨es, clock, hb, _⟩ := h
  exact (Array.getElem?_eq_some_iff.1 hb).1
theorem mapAt.of_block {w' : World} (h : mapAt w P k mk vl b l) (hb' : w'.heap[b]? = w.heap[b]?) : mapAt w' P k mk vl b l := by
  obtain ⟨es, clock, hb, hE⟩ := h
  exact ⟨es, clock, hb'.trans hb, hE⟩
theorem mapAt_made (w : World) (P : Program) (k : TypeId) (mk : α → Value) (vl : β → Value) {b : Nat} (hb : w.heap[b]? = some (.map #[] 0)) : mapAt w P k mk vl b ([] : List (α × β)) :=
  ⟨#[], 0, hb, ⟨rfl, by simp, by simp, stamped_empty 0⟩⟩
theorem Ents.keyed {es : Array MapEntry} {clock : Nat} (h : Ents P k mk vl es clock l) : ∀ e ∈ es.toList, ∃ l, keyOf P k e.key = some l := fun e he => by
  have h1 : kv e ∈ l.map (fun p => (mk p.1, vl p.2)) := h.same ▸ List.mem_map.2 ⟨e, he, rfl⟩
  obtain ⟨p, hp, hpe⟩ := List.mem_map.1 h1
  obtain ⟨kl, hk⟩ := h.keys p hp
  exact ⟨kl, by rw [← hk]; exact congrArg (keyOf P k) (congrArg Prod.fst hpe).symm⟩
/-- WHAT A SEARCH FINDS. -/
theorem Ents.find {es : Array MapEntry} {clock : Nat} (h : Ents P k mk vl es clock l) (K : Keyed P k) (inj : ∀ a b, mk a = mk b → a = b) {a : α} {kl : Lit} (hkey : keyOf P k (mk a) = some kl) (w : World) :
    ((Instr.findKey k (mk a) es.toList).run P w = .ok none w ∧ (∀ p ∈ l, p.1 ≠ a) ∧ ∀ e ∈ es.toList, e.key ≠ mk a) ∨
    ∃ (j : Nat) (e : MapEntry) (v : β), (Instr.findKey k (mk a) es.toList).run P w = .ok (some (j, vl v)) w ∧ es.toList[j]? = some e ∧ e.key = mk a ∧ e.val = vl v ∧ l[j]? = some (a, v) := by
  rcases K.find w hkey es.toList h.keyed with ⟨h1, h2⟩ | ⟨j, e, h1, h2, h3⟩
  · refine Or.inl ⟨h1, fun p hp e => ?_, h2⟩
    have : (mk p.1, vl p.2) ∈ es.toList.map kv := h.same ▸ List.mem_map.2 ⟨p, hp, rfl⟩
    obtain ⟨x, hx, hxe⟩ := List.mem_map.1 this
    exact h2 x hx ((congrArg Prod.fst hxe).trans (by rw [e]))
  · have hj : (l.map (fun p => (mk p.1, vl p.2)))[j]? = some (kv e) := by rw [← h.same]; simp [h2]
    rw [List.getElem?_map] at hj
    obtain ⟨p, hp, hpe⟩ := Option.map_eq_some_iff.1 hj
    have e1 : mk p.1 = e.key := congrArg Prod.fst hpe
    have e2 : vl p.2 = e.val := congrArg Prod.snd hpe
    have e3 : p.1 = a := inj _ _ (e1.trans h3)
    refine Or.inr ⟨j, e, p.2, ?_, h2, h3, e2.symm, ?_⟩
    · rw [e2]; exact h1
    · rw [hp, ← e3]
/-- 'v, ok := m[k]'. -/
theorem mapAt.look [DecidableEq α] {t e : TypeId} (h : mapAt w P k mk vl b l) (K : Keyed P k) (inj : ∀ a b, mk a = mk b → a = b) (ht : P.underlying t = some (.map k e)) {z : Value} (hz : (zeroValue e).run P w = .ok z w) {a : α} {kl : Lit} (hkey : keyOf P k (mk a) = some kl) :
    (Instr.lookup t (.map (some b)) (mk a) true).run P w = .ok (.tuple #[((getA a l).map vl).getD z, .bool (getA a l).isSome]) w := by
  obtain ⟨es, clock, hb, hE⟩ := h
  rcases hE.find K inj hkey w with ⟨h1, h2, _⟩ | ⟨j, e0, v, h1, h2, h3, h4, h5⟩
  · rw [getA_none h2]
    simp [Instr.lookup, run_underlying ht, MapKept.run_getObj_map hb, K.check w _ hkey, h1, hz, Result.andThen]
  · rw [(at_some hE.nodup h5).1]
    simp [Instr.lookup, run_underlying ht, MapKept.run_getObj_map hb, K.check w _ hkey, h1, Result.andThen]
/-- 'len(m)'. -/
theorem mapAt.len {t e : TypeId} (h : mapAt w P k mk vl b l) (ht : P.underlying t = some (.map k e)) (ty : TypeId) : (Builtin.len_ #[t] ty #[.map (some b)]).run P w = .ok (.int .i64 l.length) w := by
  obtain ⟨es, clock, hb, hE⟩ := h
  have : es.size = l.length := by have := congrArg List.length hE.same; simpa using this
  simp [Builtin.len_, run_underlying ht, MapKept.run_getObj_map hb, Result.andThen, goInt, this]
/-- 'm[k] = v'. -/
theorem mapAt.store [DecidableEq α] {t e : TypeId} (h : mapAt w P k mk vl b l) (K : Keyed P k) (inj : ∀ a b, mk a = mk b → a = b) (ht : P.underlying t = some (.map k e)) {a : α} {kl : Lit} (hkey : keyOf P k (mk a) = some kl) (v : β) :
    ∃ w', (Instr.mapUpdate t (.map (some b)) (mk a) (vl v)).run P w = .ok () w' ∧ mapAt w' P k mk vl b (putA a v l) ∧ w.grownBy w' (some b) ∧ w'.heap.size = w.heap.size := by
  obtain ⟨es, clock, hb, hE⟩ := h
  have keys' : ∀ p ∈ putA a v l, ∃ kl, keyOf P k (mk p.1) = some kl := fun p hp => by
    rcases putA_keys a v l p hp with rfl | hp
    · exact ⟨kl, hkey⟩
    · exact hE.keys p hp
  have fin : ∀ es' clock', Ents P k mk vl es' clock' (putA a v l) → mapAt (setBlock w b (.map es' clock')) P k mk vl b (putA a v l) ∧ w.grownBy (setBlock w b (.map es' clock')) (some b) ∧ (setBlock w b (.map es' clock')).heap.size = w.heap.size := fun es' clock' hE' =>
    ⟨⟨es', clock', heap_setBlock_same hb _, hE'⟩, ⟨rfl, rfl, rfl, by simp [setBlock], fun i _ hi => heap_setBlock_other hb _ (fun e => hi (by rw [e]))⟩, by simp [setBlock]⟩
  rcases hE.find K inj hkey w with ⟨h1, h2, h2'⟩ | ⟨j, e0, u, h1, h2, h3, h4, h5⟩
  · refine ⟨_, ?_, fin (es.push ⟨mk a, vl v, clock⟩) (clock + 1) ⟨?_, keys', putA_nodup a v l hE.nodup, stamped_push hE.stamps h2'⟩⟩
    · simp [Instr.mapUpdate, run_underlying ht, MapKept.run_getObj_map hb, K.check w false hkey, h1, MapKept.run_setObj_map _ hb, Result.andThen, setBlock]
    · rw [putA_none h2, Array.toList_push, List.map_append, List.map_append, hE.same]
      rfl
  · have hj : es[j]? = some e0 := by simpa using h2
    have hkeyf : ∀ e', es[j]? = some e' → ({ e' with key := mk a, val := vl v } : MapEntry).key = e'.key := fun e' he' => by rw [hj] at he'; cases he'; exact h3.symm
    have hlist : (es.modify j (fun e' => { e' with key := mk a, val := vl v })).toList = es.toList.set j { e0 with key := mk a, val := vl v } := by rw [Array.toList_modify, modify_eq_set _ _ _ _ h2]
    refine ⟨_, ?_, fin (es.modify j (fun e' => { e' with key := mk a, val := vl v })) clock ⟨?_, keys', putA_nodup a v l hE.nodup, stamped_modify hE.stamps _ _ (fun _ _ => rfl) (fun e' _ he' => hkeyf e' he')⟩⟩
    · simp [Instr.mapUpdate, run_underlying ht, MapKept.run_getObj_map hb, K.check w false hkey, h1, hj, h3, K.stays w hkey, MapKept.run_setObj_map _ hb, Result.andThen, setBlock]
    · rw [hlist, (at_some hE.nodup h5).2.1, List.map_set, List.map_set, hE.same]
      rfl
/-- 'delete(m, k)'. -/
theorem mapAt.drop [DecidableEq α] {t e : TypeId} (h : mapAt w P k mk vl b l) (K : Keyed P k) (inj : ∀ a b, mk a = mk b → a = b) (ht : P.underlying t = some (.map k e)) {a : α} {kl : Lit} (hkey : keyOf P k (mk a) = some kl) (ty : TypeId) :
    ∃ w', (Builtin.delete_ #[t, k] ty #[.map (some b), mk a]).run P w = .ok (.tuple #[]) w' ∧ mapAt w' P k mk vl b (delA a l) ∧ w.grownBy w' (some b) ∧ w'.heap.size = w.heap.size := by
  obtain ⟨es, clock, hb, hE⟩ := h
  have keys' : ∀ p ∈ delA a l, ∃ kl, keyOf P k (mk p.1) = some kl := fun p hp => hE.keys p ((delA_sub a l).subset hp)
  have fin : ∀ es' clock', Ents P k mk vl es' clock' (delA a l) → mapAt (setBlock w b (.map es' clock')) P k mk vl b (delA a l) ∧ w.grownBy (setBlock w b (.map es' clock')) (some b) ∧ (setBlock w b (.map es' clock')).heap.size = w.heap.size := fun es' clock' hE' =>
    ⟨⟨es', clock', heap_setBlock_same hb _, hE'⟩, ⟨rfl, rfl, rfl, by simp [setBlock], fun i _ hi => heap_setBlock_other hb _ (fun e => hi (by rw [e]))⟩, by simp [setBlock]⟩
  rcases hE.find K inj hkey w with ⟨h1, h2, h2'⟩ | ⟨j, e0, u, h1, h2, h3, h4, h5⟩
  · refine ⟨_, ?_, fin es clock ⟨?_, keys', delA_nodup a l hE.nodup, hE.stamps⟩⟩
    · simp [Builtin.delete_, run_underlying ht, MapKept.run_getObj_map hb, K.check w _ hkey, h1, MapKept.run_setObj_map _ hb, Result.andThen, setBlock]
    · rw [delA_none h2, hE.same]
  · have hjl : j < es.toList.length := (List.getElem?_eq_some_iff.1 h2).1
    have hjs : j < es.size := by simpa using hjl
    have hsub : (es.eraseIdxIfInBounds j).toList = es.toList.eraseIdx j := by
      unfold Array.eraseIdxIfInBounds
      rw [dif_pos hjs]
      simp
    refine ⟨_, ?_, fin (es.eraseIdxIfInBounds j) clock ⟨?_, keys', delA_nodup a l hE.nodup, stamped_erase hE.stamps j⟩⟩
    · simp [Builtin.delete_, run_underlying ht, MapKept.run_getObj_map hb, K.check w _ hkey, h1, MapKept.run_setObj_map _ hb, Result.andThen, setBlock]
    · rw [hsub, (at_some hE.nodup h5).2.2, map_eraseIdx, map_eraseIdx, hE.same]

/-! ### ranging -/
theorem perm_erase {γ : Type} : ∀ (l : List γ) (i : Nat) (h : i < l.length), l.Perm (l[i] :: l.eraseIdx i)
  | [], _, h => by simp at h
  | x :: r, 0, _ => by simp
  | x :: r, i + 1, h => by
    simp only [List.getElem_cons_succ, List.eraseIdx_cons_succ]
    exact ((perm_erase r i (by simpa using h)).cons x).trans (List.Perm.swap _ _ _)
/-- 'for k, v := range m' UNDER WAY: these are still to come. -/
def rangeAt (w : World) (P : Program) (k : TypeId) (mk : α → Value) (vl : β → Value) (b r : Nat) (l left : List (α × β)) : Prop :=
  ∃ es clock since seen c0, w.heap[b]? = some (.map es clock) ∧ Ents P k mk vl es clock l ∧ w.heap[r]? = some (.mapIter (some b) since seen c0) ∧
    (∀ x ∈ es.toList, x.born < since) ∧ since ≤ c0 ∧ since ≤ clock ∧ (leftOf es seen).toList.map kv = left.map (fun p => (mk p.1, vl p.2)) ∧ ∀ p ∈ left, p ∈ l
theorem rangeAt.owns {r : Nat} {left : List (α × β)} (h : rangeAt w P k mk vl b r l left) : mapAt w P k mk vl b l := by
  obtain ⟨es, clock, _, _, _, hb, hE, _⟩ := h
  exact ⟨es, clock, hb, hE⟩
theorem rangeAt.ne {r : Nat} {left : List (α × β)} (h : rangeAt w P k mk vl b r l left) : r ≠ b := by
  obtain ⟨es, clock, since, seen, c0, hb, _, hr, _⟩ := h
  intro e
  rw [e, hb] at hr
  cases hr
theorem rangeAt.lt {r : Nat} {left : List (α × β)} (h : rangeAt w P k mk vl b r l left) : r < w.heap.size := by
  obtain ⟨es, clock, since, seen, c0, _, _, hr, _⟩ := h
  exact (Array.getElem?_eq_some_iff.1 hr).1
theorem rangeAt.of_block {w' : World} {r : Nat} {left : List (α × β)} (h : rangeAt w P k mk vl b r l left) (hb' : w'.heap[b]? = w.heap[b]?) (hr' : w'.heap[r]? = w.heap[r]?) : rangeAt w' P k mk vl b r l left := by
  obtain ⟨es, clock, since, seen, c0, hb, hE, hr, rest⟩ := h
  exact ⟨es, clock, since, seen, c0, hb'.trans hb, hE, hr'.trans hr, rest⟩
theorem mapAt.range {t e : TypeId} (h : mapAt w P k mk vl b l) (ht : P.underlying t = some (.map k e)) :
    ∃ w', (Instr.range t (.map (some b))).run P w = .ok (.pointer (some ⟨w.heap.size, 0, none⟩)) w' ∧ rangeAt w' P k mk vl b w.heap.size l l ∧ w.grownBy w' none ∧ w'.heap.size = w.heap.size + 1 := by
  have hlt := h.lt
  obtain ⟨es, clock, hb, hE⟩ := h
  refine ⟨_, run_range_map w t k e b es clock ht hb, ⟨es, clock, clock, #[], clock, ((MapKept.heap_alloc w _).2 b hlt).trans hb, hE, (MapKept.heap_alloc w _).1, hE.stamps.1, Nat.le_refl _, Nat.le_refl _, ?_, fun p hp => hp⟩, World.grownBy_alloc w _ none, by simp⟩
  have : leftOf es #[] = es := by simp [leftOf]
  rw [this, hE.same]
theorem leftOf_push (es : Array MapEntry) (seen : Array Nat) (n : Nat) : (leftOf es (seen.push n)).toList = (leftOf es seen).toList.filter (fun x => !(x.born == n)) := by
  unfold leftOf
  rw [Array.toList_filter, Array.toList_filter, List.filter_filter]
  refine List.filter_congr fun x _ => ?_
  rw [contains_push]
  cases seen.contains x.born <;> cases (x.born == n) <;> rfl
theorem rangeAt.next {r : Nat} {left : List (α × β)} (h : rangeAt w P k mk vl b r l left) (ty : TypeId) :
    (left = [] ∧ (Instr.next (.pointer (some ⟨r, 0, none⟩)) false ty).run P w = .ok (.tuple #[.bool false]) w) ∨
    ∃ x v left' w', left.Perm ((x, v) :: left') ∧ (Instr.next (.pointer (some ⟨r, 0, none⟩)) false ty).run P w = .ok (.tuple #[.bool true, mk x, vl v]) w' ∧
      rangeAt w' P k mk vl b r l left' ∧ w.grownBy w' (some r) ∧ w'.heap.size = w.heap.size ∧ (Instr.entry (.pointer (some ⟨r, 0, none⟩))).run P w' = .ok (.tuple #[mk x, vl v]) w' := by
  have hne := h.ne
  obtain ⟨es, clock, since, seen, c0, hb, hE, hr, hold, hsc, hsk, hl, hm⟩ := h
  rcases run_next_at (P := P) w ty r b since c0 seen es clock hr hb hold hsc with ⟨h0, hrun⟩ | ⟨e, he, w1, hal, hrun⟩
  · refine Or.inl ⟨?_, hrun⟩
    have : (leftOf es seen).toList.length = 0 := by simpa using h0
    have h2 := congrArg List.length hl
    simp only [List.length_map] at h2
    exact List.eq_nil_of_length_eq_zero (by omega)
  · have hnb : ((leftOf es seen).toList.map (·.born)).Nodup := by
      unfold leftOf
      rw [Array.toList_filter]
      exact (List.filter_sublist.map _).nodup hE.stamps.2.1
    have hr1 : w1.heap[r]? = some (.mapIter (some b) since seen c0) := by rcases hal with rfl | rfl <;> exact hr
    have hb1 : w1.heap[b]? = some (.map es clock) := by rcases hal with rfl | rfl <;> exact hb
    have hset := heap_set (o' := .mapIter (some b) since (seen.push e.born) clock) hr1
    have hb' : (setBlock w1 r (.mapIter (some b) since (seen.push e.born) clock)).heap[b]? = some (.map es clock) := (hset.2 b (fun e1 => hne e1.symm)).trans hb1
    -- the entry's own place in 'left'
    obtain ⟨i, hi, hie⟩ := List.getElem_of_mem he
    have hi' : ((leftOf es seen).toList.map kv)[i]? = some (kv e) := by simp [List.getElem?_eq_getElem hi, hie]
    rw [hl, List.getElem?_map] at hi'
    obtain ⟨p, hp, hpe⟩ := Option.map_eq_some_iff.1 hi'
    have ek : mk p.1 = e.key := congrArg Prod.fst hpe
    have ev : vl p.2 = e.val := congrArg Prod.snd hpe
    -- what is left behind it
    have hfil : (leftOf es seen).toList.filter (fun x => !(x.born == e.born)) = (leftOf es seen).toList.eraseIdx i := filter_eq_eraseIdx (fun x : MapEntry => x.born == e.born) _ i e (by rw [List.getElem?_eq_getElem hi, hie]) (by simp) (by
      have h1 := List.pairwise_map.1 hnb
      exact h1.imp fun hne hh => hne ((by simpa using hh.1 : _ = e.born).trans (by simpa using hh.2 : _ = e.born).symm))
    refine Or.inr ⟨p.1, p.2, left.eraseIdx i, _, ?_, by rw [ek, ev]; exact hrun, ⟨es, clock, since, seen.push e.born, clock, hb', hE, hset.1, hold, hsk, hsk, ?_, fun q hq => hm q ((List.eraseIdx_sublist _ _).subset hq)⟩, ?_, ?_, by rw [ek, ev]; exact run_entry_at _ r b since seen es clock e hset.1 hb' (mem_left he).1 hE.stamps.2.1⟩
    · have hil : i < left.length := (List.getElem?_eq_some_iff.1 hp).1
      have hge : left[i] = p := (List.getElem?_eq_some_iff.1 hp).2
      rw [← hge]
      exact perm_erase left i hil
    · rw [leftOf_push, hfil, map_eraseIdx, hl, map_eraseIdx]
    · rcases hal with rfl | rfl <;> exact ⟨rfl, rfl, rfl, by simp [setBlock], fun i _ hi => hset.2 i (fun e1 => hi (by rw [e1]))⟩
    · rcases hal with rfl | rfl <;> simp [setBlock]
end maps

section walks
variable {α β : Type} {P : Program} (w : World) {ops : Array Oper} {rest : List Oper} {o : Oper} {a : Act} {Q : Exit → Act → World → Prop}
theorem wpList_look_at [DecidableEq α] (hg : o.guard = none) (m x : Operand) (t : TypeId) (hop : o.op = Op.lookup t m x true) (k e : TypeId) (K : Keyed P k) (mk : α → Value) (vl : β → Value) (inj : ∀ a b, mk a = mk b → a = b) (ht : P.underlying t = some (.map k e)) {z : Value} (hz : (zeroValue e).run P w = .ok z w) (b : Nat) (l : List (α × β))
    (hm : a.eval m = .map (some b)) (hown : mapAt w P k mk vl b l) (y : α) (kl : Lit) (hx : a.eval x = mk y) (hkey : keyOf P k (mk y) = some kl)
    (hK : wpList P ops Q rest (a.put o.dst (.tuple #[((getA y l).map vl).getD z, .bool (getA y l).isSome])) w) :
    wpList P ops Q (o :: rest) a w := by
  refine wpList_plain hg fun K' hK' => ?_
  have hrun := hown.look K inj ht hz hkey
  unfold Oper.wp
  simp [execOp, hop, hm, hx, hrun, Result.andThen]
  exact hK' _ _ hK
theorem wpList_len_at (hg : o.guard = none) (m : Operand) (t : TypeId) (hop : o.op = Op.call { callee := Callee.builtin Builtin.len, args := #[m], argTypes := #[t] })
    (k e : TypeId) (mk : α → Value) (vl : β → Value) (ht : P.underlying t = some (.map k e)) (b : Nat) (l : List (α × β)) (hm : a.eval m = .map (some b)) (hown : mapAt w P k mk vl b l)
    (hK : wpList P ops Q rest (a.put o.dst (.int .i64 l.length)) w) :
    wpList P ops Q (o :: rest) a w := by
  refine wpList_plain hg fun K' hK' => ?_
  unfold Oper.wp
  simp [execOp, hop, resolve, invoke, builtin, hm, hown.len ht o.type, Result.andThen]
  exact hK' _ _ hK
theorem wpList_store_at [DecidableEq α] (hg : o.guard = none) (m x v : Operand) (t : TypeId) (hop : o.op = Op.mapUpdate t m x v) (k e : TypeId) (K : Keyed P k) (mk : α → Value) (vl : β → Value) (inj : ∀ a b, mk a = mk b → a = b) (ht : P.underlying t = some (.map k e)) (b : Nat) (l : List (α × β))
    (hm : a.eval m = .map (some b)) (hown : mapAt w P k mk vl b l) (y : α) (kl : Lit) (hx : a.eval x = mk y) (hkey : keyOf P k (mk y) = some kl) (u : β) (hv : a.eval v = vl u)
    (hK : ∀ w', mapAt w' P k mk vl b (putA y u l) → w.grownBy w' (some b) → w'.heap.size = w.heap.size → wpList P ops Q rest (a.put o.dst undef) w') :
    wpList P ops Q (o :: rest) a w := by
  refine wpList_plain hg fun K' hK' => ?_
  obtain ⟨w', hrun, r1, r2, r3⟩ := hown.store K inj ht hkey u
  unfold Oper.wp
  simp [execOp, hop, hm, hx, hv, hrun, Result.andThen]
  exact hK' _ _ (hK w' r1 r2 r3)
theorem wpList_drop_at [DecidableEq α] (hg : o.guard = none) (m x : Operand) (t k : TypeId) (hop : o.op = Op.call { callee := Callee.builtin Builtin.delete, args := #[m, x], argTypes := #[t, k] }) (e : TypeId) (K : Keyed P k) (mk : α → Value) (vl : β → Value) (inj : ∀ a b, mk a = mk b → a = b) (ht : P.underlying t = some (.map k e)) (b : Nat) (l : List (α × β))
    (hm : a.eval m = .map (some b)) (hown : mapAt w P k mk vl b l) (y : α) (kl : Lit) (hx : a.eval x = mk y) (hkey : keyOf P k (mk y) = some kl)
    (hK : ∀ w', mapAt w' P k mk vl b (delA y l) → w.grownBy w' (some b) → w'.heap.size = w.heap.size → wpList P ops Q rest (a.put o.dst (.tuple #[])) w') :
    wpList P ops Q (o :: rest) a w := by
  refine wpList_plain hg fun K' hK' => ?_
  obtain ⟨w', hrun, r1, r2, r3⟩ := hown.drop K inj ht hkey o.type
  unfold Oper.wp
  simp [execOp, hop, resolve, invoke, builtin, hm, hx, hrun, Result.andThen]
  exact hK' _ _ (hK w' r1 r2 r3)
theorem wpList_range_at (hg : o.guard = none) (m : Operand) (t : TypeId) (hop : o.op = Op.range t m) (k e : TypeId) (mk : α → Value) (vl : β → Value) (ht : P.underlying t = some (.map k e)) (b : Nat) (l : List (α × β))
    (hm : a.eval m = .map (some b)) (hown : mapAt w P k mk vl b l)
    (hK : ∀ w', rangeAt w' P k mk vl b w.heap.size l l → w.grownBy w' none → w'.heap.size = w.heap.size + 1 → wpList P ops Q rest (a.put o.dst (.pointer (some ⟨w.heap.size, 0, none⟩))) w') :
    wpList P ops Q (o :: rest) a w := by
  refine wpList_plain hg fun K' hK' => ?_
  obtain ⟨w', hrun, r1, r2, r3⟩ := hown.range ht
  unfold Oper.wp
  simp [execOp, hop, hm, hrun, Result.andThen]
  exact hK' _ _ (hK w' r1 r2 r3)
theorem wpList_next_at (hg : o.guard = none) (it : Operand) (hop : o.op = Op.next it false) (k : TypeId) (mk : α → Value) (vl : β → Value) (b r : Nat) (l left : List (α × β))
    (hit : a.eval it = .pointer (some ⟨r, 0, none⟩)) (h : rangeAt w P k mk vl b r l left)
    (hDone : left = [] → wpList P ops Q rest (a.put o.dst (.tuple #[.bool false])) w)
    (hMore : ∀ (x : α) (v : β) (left' : List (α × β)) (w' : World), left.Perm ((x, v) :: left') → rangeAt w' P k mk vl b r l left' → w.grownBy w' (some r) → w'.heap.size = w.heap.size →
      (Instr.entry (.pointer (some ⟨r, 0, none⟩))).run P w' = .ok (.tuple #[mk x, vl v]) w' → wpList P ops Q rest (a.put o.dst (.tuple #[.bool true, mk x, vl v])) w') :
    wpList P ops Q (o :: rest) a w := by
  refine wpList_plain hg fun K' hK' => ?_
  unfold Oper.wp
  rcases h.next o.type with ⟨h0, hrun⟩ | ⟨x, v, left', w', hp, hrun, hrg, hgr, hsz, hen⟩
  · simp [execOp, hop, hit, hrun, Result.andThen]
    exact hK' _ _ (hDone h0)
  · simp [execOp, hop, hit, hrun, Result.andThen]
    exact hK' _ _ (hMore x v left' w' hp hrg hgr hsz hen)
end walks
end Go.Proofs.YtkfjafndplmdkaaGreat
