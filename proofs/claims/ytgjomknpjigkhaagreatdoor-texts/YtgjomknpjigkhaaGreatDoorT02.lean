/- Texts: MBdd MBase W12 E1 E2 E3 E4. -/
import Derived.Test.YtgjomknpjigkhaaGreatDoorProg
import Derived.Maps.OwnSet
import Derived.Maps.RangeWalk
import Derived.WalkKit
import Derived.WalkLawsBesides
import Derived.BigQuiet
import Derived.Maps.AppendAt
import Derived.WalkSpells
import Derived.Shelf.Small.Strs
namespace Go.Proofs.YtgjomknpjigkhaaGreatDoor

section
variable {α β : Type} [DecidableEq α]

def get (L : List (α × β)) (k : α) : Option β := (L.find? (fun p => decide (p.1 = k))).map Prod.snd

def put (L : List (α × β)) (k : α) (v : β) : List (α × β) :=
  if (get L k).isSome then L.map (fun p => if p.1 = k then (k, v) else p) else L ++ [(k, v)]

def del (L : List (α × β)) (k : α) : List (α × β) := L.filter (fun p => decide (p.1 ≠ k))

theorem get_nil (k : α) : get ([] : List (α × β)) k = none := rfl

theorem get_cons (p : α × β) (L : List (α × β)) (k : α) : get (p :: L) k = if p.1 = k then some p.2 else get L k := by
  unfold get
  by_cases h : p.1 = k <;> simp [h]

theorem get_none_iff {L : List (α × β)} {k : α} : get L k = none ↔ ∀ p ∈ L, p.1 ≠ k := by
  induction L with
  | nil => simp [get_nil]
  | cons p L ih =>
    rw [get_cons]
    by_cases h : p.1 = k
    · simp [h]
    · simp [h, ih]

theorem get_some_mem {L : List (α × β)} {k : α} {v : β} (h : get L k = some v) : (k, v) ∈ L := by
  induction L with
  | nil => simp [get_nil] at h
  | cons p L ih =>
    rw [get_cons] at h
    by_cases hp : p.1 = k
    · simp [hp] at h; subst h; subst hp; simp
    · simp [hp] at h; exact List.mem_cons_of_mem _ (ih h)

theorem get_of_mem {L : List (α × β)} (hn : (L.map Prod.fst).Nodup) {k : α} {v : β} (h : (k, v) ∈ L) : get L k = some v := by
  induction L with
  | nil => simp at h
  | cons p L ih =>
    rw [get_cons]
    simp only [List.map_cons, List.nodup_cons] at hn
    rcases List.mem_cons.1 h with rfl | h
    · simp
    · have : p.1 ≠ k := fun e => hn.1 (by rw [e]; exact List.mem_map.2 ⟨_, h, rfl⟩)
      simp [this, ih hn.2 h]

theorem get_append (L M : List (α × β)) (k : α) : get (L ++ M) k = (get L k).or (get M k) := by
  induction L with
  | nil => simp [get_nil]
  | cons p L ih =>
    rw [List.cons_append, get_cons, get_cons, ih]
    by_cases h : p.1 = k <;> simp [h]

theorem get_put (L : List (α × β)) (k : α) (v : β) (k' : α) : get (put L k v) k' = if k' = k then some v else get L k' := by
  unfold put
  cases hk : (get L k).isSome with
  | true =>
    simp only [if_true]
    have key : ∀ M : List (α × β), get (M.map (fun p => if p.1 = k then (k, v) else p)) k' = if k' = k then (if (get M k).isSome then some v else none) else get M k' := by
      intro M
      induction M with
      | nil => simp [get_nil]
      | cons p M ih =>
        rw [List.map_cons, get_cons, ih, get_cons, get_cons]
        by_cases hp : p.1 = k
        · simp only [hp, if_true]
          by_cases hkk : k = k'
          · subst hkk; simp
          · have : ¬ k' = k := fun e => hkk e.symm
            simp [hkk, this]
        · simp only [hp, if_false]
          by_cases hpk : p.1 = k'
          · have : ¬ k' = k := fun e => hp (hpk.trans e)
            simp [hpk, this]
          · simp [hpk]
    rw [key L]
    simp [hk]
  | false =>
    simp only [Bool.false_eq_true, if_false]
    rw [get_append, get_cons, get_nil]
    have hn : get L k = none := by simpa using hk
    by_cases h : k' = k
    · subst h; simp [hn]
    · have : ¬ k = k' := fun e => h e.symm
      simp [h, this]

theorem get_del (L : List (α × β)) (k k' : α) : get (del L k) k' = if k' = k then none else get L k' := by
  unfold del
  induction L with
  | nil => simp [get_nil]
  | cons p L ih =>
    by_cases hp : p.1 = k
    · rw [List.filter_cons_of_neg (by simp [hp]), ih, get_cons]
      by_cases h : k' = k
      · simp [h]
      · have : ¬ p.1 = k' := fun e => h (e.symm.trans hp)
        simp [h, this]
    · rw [List.filter_cons_of_pos (by simp [hp]), get_cons, ih, get_cons]
      by_cases h : p.1 = k'
      · have : ¬ k' = k := fun e => hp (h.trans e)
        simp [h, this]
      · simp [h]

theorem keys_put (L : List (α × β)) (k : α) (v : β) : (put L k v).map Prod.fst = if (get L k).isSome then L.map Prod.fst else L.map Prod.fst ++ [k] := by
  unfold put
  cases (get L k).isSome with
  | true =>
    simp only [if_true, List.map_map]
    apply List.map_congr_left
    intro p _
    by_cases h : p.1 = k <;> simp [h]
  | false => simp

theorem nodup_put {L : List (α × β)} (hn : (L.map Prod.fst).Nodup) (k : α) (v : β) : ((put L k v).map Prod.fst).Nodup := by
  rw [keys_put]
  cases hk : (get L k).isSome with
  | true => simpa using hn
  | false =>
    have h0 : get L k = none := by simpa using hk
    simp only [Bool.false_eq_true, if_false]
    rw [List.nodup_append]
    refine ⟨hn, by simp, fun a ha b hb => ?_⟩
    simp only [List.mem_singleton] at hb
    subst hb
    obtain ⟨p, hp, rfl⟩ := List.mem_map.1 ha
    exact get_none_iff.1 h0 p hp

theorem nodup_del {L : List (α × β)} (hn : (L.map Prod.fst).Nodup) (k : α) : ((del L k).map Prod.fst).Nodup :=
  List.Nodup.sublist (List.Sublist.map _ List.filter_sublist) hn

theorem length_put_le (L : List (α × β)) (k : α) (v : β) : (put L k v).length ≤ L.length + 1 := by
  unfold put; split <;> simp

theorem length_put_new {L : List (α × β)} {k : α} (v : β) (h : get L k = none) : (put L k v).length = L.length + 1 := by
  unfold put; simp [h]

theorem length_del {L : List (α × β)} (hn : (L.map Prod.fst).Nodup) {k : α} {v : β} (h : get L k = some v) : (del L k).length + 1 = L.length := by
  unfold del
  induction L with
  | nil => simp [get_nil] at h
  | cons p L ih =>
    rw [get_cons] at h
    simp only [List.map_cons, List.nodup_cons] at hn
    by_cases hp : p.1 = k
    · rw [List.filter_cons_of_neg (by simp [hp])]
      have : L.filter (fun p => decide (p.1 ≠ k)) = L := by
        rw [List.filter_eq_self]
        intro q hq
        have : q.1 ≠ k := fun e => hn.1 (by rw [hp, ← e]; exact List.mem_map.2 ⟨_, hq, rfl⟩)
        simpa using this
      rw [this, List.length_cons]
    · rw [List.filter_cons_of_pos (by simp [hp])]
      simp only [hp, if_false] at h
      rw [List.length_cons, ih hn.2 h, List.length_cons]

theorem put_replaces {L : List (α × β)} (hn : (L.map Prod.fst).Nodup) {a : α} {v : β} {j : Nat} (v' : β) (hj : L[j]? = some (a, v)) :
    L.map (fun p => if p.1 = a then (a, v') else p) = L.set j (a, v') := by
  induction L generalizing j with
  | nil => simp at hj
  | cons p L ih =>
    simp only [List.map_cons, List.nodup_cons] at hn
    cases j with
    | zero =>
      simp only [List.getElem?_cons_zero, Option.some.injEq] at hj
      subst hj
      simp only [List.map_cons, if_true, List.set_cons_zero, List.cons.injEq, true_and]
      conv => rhs; rw [← List.map_id L]
      apply List.map_congr_left
      intro q hq
      have : q.1 ≠ a := fun e => hn.1 (by rw [← e]; exact List.mem_map.2 ⟨_, hq, rfl⟩)
      simp [this]
    | succ j =>
      simp only [List.getElem?_cons_succ] at hj
      have : p.1 ≠ a := fun e => hn.1 (by rw [e]; exact List.mem_map.2 ⟨_, List.mem_of_getElem? hj, rfl⟩)
      simp only [List.map_cons, this, if_false, List.set_cons_succ, ih hn.2 hj]

theorem del_erases {L : List (α × β)} (hn : (L.map Prod.fst).Nodup) {a : α} {v : β} {j : Nat} (hj : L[j]? = some (a, v)) : del L a = L.eraseIdx j := by
  unfold del
  induction L generalizing j with
  | nil => simp at hj
  | cons p L ih =>
    simp only [List.map_cons, List.nodup_cons] at hn
    cases j with
    | zero =>
      simp only [List.getElem?_cons_zero, Option.some.injEq] at hj
      subst hj
      rw [List.filter_cons_of_neg (by simp), List.eraseIdx_cons_zero, List.filter_eq_self]
      intro q hq
      have : q.1 ≠ a := fun e => hn.1 (by rw [← e]; exact List.mem_map.2 ⟨_, hq, rfl⟩)
      simpa using this
    | succ j =>
      simp only [List.getElem?_cons_succ] at hj
      have : p.1 ≠ a := fun e => hn.1 (by rw [e]; exact List.mem_map.2 ⟨_, List.mem_of_getElem? hj, rfl⟩)
      rw [List.filter_cons_of_pos (by simpa using this), List.eraseIdx_cons_succ, ih hn.2 hj]

theorem del_absent {L : List (α × β)} {a : α} (h : get L a = none) : del L a = L := by
  unfold del
  rw [List.filter_eq_self]
  intro q hq
  simpa using get_none_iff.1 h q hq

end

end Go.Proofs.YtgjomknpjigkhaaGreatDoor

namespace Go.Proofs.YtgjomknpjigkhaaGreatDoor
abbrev Tri := Int × Int × Int
end Go.Proofs.YtgjomknpjigkhaaGreatDoor

namespace Go.Proofs.YtgjomknpjigkhaaGreatDoor
open Go.RowKit

section
variable {P : Program} {K : TypeId} {α β : Type} {ek : α → Value} {ev : β → Value}

/-- A map's block stands for a list of pairs. -/
def MapIs (ek : α → Value) (ev : β → Value) (w : World) (r : Nat) (L : List (α × β)) : Prop :=
  ∃ es clock, w.heap[r]? = some (.map es clock) ∧ es.toList.map (fun e => (e.key, e.val)) = L.map (fun p => (ek p.1, ev p.2)) ∧
    (es.toList.map (·.born)).Nodup ∧ (∀ e ∈ es.toList, e.born < clock) ∧ (L.map Prod.fst).Nodup

theorem MapIs.of_heap {w w' : World} {r : Nat} {L : List (α × β)} (h : MapIs ek ev w r L) (e : w'.heap[r]? = w.heap[r]?) : MapIs ek ev w' r L := by
  obtain ⟨es, clock, h1, h2⟩ := h
  exact ⟨es, clock, e.trans h1, h2⟩

theorem MapIs.nodup {w : World} {r : Nat} {L : List (α × β)} (h : MapIs ek ev w r L) : (L.map Prod.fst).Nodup := by
  obtain ⟨es, clock, h1, h2, h3, h4, h5⟩ := h
  exact h5

theorem MapIs.lt {w : World} {r : Nat} {L : List (α × β)} (h : MapIs ek ev w r L) : r < w.heap.size := by
  obtain ⟨es, clock, h1, h2⟩ := h
  exact (Array.getElem?_eq_some_iff.1 h1).1

theorem MapIs.new (w : World) (c : Nat) : MapIs ek ev (w.alloc (.map #[] c)) w.heap.size ([] : List (α × β)) :=
  ⟨#[], c, (MapKept.heap_alloc w _).1, by simp, by simp, by simp, by simp⟩

/-- The world with another block at r. -/
def blk (w : World) (r : Nat) (o : Obj) : World := { w with heap := w.heap.setIfInBounds r o }

theorem blk_same {w : World} {r : Nat} {o o' : Obj} (h : w.heap[r]? = some o) : (blk w r o').heap[r]? = some o' := (MapKept.heap_set h).1
theorem blk_other {w : World} {r : Nat} (o' : Obj) {i : Nat} (hi : i ≠ r) : (blk w r o').heap[i]? = w.heap[i]? := by
  simp [blk, Ne.symm hi]

/-- 'len(m)'. -/
theorem run_maplen {T E : TypeId} (ht : P.underlying T = some (.map K E)) {w : World} {r : Nat} {L : List (α × β)} (h : MapIs ek ev w r L) (ty : TypeId) :
    (Builtin.len_ #[T] ty #[.map (some r)]).run P w = .ok (.int .i64 L.length) w := by
  obtain ⟨es, clock, h1, h2, h3, h4, h5⟩ := h
  have e1 : es.size = L.length := by have := congrArg List.length h2; simpa using this
  simp [Builtin.len_, run_underlying ht, MapKept.run_getObj_map h1, goInt, Result.andThen, e1]

/-- 'clear(m)'. -/
theorem run_clear {T : TypeId} {d : TypeDesc} (ht : P.underlying T = some d) {w : World} {r : Nat} {L : List (α × β)} (h : MapIs ek ev w r L) (ty : TypeId) :
    ∃ o, (Builtin.clear_ #[T] ty #[.map (some r)]).run P w = .ok (.tuple #[]) (blk w r o) ∧ MapIs ek ev (blk w r o) r ([] : List (α × β)) := by
  obtain ⟨es, clock, h1, h2, h3, h4, h5⟩ := h
  refine ⟨.map #[] clock, ?_, #[], clock, blk_same h1, by simp, by simp, by simp, by simp⟩
  have hcell : (#[Value.map (some r)])[0]? = some (.map (some r)) := rfl
  have hty : (#[T])[0]? = some T := rfl
  unfold Builtin.clear_
  simp only [hcell, hty, Sem.run_bind, run_underlying ht, Result.andThen_ok, MapKept.run_getObj_map h1, MapKept.run_setObj_map _ h1, Sem.run_pure]
  rfl
end

/-- What the operations on a map ask of its keys. -/
structure KeyOk (P : Program) (K : TypeId) {α : Type} [DecidableEq α] (ek : α → Value) : Prop where
  check : ∀ (em : Bool) (a : α) (w : World), (Instr.checkKey em 10000 K (ek a)).run P w = .ok () w
  eq : ∀ (a b : α) (w : World), (Op.equal K (ek a) (ek b)).run P w = .ok (decide (a = b)) w
  under : ∃ d, P.underlying K = some d ∧ ∀ a b, Instr.sameNow d (ek a) (ek b) = none ∨ Instr.sameNow d (ek a) (ek b) = some (decide (a = b))
  stays : ∀ (a : α) (w : World), (Instr.keyThatStays (ek a) (ek a)).run P w = .ok (ek a) w

section
variable {P : Program} {K : TypeId} {α β : Type} [DecidableEq α] {ek : α → Value} {ev : β → Value}

/-- The entry of a key in the list, and where it stands. -/
def spot (ev : β → Value) : List (α × β) → α → Nat → Option (Nat × Value)
  | [], _, _ => none
  | p :: L, a, i => if p.1 = a then some (i, ev p.2) else spot ev L a (i + 1)

theorem findNow_ok {d : TypeDesc} (hd : ∀ a b, Instr.sameNow d (ek a) (ek b) = none ∨ Instr.sameNow d (ek a) (ek b) = some (decide (a = b))) (a : α) :
    ∀ (es : List MapEntry) (L : List (α × β)) (i : Nat), es.map (fun e => (e.key, e.val)) = L.map (fun p => (ek p.1, ev p.2)) → Instr.findNow d (ek a) es i = none ∨ Instr.findNow d (ek a) es i = some (spot ev L a i)
  | [], [], i, _ => .inr rfl
  | [], _ :: _, _, h => by simp at h
  | _ :: _, [], _, h => by simp at h
  | e :: es, p :: L, i, h => by
    simp only [List.map_cons, List.cons.injEq, Prod.mk.injEq] at h
    obtain ⟨⟨h1, h2⟩, h3⟩ := h
    unfold Instr.findNow spot
    rw [h1]
    rcases hd a p.1 with h0 | h0
    · rw [h0]; exact .inl rfl
    · rw [h0]
      by_cases hp : p.1 = a
      · have : a = p.1 := hp.symm
        simp [hp, h2]
      · have : ¬ a = p.1 := fun x => hp x.symm
        simp only [this, hp, decide_false, if_false]
        exact findNow_ok hd a es L (i + 1) h3

theorem findAsking_ok (hk : KeyOk P K ek) (a : α) (w : World) :
    ∀ (es : List MapEntry) (L : List (α × β)) (i : Nat), es.map (fun e => (e.key, e.val)) = L.map (fun p => (ek p.1, ev p.2)) → (Instr.findAsking K (ek a) es i).run P w = .ok (spot ev L a i) w
  | [], [], i, _ => rfl
  | [], _ :: _, _, h => by simp at h
  | _ :: _, [], _, h => by simp at h
  | e :: es, p :: L, i, h => by
    simp only [List.map_cons, List.cons.injEq, Prod.mk.injEq] at h
    obtain ⟨⟨h1, h2⟩, h3⟩ := h
    unfold Instr.findAsking spot
    rw [h1]
    simp only [Sem.run_bind, hk.eq, Result.andThen_ok]
    by_cases hp : p.1 = a
    · simp [hp, h2]
    · have : ¬ a = p.1 := fun x => hp x.symm
      simp only [this, hp, decide_false, if_false, Bool.false_eq_true]
      exact findAsking_ok hk a w es L (i + 1) h3

theorem findKey_ok (hk : KeyOk P K ek) (a : α) (w : World) (es : List MapEntry) (L : List (α × β)) (h : es.map (fun e => (e.key, e.val)) = L.map (fun p => (ek p.1, ev p.2))) :
    (Instr.findKey K (ek a) es).run P w = .ok (spot ev L a 0) w := by
  obtain ⟨d, hd, hs⟩ := hk.under
  unfold Instr.findKey
  simp only [Sem.run_bind, run_underlying hd, Result.andThen_ok]
  rcases findNow_ok hs a es L 0 h with h0 | h0
  · rw [h0]; exact findAsking_ok hk a w es L 0 h
  · rw [h0]; rfl

theorem spot_spec (a : α) : ∀ (L : List (α × β)) (i : Nat), (spot ev L a i = none ∧ get L a = none) ∨ ∃ j v, spot ev L a i = some (i + j, ev v) ∧ get L a = some v ∧ L[j]? = some (a, v)
  | [], i => .inl ⟨rfl, rfl⟩
  | p :: L, i => by
    unfold spot
    rw [get_cons]
    by_cases hp : p.1 = a
    · subst hp
      exact .inr ⟨0, p.2, by simp, by simp, by simp⟩
    · simp only [hp, if_false]
      rcases spot_spec a L (i + 1) with h | ⟨j, v, h1, h2, h3⟩
      · exact .inl h
      · exact .inr ⟨j + 1, v, by rw [h1]; congr 2; omega, h2, by simpa using h3⟩

/-- 'm[k]', 'v, ok := m[k]'. -/
theorem run_look {T E : TypeId} (ht : P.underlying T = some (.map K E)) (hk : KeyOk P K ek) {z : Value} (hz : ∀ w, (zeroValue E).run P w = .ok z w) {w : World} {r : Nat} {L : List (α × β)} (h : MapIs ek ev w r L) (a : α) (c : Bool) :
    (Instr.lookup T (.map (some r)) (ek a) c).run P w = .ok (if c then .tuple #[((get L a).map ev).getD z, .bool (get L a).isSome] else ((get L a).map ev).getD z) w := by
  obtain ⟨es, clock, h1, h2, h3, h4, h5⟩ := h
  unfold Instr.lookup
  simp only [Sem.run_bind, run_underlying ht, Result.andThen_ok, MapKept.run_getObj_map h1, Sem.run_pure, hk.check, findKey_ok hk a w es.toList L h2]
  rcases spot_spec (ev := ev) a L 0 with ⟨hs, hg⟩ | ⟨j, v, hs, hg, _⟩
  · rw [hs, hg]
    simp only [Sem.run_bind, hz, Result.andThen_ok, Sem.run_pure, Option.map_none, Option.getD_none, Option.isSome_none]
  · rw [hs, hg]
    simp only [Option.map_some, Option.getD_some, Option.isSome_some]
    rfl

/-- 'm[k] = v'. -/
theorem run_upd {T E : TypeId} (ht : P.underlying T = some (.map K E)) (hk : KeyOk P K ek) {w : World} {r : Nat} {L : List (α × β)} (h : MapIs ek ev w r L) (a : α) (v : β) :
    ∃ o, (Instr.mapUpdate T (.map (some r)) (ek a) (ev v)).run P w = .ok () (blk w r o) ∧ MapIs ek ev (blk w r o) r (put L a v) := by
  obtain ⟨es, clock, h1, h2, h3, h4, h5⟩ := h
  unfold Instr.mapUpdate
  simp only [Sem.run_bind, run_underlying ht, Result.andThen_ok, MapKept.run_getObj_map h1, hk.check, findKey_ok hk a w es.toList L h2]
  rcases spot_spec (ev := ev) a L 0 with ⟨hs, hg⟩ | ⟨j, v0, hs, hg, hj⟩
  · rw [hs]
    refine ⟨.map (es.push { key := ek a, val := ev v, born := clock }) (clock + 1), MapKept.run_setObj_map _ h1, _, _, blk_same h1, ?_, ?_, ?_, nodup_put h5 a v⟩
    · simp [put, hg, h2]
    · simp only [Array.toList_push, List.map_append, List.map_cons, List.map_nil]
      refine List.nodup_append.2 ⟨h3, by simp, ?_⟩
      intro x hx y hy
      simp only [List.mem_singleton] at hy
      subst hy
      obtain ⟨e, he, rfl⟩ := List.mem_map.1 hx
      exact Nat.ne_of_lt (h4 e he)
    · intro e he
      simp only [Array.toList_push, List.mem_append, List.mem_singleton] at he
      rcases he with he | rfl
      · exact Nat.lt_succ_of_lt (h4 e he)
      · exact Nat.lt_succ_self _
  · rw [hs]
    have hlen : es.toList.length = L.length := by have := congrArg List.length h2; simpa using this
    have hjl : j < L.length := (List.getElem?_eq_some_iff.1 hj).1
    have hje : j < es.size := by rw [← Array.length_toList, hlen]; exact hjl
    have hkey : es[j].key = ek a := by
      have := congrArg (fun l : List (Value × Value) => l[j]?) h2
      simp only [List.getElem?_map, hj, Option.map_some, Array.getElem?_toList, Array.getElem?_eq_getElem hje, Option.some.injEq, Prod.mk.injEq] at this
      exact this.1
    have hkey' : ((es[0 + j]?).map (·.key)).getD (ek a) = ek a := by simp [Array.getElem?_eq_getElem hje, hkey]
    have hrun := MapKept.run_setObj_map (P := P) (.map (es.modify (0 + j) fun e => { e with key := ek a, val := ev v }) clock) h1
    refine ⟨.map (es.modify (0 + j) fun e => { e with key := ek a, val := ev v }) clock, ?_, _, _, blk_same h1, ?_, ?_, ?_, nodup_put h5 a v⟩
    · simp only [hkey', Sem.run_bind, hk.stays, Result.andThen_ok]
      exact hrun
    · unfold put
      simp only [hg, Option.isSome_some, if_true]
      rw [put_replaces h5 v hj]
      apply List.ext_getElem?
      intro i
      have h2i := congrArg (fun l : List (Value × Value) => l[i]?) h2
      simp only [List.getElem?_map, Array.getElem?_toList, Array.getElem?_modify, List.getElem?_set, Nat.zero_add] at h2i ⊢
      by_cases hij : j = i
      · subst hij
        simp [Array.getElem?_eq_getElem hje, hjl]
      · simpa [hij] using h2i
    · have : (es.modify (0 + j) fun e => { e with key := ek a, val := ev v }).toList.map (·.born) = es.toList.map (·.born) := by
        apply List.ext_getElem?
        intro i
        simp only [List.getElem?_map, Array.getElem?_toList, Array.getElem?_modify]
        by_cases hij : 0 + j = i
        · simp only [hij, if_true]; cases es[i]? <;> simp
        · simp only [hij, if_false]
      rw [this]; exact h3
    · intro e he
      rw [Array.mem_toList_iff, Array.mem_iff_getElem?] at he
      obtain ⟨i, hi⟩ := he
      rw [Array.getElem?_modify] at hi
      by_cases hij : 0 + j = i
      · simp only [hij, if_true, Option.map_eq_some_iff] at hi
        obtain ⟨e0, he0, rfl⟩ := hi
        exact h4 e0 (Array.mem_toList_iff.2 (Array.mem_of_getElem? he0))
      · simp only [hij, if_false] at hi
        exact h4 e (Array.mem_toList_iff.2 (Array.mem_of_getElem? hi))

/-- 'delete(m, k)'. -/
theorem run_del {T E : TypeId} (ht : P.underlying T = some (.map K E)) (hk : KeyOk P K ek) {w : World} {r : Nat} {L : List (α × β)} (h : MapIs ek ev w r L) (a : α) (ty : TypeId) :
    ∃ o, (Builtin.delete_ #[T, K] ty #[.map (some r), ek a]).run P w = .ok (.tuple #[]) (blk w r o) ∧ MapIs ek ev (blk w r o) r (del L a) := by
  obtain ⟨es, clock, h1, h2, h3, h4, h5⟩ := h
  have hcell : (#[Value.map (some r), ek a])[0]? = some (.map (some r)) := rfl
  have hcell1 : (#[Value.map (some r), ek a])[1]? = some (ek a) := rfl
  have hty : (#[T, K])[0]? = some T := rfl
  unfold Builtin.delete_
  simp only [hcell, hcell1, hty, Sem.run_bind, run_underlying ht, Result.andThen_ok, MapKept.run_getObj_map h1, hk.check, findKey_ok hk a w es.toList L h2]
  rcases spot_spec (ev := ev) a L 0 with ⟨hs, hg⟩ | ⟨j, v0, hs, hg, hj⟩
  · rw [hs, del_absent hg]
    refine ⟨.map es clock, ?_, es, clock, blk_same h1, h2, h3, h4, h5⟩
    rw [Sem.run_bind, MapKept.run_setObj_map _ h1]
    rfl
  · rw [hs]
    have hlen : es.toList.length = L.length := by have := congrArg List.length h2; simpa using this
    have hjl : j < L.length := (List.getElem?_eq_some_iff.1 hj).1
    have hje : j < es.size := by rw [← Array.length_toList, hlen]; exact hjl
    have hE : (es.eraseIdxIfInBounds (0 + j)).toList = es.toList.eraseIdx j := by simp
    refine ⟨.map (es.eraseIdxIfInBounds (0 + j)) clock, ?_, _, _, blk_same h1, ?_, ?_, ?_, nodup_del h5 a⟩
    · rw [Sem.run_bind, MapKept.run_setObj_map _ h1]
      rfl
    · rw [hE, del_erases h5 hj, ChangeMaps.map_eraseIdx, ChangeMaps.map_eraseIdx, h2]
    · rw [hE, ChangeMaps.map_eraseIdx]
      exact h3.sublist (List.eraseIdx_sublist _ _)
    · rw [hE]
      intro e he
      exact h4 e ((List.eraseIdx_sublist _ _).mem he)

end

end Go.Proofs.YtgjomknpjigkhaaGreatDoor

namespace Go.Proofs.YtgjomknpjigkhaaGreatDoor
open Go.RowKit

def eI (n : Int) : Value := .int .i64 n
def eT (t : Tri) : Value := .agg #[.int .i64 t.1, .int .i64 t.2.1, .int .i64 t.2.2]
def eU (_ : Unit) : Value := .agg #[]

theorem zero3 (w : World) : (zeroValue 3).run Tryz.prog w = .ok (.int .i64 0) w := by kernel_rfl
theorem zero228 (w : World) : (zeroValue 228).run Tryz.prog w = .ok (.agg #[.int .i64 0, .int .i64 0, .int .i64 0]) w := by kernel_rfl
theorem zero339 (w : World) : (zeroValue 339).run Tryz.prog w = .ok (.agg #[]) w := by kernel_rfl

theorem key3 : KeyOk Tryz.prog 3 eI where
  check em a w := MapKept.run_checkKey Tryz.underlying3 (by simp [MapKept.IsKey, eI]) em 9999
  eq a b w := by
    simp only [Op.equal, Op.maxDepth, eI]
    rw [run_equalIn_int w 9999 3 .i64 .i64 a b Tryz.underlying3]
    rfl
  under := ⟨_, Tryz.underlying3, fun a b => .inr (by simp only [Instr.sameNow, eI, if_true]; rfl)⟩
  stays a w := by simp [Instr.keyThatStays, eI, Instr.sameBits]

theorem stood228 : Tryz.prog.stoodInHeld 228 = false := by kernel_rfl
theorem stood285 : Tryz.prog.stoodInHeld 285 = false := by kernel_rfl
theorem fields228 : Tryz.prog.underlying 228 = some (.struct (Tryz.prog.fieldsOf 228)) := by kernel_rfl
theorem fields285 : Tryz.prog.underlying 285 = some (.struct (Tryz.prog.fieldsOf 285)) := by kernel_rfl

theorem part3 (cs : Array Value) (off : Nat) (v : Value) (h : cs[off]? = some v) (w : World) : (part 3 cs off).run Tryz.prog w = .ok v w := by
  have ha : ∀ w, (isAgg 3).run Tryz.prog w = .ok false w := fun w => by kernel_rfl
  unfold part
  rw [Sem.run_bind, ha, Result.andThen_ok]
  simp only [Bool.false_eq_true, if_false, h]
  rfl

theorem part30 (x y z : Value) (w : World) : (part 3 #[x, y, z] 0).run Tryz.prog w = .ok x w := part3 _ _ _ rfl w
theorem part31 (x y z : Value) (w : World) : (part 3 #[x, y, z] 1).run Tryz.prog w = .ok y w := part3 _ _ _ rfl w
theorem part32 (x y z : Value) (w : World) : (part 3 #[x, y, z] 2).run Tryz.prog w = .ok z w := part3 _ _ _ rfl w

theorem eqF (d : Nat) (f1 f2 f3 : Field) (h1 : f1.type = 3 ∧ f1.offset = 0 ∧ f1.name ≠ "_") (h2 : f2.type = 3 ∧ f2.offset = 1 ∧ f2.name ≠ "_") (h3 : f3.type = 3 ∧ f3.offset = 2 ∧ f3.name ≠ "_") (a b : Tri) (w : World) :
    (Op.eqFields (d + 1) #[.int .i64 a.1, .int .i64 a.2.1, .int .i64 a.2.2] #[.int .i64 b.1, .int .i64 b.2.1, .int .i64 b.2.2] [f1, f2, f3]).run Tryz.prog w = .ok (decide (a = b)) w := by
  obtain ⟨a1, a2, a3⟩ := a
  obtain ⟨b1, b2, b3⟩ := b
  simp only [Op.eqFields, h1, h2, h3, ne_eq, not_false_eq_true, if_true, Sem.run_bind, part30, part31, part32, Result.andThen_ok, run_equalIn_int _ d 3 .i64 .i64 _ _ Tryz.underlying3, Sem.run_ite, Sem.run_pure]
  by_cases e1 : a1 = b1
  · by_cases e2 : a2 = b2
    · by_cases e3 : a3 = b3
      · simp [e1, e2, e3]
      · simp [e1, e2, e3]
    · simp [e1, e2]
  · simp [e1]

theorem eq228 (a b : Tri) (w : World) : (Op.equal 228 (eT a) (eT b)).run Tryz.prog w = .ok (decide (a = b)) w := by
  simp only [Op.equal, Op.maxDepth, eT]
  rw [run_equalIn_struct w 9999 228 _ _ fields228 stood228]
  simp only [Program.fieldsOf, Tryz.underlying228]
  exact eqF 9998 _ _ _ ⟨rfl, rfl, by decide⟩ ⟨rfl, rfl, by decide⟩ ⟨rfl, rfl, by decide⟩ a b w

theorem eq285 (a b : Tri) (w : World) : (Op.equal 285 (eT a) (eT b)).run Tryz.prog w = .ok (decide (a = b)) w := by
  simp only [Op.equal, Op.maxDepth, eT]
  rw [run_equalIn_struct w 9999 285 _ _ fields285 stood285]
  simp only [Program.fieldsOf, Tryz.underlying285]
  exact eqF 9998 _ _ _ ⟨rfl, rfl, by decide⟩ ⟨rfl, rfl, by decide⟩ ⟨rfl, rfl, by decide⟩ a b w

theorem stays3 (t : Tri) (w : World) : (Instr.keyThatStays (eT t) (eT t)).run Tryz.prog w = .ok (eT t) w := by
  have : Instr.sameBits 10000 (eT t) (eT t) = true := by simp [eT, Instr.sameBits]
  simp [Instr.keyThatStays, this]

theorem check3 (em : Bool) (d : Nat) (a : Int) (w : World) : (Instr.checkKey em (d + 1) 3 (.int .i64 a)).run Tryz.prog w = .ok () w := MapKept.run_checkKey Tryz.underlying3 (by simp [MapKept.IsKey]) em d

theorem check80 (em : Bool) (t : Tri) (w : World) : (Instr.checkKey em 10000 228 (eT t)).run Tryz.prog w = .ok () w := by
  rw [show (10000 : Nat) = 9998 + 1 + 1 from rfl, eT]
  unfold Instr.checkKey
  simp only [Sem.run_bind, run_underlying Tryz.underlying228, Result.andThen_ok]
  rw [← Array.forIn_toList]
  simp [part30, part31, part32, check3]

theorem check82 (em : Bool) (t : Tri) (w : World) : (Instr.checkKey em 10000 285 (eT t)).run Tryz.prog w = .ok () w := by
  rw [show (10000 : Nat) = 9998 + 1 + 1 from rfl, eT]
  unfold Instr.checkKey
  simp only [Sem.run_bind, run_underlying Tryz.underlying285, Result.andThen_ok]
  rw [← Array.forIn_toList]
  simp [part30, part31, part32, check3]

theorem key228 : KeyOk Tryz.prog 228 eT := ⟨check80, eq228, ⟨_, Tryz.underlying228, fun _ _ => .inl rfl⟩, stays3⟩
theorem key285 : KeyOk Tryz.prog 285 eT := ⟨check82, eq285, ⟨_, Tryz.underlying285, fun _ _ => .inl rfl⟩, stays3⟩

theorem hide {p : Prop} (h : p) : Hid p := h

/-! What is kept. -/

/-- Of what was there nothing has turned but the blocks of T. -/
structure Keeps (T : List Nat) (w w' : World) : Prop where
  os : w'.os = w.os
  tape : w'.tape = w.tape
  output : w'.output = w.output
  size : w.heap.size ≤ w'.heap.size
  block : ∀ i, i < w.heap.size → i ∉ T → w'.heap[i]? = w.heap[i]?

theorem Keeps.refl (T : List Nat) (w : World) : Keeps T w w := ⟨rfl, rfl, rfl, Nat.le_refl _, fun _ _ _ => rfl⟩
theorem Keeps.trans {T : List Nat} {a b c : World} (h : Keeps T a b) (k : Keeps T b c) : Keeps T a c :=
  ⟨k.os.trans h.os, k.tape.trans h.tape, k.output.trans h.output, Nat.le_trans h.size k.size, fun i hi hT => (k.block i (Nat.lt_of_lt_of_le hi h.size) hT).trans (h.block i hi hT)⟩
theorem Keeps.mono {T T' : List Nat} {w w' : World} (h : Keeps T w w') (hT : ∀ i ∈ T, i ∈ T') : Keeps T' w w' :=
  ⟨h.os, h.tape, h.output, h.size, fun i hi hn => h.block i hi fun x => hn (hT i x)⟩
/-- What is new in the middle may turn as it likes. -/
theorem Keeps.trans_new {T T' : List Nat} {a b c : World} (h : Keeps T a b) (k : Keeps T' b c) (hT : ∀ i ∈ T', i ∈ T ∨ a.heap.size ≤ i) : Keeps T a c :=
  ⟨k.os.trans h.os, k.tape.trans h.tape, k.output.trans h.output, Nat.le_trans h.size k.size, fun i hi hn => (k.block i (Nat.lt_of_lt_of_le hi h.size) (fun x => by
    rcases hT i x with h1 | h1
    · exact hn h1
    · omega)).trans (h.block i hi hn)⟩
theorem Keeps.drewN (T : List Nat) (w : World) (n : Nat) : Keeps T w (w.drewN n) := ⟨rfl, rfl, rfl, Nat.le_refl _, fun _ _ _ => rfl⟩
theorem Keeps.drew (T : List Nat) (w : World) : Keeps T w w.drew := ⟨rfl, rfl, rfl, Nat.le_refl _, fun _ _ _ => rfl⟩
theorem Keeps.alloc (T : List Nat) (w : World) (o : Obj) : Keeps T w (w.alloc o) := ⟨rfl, rfl, rfl, by simp, fun i hi _ => Below.heap_alloc w o i hi⟩
theorem Keeps.setCell (w : World) (a : Addr) (v : Value) : Keeps [a.block] w (w.setCell a v) := ⟨rfl, rfl, rfl, by simp [World.setCell], fun i _ hn => Below.heap_setCell w a v i (by simpa using hn)⟩
theorem Keeps.blk (w : World) (r : Nat) (o : Obj) : Keeps [r] w (blk w r o) := ⟨rfl, rfl, rfl, by simp [YtgjomknpjigkhaaGreatDoor.blk], fun i _ hn => blk_other o (by simpa using hn)⟩

/-- A row of cells, none of them marked. -/
def CellsAt (w : World) (b : Nat) (cs : Array Value) : Prop := ∃ t, w.heap[b]? = some (.cells cs t (0, 0))

theorem CellsAt.cell {w : World} {b : Nat} {cs : Array Value} (h : CellsAt w b cs) (i : Nat) : w.cell? ⟨b, i, none⟩ = cs[i]? := by
  obtain ⟨t, h⟩ := h
  simp [World.cell?, h]
theorem CellsAt.frozen {w : World} {b : Nat} {cs : Array Value} (h : CellsAt w b cs) (i : Nat) : w.frozen? ⟨b, i, none⟩ = false := by
  obtain ⟨t, h⟩ := h
  simp [World.frozen?, h]
theorem CellsAt.lt {w : World} {b : Nat} {cs : Array Value} (h : CellsAt w b cs) : b < w.heap.size := by
  obtain ⟨t, h⟩ := h
  exact (Array.getElem?_eq_some_iff.1 h).1
theorem CellsAt.of_heap {w w' : World} {b : Nat} {cs : Array Value} (h : CellsAt w b cs) (e : w'.heap[b]? = w.heap[b]?) : CellsAt w' b cs := by
  obtain ⟨t, h⟩ := h
  exact ⟨t, e.trans h⟩
theorem CellsAt.setCell {w : World} {b : Nat} {cs : Array Value} (h : CellsAt w b cs) (i : Nat) (v : Value) : CellsAt (w.setCell ⟨b, i, none⟩ v) b (cs.setIfInBounds i v) := by
  obtain ⟨t, h⟩ := h
  exact ⟨t, by simp [World.setCell, Array.getElem?_modify, h]⟩

theorem CellsAt.new (w : World) (cs : Array Value) (t : TypeId) : CellsAt (w.alloc (.cells cs t)) w.heap.size cs := ⟨t, (MapKept.heap_alloc w _).1⟩
theorem CellsAt.keeps {w w' : World} {b : Nat} {cs : Array Value} {T : List Nat} (h : CellsAt w b cs) (k : Keeps T w w') (hb : b ∉ T) : CellsAt w' b cs := h.of_heap (k.block b h.lt hb)

/-- A row of integers (it may be longer). -/
def RowIs (w : World) (b : Nat) (xs : List Int) : Prop := ∃ cs, CellsAt w b cs ∧ ∀ (i : Nat) (x : Int), xs[i]? = some x → cs[i]? = some (.int .i64 x)

theorem RowIs.of_heap {w w' : World} {b : Nat} {xs : List Int} (h : RowIs w b xs) (e : w'.heap[b]? = w.heap[b]?) : RowIs w' b xs := by
  obtain ⟨cs, h1, h2⟩ := h
  exact ⟨cs, h1.of_heap e, h2⟩
theorem RowIs.lt {w : World} {b : Nat} {xs : List Int} (h : RowIs w b xs) : b < w.heap.size := by
  obtain ⟨cs, h1, h2⟩ := h
  exact h1.lt
theorem RowIs.cell {w : World} {b : Nat} {xs : List Int} (h : RowIs w b xs) {i : Nat} {x : Int} (hx : xs[i]? = some x) : w.cell? ⟨b, i, none⟩ = some (.int .i64 x) := by
  obtain ⟨cs, h1, h2⟩ := h
  rw [h1.cell, h2 i x hx]

end Go.Proofs.YtgjomknpjigkhaaGreatDoor

namespace Go.Proofs.YtgjomknpjigkhaaGreatDoor
open Go.RowKit

theorem RowIs.kept {w w' : World} {b : Nat} {xs : List Int} {T : List Nat} (h : RowIs w b xs) (k : Keeps T w w') (hb : b ∉ T) : RowIs w' b xs := h.of_heap (k.block b h.lt hb)
theorem MapIs.kept {α β : Type} {ek : α → Value} {ev : β → Value} {w w' : World} {r : Nat} {L : List (α × β)} {T : List Nat} (h : MapIs ek ev w r L) (k : Keeps T w w') (hb : r ∉ T) : MapIs ek ev w' r L := h.of_heap (k.block r h.lt hb)
theorem ownsRow_kept {w w' : World} {base : Nat} {e : TypeId} {size n : Nat} {v : Value} {xs : List Value} {T : List Nat} (h : w.ownsRow base e size v n xs) (k : Keeps T w w') (hT : ∀ i, v.ownBlock = some i → i ∉ T) : w'.ownsRow base e size v n xs := by
  obtain ⟨h1, h2⟩ := h
  refine ⟨h1, ?_⟩
  rcases h2 with h2 | ⟨g, cap, cur, rfl, hg, hh, r⟩
  · exact .inl h2
  · exact .inr ⟨g, cap, cur, rfl, hg, (k.block g (Array.getElem?_eq_some_iff.1 hh).1 (hT g rfl)).trans hh, r⟩

theorem ownsRow_base {w : World} {base base' : Nat} {e : TypeId} {size n : Nat} {v : Value} {xs : List Value} (h : w.ownsRow base e size v n xs) (hb : base' ≤ base) : w.ownsRow base' e size v n xs := by
  obtain ⟨h1, h2⟩ := h
  refine ⟨h1, ?_⟩
  rcases h2 with h2 | ⟨g, cap, cur, rfl, hg, r⟩
  · exact .inl h2
  · exact .inr ⟨g, cap, cur, rfl, Nat.le_trans hb hg, r⟩

theorem ownsRow_cell {w : World} {base g n cap : Nat} {xs : List Int} (h : w.ownsRow base 3 1 (.slice (some ⟨g, 0, none⟩) n cap) n (xs.map (Value.int .i64))) {i : Nat} {x : Int} (hx : xs[i]? = some x) : w.cell? ⟨g, i, none⟩ = some (.int .i64 x) := by
  obtain ⟨h1, h2⟩ := h
  rcases h2 with ⟨h2, _⟩ | ⟨g', cap', cur, e, hg, hh, hn, hm, hs, ht⟩
  · cases h2
  · cases e
    have hi : i < xs.length := (List.getElem?_eq_some_iff.1 hx).1
    have e1 : (cur.toList.take (n * 1))[i]? = some (.int .i64 x) := by rw [ht, List.getElem?_map, hx]; rfl
    rw [List.length_map, Nat.mul_one] at h1
    rw [List.getElem?_take_of_lt (by omega)] at e1
    have : cur[i]? = some (.int .i64 x) := by rw [← Array.getElem?_toList]; exact e1
    simp [World.cell?, hh, this]

theorem ownsRow_at {w : World} {base g n cap : Nat} {xs : List Value} (h : w.ownsRow base 3 1 (.slice (some ⟨g, 0, none⟩) n cap) n xs) : base ≤ g ∧ g < w.heap.size ∧ n ≤ cap ∧ cap ≤ maxLen := by
  obtain ⟨h1, h2⟩ := h
  rcases h2 with ⟨h2, _⟩ | ⟨g', cap', cur, e, hg, hh, hn, hm, hs, ht⟩
  · cases h2
  · cases e
    exact ⟨hg, (Array.getElem?_eq_some_iff.1 hh).1, hn, hm⟩

theorem info3 : (Tryz.prog.info? 3).map (fun i => (i.zero, i.size, i.bytes)) = some (some (.int .i64 0), 1, 8) := by kernel_rfl

def ints (xs : List Int) : List Value := xs.map (Value.int .i64)

theorem ints_get (xs : List Int) (j : Nat) (u : Value) (h : (ints xs)[j]? = some u) : ∃ x, xs[j]? = some x ∧ u = .int .i64 x := by
  unfold ints at h
  rw [List.getElem?_map] at h
  obtain ⟨x, hx, e⟩ := Option.map_eq_some_iff.1 h
  exact ⟨x, hx, e.symm⟩

theorem ints_one (xs : List Int) : ∀ u ∈ ints xs, u.oneCell' = true := ints_oneCell .i64 xs

theorem grownBy_keeps' {w w' : World} {row : Option Nat} (h : w.grownBy w' row) (T : List Nat) (hr : ∀ r, row = some r → r ∈ T ∨ w.heap.size ≤ r) : Keeps T w w' :=
  ⟨h.os, h.tape, h.output, h.size, fun i hi hn => h.block i hi (fun e => by
    rcases hr i e.symm with x | x
    · exact hn x
    · omega)⟩

set_option maxRecDepth 100000 in
set_option maxHeartbeats 400000 in
theorem clone_calls {w : World} {g cap : Nat} {xs : List Int} (h : RowIs w g xs) (hl : xs.length ≤ 1000000000) :
    Calls Tryz.prog 220 #[.slice (some ⟨g, 0, none⟩) xs.length cap] w fun e w' => ∃ v, e = .returned v ∧ w'.ownsRow w.heap.size 3 1 v xs.length (ints xs) ∧ Keeps [] w w' ∧ v ≠ .slice none 0 0 := by
  obtain ⟨i0, hi, hz0, hz1, hz2⟩ := info_parts info3
  have heq := fun (w : World) (n c : Nat) => Lib.run_eql_slice_nil (P := Tryz.prog) w 40 3 (some ⟨g, 0, none⟩) n c 0 0 Tryz.underlying40
  have hk0 := Keeps.alloc [] w (.cells #[] 3)
  have hown : (w.alloc (.cells #[] 3)).ownsRow w.heap.size 3 1 (.slice (some ⟨w.heap.size, 0, none⟩) 0 0) 0 [] :=
    ⟨rfl, .inr ⟨w.heap.size, 0, #[], rfl, Nat.le_refl _, (MapKept.heap_alloc w _).1, Nat.le_refl _, Nat.zero_le _, rfl, rfl⟩⟩
  have hcell : ∀ (j : Nat) (u : Value), (ints xs)[j]? = some u → (w.alloc (.cells #[] 3)).cell? ((⟨g, 0, none⟩ : Addr).add j) = some u := by
    intro j u hu
    obtain ⟨x, hx, rfl⟩ := ints_get xs j u hu
    rw [Addr.add_lit, Nat.zero_add]
    exact (h.of_heap (hk0.block g h.lt (by simp))).cell hx
  go_enter Tryz.func220, Tryz.ntmps220
  go_wp2_with (at_builtin; refine wpList_append_own _ rfl _ _ 40 rfl w.heap.size 3 i0 (.int .i64 0) 1 8 Tryz.underlying40 hi hz0 hz1 hz2 rfl (by decide) _ 0 [] rfl hown ⟨g, 0, none⟩ xs.length cap (ints xs) rfl (by simp [ints]) hcell (ints_one xs) (by unfold maxLen; omega) (by omega) (by simp) ?_)
  intro v w1 h1 h2 h3
  have H1 := hide h1
  have H3 := hide h3
  clear h1 h3
  go_wp2
  go_ret
  refine ⟨v, rfl, by simpa using H1.out, hk0.trans_new (grownBy_keeps' h2 [w.heap.size] (fun r e => ?_)) (fun i hi => ?_), fun e => ?_⟩
  · simp only [Value.ownBlock, Option.some.injEq] at e; exact .inl (by simp [e])
  · simp only [List.mem_singleton] at hi; exact .inr (by omega)
  · exact H3.out e

end Go.Proofs.YtgjomknpjigkhaaGreatDoor

namespace Go.Proofs.YtgjomknpjigkhaaGreatDoor
open Go.RowKit

def isLow (x : Int) : Bool := decide (97 ≤ x) && decide (x ≤ 122)
def isCap (x : Int) : Bool := decide (65 ≤ x) && decide (x ≤ 90)
def isDig (x : Int) : Bool := decide (48 ≤ x) && decide (x ≤ 57)

set_option maxRecDepth 100000 in
theorem isSmall_calls {w : World} (x : Int) : Calls Tryz.prog 242 #[.int .u8 x] w fun e w' => e = .returned (.bool (isLow x)) ∧ w' = w := by
  by_cases h1 : 97 ≤ x
  · by_cases h2 : x ≤ 122
    · have hs : isLow x = true := by simp [isLow, h1, h2]
      rw [hs]
      go_enter Tryz.func242, Tryz.ntmps242
      go_wp2_with fail
      go_ret
      exact ⟨rfl, rfl⟩
    · have hs : isLow x = false := by simp [isLow, h2]
      rw [hs]
      go_enter Tryz.func242, Tryz.ntmps242
      go_wp2_with fail
      go_ret
      exact ⟨rfl, rfl⟩
  · have hs : isLow x = false := by simp [isLow, h1]
    rw [hs]
    go_enter Tryz.func242, Tryz.ntmps242
    go_wp2_with fail
    go_ret
    exact ⟨rfl, rfl⟩

set_option maxRecDepth 100000 in
theorem isGreat_calls {w : World} (x : Int) : Calls Tryz.prog 244 #[.int .u8 x] w fun e w' => e = .returned (.bool (isCap x)) ∧ w' = w := by
  by_cases h1 : 65 ≤ x
  · by_cases h2 : x ≤ 90
    · have hs : isCap x = true := by simp [isCap, h1, h2]
      rw [hs]
      go_enter Tryz.func244, Tryz.ntmps244
      go_wp2_with fail
      go_ret
      exact ⟨rfl, rfl⟩
    · have hs : isCap x = false := by simp [isCap, h2]
      rw [hs]
      go_enter Tryz.func244, Tryz.ntmps244
      go_wp2_with fail
      go_ret
      exact ⟨rfl, rfl⟩
  · have hs : isCap x = false := by simp [isCap, h1]
    rw [hs]
    go_enter Tryz.func244, Tryz.ntmps244
    go_wp2_with fail
    go_ret
    exact ⟨rfl, rfl⟩

set_option maxRecDepth 100000 in
theorem isDigit_calls {w : World} (x : Int) : Calls Tryz.prog 245 #[.int .u8 x] w fun e w' => e = .returned (.bool (isDig x)) ∧ w' = w := by
  by_cases h1 : 48 ≤ x
  · by_cases h2 : x ≤ 57
    · have hs : isDig x = true := by simp [isDig, h1, h2]
      rw [hs]
      go_enter Tryz.func245, Tryz.ntmps245
      go_wp2_with fail
      go_ret
      exact ⟨rfl, rfl⟩
    · have hs : isDig x = false := by simp [isDig, h2]
      rw [hs]
      go_enter Tryz.func245, Tryz.ntmps245
      go_wp2_with fail
      go_ret
      exact ⟨rfl, rfl⟩
  · have hs : isDig x = false := by simp [isDig, h1]
    rw [hs]
    go_enter Tryz.func245, Tryz.ntmps245
    go_wp2_with fail
    go_ret
    exact ⟨rfl, rfl⟩

set_option maxRecDepth 100000 in
theorem small_calls {w : World} (x : Int) : Calls Tryz.prog 268 #[.int .u8 x] w fun e w' => e = .returned (.bool (isLow x)) ∧ w' = w := by
  by_cases h1 : 97 ≤ x
  · by_cases h2 : x ≤ 122
    · have hs : isLow x = true := by simp [isLow, h1, h2]
      rw [hs]
      go_enter Tryz.func268, Tryz.ntmps268
      go_wp2_with fail
      go_ret
      exact ⟨rfl, rfl⟩
    · have hs : isLow x = false := by simp [isLow, h2]
      rw [hs]
      go_enter Tryz.func268, Tryz.ntmps268
      go_wp2_with fail
      go_ret
      exact ⟨rfl, rfl⟩
  · have hs : isLow x = false := by simp [isLow, h1]
    rw [hs]
    go_enter Tryz.func268, Tryz.ntmps268
    go_wp2_with fail
    go_ret
    exact ⟨rfl, rfl⟩

set_option maxRecDepth 100000 in
theorem digit_calls {w : World} (x : Int) : Calls Tryz.prog 269 #[.int .u8 x] w fun e w' => e = .returned (.bool (isDig x)) ∧ w' = w := by
  by_cases h1 : 48 ≤ x
  · by_cases h2 : x ≤ 57
    · have hs : isDig x = true := by simp [isDig, h1, h2]
      rw [hs]
      go_enter Tryz.func269, Tryz.ntmps269
      go_wp2_with fail
      go_ret
      exact ⟨rfl, rfl⟩
    · have hs : isDig x = false := by simp [isDig, h2]
      rw [hs]
      go_enter Tryz.func269, Tryz.ntmps269
      go_wp2_with fail
      go_ret
      exact ⟨rfl, rfl⟩
  · have hs : isDig x = false := by simp [isDig, h1]
    rw [hs]
    go_enter Tryz.func269, Tryz.ntmps269
    go_wp2_with fail
    go_ret
    exact ⟨rfl, rfl⟩

end Go.Proofs.YtgjomknpjigkhaaGreatDoor

namespace Go.Proofs.YtgjomknpjigkhaaGreatDoor
open Go.RowKit

/-- A text's letter. -/
def ltr (s : ByteArray) (i : Nat) : Int := if h : i < s.size then (s[i].toNat : Int) else 0
theorem ltr_at {s : ByteArray} {i : Nat} (h : i < s.size) : ((s[i]'h).toNat : Int) = ltr s i := by unfold ltr; rw [dif_pos h]

/-- How many letters of a kind follow i. -/
def spanFrom (p : Int → Bool) (s : ByteArray) (i : Nat) : Nat → Nat
  | 0 => i
  | k + 1 => if p (ltr s i) then spanFrom p s (i + 1) k else i
def spanOf (p : Int → Bool) (s : ByteArray) : Nat := spanFrom p s 0 s.size
theorem spanFrom_le (p : Int → Bool) (s : ByteArray) (i k : Nat) : i ≤ spanFrom p s i k ∧ spanFrom p s i k ≤ i + k := by
  induction k generalizing i with
  | zero => simp [spanFrom]
  | succ k ih =>
    simp only [spanFrom]
    split
    · have := ih (i + 1); omega
    · omega
theorem spanOf_le (p : Int → Bool) (s : ByteArray) : spanOf p s ≤ s.size := by have := spanFrom_le p s 0 s.size; unfold spanOf; omega

def notEol (x : Int) : Bool := !(x == 10)
def isWord (x : Int) : Bool := isLow x || isDig x

set_option maxRecDepth 100000 in
theorem notEol_calls {w : World} (x : Int) : Calls Tryz.prog 196 #[.int .u8 x] w fun e w' => e = .returned (.bool (notEol x)) ∧ w' = w := by
  have hs : (x != 10) = notEol x := rfl
  go_enter Tryz.func196, Tryz.ntmps196
  go_wp2_with fail
  go_ret
  exact ⟨by show Ending.returned (.bool (x != 10)) = _; rw [hs], rfl⟩

set_option maxRecDepth 100000 in
theorem isWord_calls {w : World} (x : Int) : Calls Tryz.prog 286 #[.int .u8 x] w fun e w' => e = .returned (.bool (isWord x)) ∧ w' = w := by
  have hl := hide (fun w => isSmall_calls (w := w) x)
  have hd := hide (fun w => isDigit_calls (w := w) x)
  have hw : isWord x = (isLow x || isDig x) := rfl
  have Hw := hide hw
  clear hw
  cases h1 : isLow x with
  | true =>
    rw [h1] at hl Hw
    go_enter Tryz.func286, Tryz.ntmps286
    go_wp2_with fail
    refine (hl.out _).mono ?_
    rintro e w1 ⟨rfl, rfl⟩
    go_wp2_with fail
    go_ret
    exact ⟨by rw [Hw.out]; rfl, rfl⟩
  | false =>
    rw [h1] at hl Hw
    go_enter Tryz.func286, Tryz.ntmps286
    go_wp2_with fail
    refine (hl.out _).mono ?_
    rintro e w1 ⟨rfl, rfl⟩
    go_wp2_with fail
    refine (hd.out _).mono ?_
    rintro e w1 ⟨rfl, rfl⟩
    go_wp2_with fail
    go_ret
    exact ⟨by rw [Hw.out]; rfl, rfl⟩

set_option maxRecDepth 100000 in
set_option maxHeartbeats 1000000 in
theorem span_isDig {w : World} (s : ByteArray) (hs : s.size ≤ 10000000) :
    Calls Tryz.prog 195 #[.string s, .func (.func 245) #[] #[]] w fun e w' => e = .returned (.int .i64 (spanOf isDig s)) ∧ w' = w := by
  have Hf := hide (fun (w : World) (x : Int) => isDigit_calls (w := w) x)
  go_enter Tryz.func195, Tryz.ntmps195
  go_wp2_with fail
  go_loopw [8] (fun y wr => ∃ i : Nat, y = .int .i64 i ∧ i ≤ s.size ∧ spanOf isDig s = spanFrom isDig s i (s.size - i) ∧ wr = w) (fun y _ => ((s.size : Int) - intOf y).toNat)
  case atStart => exact ⟨0, rfl, by omega, rfl, rfl⟩
  case round =>
    obtain ⟨i, rfl, hi, hsp, rfl⟩ := hrel
    by_cases hil : i < s.size
    · have hiI : (i : Int) < s.size := by omega
      rw [show s.size - i = (s.size - (i + 1)) + 1 by omega, spanFrom] at hsp
      have Hsp := hide hsp
      clear hsp
      have hl := ltr_at hil
      go_wp2_with fail
      refine (Hf.out _ _).mono ?_
      rintro e w1 ⟨rfl, rfl⟩
      cases hp : isDig (ltr s i) with
      | true =>
        go_wp2_with fail
        go_roundw
        · exact ⟨i + 1, by simp, by omega, by rw [Hsp.out, if_pos hp], trivial⟩
        · simp only [intOf]; omega
      | false =>
        go_wp2_with fail
        go_ret
        exact ⟨by show Ending.returned (.int .i64 ((i : Nat) : Int)) = _; rw [Hsp.out, if_neg (by simp [hp])], rfl⟩
    · have hiI : ¬ (i : Int) < s.size := by omega
      have e : i = s.size := by omega
      rw [e, Nat.sub_self, spanFrom] at hsp
      have Hsp := hide hsp
      clear hsp e
      go_wp2_with fail
      go_ret
      exact ⟨by show Ending.returned (.int .i64 ((s.size : Nat) : Int)) = _; rw [Hsp.out], rfl⟩

set_option maxRecDepth 100000 in
set_option maxHeartbeats 1000000 in
theorem span_isWord {w : World} (s : ByteArray) (hs : s.size ≤ 10000000) :
    Calls Tryz.prog 195 #[.string s, .func (.func 286) #[] #[]] w fun e w' => e = .returned (.int .i64 (spanOf isWord s)) ∧ w' = w := by
  have Hf := hide (fun (w : World) (x : Int) => isWord_calls (w := w) x)
  go_enter Tryz.func195, Tryz.ntmps195
  go_wp2_with fail
  go_loopw [8] (fun y wr => ∃ i : Nat, y = .int .i64 i ∧ i ≤ s.size ∧ spanOf isWord s = spanFrom isWord s i (s.size - i) ∧ wr = w) (fun y _ => ((s.size : Int) - intOf y).toNat)
  case atStart => exact ⟨0, rfl, by omega, rfl, rfl⟩
  case round =>
    obtain ⟨i, rfl, hi, hsp, rfl⟩ := hrel
    by_cases hil : i < s.size
    · have hiI : (i : Int) < s.size := by omega
      rw [show s.size - i = (s.size - (i + 1)) + 1 by omega, spanFrom] at hsp
      have Hsp := hide hsp
      clear hsp
      have hl := ltr_at hil
      go_wp2_with fail
      refine (Hf.out _ _).mono ?_
      rintro e w1 ⟨rfl, rfl⟩
      cases hp : isWord (ltr s i) with
      | true =>
        go_wp2_with fail
        go_roundw
        · exact ⟨i + 1, by simp, by omega, by rw [Hsp.out, if_pos hp], trivial⟩
        · simp only [intOf]; omega
      | false =>
        go_wp2_with fail
        go_ret
        exact ⟨by show Ending.returned (.int .i64 ((i : Nat) : Int)) = _; rw [Hsp.out, if_neg (by simp [hp])], rfl⟩
    · have hiI : ¬ (i : Int) < s.size := by omega
      have e : i = s.size := by omega
      rw [e, Nat.sub_self, spanFrom] at hsp
      have Hsp := hide hsp
      clear hsp e
      go_wp2_with fail
      go_ret
      exact ⟨by show Ending.returned (.int .i64 ((s.size : Nat) : Int)) = _; rw [Hsp.out], rfl⟩

set_option maxRecDepth 100000 in
set_option maxHeartbeats 1000000 in
theorem span_notEol {w : World} (s : ByteArray) (hs : s.size ≤ 10000000) :
    Calls Tryz.prog 195 #[.string s, .func (.func 196) #[] #[]] w fun e w' => e = .returned (.int .i64 (spanOf notEol s)) ∧ w' = w := by
  have Hf := hide (fun (w : World) (x : Int) => notEol_calls (w := w) x)
  go_enter Tryz.func195, Tryz.ntmps195
  go_wp2_with fail
  go_loopw [8] (fun y wr => ∃ i : Nat, y = .int .i64 i ∧ i ≤ s.size ∧ spanOf notEol s = spanFrom notEol s i (s.size - i) ∧ wr = w) (fun y _ => ((s.size : Int) - intOf y).toNat)
  case atStart => exact ⟨0, rfl, by omega, rfl, rfl⟩
  case round =>
    obtain ⟨i, rfl, hi, hsp, rfl⟩ := hrel
    by_cases hil : i < s.size
    · have hiI : (i : Int) < s.size := by omega
      rw [show s.size - i = (s.size - (i + 1)) + 1 by omega, spanFrom] at hsp
      have Hsp := hide hsp
      clear hsp
      have hl := ltr_at hil
      go_wp2_with fail
      refine (Hf.out _ _).mono ?_
      rintro e w1 ⟨rfl, rfl⟩
      cases hp : notEol (ltr s i) with
      | true =>
        go_wp2_with fail
        go_roundw
        · exact ⟨i + 1, by simp, by omega, by rw [Hsp.out, if_pos hp], trivial⟩
        · simp only [intOf]; omega
      | false =>
        go_wp2_with fail
        go_ret
        exact ⟨by show Ending.returned (.int .i64 ((i : Nat) : Int)) = _; rw [Hsp.out, if_neg (by simp [hp])], rfl⟩
    · have hiI : ¬ (i : Int) < s.size := by omega
      have e : i = s.size := by omega
      rw [e, Nat.sub_self, spanFrom] at hsp
      have Hsp := hide hsp
      clear hsp e
      go_wp2_with fail
      go_ret
      exact ⟨by show Ending.returned (.int .i64 ((s.size : Nat) : Int)) = _; rw [Hsp.out], rfl⟩

end Go.Proofs.YtgjomknpjigkhaaGreatDoor

namespace Go.Proofs.YtgjomknpjigkhaaGreatDoor
open Go.RowKit

/-- A text is given up. -/
def gaveUp (c l : Int) : Ending := .panicked [{ v := .iface 28 (.agg #[.int .i64 c, .int .i64 l]), recovered := false }]

set_option maxRecDepth 100000 in
theorem giveUp_calls {w : World} (c l : Int) : Calls Tryz.prog 132 #[.int .i64 c, .int .i64 l] w fun e w' => e = gaveUp c l ∧ w' = w := by
  go_enter Tryz.func132, Tryz.ntmps132
  go_wp2_with fail
  exact ⟨rfl, rfl, rfl⟩

set_option maxRecDepth 100000 in
theorem forbidLonger_ok {w : World} (a b l : Int) (h : ¬ b < a) : Calls Tryz.prog 246 #[.int .i64 a, .int .i64 b, .int .i64 l] w fun e w' => e = .returned (.tuple #[]) ∧ w' = w := by
  go_enter Tryz.func246, Tryz.ntmps246
  go_wp2_with fail
  go_end0
  exact ⟨rfl, rfl⟩

set_option maxRecDepth 100000 in
theorem forbidLonger_bad {w : World} (a b l : Int) (h : b < a) : Calls Tryz.prog 246 #[.int .i64 a, .int .i64 b, .int .i64 l] w fun e w' => e = gaveUp 5 l ∧ w' = w := by
  have hg := hide (fun w => giveUp_calls (w := w) 5 l)
  go_enter Tryz.func246, Tryz.ntmps246
  go_wp2_with fail
  refine (hg.out _).mono ?_
  rintro e w1 ⟨rfl, rfl⟩
  exact ⟨rfl, rfl, rfl⟩

/-- The kind of a word. -/
def strName : ByteArray := ⟨#[78, 65, 77, 69]⟩
def wordKind (s : ByteArray) : ByteArray := if (s.toList == [100, 111, 109]) = true ∨ (s.toList == [114, 101, 108]) = true then s else strName

set_option maxRecDepth 100000 in
theorem cutName_bad {w : World} (s : ByteArray) (hs : s.size ≤ 10000000) (l : Int) (h : 6 < spanOf isWord s) : Calls Tryz.prog 243 #[.string s, .int .i64 l] w fun e w' => e = gaveUp 5 l ∧ w' = w := by
  have h1 := hide (fun w => span_isWord (w := w) s hs)
  have h2 := hide (fun w => forbidLonger_bad (w := w) (spanOf isWord s) 6 l (by omega))
  go_enter Tryz.func243, Tryz.ntmps243
  go_wp2_with fail
  refine (h1.out _).mono ?_
  rintro e w1 ⟨rfl, rfl⟩
  go_wp2_with fail
  refine (h2.out _).mono ?_
  rintro e w1 ⟨rfl, rfl⟩
  exact ⟨rfl, rfl, rfl⟩

set_option maxRecDepth 100000 in
theorem cutName_ok {w : World} (s : ByteArray) (hs : s.size ≤ 10000000) (l : Int) (h : spanOf isWord s ≤ 6) : Calls Tryz.prog 243 #[.string s, .int .i64 l] w fun e w' => e = .returned (.tuple #[.string (wordKind (s.extract 0 (spanOf isWord s))), .int .i64 (spanOf isWord s)]) ∧ w' = w := by
  have h1 := hide (fun w => span_isWord (w := w) s hs)
  have h2 := hide (fun w => forbidLonger_ok (w := w) (spanOf isWord s) 6 l (by omega))
  have hle := spanOf_le isWord s
  generalize spanOf isWord s = n at h1 h2 hle h ⊢
  have hnI : (n : Int) ≤ s.size := by omega
  cases hd : ((s.extract 0 n).toList == [100, 111, 109]) with
  | true =>
    have hk : wordKind (s.extract 0 n) = s.extract 0 n := by unfold wordKind; rw [if_pos (.inl hd)]
    rw [hk]
    go_enter Tryz.func243, Tryz.ntmps243
    go_wp2_with fail
    refine (h1.out _).mono ?_
    rintro e w1 ⟨rfl, rfl⟩
    go_wp2_with fail
    refine (h2.out _).mono ?_
    rintro e w1 ⟨rfl, rfl⟩
    go_wp2_with fail
    go_ret2
    exact ⟨rfl, rfl⟩
  | false =>
    cases hr : ((s.extract 0 n).toList == [114, 101, 108]) with
    | true =>
      have hk : wordKind (s.extract 0 n) = s.extract 0 n := by unfold wordKind; rw [if_pos (.inr hr)]
      rw [hk]
      go_enter Tryz.func243, Tryz.ntmps243
      go_wp2_with fail
      refine (h1.out _).mono ?_
      rintro e w1 ⟨rfl, rfl⟩
      go_wp2_with fail
      refine (h2.out _).mono ?_
      rintro e w1 ⟨rfl, rfl⟩
      go_wp2_with fail
      go_ret2
      exact ⟨rfl, rfl⟩
    | false =>
      have hk : wordKind (s.extract 0 n) = strName := by unfold wordKind; rw [if_neg (by simp [hd, hr])]
      rw [hk]
      go_enter Tryz.func243, Tryz.ntmps243
      go_wp2_with fail
      refine (h1.out _).mono ?_
      rintro e w1 ⟨rfl, rfl⟩
      go_wp2_with fail
      refine (h2.out _).mono ?_
      rintro e w1 ⟨rfl, rfl⟩
      go_wp2_with fail
      go_ret2
      exact ⟨rfl, rfl⟩

end Go.Proofs.YtgjomknpjigkhaaGreatDoor

namespace Go.Proofs.YtgjomknpjigkhaaGreatDoor
open Go.RowKit

def lays137_ren : Go.Shelf.Ren := ⟨fun | 137 => 247 | 217 => 287 | 266 => 297 | x => x, fun x => x, fun x => x⟩
theorem lays137 : Go.Proofs.Lays.n137 Tryz.prog lays137_ren := {
  mixed := by kernel_rfl
  f137 := Tryz.func247.trans (congrArg some (by kernel_rfl))
  f217 := Tryz.func287.trans (congrArg some (by kernel_rfl))
  f266 := Tryz.func297.trans (congrArg some (by kernel_rfl))
  t3 := Tryz.underlying3
  a3 := Tryz.isAgg3
  z3 := Tryz.sizeOf3
  v3 := Tryz.zeroValue3
  t5 := Tryz.underlying5
  a5 := Tryz.isAgg5
  z5 := Tryz.sizeOf5
  v5 := Tryz.zeroValue5
  t9 := Tryz.underlying9
  a9 := Tryz.isAgg9
  z9 := Tryz.sizeOf9
  v9 := Tryz.zeroValue9 }

theorem indexByte_calls {w : World} (s : ByteArray) (c : Int) : Calls Tryz.prog 247 #[.string s, .int .u8 c] w fun e w' => e = .returned (.int .i64 (Lib.indexByte s.data.toList c.toNat.toUInt8)) ∧ w' = w := Go.Proofs.Any.strings_IndexByte lays137 s c w

def isMark (c : Int) : Bool := c == 40 || c == 41 || c == 44 || c == 59 || c == 46 || c == 33

theorem marks_iff (c : Int) (h0 : 0 ≤ c) (h1 : c < 256) : (0 ≤ Lib.indexByte [40, 41, 44, 59, 46, 33] c.toNat.toUInt8) ↔ isMark c = true := by
  obtain ⟨n, rfl⟩ : ∃ n : Nat, c = n := ⟨c.toNat, by omega⟩
  have hn : n < 256 := by omega
  rw [Int.toNat_natCast]
  have key : ∀ k : Fin 256, (0 ≤ Lib.indexByte [40, 41, 44, 59, 46, 33] k.val.toUInt8) ↔ isMark (k.val : Int) = true := by decide +kernel
  exact key ⟨n, hn⟩

/-- Does a text begin with ':-'? -/
def isArrow (s : ByteArray) : Bool := decide (2 ≤ s.size) && ((s.extract 0 2).toList == [58, 45])

set_option maxRecDepth 100000 in
theorem arrow288 {w : World} (s : ByteArray) : Calls Tryz.prog 288 #[.string s, .string ⟨#[58, 45]⟩] w fun e w' => e = .returned (.bool (isArrow s)) ∧ w' = w := by
  by_cases h2 : 2 ≤ s.size
  · have hI : (2 : Int) ≤ s.size := by omega
    have hk : isArrow s = ((s.extract 0 2).toList == [58, 45]) := by unfold isArrow; simp [h2]
    rw [hk]
    go_enter Tryz.func288, Tryz.ntmps288
    go_wp2_with fail
    go_ret
    exact ⟨rfl, rfl⟩
  · have hI : ¬ (2 : Int) ≤ s.size := by omega
    have hk : isArrow s = false := by unfold isArrow; simp [h2]
    rw [hk]
    go_enter Tryz.func288, Tryz.ntmps288
    go_wp2_with fail
    go_ret
    exact ⟨rfl, rfl⟩

set_option maxRecDepth 100000 in
theorem arrow_calls {w : World} (s : ByteArray) : Calls Tryz.prog 248 #[.string s, .string ⟨#[58, 45]⟩] w fun e w' => e = .returned (.bool (isArrow s)) ∧ w' = w := by
  have hp := hide (fun w => arrow288 (w := w) s)
  go_enter Tryz.func248, Tryz.ntmps248
  go_wp2_with fail
  refine (hp.out _).mono ?_
  rintro e w1 ⟨rfl, rfl⟩
  go_wp2_with fail
  go_ret
  exact ⟨rfl, rfl⟩

end Go.Proofs.YtgjomknpjigkhaaGreatDoor
