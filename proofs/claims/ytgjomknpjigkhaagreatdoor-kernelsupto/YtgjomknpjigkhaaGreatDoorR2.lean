/- R2. -/
import Derived.Test.YtgjomknpjigkhaaGreatDoorMBase
namespace Go.Proofs.YtgjomknpjigkhaaGreatDoor
open Go.RowKit

section
variable {P : Program} {K : TypeId} {α β : Type} {ek : α → Value} {ev : β → Value}

/-- A range over the map in block rm is under way, its iterator in block it; the keys of 'left' are to come. -/
def MapRange (ek : α → Value) (ev : β → Value) (w : World) (rm it : Nat) (L : List (α × β)) (left : List α) : Prop :=
  ∃ es clock since seen c0, w.heap[rm]? = some (.map es clock) ∧ es.toList.map (fun e => (e.key, e.val)) = L.map (fun p => (ek p.1, ev p.2)) ∧
    (es.toList.map (·.born)).Nodup ∧ (∀ e ∈ es.toList, e.born < clock) ∧ (L.map Prod.fst).Nodup ∧
    w.heap[it]? = some (.mapIter (some rm) since seen c0) ∧ (∀ e ∈ es.toList, e.born < since) ∧ since ≤ c0 ∧ since ≤ clock ∧
    (leftOf es seen).toList.map (·.key) = left.map ek

theorem MapRange.is {w : World} {rm it : Nat} {L : List (α × β)} {left : List α} (h : MapRange ek ev w rm it L left) : MapIs ek ev w rm L := by
  obtain ⟨es, clock, since, seen, c0, h1, h2, h3, h4, h5, h6⟩ := h
  exact ⟨es, clock, h1, h2, h3, h4, h5⟩

theorem MapRange.of_heap {w w' : World} {rm it : Nat} {L : List (α × β)} {left : List α} (h : MapRange ek ev w rm it L left) (e1 : w'.heap[rm]? = w.heap[rm]?) (e2 : w'.heap[it]? = w.heap[it]?) : MapRange ek ev w' rm it L left := by
  obtain ⟨es, clock, since, seen, c0, h1, h2, h3, h4, h5, h6, h7⟩ := h
  exact ⟨es, clock, since, seen, c0, e1.trans h1, h2, h3, h4, h5, e2.trans h6, h7⟩

theorem MapRange.it_lt {w : World} {rm it : Nat} {L : List (α × β)} {left : List α} (h : MapRange ek ev w rm it L left) : it < w.heap.size := by
  obtain ⟨es, clock, since, seen, c0, h1, h2, h3, h4, h5, h6, h7⟩ := h
  exact (Array.getElem?_eq_some_iff.1 h6).1

theorem MapRange.ne {w : World} {rm it : Nat} {L : List (α × β)} {left : List α} (h : MapRange ek ev w rm it L left) : rm ≠ it := by
  obtain ⟨es, clock, since, seen, c0, h1, h2, h3, h4, h5, h6, h7⟩ := h
  intro e
  rw [e, h6] at h1
  cases h1

theorem leftOf_toList (es : Array MapEntry) (seen : Array Nat) : (leftOf es seen).toList = es.toList.filter (fun e => !seen.contains e.born) := by
  unfold leftOf
  simp

/-- 'range m'. -/
theorem run_maprange {T E : TypeId} (ht : P.underlying T = some (.map K E)) {w : World} {r : Nat} {L : List (α × β)} (h : MapIs ek ev w r L) :
    ∃ o, (Instr.range T (.map (some r))).run P w = .ok (.pointer (some ⟨w.heap.size, 0, none⟩)) (w.alloc o) ∧ MapRange ek ev (w.alloc o) r w.heap.size L (L.map Prod.fst) := by
  obtain ⟨es, clock, h1, h2, h3, h4, h5⟩ := h
  refine ⟨.mapIter (some r) clock #[] clock, ?_, es, clock, clock, #[], clock, ?_, h2, h3, h4, h5, (MapKept.heap_alloc w _).1, h4, Nat.le_refl _, Nat.le_refl _, ?_⟩
  · unfold Instr.range
    simp only [Sem.run_bind, run_underlying ht, Result.andThen_ok, MapKept.run_getObj_map h1]
    rfl
  · exact ((MapKept.heap_alloc w _).2 r (Array.getElem?_eq_some_iff.1 h1).1).trans h1
  · rw [leftOf_toList]
    have : es.toList.filter (fun e => !(#[] : Array Nat).contains e.born) = es.toList := by rw [List.filter_eq_self]; intro a _; simp
    rw [this]
    have := congrArg (List.map Prod.fst) h2
    simpa [List.map_map, Function.comp_def] using this

theorem nodup_map_inj {γ δ : Type} {f : γ → δ} : ∀ {l : List γ}, (l.map f).Nodup → ∀ x ∈ l, ∀ y ∈ l, f x = f y → x = y
  | [], _, x, hx, _, _, _ => by cases hx
  | a :: l, h, x, hx, y, hy, e => by
    simp only [List.map_cons, List.nodup_cons] at h
    rcases List.mem_cons.1 hx with ex | hx2
    · rcases List.mem_cons.1 hy with ey | hy2
      · rw [ex, ey]
      · exact absurd (List.mem_map.2 ⟨y, hy2, by rw [← e, ex]⟩) h.1
    · rcases List.mem_cons.1 hy with ey | hy2
      · exact absurd (List.mem_map.2 ⟨x, hx2, by rw [e, ey]⟩) h.1
      · exact nodup_map_inj h.2 x hx2 y hy2 e

theorem map_nodup_inj {γ δ : Type} {f : γ → δ} (hf : ∀ a b, f a = f b → a = b) : ∀ {l : List γ}, l.Nodup → (l.map f).Nodup
  | [], _ => by simp
  | a :: l, h => by
    simp only [List.nodup_cons, List.map_cons] at h ⊢
    exact ⟨fun x => by obtain ⟨b, hb, e⟩ := List.mem_map.1 x; exact h.1 (hf _ _ e ▸ hb), map_nodup_inj hf h.2⟩

theorem left_filter [DecidableEq α] (hinj : ∀ a b, ek a = ek b → a = b) (a : α) (b : Nat) : ∀ (l : List MapEntry) (left : List α), l.map (·.key) = left.map ek → (∀ e ∈ l, e.born = b ↔ e.key = ek a) →
    (l.filter (fun e => decide (e.born ≠ b))).map (·.key) = (left.filter (fun c => decide (c ≠ a))).map ek
  | [], [], _, _ => by simp
  | [], _ :: _, h, _ => by simp at h
  | _ :: _, [], h, _ => by simp at h
  | e :: l, c :: left, h, hb => by
    simp only [List.map_cons, List.cons.injEq] at h
    have ih := left_filter hinj a b l left h.2 (fun x hx => hb x (List.mem_cons_of_mem _ hx))
    have hiff := hb e (by simp)
    by_cases hc : c = a
    · have e1 : e.born = b := hiff.2 (by rw [h.1, hc])
      rw [List.filter_cons_of_neg (by simp [e1]), List.filter_cons_of_neg (by simp [hc])]
      exact ih
    · have e1 : e.born ≠ b := fun x => hc (hinj _ _ (by rw [← h.1]; exact hiff.1 x))
      rw [List.filter_cons_of_pos (by simpa using e1), List.filter_cons_of_pos (by simpa using hc), List.map_cons, List.map_cons, h.1, ih]

/-- 'next'. -/
theorem MapRange.next [DecidableEq α] (hinj : ∀ a b, ek a = ek b → a = b) {w : World} {rm it : Nat} {L : List (α × β)} {left : List α} (h : MapRange ek ev w rm it L left) (ty : TypeId) :
    (left = [] ∧ (Instr.next (.pointer (some ⟨it, 0, none⟩)) false ty).run P w = .ok (.tuple #[.bool false]) w) ∨
    ∃ a v w', a ∈ left ∧ get L a = some v ∧ (Instr.next (.pointer (some ⟨it, 0, none⟩)) false ty).run P w = .ok (.tuple #[.bool true, ek a, ev v]) w' ∧
      (Instr.entry (.pointer (some ⟨it, 0, none⟩))).run P w' = .ok (.tuple #[ek a, ev v]) w' ∧
      MapRange ek ev w' rm it L (left.filter (fun b => decide (b ≠ a))) ∧ Keeps [it] w w' ∧ w'.heap.size = w.heap.size := by
  have hne := h.ne
  obtain ⟨es, clock, since, seen, c0, h1, h2, h3, h4, h5, h6, h7, h8, hsc, h9⟩ := h
  rcases run_next_at (P := P) w ty it rm since c0 seen es clock h6 h1 h7 h8 with ⟨h0, hrun⟩ | ⟨e, he, w1, hw1, hrun⟩
  · left
    refine ⟨?_, hrun⟩
    have : (leftOf es seen).toList = [] := by rw [← List.length_eq_zero_iff]; simpa using h0
    rw [this] at h9
    simpa using h9.symm
  · right
    have hmem : e ∈ es.toList := by rw [leftOf_toList] at he; exact (List.mem_filter.1 he).1
    have hns : seen.contains e.born = false := by rw [leftOf_toList] at he; simpa using (List.mem_filter.1 he).2
    obtain ⟨p, hp, hpe⟩ : ∃ p ∈ L, (ek p.1, ev p.2) = (e.key, e.val) := by
      have : (e.key, e.val) ∈ L.map (fun p => (ek p.1, ev p.2)) := by rw [← h2]; exact List.mem_map.2 ⟨e, hmem, rfl⟩
      obtain ⟨p, hp, hq⟩ := List.mem_map.1 this
      exact ⟨p, hp, hq⟩
    obtain ⟨a, v⟩ := p
    simp only [Prod.mk.injEq] at hpe
    obtain ⟨hk, hv⟩ := hpe
    have hal : a ∈ left := by
      have : e.key ∈ left.map ek := by rw [← h9]; exact List.mem_map.2 ⟨e, he, rfl⟩
      obtain ⟨b, hb, hbe⟩ := List.mem_map.1 this
      rw [← hk] at hbe
      rwa [← hinj _ _ hbe]
    have hw1h : w1.heap = w.heap := by rcases hw1 with rfl | rfl <;> rfl
    have hblk : (ChangeMaps.setBlock w1 it (.mapIter (some rm) since (seen.push e.born) clock)) = blk w1 it (.mapIter (some rm) since (seen.push e.born) clock) := rfl
    rw [hblk] at hrun
    have hit1 : w1.heap[it]? = some (.mapIter (some rm) since seen c0) := by rw [hw1h]; exact h6
    have hit : (blk w1 it (.mapIter (some rm) since (seen.push e.born) clock)).heap[it]? = some (.mapIter (some rm) since (seen.push e.born) clock) := blk_same hit1
    have hrm : (blk w1 it (.mapIter (some rm) since (seen.push e.born) clock)).heap[rm]? = some (.map es clock) := by rw [blk_other _ hne, hw1h]; exact h1
    refine ⟨a, v, _, hal, get_of_mem h5 hp, by rw [hk, hv]; exact hrun, ?_, ?_, ?_, ?_⟩
    · rw [hk, hv]; exact run_entry_at _ it rm since seen es clock e hit hrm hmem h3
    · refine ⟨es, clock, since, seen.push e.born, clock, hrm, h2, h3, h4, h5, hit, h7, hsc, hsc, ?_⟩
      · have hkn : (es.toList.map (·.key)).Nodup := by
          have e1 : es.toList.map (·.key) = (L.map Prod.fst).map ek := by
            have := congrArg (List.map Prod.fst) h2
            simpa [List.map_map, Function.comp_def] using this
          rw [e1]
          exact map_nodup_inj hinj h5
        have e2 : (leftOf es (seen.push e.born)).toList = (leftOf es seen).toList.filter (fun x => decide (x.born ≠ e.born)) := by
          rw [leftOf_toList, leftOf_toList, List.filter_filter]
          apply List.filter_congr
          intro x _
          simp only [Array.contains_push]
          by_cases hx : x.born = e.born
          · simp [hx]
          · simp [hx]
        rw [e2]
        refine left_filter hinj a e.born _ _ h9 (fun x hx => ?_)
        have hxm : x ∈ es.toList := by rw [leftOf_toList] at hx; exact (List.mem_filter.1 hx).1
        constructor
        · intro hb
          rw [nodup_map_inj h3 x hxm e hmem hb, hk]
        · intro hb
          rw [nodup_map_inj hkn x hxm e hmem (by rw [hb, hk])]
    · refine ⟨?_, ?_, ?_, ?_, ?_⟩
      · rcases hw1 with rfl | rfl <;> rfl
      · rcases hw1 with rfl | rfl <;> rfl
      · rcases hw1 with rfl | rfl <;> rfl
      · simp [blk, hw1h]
      · intro i _ hi
        rw [blk_other _ (by simpa using hi), hw1h]
    · simp [blk, hw1h]
/-- 'delete(m, k)' of a key that has come, while the range is under way. -/
theorem MapRange.del [DecidableEq α] {T E : TypeId} (ht : P.underlying T = some (.map K E)) (hk : KeyOk P K ek) (hinj : ∀ a b, ek a = ek b → a = b) {w : World} {rm it : Nat} {L : List (α × β)} {left : List α} (h : MapRange ek ev w rm it L left) (a : α) (ha : a ∉ left) (ty : TypeId) :
    ∃ o, (Builtin.delete_ #[T, K] ty #[.map (some rm), ek a]).run P w = .ok (.tuple #[]) (blk w rm o) ∧ MapRange ek ev (blk w rm o) rm it (del L a) left := by
  have hne := h.ne
  obtain ⟨es, clock, since, seen, c0, h1, h2, h3, h4, h5, h6, h7, h8, hsc, h9⟩ := h
  have hcell : (#[Value.map (some rm), ek a])[0]? = some (.map (some rm)) := rfl
  have hcell1 : (#[Value.map (some rm), ek a])[1]? = some (ek a) := rfl
  have hty : (#[T, K])[0]? = some T := rfl
  unfold Builtin.delete_
  simp only [hcell, hcell1, hty, Sem.run_bind, run_underlying ht, Result.andThen_ok, MapKept.run_getObj_map h1, hk.check, findKey_ok hk a w es.toList L h2]
  rcases spot_spec (ev := ev) a L 0 with ⟨hs, hg⟩ | ⟨j, v0, hs, hg, hj⟩
  · rw [hs, del_absent hg]
    refine ⟨.map es clock, ?_, es, clock, since, seen, c0, blk_same h1, h2, h3, h4, h5, (blk_other _ hne.symm).trans h6, h7, h8, hsc, h9⟩
    rw [Sem.run_bind, MapKept.run_setObj_map _ h1]
    rfl
  · rw [hs]
    have hlen : es.toList.length = L.length := by have := congrArg List.length h2; simpa using this
    have hjl : j < L.length := (List.getElem?_eq_some_iff.1 hj).1
    have hje : j < es.toList.length := by rw [hlen]; exact hjl
    have hE : (es.eraseIdxIfInBounds (0 + j)).toList = es.toList.eraseIdx j := by simp
    have hkey : (es.toList[j]).key = ek a := by
      have := congrArg (fun l : List (Value × Value) => l[j]?) h2
      simp only [List.getElem?_map, hj, Option.map_some, List.getElem?_eq_getElem hje, Option.some.injEq, Prod.mk.injEq] at this
      exact this.1
    refine ⟨.map (es.eraseIdxIfInBounds (0 + j)) clock, ?_, _, clock, since, seen, c0, blk_same h1, ?_, ?_, ?_, nodup_del h5 a, (blk_other _ hne.symm).trans h6, ?_, h8, hsc, ?_⟩
    · rw [Sem.run_bind, MapKept.run_setObj_map _ h1]
      rfl
    · rw [hE, del_erases h5 hj, ChangeMaps.map_eraseIdx, ChangeMaps.map_eraseIdx, h2]
    · rw [hE, ChangeMaps.map_eraseIdx]
      exact h3.sublist (List.eraseIdx_sublist _ _)
    · rw [hE]; intro e he; exact h4 e ((List.eraseIdx_sublist _ _).mem he)
    · rw [hE]; intro e he; exact h7 e ((List.eraseIdx_sublist _ _).mem he)
    · rw [leftOf_toList, hE, ← h9, leftOf_toList]
      congr 1
      -- the one that goes had come already
      have hseen : (!seen.contains (es.toList[j]).born) = false := by
        cases hc : (!seen.contains (es.toList[j]).born) with
        | false => rfl
        | true =>
          exfalso
          have hm : es.toList[j] ∈ (leftOf es seen).toList := by rw [leftOf_toList]; exact List.mem_filter.2 ⟨List.getElem_mem _, hc⟩
          have : (es.toList[j]).key ∈ left.map ek := by rw [← h9]; exact List.mem_map.2 ⟨_, hm, rfl⟩
          obtain ⟨b, hb, hbe⟩ := List.mem_map.1 this
          rw [hkey] at hbe
          exact ha (hinj _ _ hbe ▸ hb)
      have key : ∀ (l : List MapEntry) (j : Nat) (hj : j < l.length), (!seen.contains (l[j]).born) = false → (l.eraseIdx j).filter (fun e => !seen.contains e.born) = l.filter (fun e => !seen.contains e.born) := by
        intro l
        induction l with
        | nil => intro j hj; simp at hj
        | cons x l ih =>
          intro j hj hb
          cases j with
          | zero => rw [List.eraseIdx_cons_zero, List.filter_cons_of_neg (by simpa using hb)]
          | succ j =>
            rw [List.eraseIdx_cons_succ]
            have := ih j (by simpa using hj) (by simpa using hb)
            rw [List.filter_cons, List.filter_cons, this]
      exact key es.toList j hje hseen

end

end Go.Proofs.YtgjomknpjigkhaaGreatDoor
