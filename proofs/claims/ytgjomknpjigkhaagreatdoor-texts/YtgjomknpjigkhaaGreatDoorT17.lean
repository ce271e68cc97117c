/- Texts: P7 P8 PL. -/
import Derived.Test.YtgjomknpjigkhaaGreatDoorT04
import Derived.Test.YtgjomknpjigkhaaGreatDoorT16
import Derived.Deep.RegionLaw
import Derived.Deep.AppendLies
import Derived.Deep.DeepCutAuto
import Derived.Deep.RegionWith
import Derived.StillTail
namespace Go.Proofs.YtgjomknpjigkhaaGreatDoor

theorem take_pos {p : Sg → Bool} {ts us : List Tn} {t : Tn} (h : takeG p ts = .ok (t, us)) : ts[0]? = some t ∧ us = ts.drop 1 ∧ p t.g = true := by
  cases ts with
  | nil => cases h
  | cons x ts =>
    simp only [takeG] at h
    split at h
    · cases h
      exact ⟨rfl, rfl, by assumption⟩
    · cases h
theorem sees_pos {p : Sg → Bool} {ts : List Tn} (h : sees p ts = true) : ∃ t, ts[0]? = some t ∧ p t.g = true := by
  cases ts with
  | nil => cases h
  | cons x ts => exact ⟨x, rfl, h⟩
theorem tail_drop (ts : List Tn) : ts.tail = ts.drop 1 := by cases ts <;> rfl
theorem drop_get (ts : List Tn) (k j : Nat) : (ts.drop k)[j]? = ts[k + j]? := by rw [List.getElem?_drop]

/-- Behind the first of a list. -/
theorem rest_pos {p : Sg → Bool} (hp : NoFin p) {k : Nat} {ts us r : List Tn} (hk : ts.length ≤ k) (e : Ended ts) (h : restG p k ts = .ok (r, us)) : us = ts.drop (2 * r.length + 1) ∧ (∀ j t, r[j]? = some t → ts[2 * j + 1]? = some t) ∧ ∀ j, j ≤ r.length → ∃ s, ts[2 * j]? = some s ∧ isRpG s.g = decide (j = r.length) := by
  induction k generalizing ts us r with
  | zero =>
    obtain ⟨t, us, rfl⟩ := e.cons
    simp at hk
  | succ k ih =>
    simp only [restG] at h
    split at h
    · rename_i hc
      have g1 := sees_goes comma_noFin e hc
      obtain ⟨c, hc0, hcc⟩ := sees_pos hc
      split at h
      · cases h
      · rename_i t us' ht
        have g2 := (takeG_goes hp g1.2 ht).1
        obtain ⟨ht0, hus, _⟩ := take_pos ht
        rw [tail_drop, drop_get] at ht0
        rw [tail_drop, List.drop_drop] at hus
        split at h
        · cases h
        · rename_i r' vs hr
          cases h
          obtain ⟨i1, i2, i3⟩ := ih (by have := g1.1; have := g2.1; omega) g2.2 hr
          subst hus
          refine ⟨?_, fun j x hj => ?_, fun j hj => ?_⟩
          · rw [i1, List.drop_drop]
            congr 1
            simp
            omega
          · cases j with
            | zero => simp at hj; subst hj; exact ht0
            | succ j =>
              have := i2 j x (by simpa using hj)
              rw [drop_get] at this
              rw [← this]
              congr 1
              omega
          · cases j with
            | zero => exact ⟨c, hc0, by cases hg : c.g <;> rw [hg] at hcc <;> first | rfl | cases hcc⟩
            | succ j =>
              obtain ⟨s, h1, h2⟩ := i3 j (by simpa using hj)
              rw [drop_get] at h1
              refine ⟨s, ?_, ?_⟩
              · rw [← h1]
                congr 1
                omega
              · rw [h2]
                simp
    · split at h
      · cases h
      · rename_i t us' ht
        cases h
        obtain ⟨ht0, hus, hrp⟩ := take_pos ht
        refine ⟨hus, fun j x hj => by simp at hj, fun j hj => ?_⟩
        have : j = 0 := by simpa using hj
        subst this
        exact ⟨t, ht0, by rw [hrp]; simp⟩

/-- A list in brackets, at a place of the tokens. -/
structure ListAt (toks : List Tn) (o : Nat) (r : List Tn) : Prop where
  elem : ∀ j t, r[j]? = some t → toks[o + 2 * j + 1]? = some t
  sep : ∀ j, j < r.length → ∃ s, toks[o + 2 * j + 2]? = some s ∧ isRpG s.g = decide (j + 1 = r.length)
  some : r ≠ []

theorem list_pos {p : Sg → Bool} (hp : NoFin p) {ts us r : List Tn} (e : Ended ts) (h : listG p ts = .ok (r, us)) : us = ts.drop (2 * r.length + 1) ∧ ListAt ts 0 r := by
  unfold listG at h
  split at h
  · cases h
  · rename_i t1 us1 h1
    have g1 := (takeG_goes lp_noFin e h1).1
    obtain ⟨_, q2, _⟩ := take_pos h1
    split at h
    · cases h
    · rename_i t2 us2 h2
      have g2 := (takeG_goes hp g1.2 h2).1
      obtain ⟨p1, p2, _⟩ := take_pos h2
      split at h
      · cases h
      · rename_i r3 us3 h3
        cases h
        obtain ⟨i1, i2, i3⟩ := rest_pos hp (Nat.le_refl _) g2.2 h3
        subst q2
        rw [List.drop_drop] at p2
        subst p2
        rw [drop_get] at p1
        refine ⟨?_, fun j x hj => ?_, fun j hj => ?_, by simp⟩
        · rw [i1, List.drop_drop]
          congr 1
          simp
          omega
        · cases j with
          | zero => simp at hj; subst hj; exact p1
          | succ j =>
            have := i2 j x (by simpa using hj)
            rw [drop_get] at this
            rw [← this]
            congr 1
            omega
        · obtain ⟨s, h1, h2⟩ := i3 j (by simp at hj; omega)
          rw [drop_get] at h1
          refine ⟨s, ?_, ?_⟩
          · rw [← h1]
            congr 1
            omega
          · rw [h2]
            simp

theorem ListAt.shift {ts r : List Tn} {k : Nat} (h : ListAt (ts.drop k) 0 r) : ListAt ts k r := by
  refine ⟨fun j t hj => ?_, fun j hj => ?_, h.some⟩
  · have := h.elem j t hj
    rw [drop_get] at this
    rw [← this]
    congr 1
    omega
  · obtain ⟨s, h1, h2⟩ := h.sep j hj
    rw [drop_get] at h1
    exact ⟨s, by rw [← h1]; congr 1; omega, h2⟩

/-- An atom at a place of the tokens. -/
structure AtomAt (toks : List Tn) (i : Nat) (a : AtomI) : Prop where
  name : toks[i]? = some a.name
  list : ListAt toks (i + 1) a.terms

theorem atom_pos {toks us : List Tn} {i : Nat} {a : AtomI} (e : Ended (toks.drop i)) (h : atomG (toks.drop i) = .ok (a, us)) : us = toks.drop (i + 2 * a.terms.length + 2) ∧ AtomAt toks i a := by
  unfold atomG at h
  split at h
  · cases h
  · rename_i t1 us1 h1
    have g1 := (takeG_goes name_noFin e h1).1
    obtain ⟨q1, q2, _⟩ := take_pos h1
    split at h
    · cases h
    · rename_i r3 us3 h3
      cases h
      obtain ⟨i1, i2⟩ := list_pos term_noFin g1.2 h3
      subst q2
      rw [List.drop_drop] at i1 i2
      rw [drop_get] at q1
      refine ⟨?_, ⟨q1, i2.shift⟩⟩
      rw [i1, List.drop_drop]
      congr 1
      simp
      omega

end Go.Proofs.YtgjomknpjigkhaaGreatDoor

namespace Go.Proofs.YtgjomknpjigkhaaGreatDoor

/-- A token of a kind at a place. -/
def KindAt (toks : List Tn) (i : Nat) (p : Sg → Bool) : Prop := ∃ t, toks[i]? = some t ∧ p t.g = true
def atomEnd (i : Nat) (a : AtomI) : Nat := i + 2 * a.terms.length + 2
def litAtom (i : Nat) (l : LitI) : Nat := if l.no then i + 1 else i
def litEnd (i : Nat) (l : LitI) : Nat := atomEnd (litAtom i l) l.atom
structure LitAt (toks : List Tn) (i : Nat) (l : LitI) : Prop where
  no : ∃ t, toks[i]? = some t ∧ isBangG t.g = l.no
  atom : AtomAt toks (litAtom i l) l.atom
/-- The lits behind a lit, up to the dot. -/
def LitsAt (toks : List Tn) : Nat → List LitI → Nat → Prop
  | i, [], j => j = i ∧ KindAt toks i isDotG
  | i, l :: ls, j => KindAt toks i isCommaG ∧ LitAt toks (i + 1) l ∧ LitsAt toks (litEnd (i + 1) l) ls j
def BodyAt (toks : List Tn) : Nat → List LitI → Nat → Prop
  | i, [], j => j = i ∧ KindAt toks i isDotG
  | i, l :: ls, j => KindAt toks i isArrowG ∧ LitAt toks (i + 1) l ∧ LitsAt toks (litEnd (i + 1) l) ls j
def ItemAt (toks : List Tn) (i : Nat) : ItemI → Nat → Prop
  | .dom n z, nx => KindAt toks i isDomG ∧ toks[i + 1]? = some n ∧ toks[i + 2]? = some z ∧ nx = i + 4
  | .rel n cs, nx => KindAt toks i isRelG ∧ toks[i + 1]? = some n ∧ ListAt toks (i + 2) cs ∧ nx = i + 2 * cs.length + 4
  | .clause a ls, nx => AtomAt toks i a ∧ isNameG a.name.g = true ∧ ∃ j, BodyAt toks (atomEnd i a) ls j ∧ nx = j + 1
def ItemsAt (toks : List Tn) : Nat → List ItemI → Prop
  | i, [] => KindAt toks i isFinG
  | i, x :: xs => ∃ nx, ItemAt toks i x nx ∧ i < nx ∧ ItemsAt toks nx xs

theorem kind_drop {toks : List Tn} {i : Nat} {p : Sg → Bool} (h : sees p (toks.drop i) = true) : KindAt toks i p := by
  obtain ⟨t, h1, h2⟩ := sees_pos h
  rw [drop_get] at h1
  exact ⟨t, h1, h2⟩
theorem take_drop {toks us : List Tn} {i : Nat} {p : Sg → Bool} {t : Tn} (h : takeG p (toks.drop i) = .ok (t, us)) : toks[i]? = some t ∧ us = toks.drop (i + 1) ∧ p t.g = true := by
  obtain ⟨h1, h2, h3⟩ := take_pos h
  rw [drop_get] at h1
  rw [List.drop_drop] at h2
  exact ⟨h1, h2, h3⟩

theorem lit_pos {toks us : List Tn} {i : Nat} {l : LitI} (e : Ended (toks.drop i)) (h : litG (toks.drop i) = .ok (l, us)) : us = toks.drop (litEnd i l) ∧ LitAt toks i l := by
  unfold litG at h
  split at h
  · rename_i hc
    have g1 := sees_goes bang_noFin e hc
    obtain ⟨t, ht, hb⟩ := kind_drop hc
    split at h
    · cases h
    · rename_i r3 us3 h3
      cases h
      rw [tail_drop, List.drop_drop] at h3
      have g2 := g1.2
      rw [tail_drop, List.drop_drop] at g2
      obtain ⟨q1, q2⟩ := atom_pos g2 h3
      exact ⟨q1, ⟨t, ht, hb⟩, q2⟩
  · rename_i hc
    split at h
    · cases h
    · rename_i r3 us3 h3
      cases h
      obtain ⟨q1, q2⟩ := atom_pos e h3
      refine ⟨q1, ⟨_, q2.name, ?_⟩, q2⟩
      have hn := (atom_are e h3).2.2.1
      show isBangG r3.name.g = false
      cases hg : r3.name.g <;> rw [hg] at hn <;> first | rfl | cases hn

theorem lits_pos {toks us : List Tn} {i k : Nat} {ls : List LitI} (hk : (toks.drop i).length ≤ k) (e : Ended (toks.drop i)) (h : litsG k (toks.drop i) = .ok (ls, us)) : ∃ j, us = toks.drop (j + 1) ∧ LitsAt toks i ls j ∧ i ≤ j := by
  induction k generalizing i us ls with
  | zero =>
    obtain ⟨t, us, hu⟩ := e.cons
    rw [hu] at hk
    simp at hk
  | succ k ih =>
    simp only [litsG] at h
    split at h
    · rename_i hc
      have g1 := sees_goes comma_noFin e hc
      have hcm := kind_drop hc
      split at h
      · cases h
      · rename_i l us' hl
        have g2 := litG_goes g1.2 hl
        have g1' := g1.2
        rw [tail_drop, List.drop_drop] at hl g1'
        obtain ⟨q1, q2⟩ := lit_pos g1' hl
        split at h
        · cases h
        · rename_i r' vs hr
          cases h
          have l1 := g1.1
          have l2 := g2.1
          have e2 := g2.2
          subst q1
          obtain ⟨j, p1, p2, p3⟩ := ih (by omega) e2 hr
          refine ⟨j, p1, ⟨hcm, q2, p2⟩, ?_⟩
          have : i ≤ litEnd (i + 1) l := by unfold litEnd atomEnd litAtom; split <;> omega
          omega
    · split at h
      · cases h
      · rename_i t us' ht
        cases h
        obtain ⟨h1, h2, h3⟩ := take_drop ht
        exact ⟨i, h2, ⟨rfl, t, h1, h3⟩, Nat.le_refl _⟩

theorem body_pos {toks us : List Tn} {i : Nat} {ls : List LitI} (e : Ended (toks.drop i)) (h : bodyG (toks.drop i) = .ok (ls, us)) : ∃ j, us = toks.drop (j + 1) ∧ BodyAt toks i ls j ∧ i ≤ j := by
  unfold bodyG at h
  split at h
  · rename_i hc
    have g1 := sees_goes arrow_noFin e hc
    have hcm := kind_drop hc
    split at h
    · cases h
    · rename_i l us' hl
      have g2 := litG_goes g1.2 hl
      have g1' := g1.2
      rw [tail_drop, List.drop_drop] at hl g1'
      obtain ⟨q1, q2⟩ := lit_pos g1' hl
      split at h
      · cases h
      · rename_i r' vs hr
        cases h
        have e2 := g2.2
        subst q1
        obtain ⟨j, p1, p2, p3⟩ := lits_pos (Nat.le_refl _) e2 hr
        refine ⟨j, p1, ⟨hcm, q2, p2⟩, ?_⟩
        have : i ≤ litEnd (i + 1) l := by unfold litEnd atomEnd litAtom; split <;> omega
        omega
  · split at h
    · cases h
    · rename_i t us' ht
      cases h
      obtain ⟨h1, h2, h3⟩ := take_drop ht
      exact ⟨i, h2, ⟨rfl, t, h1, h3⟩, Nat.le_refl _⟩

theorem item_pos {toks us : List Tn} {i : Nat} {x : ItemI} (e : Ended (toks.drop i)) (h : itemG (toks.drop i) = .ok (x, us)) : ∃ nx, us = toks.drop nx ∧ ItemAt toks i x nx ∧ i < nx := by
  unfold itemG at h
  split at h
  · rename_i hc
    have hd := kind_drop hc
    split at h
    · cases h
    · rename_i t2 us2 h2
      rw [tail_drop, List.drop_drop] at h2
      obtain ⟨a1, a2, _⟩ := take_drop h2
      subst a2
      split at h
      · cases h
      · rename_i t3 us3 h3
        obtain ⟨b1, b2, _⟩ := take_drop h3
        subst b2
        split at h
        · cases h
        · rename_i t4 us4 h4
          obtain ⟨_, c2, _⟩ := take_drop h4
          cases h
          exact ⟨i + 4, c2, ⟨hd, a1, b1, rfl⟩, by omega⟩
  · split at h
    · rename_i hc
      have hd := kind_drop hc
      have g1 := sees_goes rel_noFin e hc
      split at h
      · cases h
      · rename_i t2 us2 h2
        have g2 := (takeG_goes name_noFin g1.2 h2).1
        rw [tail_drop, List.drop_drop] at h2
        obtain ⟨a1, a2, _⟩ := take_drop h2
        have g2' := g2.2
        subst a2
        split at h
        · cases h
        · rename_i t3 us3 h3
          obtain ⟨b1, b2⟩ := list_pos name_noFin g2' h3
          rw [List.drop_drop] at b1
          subst b1
          split at h
          · cases h
          · rename_i t4 us4 h4
            obtain ⟨_, c2, _⟩ := take_drop h4
            cases h
            refine ⟨i + 2 * t3.length + 4, ?_, ⟨hd, a1, b2.shift, rfl⟩, by omega⟩
            rw [c2]
            congr 1
            omega
    · split at h
      · cases h
      · rename_i a us1 h1
        have g1 := atomG_goes e h1
        obtain ⟨q1, q2⟩ := atom_pos e h1
        have hn := (atom_are e h1).2.2.1
        have g1' := g1.2
        subst q1
        split at h
        · cases h
        · rename_i b us2 h2
          cases h
          obtain ⟨j, p1, p2, p3⟩ := body_pos g1' h2
          exact ⟨j + 1, p1, ⟨q2, hn, j, p2, rfl⟩, by omega⟩

theorem items_pos {toks : List Tn} {i k : Nat} {is : List ItemI} (hk : (toks.drop i).length ≤ k) (e : Ended (toks.drop i)) (h : itemsG k (toks.drop i) = .ok is) : ItemsAt toks i is := by
  induction k generalizing i is with
  | zero =>
    obtain ⟨t, us, hu⟩ := e.cons
    rw [hu] at hk
    simp at hk
  | succ k ih =>
    simp only [itemsG] at h
    split at h
    · rename_i hf
      cases h
      exact kind_drop hf
    · split at h
      · cases h
      · rename_i x us hx
        have g1 := itemG_goes e hx
        obtain ⟨nx, q1, q2, q3⟩ := item_pos e hx
        have g1' := g1.2
        have l1 := g1.1
        subst q1
        split at h
        · cases h
        · rename_i r hr
          cases h
          exact ⟨nx, q2, q3, ih (by omega) g1' hr⟩

end Go.Proofs.YtgjomknpjigkhaaGreatDoor

namespace Go.Proofs.YtgjomknpjigkhaaGreatDoor
open Go.RowKit

theorem still_of_quiet {P : Program} {ops : Array Oper} {W : World} {Q : Act → Prop} : ∀ (l : List Oper) (a : Act), wpQuiet P ops (fun w' => w' = W) Q l a → wpStill P ops W Q l a := by
  intro l
  induction l with
  | nil => intro a h; exact h
  | cons o rest ih =>
    intro a h
    unfold wpQuiet at h
    unfold wpStill
    split
    · rename_i hw
      rw [if_pos hw] at h
      obtain ⟨v, h1, h2⟩ := h
      have h3 := h1 W rfl
      unfold Oper.quietAt at h3
      unfold Oper.still
      cases hr : (execOp a.eval o).run P W with
      | ok n w' =>
        rw [hr] at h3
        cases n with
        | value u =>
          obtain ⟨e1, e2⟩ := h3
          subst e2
          exact ⟨e1, ih _ h2⟩
        | skip =>
          obtain ⟨e1, e2⟩ := h3
          subst e2
          exact ⟨e1, ih _ h2⟩
        | enter f args =>
          obtain ⟨e1, e2⟩ := h3
          exact ⟨e1, v, e2, ih _ h2⟩
        | _ => exact h3.elim
      | _ => rw [hr] at h3; exact h3.elim
    · rename_i hw
      rw [if_neg hw] at h
      exact ih _ h

theorem wp_region_quiet_tail {P : Program} {id : Nat} {Q : Exit → Act → World → Prop} {a : Act} {w : World} {l : List Oper} (n : Nat) (hm : P.follows .mixedOrders = true) (hB : Region.lexTailB .any l.toArray n = true)
    (h : wpQuiet P l.toArray (fun w' => w' = w.drew) (fun a' => wpList P l.toArray Q (l.drop n) a' w.drew) (l.take n) a) : (Code.region id l.toArray true).wp P Q a w :=
  wp_region_still_tail n hm hB (still_of_quiet _ _ h)

theorem info245Q : (Tryz.prog.info? 245).map (fun i => (i.zero, i.size, i.bytes)) = some (some (.agg #[.int .u8 0, .string ⟨#[]⟩, .int .i64 0, .int .i64 0]), 4, 40) := by kernel_rfl
theorem own_apart {w : World} {B B' : Nat} {e e' : TypeId} {size size' n n' : Nat} {v v' : Value} {xs xs' : List Value} (h : w.ownsRow B e size v n xs) (h' : w.ownsRow B' e' size' v' n' xs') (he : e ≠ e') : ∀ j ∈ ownL v, j ∉ ownL v' := by
  intro j hj hj'
  rcases h.2 with ⟨rfl, _⟩ | ⟨g, cap, cur, rfl, _, hg, _⟩
  · simp [ownL, Value.ownBlock] at hj
  · rcases h'.2 with ⟨rfl, _⟩ | ⟨g', cap', cur', rfl, _, hg', _⟩
    · simp [ownL, Value.ownBlock] at hj'
    · have e1 : j = g := by simpa [ownL, Value.ownBlock] using hj
      have e2 : j = g' := by simpa [ownL, Value.ownBlock] using hj'
      subst e1
      subst e2
      rw [hg] at hg'
      simp at hg'
      exact he hg'.2

theorem four_cells {W : World} {a b c d : Value} {t : TypeId} : ∀ (j : Nat) (x : Value), [a, b, c, d][j]? = some x → (W.alloc (.cells #[a, b, c, d] t)).cell? ((⟨W.heap.size, 0, none⟩ : Addr).add j) = some x := by
  intro j x hx
  rw [Addr.add_lit, Nat.zero_add, (CellsAt.new W #[a, b, c, d] t).cell]
  match j with
  | 0 => simpa using hx
  | 1 => simpa using hx
  | 2 => simpa using hx
  | 3 => simpa using hx
  | j + 4 => simp at hx

/-- The variables of a clause, behind two pointers. -/
structure ScR (w : World) (B V D : Nat) (vts : List Tn) (ds : List Nat) (vv dd : Value) : Prop where
  v : CellsAt w V #[vv]
  d : CellsAt w D #[dd]
  vrow : w.ownsRow B 245 4 vv vts.length (rtCs vts)
  drow : w.ownsRow B 3 1 dd ds.length (colC ds)
  low : B ≤ V ∧ B ≤ D
  vd : V ≠ D
  va : V ∉ ownL vv ∧ V ∉ ownL dd
  da : D ∉ ownL vv ∧ D ∉ ownL dd

def scF (V D : Nat) (vv dd : Value) : List Nat := [V, D] ++ (ownL vv ++ ownL dd)
theorem mem_scF {V D : Nat} {vv dd : Value} {j : Nat} : j ∈ scF V D vv dd ↔ j = V ∨ j = D ∨ j ∈ ownL vv ∨ j ∈ ownL dd := by simp [scF]

theorem ScR.lt {w : World} {B V D : Nat} {vts : List Tn} {ds : List Nat} {vv dd : Value} (h : ScR w B V D vts ds vv dd) : ∀ j ∈ scF V D vv dd, B ≤ j ∧ j < w.heap.size := by
  intro j hj
  rcases mem_scF.1 hj with rfl | rfl | hj | hj
  · exact ⟨h.low.1, h.v.lt⟩
  · exact ⟨h.low.2, h.d.lt⟩
  · exact ownL_at h.vrow j hj
  · exact ownL_at h.drow j hj

theorem ScR.keeps {w w' : World} {B V D : Nat} {vts : List Tn} {ds : List Nat} {vv dd : Value} (h : ScR w B V D vts ds vv dd) {T : List Nat} (k : Keeps T w w') (hT : ∀ j ∈ scF V D vv dd, j ∉ T) : ScR w' B V D vts ds vv dd :=
  ⟨h.v.keeps k (hT _ (mem_scF.2 (.inl rfl))), h.d.keeps k (hT _ (mem_scF.2 (.inr (.inl rfl)))), ownsRow_kept h.vrow k (fun i hi => hT i (mem_scF.2 (.inr (.inr (.inl (by simp [ownL, hi])))))), ownsRow_kept h.drow k (fun i hi => hT i (mem_scF.2 (.inr (.inr (.inr (by simp [ownL, hi])))))), h.low, h.vd, h.va, h.da⟩

theorem ownL_one (g n c : Nat) : ownL (.slice (some ⟨g, 0, none⟩) n c) = [g] := by simp [ownL, Value.ownBlock]

theorem own_new {v : Value} {g H : Nat} (hat : v.ownBlock = some g ∨ g = H) {n c : Nat} : ∀ j ∈ ownL (.slice (some ⟨g, 0, none⟩) n c), j ∈ ownL v ∨ j = H := by
  intro j hj
  rw [ownL_one] at hj
  have e : j = g := by simpa using hj
  subst e
  rcases hat with q | q
  · exact .inl (by simp [ownL, q])
  · exact .inr q

theorem ScR.pushV {w W5 : World} {B V D : Nat} {vts : List Tn} {ds : List Nat} {vv dd : Value} (h : ScR w B V D vts ds vv dd) {t : Tn} {g cap : Nat} (hown : W5.ownsRow B 245 4 (.slice (some ⟨g, 0, none⟩) (vts.length + 1) cap) (vts.length + 1) (rtCs vts ++ rtC t)) (hg : w.grownBy W5 vv.ownBlock) (hat : vv.ownBlock = some g ∨ g = w.heap.size) : CellsAt W5 V #[vv] ∧ ScR (W5.setCell ⟨V, 0, none⟩ (.slice (some ⟨g, 0, none⟩) (vts.length + 1) cap)) B V D (vts ++ [t]) ds (.slice (some ⟨g, 0, none⟩) (vts.length + 1) cap) dd ∧ Keeps (V :: ownL vv) w (W5.setCell ⟨V, 0, none⟩ (.slice (some ⟨g, 0, none⟩) (vts.length + 1) cap)) := by
  have k5 := grownBy_keeps' hg (ownL vv) (fun r e => .inl (by simp [ownL, e]))
  have kS := Keeps.setCell W5 ⟨V, 0, none⟩ (.slice (some ⟨g, 0, none⟩) (vts.length + 1) cap)
  have hv5 := h.v.keeps k5 h.va.1
  have kall := (k5.mono (T' := V :: ownL vv) (fun i hi => by simp [hi])).trans (kS.mono (T' := V :: ownL vv) (fun i hi => by have e : i = V := (by simpa using hi); simp [e]))
  have hVl := h.v.lt
  have hDl := h.d.lt
  have hgn : ∀ j ∈ ownL (.slice (some ⟨g, 0, none⟩) (vts.length + 1) cap), j ∈ ownL vv ∨ j = w.heap.size := own_new hat
  refine ⟨hv5, ⟨hv5.setCell 0 _, h.d.keeps kall (fun q => ?_), ?_, ownsRow_kept h.drow kall (fun i hi q => ?_), h.low, h.vd, ⟨fun q => ?_, h.va.2⟩, ⟨fun q => ?_, h.da.2⟩⟩, kall⟩
  · rcases List.mem_cons.1 q with q | q
    · exact h.vd q.symm
    · exact h.da.1 q
  · rw [rtCs_append, List.length_append, List.length_singleton]
    have : rtCs [t] = rtC t := by simp [rtCs]
    rw [this]
    refine ownsRow_kept hown kS (fun i hi q => ?_)
    have e : i = V := by simpa using q
    rcases hgn i (by rw [ownL, hi]; simp) with q | q
    · exact h.va.1 (e ▸ q)
    · omega
  · have hi' : i ∈ ownL dd := by simp [ownL, hi]
    rcases List.mem_cons.1 q with q | q
    · exact h.va.2 (q ▸ hi')
    · exact own_apart h.vrow h.drow (by decide) i q hi'
  · rcases hgn V q with q | q
    · exact h.va.1 q
    · omega
  · rcases hgn D q with q | q
    · exact h.da.1 q
    · omega

theorem ScR.pushD {w W5 : World} {B V D : Nat} {vts : List Tn} {ds : List Nat} {vv dd : Value} (h : ScR w B V D vts ds vv dd) {d : Nat} {g cap : Nat} (hown : W5.ownsRow B 3 1 (.slice (some ⟨g, 0, none⟩) (ds.length + 1) cap) (ds.length + 1) (colC ds ++ [.int .i64 (d : Int)])) (hg : w.grownBy W5 dd.ownBlock) (hat : dd.ownBlock = some g ∨ g = w.heap.size) : CellsAt W5 D #[dd] ∧ ScR (W5.setCell ⟨D, 0, none⟩ (.slice (some ⟨g, 0, none⟩) (ds.length + 1) cap)) B V D vts (ds ++ [d]) vv (.slice (some ⟨g, 0, none⟩) (ds.length + 1) cap) ∧ Keeps (D :: ownL dd) w (W5.setCell ⟨D, 0, none⟩ (.slice (some ⟨g, 0, none⟩) (ds.length + 1) cap)) := by
  have k5 := grownBy_keeps' hg (ownL dd) (fun r e => .inl (by simp [ownL, e]))
  have kS := Keeps.setCell W5 ⟨D, 0, none⟩ (.slice (some ⟨g, 0, none⟩) (ds.length + 1) cap)
  have hv5 := h.d.keeps k5 h.da.2
  have kall := (k5.mono (T' := D :: ownL dd) (fun i hi => by simp [hi])).trans (kS.mono (T' := D :: ownL dd) (fun i hi => by have e : i = D := (by simpa using hi); simp [e]))
  have hVl := h.v.lt
  have hDl := h.d.lt
  have hgn : ∀ j ∈ ownL (.slice (some ⟨g, 0, none⟩) (ds.length + 1) cap), j ∈ ownL dd ∨ j = w.heap.size := own_new hat
  refine ⟨hv5, ⟨h.v.keeps kall (fun q => ?_), hv5.setCell 0 _, ownsRow_kept h.vrow kall (fun i hi q => ?_), ?_, h.low, h.vd, ⟨h.va.1, fun q => ?_⟩, ⟨h.da.1, fun q => ?_⟩⟩, kall⟩
  · rcases List.mem_cons.1 q with q | q
    · exact h.vd q
    · exact h.va.2 q
  · have hi' : i ∈ ownL vv := by simp [ownL, hi]
    rcases List.mem_cons.1 q with q | q
    · exact h.da.1 (q ▸ hi')
    · exact own_apart h.vrow h.drow (by decide) i hi' q
  · rw [List.length_append, List.length_singleton]
    have : colC (ds ++ [d]) = colC ds ++ [.int .i64 (d : Int)] := by simp [colC]
    rw [this]
    refine ownsRow_kept hown kS (fun i hi q => ?_)
    have e : i = D := by simpa using q
    rcases hgn i (by rw [ownL, hi]; simp) with q | q
    · exact h.da.2 (e ▸ q)
    · omega
  · rcases hgn V q with q | q
    · exact h.va.2 q
    · omega
  · rcases hgn D q with q | q
    · exact h.da.2 q
    · omega

/-- Where an atom's parts lie. -/
structure AtP (w : World) (P V D N B : Nat) (T0 : List Nat) : Prop where
  hT : ∀ j ∈ T0, j < w.heap.size ∧ (j = P ∨ B ≤ j)
  hP : P ∈ T0
  hV : V ∈ T0
  hD : D ∈ T0
  PB : P < B
  BV : B ≤ V
  BD : B ≤ D
  hB : B ≤ w.heap.size
  hN : w.heap.size + 1 < N

/-- An atom under way. -/
structure AtR (w wr : World) (P V D N B : Nat) (dv rv kv tkv : Value) (n : Tn) (ρ : Int) (T0 : List Nat) (f : FltO) (vts : List Tn) (ds : List Nat) (vv dd : Value) (ts : List Tn) (tv : Value) : Prop where
  pre : AtP w P V D N B T0
  cells : CellsAt wr P #[dv, rv, kv, tkv, .int .i64 (fC f).1, .int .i64 (fC f).2]
  sc : ScR wr B V D vts ds vv dd
  res : CellsAt wr w.heap.size #[.int .i64 0, .slice none 0 0, .bool false, .int .i64 0]
  at_ : CellsAt wr (w.heap.size + 1) #[.int .i64 ρ, tv, .bool false, .int .i64 n.line]
  nm : CellsAt wr N #[.int .u8 (rkind n.g), .string (txt n.g), .int .i64 (numOf n.g), .int .i64 n.line]
  row : wr.ownsRow (N + 1) 245 4 tv ts.length (rtCs ts)
  keep : Keeps T0 w wr
  foot : ∀ j, j ∈ ownL vv ∨ j ∈ ownL dd → j ∈ T0 ∨ (N < j ∧ j ∉ ownL tv)

theorem AtR.kept {w wr W : World} {P V D N B : Nat} {dv rv kv tkv : Value} {n : Tn} {ρ : Int} {T0 : List Nat} {f : FltO} {vts : List Tn} {ds : List Nat} {vv dd : Value} {ts : List Tn} {tv : Value} (h : AtR w wr P V D N B dv rv kv tkv n ρ T0 f vts ds vv dd ts tv) (k : Keeps [] wr W) : AtR w W P V D N B dv rv kv tkv n ρ T0 f vts ds vv dd ts tv :=
  ⟨h.pre, h.cells.keeps k (by simp), h.sc.keeps k (by simp), h.res.keeps k (by simp), h.at_.keeps k (by simp), h.nm.keeps k (by simp), ownsRow_kept h.row k (by simp), h.keep.trans (k.mono (by simp)), h.foot⟩

theorem AtR.wronged {w wr W : World} {P V D N B : Nat} {dv rv kv tkv : Value} {n : Tn} {ρ : Int} {T0 : List Nat} {f f' : FltO} {vts : List Tn} {ds : List Nat} {vv dd : Value} {ts : List Tn} {tv : Value} (h : AtR w wr P V D N B dv rv kv tkv n ρ T0 f vts ds vv dd ts tv) (k : Keeps [P] wr W) (hc : CellsAt W P #[dv, rv, kv, tkv, .int .i64 (fC f').1, .int .i64 (fC f').2]) : AtR w W P V D N B dv rv kv tkv n ρ T0 f' vts ds vv dd ts tv := by
  have hPw := (h.pre.hT P h.pre.hP).1
  have hN := h.pre.hN
  have hPB := h.pre.PB
  have one : ∀ j, j ≠ P → j ∉ [P] := fun j hj q => hj (by simpa using q)
  exact ⟨h.pre, hc, h.sc.keeps k (fun j hj => one j (by have := (h.sc.lt j hj).1; omega)), h.res.keeps k (one _ (by omega)), h.at_.keeps k (one _ (by omega)), h.nm.keeps k (one _ (by omega)), ownsRow_kept h.row k (fun i hi => one i (by have := ownE_lt h.row i hi; omega)), h.keep.trans (k.mono (fun i hi => by have e : i = P := (by simpa using hi); rw [e]; exact h.pre.hP)), h.foot⟩

theorem AtR.far {w wr : World} {P V D N B : Nat} {dv rv kv tkv : Value} {n : Tn} {ρ : Int} {T0 : List Nat} {f : FltO} {vts : List Tn} {ds : List Nat} {vv dd : Value} {ts : List Tn} {tv : Value} (h : AtR w wr P V D N B dv rv kv tkv n ρ T0 f vts ds vv dd ts tv) : ∀ j, j ∈ scF V D vv dd → j ∈ T0 ∨ (N < j ∧ j ∉ ownL tv) := by
  intro j hj
  rcases mem_scF.1 hj with rfl | rfl | hj | hj
  · exact .inl h.pre.hV
  · exact .inl h.pre.hD
  · exact h.foot j (.inl hj)
  · exact h.foot j (.inr hj)

/-- A term more. -/
theorem AtR.push {w wr W4 W5 : World} {P V D N B : Nat} {dv rv kv tkv : Value} {n : Tn} {ρ : Int} {T0 : List Nat} {f : FltO} {vts : List Tn} {ds : List Nat} {vv dd : Value} {ts : List Tn} {tv : Value} (h : AtR w wr P V D N B dv rv kv tkv n ρ T0 f vts ds vv dd ts tv) (k : Keeps [] wr W4) {t : Tn} {g cap : Nat} (hown : W5.ownsRow (N + 1) 245 4 (.slice (some ⟨g, 0, none⟩) (ts.length + 1) cap) (ts.length + 1) (rtCs ts ++ rtC t)) (hg : W4.grownBy W5 tv.ownBlock) (hat : tv.ownBlock = some g ∨ g = W4.heap.size) : CellsAt W5 (w.heap.size + 1) #[.int .i64 ρ, tv, .bool false, .int .i64 n.line] ∧ AtR w (W5.setCell ⟨w.heap.size + 1, 1, none⟩ (.slice (some ⟨g, 0, none⟩) (ts.length + 1) cap)) P V D N B dv rv kv tkv n ρ T0 f vts ds vv dd (ts ++ [t]) (.slice (some ⟨g, 0, none⟩) (ts.length + 1) cap) := by
  have h4 := h.kept k
  have k5 := grownBy_keeps' hg (ownL tv) (fun r e => .inl (by simp [ownL, e]))
  have kS := Keeps.setCell W5 ⟨w.heap.size + 1, 1, none⟩ (.slice (some ⟨g, 0, none⟩) (ts.length + 1) cap)
  have kall := (k5.mono (T' := (w.heap.size + 1) :: ownL tv) (fun i hi => by simp [hi])).trans (kS.mono (T' := (w.heap.size + 1) :: ownL tv) (fun i hi => by have e : i = w.heap.size + 1 := (by simpa using hi); simp [e]))
  have hN := h.pre.hN
  have hPw := (h.pre.hT P h.pre.hP).1
  have htv : ∀ j ∈ ownL tv, N + 1 ≤ j ∧ j < W4.heap.size := ownL_at h4.row
  have hgn : ∀ j ∈ ownL (.slice (some ⟨g, 0, none⟩) (ts.length + 1) cap), j ∈ ownL tv ∨ j = W4.heap.size := own_new hat
  have out : ∀ j, j ≤ N → j ≠ w.heap.size + 1 → j ∉ (w.heap.size + 1) :: ownL tv := fun j h1 h2 q => by
    rcases List.mem_cons.1 q with q | q
    · exact h2 q
    · have := (htv j q).1; omega
  have hA5 := h4.at_.keeps k5 (fun q => by have := (htv _ q).1; omega)
  have hsz := h4.keep.size
  have hNs : N < W4.heap.size := h4.nm.lt
  refine ⟨hA5, ⟨h.pre, h4.cells.keeps kall (out _ (by omega) (by omega)), h4.sc.keeps kall (fun j hj => ?_), h4.res.keeps kall (out _ (by omega) (by omega)), hA5.setCell 1 _, h4.nm.keeps kall (out _ (by omega) (by omega)), ?_, h4.keep.trans_new kall (fun j hj => ?_), fun j hj => ?_⟩⟩
  · rcases h.far j hj with q | q
    · have := (h.pre.hT j q).1; exact out j (by omega) (by omega)
    · intro q2
      rcases List.mem_cons.1 q2 with q2 | q2
      · omega
      · exact q.2 q2
  · rw [rtCs_append, List.length_append, List.length_singleton]
    have : rtCs [t] = rtC t := by simp [rtCs]
    rw [this]
    refine ownsRow_kept hown kS (fun i hi q => ?_)
    have e : i = w.heap.size + 1 := by simpa using q
    rcases hgn i (by rw [ownL, hi]; simp) with q | q
    · have := (htv i q).1; omega
    · omega
  · rcases List.mem_cons.1 hj with q | q
    · exact .inr (by omega)
    · have := (htv j q).1; exact .inr (by omega)
  · rcases h.foot j hj with q | q
    · exact .inl q
    · refine .inr ⟨q.1, fun q2 => ?_⟩
      rcases hgn j q2 with q3 | q3
      · exact q.2 q3
      · have : j < W4.heap.size := (h4.sc.lt j (mem_scF.2 (.inr (.inr hj)))).2
        omega

/-- A VAR more. -/
theorem AtR.pushV {w wr W4 W5 : World} {P V D N B : Nat} {dv rv kv tkv : Value} {n : Tn} {ρ : Int} {T0 : List Nat} {f : FltO} {vts : List Tn} {ds : List Nat} {vv dd : Value} {ts : List Tn} {tv : Value} (h : AtR w wr P V D N B dv rv kv tkv n ρ T0 f vts ds vv dd ts tv) (k : Keeps [] wr W4) {t : Tn} {g cap : Nat} (hown : W5.ownsRow B 245 4 (.slice (some ⟨g, 0, none⟩) (vts.length + 1) cap) (vts.length + 1) (rtCs vts ++ rtC t)) (hg : W4.grownBy W5 vv.ownBlock) (hat : vv.ownBlock = some g ∨ g = W4.heap.size) : CellsAt W5 V #[vv] ∧ AtR w (W5.setCell ⟨V, 0, none⟩ (.slice (some ⟨g, 0, none⟩) (vts.length + 1) cap)) P V D N B dv rv kv tkv n ρ T0 f (vts ++ [t]) ds (.slice (some ⟨g, 0, none⟩) (vts.length + 1) cap) dd ts tv ∧ Keeps (V :: ownL vv) W4 (W5.setCell ⟨V, 0, none⟩ (.slice (some ⟨g, 0, none⟩) (vts.length + 1) cap)) := by
  have h4 := h.kept k
  obtain ⟨hv5, hsc, kall⟩ := h4.sc.pushV hown hg hat
  have hN := h.pre.hN
  have hPB := h.pre.PB
  have hPw := (h.pre.hT P h.pre.hP).1
  have hgn : ∀ j ∈ ownL (.slice (some ⟨g, 0, none⟩) (vts.length + 1) cap), j ∈ ownL vv ∨ j = W4.heap.size := own_new hat
  have hin : ∀ j ∈ V :: ownL vv, j ∈ scF V D vv dd := fun j hj => by
    rcases List.mem_cons.1 hj with q | q
    · exact mem_scF.2 (.inl q)
    · exact mem_scF.2 (.inr (.inr (.inl q)))
  have out : ∀ j, w.heap.size ≤ j → j ≤ N → j ∉ V :: ownL vv := fun j h1 h2 q => by
    rcases h.far j (hin j q) with q | q
    · have := (h.pre.hT j q).1; omega
    · omega
  have hNs : N < W4.heap.size := h4.nm.lt
  refine ⟨hv5, ⟨h.pre, h4.cells.keeps kall (fun q => ?_), hsc, h4.res.keeps kall (out _ (by omega) (by omega)), h4.at_.keeps kall (out _ (by omega) (by omega)), h4.nm.keeps kall (out _ (by omega) (by omega)), ownsRow_kept h4.row kall (fun i hi q => ?_), h4.keep.trans_new kall (fun j hj => ?_), fun j hj => ?_⟩, kall⟩
  · have := (h4.sc.lt P (hin P q)).1; omega
  · have hi' : i ∈ ownL tv := by simp [ownL, hi]
    rcases h.far i (hin i q) with q | q
    · have := (h.pre.hT i q).1; have := (ownL_at h4.row i hi').1; omega
    · exact q.2 hi'
  · rcases h.far j (hin j hj) with q | q
    · exact .inl q
    · exact .inr (by omega)
  · rcases hj with hj | hj
    · rcases hgn j hj with q | q
      · exact h.foot j (.inl q)
      · refine .inr ⟨by omega, fun q2 => ?_⟩
        have := (ownL_at h4.row j q2).2
        omega
    · exact h.foot j (.inr hj)

/-- Its dom. -/
theorem AtR.pushD {w wr W4 W5 : World} {P V D N B : Nat} {dv rv kv tkv : Value} {n : Tn} {ρ : Int} {T0 : List Nat} {f : FltO} {vts : List Tn} {ds : List Nat} {vv dd : Value} {ts : List Tn} {tv : Value} (h : AtR w wr P V D N B dv rv kv tkv n ρ T0 f vts ds vv dd ts tv) (k : Keeps [] wr W4) {d : Nat} {g cap : Nat} (hown : W5.ownsRow B 3 1 (.slice (some ⟨g, 0, none⟩) (ds.length + 1) cap) (ds.length + 1) (colC ds ++ [.int .i64 (d : Int)])) (hg : W4.grownBy W5 dd.ownBlock) (hat : dd.ownBlock = some g ∨ g = W4.heap.size) : CellsAt W5 D #[dd] ∧ AtR w (W5.setCell ⟨D, 0, none⟩ (.slice (some ⟨g, 0, none⟩) (ds.length + 1) cap)) P V D N B dv rv kv tkv n ρ T0 f vts (ds ++ [d]) vv (.slice (some ⟨g, 0, none⟩) (ds.length + 1) cap) ts tv := by
  have h4 := h.kept k
  obtain ⟨hv5, hsc, kall⟩ := h4.sc.pushD hown hg hat
  have hN := h.pre.hN
  have hPB := h.pre.PB
  have hPw := (h.pre.hT P h.pre.hP).1
  have hgn : ∀ j ∈ ownL (.slice (some ⟨g, 0, none⟩) (ds.length + 1) cap), j ∈ ownL dd ∨ j = W4.heap.size := own_new hat
  have hin : ∀ j ∈ D :: ownL dd, j ∈ scF V D vv dd := fun j hj => by
    rcases List.mem_cons.1 hj with q | q
    · exact mem_scF.2 (.inr (.inl q))
    · exact mem_scF.2 (.inr (.inr (.inr q)))
  have out : ∀ j, w.heap.size ≤ j → j ≤ N → j ∉ D :: ownL dd := fun j h1 h2 q => by
    rcases h.far j (hin j q) with q | q
    · have := (h.pre.hT j q).1; omega
    · omega
  have hNs : N < W4.heap.size := h4.nm.lt
  refine ⟨hv5, ⟨h.pre, h4.cells.keeps kall (fun q => ?_), hsc, h4.res.keeps kall (out _ (by omega) (by omega)), h4.at_.keeps kall (out _ (by omega) (by omega)), h4.nm.keeps kall (out _ (by omega) (by omega)), ownsRow_kept h4.row kall (fun i hi q => ?_), h4.keep.trans_new kall (fun j hj => ?_), fun j hj => ?_⟩⟩
  · have := (h4.sc.lt P (hin P q)).1; omega
  · have hi' : i ∈ ownL tv := by simp [ownL, hi]
    rcases h.far i (hin i q) with q | q
    · have := (h.pre.hT i q).1; have := (ownL_at h4.row i hi').1; omega
    · exact q.2 hi'
  · rcases h.far j (hin j hj) with q | q
    · exact .inl q
    · exact .inr (by omega)
  · rcases hj with hj | hj
    · exact h.foot j (.inl hj)
    · rcases hgn j hj with q | q
      · exact h.foot j (.inr q)
      · refine .inr ⟨by omega, fun q2 => ?_⟩
        have := (ownL_at h4.row j q2).2
        omega

/-- What was there ahead of the clause is still there, but for the fault. -/
theorem AtR.low {w0 w wr : World} {P V D N : Nat} {dv rv kv tkv : Value} {n : Tn} {ρ : Int} {T0 : List Nat} {f : FltO} {vts : List Tn} {ds : List Nat} {vv dd : Value} {ts : List Tn} {tv : Value} (h : AtR w wr P V D N w0.heap.size dv rv kv tkv n ρ T0 f vts ds vv dd ts tv) (k : Keeps [P] w0 w) : Keeps [P] w0 wr :=
  k.trans_new h.keep (fun j hj => by
    rcases (h.pre.hT j hj).2 with q | q
    · exact .inl (by simp [q])
    · exact .inr q)

/-- What an atom leaves. -/
def AtRTo (w : World) (P V D B : Nat) (dv rv kv tkv vv0 dd0 : Value) (i : Nat) (a : AtomI) (ρ : Int) (r : FltO × Scope) (e : Ending) (w' : World) : Prop :=
  ∃ v vts vv dd, e = .returned (.tuple #[.agg #[.int .i64 ρ, v, .bool false, .int .i64 a.name.line], .int .i64 (atomEnd i a : Nat)]) ∧ CellsAt w' P #[dv, rv, kv, tkv, .int .i64 (fC r.1).1, .int .i64 (fC r.1).2] ∧ ScR w' B V D vts (r.2.map Prod.snd) vv dd ∧ vts.map (fun t => txt t.g) = r.2.map Prod.fst ∧ w'.ownsRow w.heap.size 245 4 v a.terms.length (rtCs a.terms) ∧ Keeps (P :: scF V D vv0 dd0) w w' ∧ ∀ j, j ∈ ownL vv ∨ j ∈ ownL dd → j ∈ P :: scF V D vv0 dd0 ∨ (w.heap.size ≤ j ∧ j ∉ ownL v)

/-! The scope, as the reading goes. -/
theorem termR_once {m : Mean} {f : FltO} {sc : Scope} {t : Tn} {d : Nat} (h : Once sc) : Once (termR m f sc t d).2 := by
  unfold termR
  split
  · exact h
  · split
    · rename_i hp
      exact h.push hp d
    · exact h
theorem termR_fok {m : Mean} {f : FltO} {sc : Scope} {t : Tn} {d : Nat} (h : FOk f) : FOk (termR m f sc t d).1 := by
  unfold termR
  split
  · exact h.wrong _ (by decide)
  · split <;> exact h.wrong _ (by decide)
theorem termR_len {m : Mean} {f : FltO} {sc : Scope} {t : Tn} {d : Nat} : (termR m f sc t d).2.length ≤ sc.length + 1 := by
  unfold termR
  split
  · simp
  · split <;> simp
theorem termsR_all {m : Mean} {f : FltO} {sc : Scope} {ts : List Tn} {ds : List Nat} (h : Once sc) (hf : FOk f) : Once (termsR m f sc ts ds).2 ∧ FOk (termsR m f sc ts ds).1 ∧ (termsR m f sc ts ds).2.length ≤ sc.length + ts.length := by
  induction ts generalizing f sc ds with
  | nil => exact ⟨h, hf, by simp [termsR]⟩
  | cons t ts ih => cases ds with
    | nil => exact ⟨h, hf, by simp [termsR]⟩
    | cons d ds =>
      simp only [termsR]
      obtain ⟨a, b, c⟩ := ih (ds := ds) (termR_once (m := m) (f := f) (t := t) (d := d) h) (termR_fok (m := m) (sc := sc) (t := t) (d := d) hf)
      refine ⟨a, b, ?_⟩
      have := termR_len (m := m) (f := f) (sc := sc) (t := t) (d := d)
      simp
      omega
theorem atomR_all {m : Mean} {f : FltO} {sc : Scope} {a : AtomI} (h : Once sc) (hf : FOk f) : Once (atomR m f sc a).2 ∧ FOk (atomR m f sc a).1 ∧ (atomR m f sc a).2.length ≤ sc.length + a.terms.length := by
  unfold atomR
  split
  · exact ⟨h, hf.wrong _ (by decide), by simp⟩
  · exact termsR_all h (hf.wrong _ (by decide))

end Go.Proofs.YtgjomknpjigkhaaGreatDoor
