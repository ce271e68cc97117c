/- T2. -/
import Derived.Test.YtgjomknpjigkhaaGreatDoorShelf
import Derived.Test.YtgjomknpjigkhaaGreatDoorW12
import Derived.Sort.OwnSortedInts
namespace Go.Proofs.YtgjomknpjigkhaaGreatDoor
open Go.RowKit Go.Shelf

def sorted (xs : List Int) : List Int := xs.mergeSort fun x y => decide (x ≤ y)

theorem sorted_perm (xs : List Int) : (sorted xs).Perm xs := List.mergeSort_perm _ _
theorem sorted_length (xs : List Int) : (sorted xs).length = xs.length := (sorted_perm xs).length_eq
theorem mem_sorted {xs : List Int} {x : Int} : x ∈ sorted xs ↔ x ∈ xs := (sorted_perm xs).mem_iff
theorem nodup_sorted {xs : List Int} (h : xs.Nodup) : (sorted xs).Nodup := (sorted_perm xs).nodup_iff.2 h
theorem sorted_pairwise (xs : List Int) : (sorted xs).Pairwise (· ≤ ·) := by
  have := List.pairwise_mergeSort (le := fun x y : Int => decide (x ≤ y)) (fun a b c h1 h2 => by simp only [decide_eq_true_eq] at *; omega) (fun a b => by simp only [Bool.or_eq_true, decide_eq_true_eq]; omega) xs
  exact this.imp fun h => by simpa using h

theorem sort_own {w : World} {base : Nat} {v : Value} {xs : List Int} (h : w.ownsRow base 3 1 v xs.length (ints xs)) (hl : xs.length ≤ 1000000000) :
    Calls Tryz.prog 284 #[v] w fun e w' => e = .returned (.tuple #[]) ∧ w'.ownsRow base 3 1 v xs.length (ints (sorted xs)) ∧ ∃ T, (∀ i ∈ T, base ≤ i) ∧ Keeps T w w' := by
  obtain ⟨h0, ⟨rfl, hn⟩ | ⟨g, cap, cur, rfl, hb, hg, h1, h2, h3, h4⟩⟩ := id h
  · have hx : xs = [] := by simpa using hn
    subst hx
    refine (slices_Sort_int_none none 0 w).mono ?_
    rintro e w' ⟨rfl, rfl⟩
    exact ⟨rfl, by rw [show sorted [] = [] from by simp [sorted]]; exact h, [], by simp, Keeps.refl _ _⟩
  · rw [Nat.mul_one] at h4
    have hH := holds_of_blockI hg h4
    refine (slices_Sort_int g 0 cap xs w hH (Array.getElem?_eq_some_iff.1 hg).1 (by omega)).mono ?_
    rintro e w' ⟨rfl, n, os, rfl⟩
    refine ⟨rfl, ownsRow_sortedI (sorted_length xs) hb hg h1 h2 h3, [g], by simpa using hb, ?_⟩
    exact grownBy_keeps' (grownBy_sortedI _) _ (fun r hr => .inl (by simpa using hr.symm))

end Go.Proofs.YtgjomknpjigkhaaGreatDoor
