/- Calls that answer a function, on both sides. -/
import Derived.Test.YtgjomknpjigkhaaGreatDoorB6
import Derived.Test.YtgjomknpjigkhaaGreatDoorA5
import Derived.Test.YtgjomknpjigkhaaGreatDoorA6
import Derived.Test.YtgjomknpjigkhaaGreatDoorA8
namespace Go.Proofs.YtgjomknpjigkhaaGreatDoor
open Go.RowKit Go.Shelf

/-- What one call may cost, of the numbers of nodes. -/
def costs : Int := 4000000

theorem fc_is (c : Int) : ∀ k : Nat, fc c k = c * (2 ^ k - 1)
  | 0 => by simp [fc]
  | k + 1 => by
    rw [fc, fc_is c k, Int.pow_succ]
    have e1 : c * (2 ^ k * 2 - 1) = 2 * (c * (2 ^ k - 1)) + c := by
      generalize (2 : Int) ^ k = z
      rw [Int.mul_sub, Int.mul_sub, Int.mul_one]
      have : c * (z * 2) = 2 * (c * z) := by rw [← Int.mul_assoc, Int.mul_comm]
      omega
    rw [e1]

theorem fc_le8 {n : Nat} (h : n ≤ 8) : fc (cst n + 1) n ≤ 65280 ∧ 0 ≤ fc (cst n + 1) n := by
  have h1 := cst_le h
  have h2 := cst_nonneg n
  have hn : n = 0 ∨ n = 1 ∨ n = 2 ∨ n = 3 ∨ n = 4 ∨ n = 5 ∨ n = 6 ∨ n = 7 ∨ n = 8 := by omega
  rw [fc_is]
  rcases hn with rfl | rfl | rfl | rfl | rfl | rfl | rfl | rfl | rfl <;> constructor <;> simp only [Int.reducePow, Int.reduceSub] <;> omega

/-- What a call of the kernel leaves that answers as the document does. -/
def XGives (b : KB) (w : World) (K : KS) (a : Int × Int × RS) (e : Ending) (w' : World) : Prop :=
  ∃ K', e = .returned (.tuple #[.int .i64 a.1, .int .i64 a.2.1]) ∧ KernelAt w' b K' ∧ Twin K' a.2.2 ∧ Keeps b.own w w' ∧ K'.S.next ≤ K.S.next + costs
def YGives (b : RB) (w : World) (a : Int × Int × RS) (e : Ending) (w' : World) : Prop :=
  ∃ b', e = .returned (.tuple #[.int .i64 a.1, .int .i64 a.2.1]) ∧ RefAt w' b' a.2.2 ∧ b.to b' w ∧ Keeps b.own w w'

section
variable {w : World} {b : KB} {K : KS} {R : RS} {rb : RB}

theorem XGives.of (T : Twin K R) {F : (Int → Bool) → Bool} {c : Int} (hc : c ≤ costs) {t : List Bool} (ht : t = tab K.S.n F) {e : Ending} {w' : World} (g : KGives b w K F c e w') : XGives b w K (R.give t) e w' := by
  obtain ⟨a, y, K', rfl, hK, A, k⟩ := g
  obtain ⟨e1, e2, T'⟩ := T.ans A
  subst ht
  exact ⟨K', by rw [e1, e2], hK, T', k, by have := A.next; omega⟩
theorem XGives.err (hK : KernelAt w b K) (T : Twin K R) {x : Int} {e : Ending} {w' : World} (g : KErr w x e w') : XGives b w K (0, x, R) e w' := by
  obtain ⟨rfl, rfl⟩ := g
  exact ⟨K, rfl, hK, T, Keeps.refl _ _, by unfold costs; omega⟩
theorem YGives.of {t : List Bool} {e : Ending} {w' : World} (g : RGives rb R w t e w') : YGives rb w (R.give t) e w' := g
theorem YGives.err (h : RefAt w rb R) {x : Int} {e : Ending} {w' : World} (g : RErr w x e w') : YGives rb w (0, x, R) e w' := by
  obtain ⟨rfl, k⟩ := g
  exact ⟨rb, rfl, h.keeps0 k, rb.to_refl w, k.mono (by simp)⟩

/-- What a kernel needs to go on. -/
structure Room (K : KS) : Prop where
  next : K.S.next + costs < lim
  nx : K.nx < 9223372036854775807

/-- Var. -/
def RS.vars (R : RS) (i : Int) : Int × Int × RS := if 0 ≤ i ∧ i < R.n then R.give (tab R.n fun σ => σ i) else (0, 1, R)

theorem xvar (hK : KernelAt w b K) (T : Twin K R) (hr : Room K) (i : Int) : Calls Tryz.prog 93 #[.pointer (some ⟨b.k, 0, none⟩), .int .i64 i] w (XGives b w K (R.vars i)) := by
  unfold RS.vars
  by_cases h : 0 ≤ i ∧ i < R.n
  · rw [if_pos h]
    exact (kvar_calls hK T.inv i h.1 (by rw [← T.n]; exact h.2) (by have := hr.next; unfold costs at this; omega) hr.nx).mono fun e w' g => XGives.of T (by unfold costs; omega) (by rw [T.n]) g
  · rw [if_neg h]
    exact (kvar_bad hK i (by rw [← T.n]; omega)).mono fun e w' g => XGives.err hK T g
theorem yvar (h : RefAt w rb R) (T : Twin K R) (hr : Room K) (i : Int) : Calls Tryz.prog 94 #[.pointer (some ⟨rb.r, 0, none⟩), .int .i64 i] w (YGives rb w (R.vars i)) := by
  have hf : R.Fit := ⟨by have := T.lo; omega, by have := hr.nx; have := T.last; omega⟩
  unfold RS.vars
  by_cases hi : 0 ≤ i ∧ i < R.n
  · rw [if_pos hi]
    obtain ⟨n, rfl⟩ := Int.eq_ofNat_of_zero_le hi.1
    exact (rvar_calls h hf n (by omega)).mono fun e w' g => YGives.of g
  · rw [if_neg hi]
    exact (rvar_bad h i (by omega)).mono fun e w' g => YGives.err h g

/-- Not. -/
def RS.nots (R : RS) (f : Int) : Int × Int × RS := match R.look f with
  | some x => R.give (x.map fun p => !p)
  | none => (0, 2, R)

theorem map_tab (n : Nat) (F : (Int → Bool) → Bool) (g : Bool → Bool) : (tab n F).map g = tab n fun σ => g (F σ) := by simp [tab]

theorem xnot (hK : KernelAt w b K) (T : Twin K R) (hr : Room K) (f : Int) : Calls Tryz.prog 95 #[.pointer (some ⟨b.k, 0, none⟩), .int .i64 f] w (XGives b w K (R.nots f)) := by
  have h1 := cst_le T.inv.n8
  have h2 := hr.next
  unfold costs at h2
  unfold RS.nots
  cases hf : get K.R f with
  | none =>
    rw [(T.none_iff f).2 hf]
    exact (knot_bad hK f hf).mono fun e w' g => XGives.err hK T g
  | some r =>
    rw [T.some_of hf]
    exact (knot_calls hK T.inv f r hf (by omega) hr.nx).mono fun e w' g => XGives.of T (by unfold costs; omega) (map_tab _ _ _) g
theorem ynot (h : RefAt w rb R) (T : Twin K R) (hr : Room K) (f : Int) : Calls Tryz.prog 96 #[.pointer (some ⟨rb.r, 0, none⟩), .int .i64 f] w (YGives rb w (R.nots f)) := by
  have hf : R.Fit := ⟨by have := T.lo; omega, by have := hr.nx; have := T.last; omega⟩
  unfold RS.nots
  cases hl : R.look f with
  | none => exact (rnot_bad h f hl).mono fun e w' g => YGives.err h g
  | some x =>
    have hx := RS.look_len T.ok hl
    exact (rnot_calls h hf f x _ hl (by simpa using hx) (fun a ha => ⟨x[a]'(by omega), List.getElem?_eq_getElem _, by rw [List.getElem?_map, List.getElem?_eq_getElem (by omega)]; rfl⟩)).mono fun e w' g => YGives.of g

/-- Two tables, value by value. -/
def zipT (g : Bool → Bool → Bool) (x y : List Bool) : List Bool := List.zipWith g x y
theorem zip_tab (n : Nat) (F G : (Int → Bool) → Bool) (g : Bool → Bool → Bool) : zipT g (tab n F) (tab n G) = tab n fun σ => g (F σ) (G σ) := by simp [zipT, tab, List.zipWith_map, List.zipWith_self]

/-- Apply. -/
def RS.apps (R : RS) (op f g : Int) : Int × Int × RS := if op < 0 ∨ 3 < op then (0, 1, R) else match R.look f, R.look g with
  | some x, some y => R.give (zipT (opB op) x y)
  | _, _ => (0, 2, R)

theorem xapply (hK : KernelAt w b K) (T : Twin K R) (hr : Room K) (op f g : Int) : Calls Tryz.prog 97 #[.pointer (some ⟨b.k, 0, none⟩), .int .i64 op, .int .i64 f, .int .i64 g] w (XGives b w K (R.apps op f g)) := by
  have h1 := cst_le T.inv.n8
  have h2 := hr.next
  unfold costs at h2
  unfold RS.apps
  by_cases ho : op < 0 ∨ 3 < op
  · rw [if_pos ho]
    exact (kapply_arg hK op f g ho).mono fun e w' g => XGives.err hK T g
  rw [if_neg ho]
  cases hf : get K.R f with
  | none =>
    rw [(T.none_iff f).2 hf]
    exact (kapply_bad hK op f g (by omega) (by omega) (.inl hf)).mono fun e w' g => XGives.err hK T g
  | some r =>
    rw [T.some_of hf]
    cases hg : get K.R g with
    | none =>
      rw [(T.none_iff g).2 hg]
      exact (kapply_bad hK op f g (by omega) (by omega) (.inr hg)).mono fun e w' g => XGives.err hK T g
    | some s =>
      rw [T.some_of hg]
      exact (kapply_calls hK T.inv op f g r s (by omega) (by omega) hf hg (by omega) hr.nx).mono fun e w' g => XGives.of T (by unfold costs; omega) (zip_tab _ _ _ _) g
theorem yapply (h : RefAt w rb R) (T : Twin K R) (hr : Room K) (op f g : Int) : Calls Tryz.prog 98 #[.pointer (some ⟨rb.r, 0, none⟩), .int .i64 op, .int .i64 f, .int .i64 g] w (YGives rb w (R.apps op f g)) := by
  have hft : R.Fit := ⟨by have := T.lo; omega, by have := hr.nx; have := T.last; omega⟩
  unfold RS.apps
  by_cases ho : op < 0 ∨ 3 < op
  · rw [if_pos ho]
    exact (rapply_arg h op f g ho).mono fun e w' g => YGives.err h g
  rw [if_neg ho]
  cases hf : R.look f with
  | none => exact (rapply_bad h op f g (by omega) (by omega) (.inl hf)).mono fun e w' g => YGives.err h g
  | some x =>
    cases hg : R.look g with
    | none => exact (rapply_bad h op f g (by omega) (by omega) (.inr hg)).mono fun e w' g => YGives.err h g
    | some y =>
      have hx := RS.look_len T.ok hf
      have hy := RS.look_len T.ok hg
      exact (rapply_calls h hft op f g (by omega) x y (zipT (opB op) x y) hf hg (by simp [zipT]; omega) (fun a ha => ⟨x[a]'(by omega), y[a]'(by omega), List.getElem?_eq_getElem _, List.getElem?_eq_getElem _, by
        unfold zipT
        rw [List.getElem?_zipWith, List.getElem?_eq_getElem (by omega), List.getElem?_eq_getElem (by omega)]⟩)).mono fun e w' g => YGives.of g

/-- Ite. -/
def RS.ites (R : RS) (f g k : Int) : Int × Int × RS := match R.look f, R.look g, R.look k with
  | some x, some y, some z => R.give ((List.range (2 ^ R.n)).map fun a => if (x[a]?).getD false then (y[a]?).getD false else (z[a]?).getD false)
  | _, _, _ => (0, 2, R)

theorem xite (hK : KernelAt w b K) (T : Twin K R) (hr : Room K) (f g k : Int) : Calls Tryz.prog 99 #[.pointer (some ⟨b.k, 0, none⟩), .int .i64 f, .int .i64 g, .int .i64 k] w (XGives b w K (R.ites f g k)) := by
  have h1 := cst_le T.inv.n8
  have h2 := hr.next
  unfold costs at h2
  unfold RS.ites
  cases hf : get K.R f with
  | none =>
    rw [(T.none_iff f).2 hf]
    exact (kite_bad hK f g k (.inl hf)).mono fun e w' g => XGives.err hK T g
  | some r =>
    rw [T.some_of hf]
    cases hg : get K.R g with
    | none =>
      rw [(T.none_iff g).2 hg]
      exact (kite_bad hK f g k (.inr (.inl hg))).mono fun e w' g => XGives.err hK T g
    | some s =>
      rw [T.some_of hg]
      cases hk : get K.R k with
      | none =>
        rw [(T.none_iff k).2 hk]
        exact (kite_bad hK f g k (.inr (.inr hk))).mono fun e w' g => XGives.err hK T g
      | some u =>
        rw [T.some_of hk]
        refine (kite_calls hK T.inv f g k r s u hf hg hk (by omega) hr.nx).mono fun e w' g => XGives.of T (by unfold costs; omega) ?_ g
        rw [T.n]
        unfold tab
        refine List.map_congr_left fun a ha => ?_
        have ha := List.mem_range.1 ha
        unfold ST.T
        rw [tab_get ha, tab_get ha, tab_get ha]
        rfl
theorem yite (h : RefAt w rb R) (T : Twin K R) (hr : Room K) (f g k : Int) : Calls Tryz.prog 100 #[.pointer (some ⟨rb.r, 0, none⟩), .int .i64 f, .int .i64 g, .int .i64 k] w (YGives rb w (R.ites f g k)) := by
  have hft : R.Fit := ⟨by have := T.lo; omega, by have := hr.nx; have := T.last; omega⟩
  unfold RS.ites
  cases hf : R.look f with
  | none => exact (rite_bad h f g k (.inl hf)).mono fun e w' g => YGives.err h g
  | some x =>
    cases hg : R.look g with
    | none => exact (rite_bad h f g k (.inr (.inl hg))).mono fun e w' g => YGives.err h g
    | some y =>
      cases hk : R.look k with
      | none => exact (rite_bad h f g k (.inr (.inr hk))).mono fun e w' g => YGives.err h g
      | some z =>
        have hx := RS.look_len T.ok hf
        have hy := RS.look_len T.ok hg
        have hz := RS.look_len T.ok hk
        exact (rite_calls h hft f g k x y z _ hf hg hk (by simp) (fun a ha => ⟨x[a]'(by omega), y[a]'(by omega), z[a]'(by omega), List.getElem?_eq_getElem _, List.getElem?_eq_getElem _, List.getElem?_eq_getElem _, by
          rw [List.getElem?_map, List.getElem?_range ha]
          simp [List.getElem?_eq_getElem (show a < x.length by omega), List.getElem?_eq_getElem (show a < y.length by omega), List.getElem?_eq_getElem (show a < z.length by omega)]⟩)).mono fun e w' g => YGives.of g

end
end Go.Proofs.YtgjomknpjigkhaaGreatDoor
