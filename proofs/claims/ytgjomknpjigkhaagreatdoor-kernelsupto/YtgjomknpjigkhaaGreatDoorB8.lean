/- Exists, Replace, Eval, Count, on both sides. -/
import Derived.Test.YtgjomknpjigkhaaGreatDoorB7
import Derived.Test.YtgjomknpjigkhaaGreatDoorA7
namespace Go.Proofs.YtgjomknpjigkhaaGreatDoor
open Go.RowKit Go.Shelf

/-- A function of n variables. -/
def Loc (n : Nat) (F : (Int → Bool) → Bool) : Prop := ∀ σ τ : Int → Bool, (∀ v : Int, 0 ≤ v → v < n → σ v = τ v) → F σ = F τ

/-- Where it is true for some values of the first variables of a set. -/
def exF (G : (Int → Bool) → Bool) (X : Nat) : Nat → (Int → Bool) → Bool
  | 0 => G
  | i + 1 => if X / 2 ^ i % 2 = 0 then exF G X i else fun σ => exF G X i (upd σ i false) || exF G X i (upd σ i true)

theorem exF_loc {n : Nat} {G : (Int → Bool) → Bool} (h : Loc n G) (X : Nat) : ∀ i, Loc n (exF G X i)
  | 0 => h
  | i + 1 => by
    have ih := exF_loc h X i
    unfold exF
    split
    · exact ih
    · intro σ τ hst
      have hu : ∀ b, ∀ v : Int, 0 ≤ v → v < n → upd σ i b v = upd τ i b v := fun b v v0 v1 => by
        unfold upd
        split
        · rfl
        · exact hst v v0 v1
      show (_ || _) = (_ || _)
      rw [ih _ _ (hu false), ih _ _ (hu true)]

theorem exT_tab {n : Nat} {G : (Int → Bool) → Bool} (h : Loc n G) (X : Nat) : ∀ i, i ≤ n → exT n (tab n G) X i = tab n (exF G X i)
  | 0, _ => rfl
  | i + 1, hi => by
    have ih := exT_tab h X i (by omega)
    have hl := exF_loc h X i
    unfold exT exF
    rw [ih]
    split
    · rfl
    · rw [fix_tab hl (by omega), fix_tab hl (by omega)]
      unfold orT tab
      refine List.map_congr_left fun a ha => ?_
      have ha := List.mem_range.1 ha
      rw [show ((List.range (2 ^ n)).map fun a : Nat => exF G X i (upd (asg (a : Int)) i false))[a]? = _ from tab_get (F := fun σ => exF G X i (upd σ i false)) ha,
        show ((List.range (2 ^ n)).map fun a : Nat => exF G X i (upd (asg (a : Int)) i true))[a]? = _ from tab_get (F := fun σ => exF G X i (upd σ i true)) ha]
      rfl

theorem exF_iff (G : (Int → Bool) → Bool) {n : Nat} (hG : Loc n G) (X : Nat) : ∀ i, i ≤ n → ∀ σ, exF G X i σ = true ↔ ∃ τ : Int → Bool, (∀ v : Int, 0 ≤ v → v < n → (bitB X v = false ∨ (i : Int) ≤ v) → τ v = σ v) ∧ G τ = true
  | 0, _, σ => by
    constructor
    · intro h; exact ⟨σ, fun _ _ _ _ => rfl, h⟩
    · rintro ⟨τ, h1, h2⟩
      show G σ = true
      rw [hG σ τ fun v v0 v1 => (h1 v v0 v1 (.inr (by omega))).symm]
      exact h2
  | i + 1, hi, σ => by
    have ih := exF_iff G hG X i (by omega)
    have hb : bitB (X : Int) (i : Int) = X.testBit i := bitB_nat X i
    have hd := div_bit X i
    unfold exF
    by_cases h0 : X / 2 ^ i % 2 = 0
    · rw [if_pos h0, ih]
      have hbf : X.testBit i = false := by
        cases ht : X.testBit i
        · rfl
        · rw [ht] at hd; simp at hd; omega
      constructor
      · rintro ⟨τ, h1, h2⟩
        refine ⟨τ, fun v v0 v1 hv => h1 v v0 v1 ?_, h2⟩
        rcases hv with hv | hv
        · exact .inl hv
        · exact .inr (by omega)
      · rintro ⟨τ, h1, h2⟩
        refine ⟨τ, fun v v0 v1 hv => h1 v v0 v1 ?_, h2⟩
        rcases hv with hv | hv
        · exact .inl hv
        · by_cases e : v = i
          · exact .inl (by rw [e, hb, hbf])
          · exact .inr (by omega)
    · rw [if_neg h0]
      have hbt : X.testBit i = true := by
        cases ht : X.testBit i
        · rw [ht] at hd; simp at hd; omega
        · rfl
      have key : ∀ c, exF G X i (upd σ i c) = true → ∃ τ : Int → Bool, (∀ v : Int, 0 ≤ v → v < n → (bitB X v = false ∨ ((i + 1 : Nat) : Int) ≤ v) → τ v = σ v) ∧ G τ = true := by
        intro c hc
        obtain ⟨τ, h1, h2⟩ := (ih _).1 hc
        refine ⟨τ, fun v v0 v1 hv => ?_, h2⟩
        have hne : v ≠ i := by
          intro e
          rcases hv with hv | hv
          · rw [e, hb, hbt] at hv; cases hv
          · omega
        rw [h1 v v0 v1 (by rcases hv with hv | hv; exact .inl hv; exact .inr (by omega)), upd_ne σ c hne]
      constructor
      · intro h
        rw [Bool.or_eq_true] at h
        rcases h with h | h
        · exact key _ h
        · exact key _ h
      · rintro ⟨τ, h1, h2⟩
        have h3 : exF G X i (upd σ i (τ i)) = true := by
          rw [ih]
          refine ⟨τ, fun v v0 v1 hv => ?_, h2⟩
          by_cases e : v = i
          · rw [e, upd_same]
          · rw [upd_ne σ _ e]
            exact h1 v v0 v1 (by rcases hv with hv | hv; exact .inl hv; exact .inr (by omega))
        rw [Bool.or_eq_true]
        cases ht : τ i
        · rw [ht] at h3; exact .inl h3
        · rw [ht] at h3; exact .inr h3

section
variable {w : World} {b : KB} {K : KS} {R : RS} {rb : RB}

/-- Exists. -/
def RS.exs (R : RS) (f X : Int) : Int × Int × RS := if X < 0 ∨ ((2 ^ R.n : Nat) : Int) ≤ X then (0, 1, R) else match R.look f with
  | some x => R.give (exT R.n x X.toNat R.n)
  | none => (0, 2, R)

theorem xexists (hK : KernelAt w b K) (T : Twin K R) (hr : Room K) (f X : Int) : Calls Tryz.prog 101 #[.pointer (some ⟨b.k, 0, none⟩), .int .i64 f, .int .i64 X] w (XGives b w K (R.exs f X)) := by
  have h1 := fc_le8 T.inv.n8
  have h2 := hr.next
  unfold costs at h2
  unfold RS.exs
  rw [T.n]
  by_cases hX : X < 0 ∨ ((2 ^ K.S.n : Nat) : Int) ≤ X
  · rw [if_pos hX]
    exact (kexists_arg hK T.inv.n8 f X hX).mono fun e w' g => XGives.err hK T g
  rw [if_neg hX]
  cases hf : get K.R f with
  | none =>
    rw [(T.none_iff f).2 hf]
    exact (kexists_bad hK T.inv.n8 f X (by omega) (by omega) hf).mono fun e w' g => XGives.err hK T g
  | some r =>
    rw [T.some_of hf]
    refine (kexists_calls hK T.inv f r X hf (by omega) (by omega) (by omega) (by omega) hr.nx).mono fun e w' ⟨F, hF, g⟩ => XGives.of T (by unfold costs; omega) ?_ g
    obtain ⟨Xn, rfl⟩ := Int.eq_ofNat_of_zero_le (show 0 ≤ X by omega)
    have hl : Loc K.S.n (K.S.den r) := den_loc T.inv.wf (T.inv.ok f r hf)
    show exT K.S.n (tab K.S.n (K.S.den r)) Xn K.S.n = _
    rw [exT_tab hl Xn K.S.n (Nat.le_refl _)]
    congr 1
    funext σ
    have e1 := exF_iff (K.S.den r) hl Xn K.S.n (Nat.le_refl _) σ
    have e2 := hF σ
    have : exF (K.S.den r) Xn K.S.n σ = true ↔ F σ = true := by
      rw [e1, e2]
      constructor
      · rintro ⟨τ, a, c⟩
        exact ⟨τ, fun v v0 v1 hv => a v v0 v1 (.inl hv), c⟩
      · rintro ⟨τ, a, c⟩
        exact ⟨τ, fun v v0 v1 hv => a v v0 v1 (by rcases hv with hv | hv; exact hv; omega), c⟩
    cases hq : F σ
    · cases hp : exF (K.S.den r) Xn K.S.n σ
      · rfl
      · rw [this.1 hp] at hq; cases hq
    · exact this.2 hq
theorem yexists (h : RefAt w rb R) (T : Twin K R) (hr : Room K) (f X : Int) : Calls Tryz.prog 102 #[.pointer (some ⟨rb.r, 0, none⟩), .int .i64 f, .int .i64 X] w (YGives rb w (R.exs f X)) := by
  have hft : R.Fit := ⟨by have := T.lo; omega, by have := hr.nx; have := T.last; omega⟩
  unfold RS.exs
  by_cases hX : X < 0 ∨ ((2 ^ R.n : Nat) : Int) ≤ X
  · rw [if_pos hX]
    exact (rexists_arg h f X hX).mono fun e w' g => YGives.err h g
  rw [if_neg hX]
  obtain ⟨Xn, rfl⟩ := Int.eq_ofNat_of_zero_le (show 0 ≤ X by omega)
  cases hf : R.look f with
  | none => exact (rexists_bad h f Xn (by omega) hf).mono fun e w' g => YGives.err h g
  | some x => exact (rexists_calls h hft f Xn (by omega) x hf (RS.look_len T.ok hf)).mono fun e w' g => YGives.of g

open Classical in
/-- Replace. -/
noncomputable def RS.reps (R : RS) (f : Int) (to : List Int) : Int × Int × RS := if Each R.n to then (match R.look f with
  | some x => R.give ((List.range (2 ^ R.n)).map fun a : Nat => (x[(code (fun k : Int => asg (a : Int) (to.getD k.toNat 0)) R.n : Nat)]?).getD false)
  | none => (0, 2, R)) else (0, 1, R)

theorem xreplace (hK : KernelAt w b K) (T : Twin K R) (hr : Room K) (f : Int) (v : Value) (to : List Int) (hv : (v = .slice none 0 0 ∧ to = []) ∨ ∃ bt ct, v = .slice (some ⟨bt, 0, none⟩) to.length ct ∧ RowIs w bt to ∧ bt ∉ b.own) : Calls Tryz.prog 104 #[.pointer (some ⟨b.k, 0, none⟩), .int .i64 f, v] w (XGives b w K (R.reps f to)) := by
  have h1 := fc_le8 T.inv.n8
  have h2 := hr.next
  unfold costs at h2
  unfold RS.reps
  rw [T.n]
  by_cases he : Each K.S.n to
  · rw [if_pos he]
    have hv' : ∃ bt ct, v = .slice (some ⟨bt, 0, none⟩) to.length ct ∧ RowIs w bt to ∧ bt ∉ b.own := by
      rcases hv with ⟨_, rfl⟩ | hv
      · have h3 := he.len
        have h4 := T.inv.n1
        simp only [List.length_nil] at h3
        omega
      · exact hv
    obtain ⟨bt, ct, rfl, hrow, hbt⟩ := hv'
    cases hf : get K.R f with
    | none =>
      rw [(T.none_iff f).2 hf]
      exact (kreplace_bad hK T.inv f bt ct to hrow he hf).mono fun e w' g => XGives.err hK T g
    | some r =>
      rw [T.some_of hf]
      refine (kreplace_calls hK T.inv f r hf bt ct to hrow hbt he (by omega) (by omega) hr.nx).mono fun e w' g => XGives.of T (by unfold costs; omega) ?_ g
      unfold tab
      refine List.map_congr_left fun a ha => ?_
      unfold ST.T
      rw [tab_get (code_lt _ _)]
      show K.S.den r _ = K.S.den r _
      rw [den_asg T.inv.wf (T.inv.ok f r hf)]
      congr 1
  · rw [if_neg he]
    refine (kreplace_arg hK T.inv f v to ?_ he).mono fun e w' g => XGives.err hK T g
    rcases hv with hv | ⟨bt, ct, a, c, _⟩
    · exact .inl hv
    · exact .inr ⟨bt, ct, a, c⟩
theorem yreplace (h : RefAt w rb R) (T : Twin K R) (hr : Room K) (f : Int) (v : Value) (to : List Int) (hv : IntsIs w v to) : Calls Tryz.prog 106 #[.pointer (some ⟨rb.r, 0, none⟩), .int .i64 f, v] w (YGives rb w (R.reps f to)) := by
  have hft : R.Fit := ⟨by have := T.lo; omega, by have := hr.nx; have := T.last; omega⟩
  have hn1 := h.n1
  unfold RS.reps
  by_cases hl : to.length = R.n
  · rcases hv with ⟨rfl, rfl⟩ | ⟨g, o, c, rfl, hc, hL⟩
    · simp at hl; omega
    have hg : g < w.heap.size := by
      obtain ⟨x, hx⟩ : ∃ x, to[0]? = some x := ⟨_, List.getElem?_eq_getElem (by omega)⟩
      exact World.block_lt_of_cell? w _ (hL 0 x hx)
    rw [hl] at hc ⊢
    refine (rreplace_calls h hft f g o c to hc hL hg hl ((List.range (2 ^ R.n)).map fun a : Nat => (((R.look f).getD [])[(code (fun k : Int => asg (a : Int) (to.getD k.toNat 0)) R.n : Nat)]?).getD false) (by simp) (fun x hx _ a ha => ?_)).mono fun e w' ⟨g1, g2, g3⟩ => ?_
    · have hxl := RS.look_len T.ok hx
      have hlt := code_lt (fun k : Int => asg (a : Int) (to.getD k.toNat 0)) R.n
      refine ⟨x[(code (fun k : Int => asg (a : Int) (to.getD k.toNat 0)) R.n : Nat)]'(by omega), List.getElem?_eq_getElem _, ?_⟩
      rw [List.getElem?_map, List.getElem?_range ha, hx]
      simp only [Option.map_some, Option.getD_some]
      rw [List.getElem?_eq_getElem (by omega)]
      rfl
    · by_cases he : Each R.n to
      · rw [if_pos he]
        cases hf : R.look f with
        | none => exact YGives.err h (g2 he hf)
        | some x =>
          have := g3 he (by rw [hf]; rfl)
          rw [hf] at this
          exact YGives.of this
      · rw [if_neg he]
        exact YGives.err h (g1 he)
  · rw [if_neg (fun he => hl he.len)]
    exact (rreplace_len h f v to hv hl).mono fun e w' g => YGives.err h g

/-- Eval. -/
def RS.evs (R : RS) (f X : Int) : Bool × Int := if X < 0 ∨ ((2 ^ R.n : Nat) : Int) ≤ X then (false, 1) else match R.look f with
  | some x => ((x[X.toNat]?).getD false, 0)
  | none => (false, 2)

theorem xeval (hK : KernelAt w b K) (T : Twin K R) (f X : Int) : Calls Tryz.prog 107 #[.pointer (some ⟨b.k, 0, none⟩), .int .i64 f, .int .i64 X] w fun e w' => e = .returned (.tuple #[.bool (R.evs f X).1, .int .i64 (R.evs f X).2]) ∧ KernelAt w' b K ∧ Keeps b.own w w' := by
  unfold RS.evs
  rw [T.n]
  by_cases hX : X < 0 ∨ ((2 ^ K.S.n : Nat) : Int) ≤ X
  · rw [if_pos hX]
    exact (keval_arg hK T.inv.n8 f X hX).mono fun e w' ⟨a, c⟩ => ⟨a, c ▸ hK, c ▸ Keeps.refl _ _⟩
  rw [if_neg hX]
  cases hf : get K.R f with
  | none =>
    rw [(T.none_iff f).2 hf]
    exact (keval_bad hK T.inv.n8 f X (by omega) (by omega) hf).mono fun e w' ⟨a, c⟩ => ⟨a, c ▸ hK, c ▸ Keeps.refl _ _⟩
  | some r =>
    rw [T.some_of hf]
    obtain ⟨Xn, rfl⟩ := Int.eq_ofNat_of_zero_le (show 0 ≤ X by omega)
    refine (keval_calls hK T.inv f r Xn hf (by omega) (by omega)).mono fun e w' ⟨a, c, d⟩ => ⟨?_, c, d.mono (by simp)⟩
    rw [a]
    show _ = Ending.returned (.tuple #[.bool (((K.S.T r)[((Xn : Nat) : Int).toNat]?).getD false), _])
    unfold ST.T
    rw [Int.toNat_natCast, tab_get (by omega)]
    rfl
theorem yeval (h : RefAt w rb R) (T : Twin K R) (f X : Int) : Calls Tryz.prog 108 #[.pointer (some ⟨rb.r, 0, none⟩), .int .i64 f, .int .i64 X] w fun e w' => e = .returned (.tuple #[.bool (R.evs f X).1, .int .i64 (R.evs f X).2]) ∧ Keeps [] w w' := by
  unfold RS.evs
  by_cases hX : X < 0 ∨ ((2 ^ R.n : Nat) : Int) ≤ X
  · rw [if_pos hX]
    exact (reval_arg h f X hX).mono fun e w' ⟨a, c⟩ => ⟨a, c⟩
  rw [if_neg hX]
  obtain ⟨Xn, rfl⟩ := Int.eq_ofNat_of_zero_le (show 0 ≤ X by omega)
  cases hf : R.look f with
  | none => exact (reval_bad h f Xn (by omega) hf).mono fun e w' ⟨a, c⟩ => ⟨a, c⟩
  | some x =>
    have hx := RS.look_len T.ok hf
    have hlt : Xn < x.length := by omega
    refine (reval_calls h f Xn (by omega) x hf _ (List.getElem?_eq_getElem hlt)).mono fun e w' ⟨a, c⟩ => ⟨?_, c⟩
    rw [a]
    show _ = Ending.returned (.tuple #[.bool ((x[((Xn : Nat) : Int).toNat]?).getD false), _])
    rw [Int.toNat_natCast, List.getElem?_eq_getElem hlt]
    rfl

/-- Count. -/
def RS.cnts (R : RS) (f : Int) : Int × Int := match R.look f with
  | some x => ((cntT x (2 ^ R.n) : Nat), 0)
  | none => (0, 2)

theorem xcount (hK : KernelAt w b K) (T : Twin K R) (hr : Room K) (f : Int) : Calls Tryz.prog 109 #[.pointer (some ⟨b.k, 0, none⟩), .int .i64 f] w fun e w' => e = .returned (.tuple #[.int .i64 (R.cnts f).1, .int .i64 (R.cnts f).2]) ∧ KernelAt w' b K ∧ Keeps b.own w w' := by
  have h2 := hr.next
  unfold costs at h2
  unfold RS.cnts
  rw [T.n]
  cases hf : get K.R f with
  | none =>
    rw [(T.none_iff f).2 hf]
    exact (kcount_bad hK f hf).mono fun e w' ⟨a, c⟩ => ⟨a, c ▸ hK, c ▸ Keeps.refl _ _⟩
  | some r =>
    rw [T.some_of hf]
    refine (kcount_calls hK T.inv f r hf (by omega)).mono fun e w' ⟨a, c, d⟩ => ⟨?_, c, d⟩
    rw [a, cnt_tab T.inv.wf (T.inv.ok f r hf)]
    show _ = Ending.returned (.tuple #[.int .i64 ((cntT (K.S.T r) (2 ^ K.S.n) : Nat) : Int), _])
    unfold cntT ST.T
    rw [List.take_of_length_le (by rw [tab_length]; exact Nat.le_refl _)]
theorem ycount (h : RefAt w rb R) (T : Twin K R) (f : Int) : Calls Tryz.prog 110 #[.pointer (some ⟨rb.r, 0, none⟩), .int .i64 f] w fun e w' => e = .returned (.tuple #[.int .i64 (R.cnts f).1, .int .i64 (R.cnts f).2]) ∧ Keeps [] w w' := by
  unfold RS.cnts
  cases hf : R.look f with
  | none => exact (rcount_bad h f hf).mono fun e w' ⟨a, c⟩ => ⟨a, c⟩
  | some x => exact rcount_calls h f x hf (RS.look_len T.ok hf)

end
end Go.Proofs.YtgjomknpjigkhaaGreatDoor
