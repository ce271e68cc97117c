/- The document's kernel: Var, Ite, Not. -/
import Derived.Test.YtgjomknpjigkhaaGreatDoorA3
namespace Go.Proofs.YtgjomknpjigkhaaGreatDoor
open Go.RowKit Go.Shelf

/-- What a call that answers a function leaves. -/
def RGives (b : RB) (R : RS) (w : World) (t : List Bool) (e : Ending) (w' : World) : Prop :=
  ∃ b', e = .returned (.tuple #[.int .i64 (R.give t).1, .int .i64 (R.give t).2.1]) ∧ RefAt w' b' (R.give t).2.2 ∧ b.to b' w ∧ Keeps b.own w w'

theorem RGives.of {b : RB} {R : RS} {w wr w' : World} {t : List Bool} {e : Ending} (k : Keeps [] w wr) (h : RGives b R wr t e w') : RGives b R w t e w' := by
  obtain ⟨b', h1, h2, h3, h4⟩ := h
  have := k.size
  exact ⟨b', h1, h2, ⟨h3.1, fun i hi => (h3.2 i hi).imp id fun x => by omega⟩, (k.mono (by simp)).trans h4⟩

/-- A call that answers an error. -/
def RErr (w : World) (x : Int) (e : Ending) (w' : World) : Prop := e = .returned (.tuple #[.int .i64 0, .int .i64 x]) ∧ Keeps [] w w'

/-- A handle that will not run out. -/
structure RS.Fit (R : RS) : Prop where
  lo : 0 ≤ R.last
  hi : R.last < 9223372036854775807

theorem asg_div (a i q : Nat) (hq : a / 2 ^ i % 2 = q) : ((q : Int) == 1) = asg (a : Int) (i : Int) := by
  unfold asg
  rw [bitB_nat, Nat.testBit_eq_decide_div_mod_eq, hq]
  by_cases h : q = 1
  · subst h; rfl
  · have : ¬ (q : Int) = 1 := by omega
    rw [decide_eq_false h]
    exact beq_false_of_ne this

set_option maxRecDepth 100000 in
set_option maxHeartbeats 1000000 in
theorem rvar_bad {w : World} {b : RB} {R : RS} (h : RefAt w b R) (i : Int) (hi : i < 0 ∨ (R.n : Int) ≤ i) : Calls Tryz.prog 94 #[.pointer (some ⟨b.r, 0, none⟩), .int .i64 i] w (RErr w 1) := by
  have c0 := h.head.cell 0
  simp at c0
  by_cases i0 : i < 0
  · go_enter Tryz.func94, Tryz.ntmps94
    go_wp2_with fail
    go_ret2
    exact ⟨rfl, Keeps.refl _ _⟩
  · have i1 : (R.n : Int) ≤ i := by omega
    go_enter Tryz.func94, Tryz.ntmps94
    go_wp2_with fail
    go_ret2
    exact ⟨rfl, Keeps.refl _ _⟩

set_option maxRecDepth 100000 in
set_option maxHeartbeats 1000000 in
theorem rvar_calls {w : World} {b : RB} {R : RS} (h : RefAt w b R) (hf : R.Fit) (i : Nat) (hi : i < R.n) : Calls Tryz.prog 94 #[.pointer (some ⟨b.r, 0, none⟩), .int .i64 (i : Int)] w (RGives b R w (tab R.n fun σ => σ i)) := by
  obtain ⟨ways, hw⟩ : ∃ ways, ways = 2 ^ R.n := ⟨_, rfl⟩
  have n8 := h.n8
  have w256 : ways ≤ 256 := by rw [hw]; exact Nat.pow_le_pow_right (n := 2) (by decide) n8
  have hlen : (tab R.n fun σ => σ i).length = ways := by rw [tab_length, hw]
  have hat : ∀ a, a < ways → (tab R.n fun σ => σ i)[a]? = some (asg (a : Int) i) := fun a ha => tab_get (by rw [← hw]; exact ha)
  have hmk := run_makeBytes w ways (by omega)
  have kx := Keeps.alloc [] w (.cells (madeCells #[.int .u8 0] ways) 5)
  have fx := made_fillB w _ ways hlen
  have c0 := h.head.cell 0
  have c1 : ∀ wr : World, Keeps [] w wr → wr.cell? ⟨b.r, 1, none⟩ = some (.int .i64 (ways : Int)) := fun _ k => by
    have := (h.keeps0 k).head.cell 1
    rw [hw]
    simpa using this
  have d1 := c1 _ (Keeps.refl _ w)
  simp at c0
  have hiI : ¬ (R.n : Int) ≤ i := by omega
  have hgv := hide (fun (wr : World) (k : Keeps [] w wr) => give_calls (h.keeps0 k) (tab R.n fun σ => σ i) hf.lo hf.hi)
  have Hgoal := hide (fun (wr w' : World) (e : Ending) (k : Keeps [] w wr) (g : RGives b R wr (tab R.n fun σ => σ i) e w') => g.of k)
  have hrb := h.head.lt
  have hbit := hide (fun (w : World) (a q : Nat) (ha : a < ways) (hq : a / 2 ^ i % 2 = q) => rbit_calls (w := w) a i q (by omega) (by omega) hq)
  have C1 := hide c1
  unfold RGives at Hgoal ⊢
  generalize (R.give (tab R.n fun σ => σ i)) = G at hgv Hgoal ⊢
  generalize (tab R.n fun σ => σ i) = t at hlen hat fx hgv ⊢
  have Hlen := hide hlen
  have Hat := hide hat
  have Hw := hide hw
  clear hlen hat hw c1
  go_enter Tryz.func94, Tryz.ntmps94
  go_wp2_with fail
  generalize w.alloc (.cells (madeCells #[.int .u8 0] ways) 5) = W at kx fx ⊢
  go_loopw [7] (fun y wr => ∃ a : Nat, y = .int .i64 a ∧ a ≤ ways ∧ FillB wr w.heap.size t a ∧ Keeps [] w wr) (fun y _ => ((ways : Int) - intOf y).toNat)
  case atStart => exact ⟨0, rfl, by omega, fx, kx⟩
  case round =>
    obtain ⟨a, rfl, ha, fr, kr⟩ := hrel
    have e1 := C1.out _ kr
    by_cases hal : a < ways
    · have haI : (a : Int) < ways := by omega
      have hfz := fr.frozen a
      obtain ⟨v0, hcl⟩ := fr.cell (i := a) (by rw [Hlen.out]; exact hal)
      obtain ⟨q, hq⟩ : ∃ q, a / 2 ^ i % 2 = q := ⟨_, rfl⟩
      have hc := hide (hbit.out wr a q hal hq)
      have hx := Hat.out a hal
      rw [← asg_div a i q hq] at hx
      have Hx := hide hx
      clear hq hx
      go_wp2_with fail
      refine hc.out.mono ?_
      rintro e w' ⟨rfl, rfl⟩
      go_wp2_with fail
      refine (truth_calls _).mono ?_
      rintro e w' ⟨rfl, rfl⟩
      go_wp2_with fail
      go_roundw
      · exact ⟨a + 1, by simp, by omega, fr.next Hx.out, fill_keeps kr (Nat.le_refl _)⟩
      · simp only [intOf]; omega
    · have haI : ¬ (a : Int) < ways := by omega
      have ht := fr.text (by rw [Hlen.out]; omega) ways
      rw [Hlen.out] at ht
      have hgv' := hide (hgv.out wr kr)
      go_wp2_with fail
      refine hgv'.out.mono ?_
      rintro e w' ⟨b', rfl, g1, g2, g3⟩
      go_wp2_with fail
      go_ret2
      exact Hgoal.out wr w' _ kr ⟨b', rfl, g1, g2, g3⟩

theorem rget_any {w : World} {b : RB} {R : RS} (h : RefAt w b R) (f : Int) : Calls Tryz.prog 172 #[.pointer (some ⟨b.r, 0, none⟩), .int .i64 f] w fun e w' => ∃ s o, e = .returned (.tuple #[.string s, .bool o]) ∧ o = (R.look f).isSome ∧ Keeps [] w w' := by
  cases hl : R.look f with
  | some t => exact (rget_some h f t hl).mono fun e w' ⟨a, k⟩ => ⟨_, _, a, rfl, k⟩
  | none => exact (rget_none h f hl).mono fun e w' ⟨a, k⟩ => ⟨_, _, a, rfl, k ▸ Keeps.refl _ _⟩

set_option maxRecDepth 100000 in
set_option maxHeartbeats 2000000 in
theorem rite_bad {w : World} {b : RB} {R : RS} (h : RefAt w b R) (f g k : Int) (hbad : R.look f = none ∨ R.look g = none ∨ R.look k = none) : Calls Tryz.prog 100 #[.pointer (some ⟨b.r, 0, none⟩), .int .i64 f, .int .i64 g, .int .i64 k] w (RErr w 2) := by
  have hg := hide (fun (w' : World) (kk : Keeps [] w w') (f : Int) => rget_any (h.keeps0 kk) f)
  have Hbad := hide hbad
  clear hbad
  go_enter Tryz.func100, Tryz.ntmps100
  go_wp2_with fail
  refine (hg.out _ (Keeps.refl _ _) f).mono ?_
  rintro e w1 ⟨s1, o1, rfl, h1, k1⟩
  have H1 := hide h1
  clear h1
  go_wp2_with fail
  refine (hg.out _ k1 g).mono ?_
  rintro e w2 ⟨s2, o2, rfl, h2, k2⟩
  have H2 := hide h2
  clear h2
  go_wp2_with fail
  refine (hg.out _ (k1.trans k2) k).mono ?_
  rintro e w3 ⟨s3, o3, rfl, h3, k3⟩
  have H3 := hide h3
  clear h3
  have hno : ¬ (o1 = true ∧ o2 = true ∧ o3 = true) := by
    rintro ⟨a1, a2, a3⟩
    have b1 := H1.out
    have b2 := H2.out
    have b3 := H3.out
    rcases Hbad.out with x | x | x
    · rw [x, a1] at b1; cases b1
    · rw [x, a2] at b2; cases b2
    · rw [x, a3] at b3; cases b3
  have kk := (k1.trans k2).trans k3
  clear H1 H2 H3
  cases o1 <;> cases o2 <;> cases o3
  case true.true.true => exact absurd ⟨rfl, rfl, rfl⟩ hno
  all_goals
    clear hno
    go_wp2_with fail
    go_ret2
    exact ⟨rfl, kk⟩

theorem FillB.poke {w : World} {tb : Nat} {t : List Bool} {a : Nat} (h : FillB w tb t a) (v : Value) : FillB (w.setCell ⟨tb, a, none⟩ v) tb t a := by
  obtain ⟨cs, h1, h2, h3⟩ := h.row
  refine ⟨cs.setIfInBounds a v, ?_, by simp [h2], fun i y hi hy => ?_⟩
  · simp [World.setCell, Array.getElem?_modify, h1]
  · rw [Array.getElem?_setIfInBounds, if_neg (by omega)]
    exact h3 i y hi hy

theorem bi_one (p : Bool) : (bi p == 49) = p := by cases p <;> rfl

set_option maxRecDepth 100000 in
set_option maxHeartbeats 2000000 in
theorem rite_calls {w : World} {b : RB} {R : RS} (h : RefAt w b R) (hf : R.Fit) (f g k : Int) (x y z t : List Bool) (hx : R.look f = some x) (hy : R.look g = some y) (hz : R.look k = some z) (hlen : t.length = 2 ^ R.n)
    (hat : ∀ a, a < 2 ^ R.n → ∃ p q r, x[a]? = some p ∧ y[a]? = some q ∧ z[a]? = some r ∧ t[a]? = some (if p then q else r)) :
    Calls Tryz.prog 100 #[.pointer (some ⟨b.r, 0, none⟩), .int .i64 f, .int .i64 g, .int .i64 k] w (RGives b R w t) := by
  obtain ⟨ways, hw⟩ : ∃ ways, ways = 2 ^ R.n := ⟨_, rfl⟩
  have n8 := h.n8
  have w256 : ways ≤ 256 := by rw [hw]; exact Nat.pow_le_pow_right (n := 2) (by decide) n8
  rw [← hw] at hlen hat
  have c1 : ∀ wr : World, Keeps [] w wr → wr.cell? ⟨b.r, 1, none⟩ = some (.int .i64 (ways : Int)) := fun _ k => by
    have := (h.keeps0 k).head.cell 1
    rw [hw]
    simpa using this
  have hgv := hide (fun (wr : World) (k : Keeps [] w wr) => give_calls (h.keeps0 k) t hf.lo hf.hi)
  have Hgoal := hide (fun (wr w' : World) (e : Ending) (k : Keeps [] w wr) (g : RGives b R wr t e w') => g.of k)
  have hrb := h.head.lt
  have gx := hide (fun (w' : World) (kk : Keeps [] w w') => rget_some (h.keeps0 kk) f x hx)
  have gy := hide (fun (w' : World) (kk : Keeps [] w w') => rget_some (h.keeps0 kk) g y hy)
  have gz := hide (fun (w' : World) (kk : Keeps [] w w') => rget_some (h.keeps0 kk) k z hz)
  have C1 := hide c1
  unfold RGives at Hgoal ⊢
  generalize R.give t = G at hgv Hgoal ⊢
  have Hlen := hide hlen
  have Hat := hide hat
  have Hw := hide hw
  clear hlen hat hw c1 hx hy hz
  go_enter Tryz.func100, Tryz.ntmps100
  go_wp2_with fail
  refine (gx.out _ (Keeps.refl _ _)).mono ?_
  rintro e w1 ⟨rfl, k1⟩
  go_wp2_with fail
  refine (gy.out _ k1).mono ?_
  rintro e w2 ⟨rfl, k2⟩
  have k12 := k1.trans k2
  go_wp2_with fail
  refine (gz.out _ k12).mono ?_
  rintro e w3 ⟨rfl, k3⟩
  have k0 := k12.trans k3
  clear k1 k2 k3 k12 gx gy gz
  have d1 := C1.out _ k0
  have hmk := run_makeBytes w3 ways (by omega)
  have kx := k0.trans (Keeps.alloc [] w3 (.cells (madeCells #[.int .u8 0] ways) 5))
  have fx := made_fillB w3 t ways Hlen.out
  have hsz := k0.size
  go_wp2_with fail
  generalize w3.alloc (.cells (madeCells #[.int .u8 0] ways) 5) = W at kx fx ⊢
  go_loopw [17] (fun y wr => ∃ a : Nat, y = .int .i64 a ∧ a ≤ ways ∧ FillB wr w3.heap.size t a ∧ Keeps [] w wr) (fun y _ => ((ways : Int) - intOf y).toNat)
  case atStart => exact ⟨0, rfl, by omega, fx, kx⟩
  case round =>
    obtain ⟨a, rfl, ha, fr, kr⟩ := hrel
    have e1 := C1.out _ kr
    by_cases hal : a < ways
    · have haI : (a : Int) < ways := by omega
      have hfz := fr.frozen a
      obtain ⟨v0, hcl⟩ := fr.cell (i := a) (by rw [Hlen.out]; exact hal)
      obtain ⟨p, q, r, hp, hq, hr, htt⟩ := Hat.out a hal
      have ix := fun w => bts_index hp w
      have iy := fun w => bts_index hq w
      have iz := fun w => bts_index hr w
      have f1 := fr.poke (.int .u8 (bi r))
      have kp := fill_keeps (a := a) (v := .int .u8 (bi r)) kr hsz
      have hfz2 := f1.frozen a
      obtain ⟨v1, hcl2⟩ := f1.cell (i := a) (by rw [Hlen.out]; exact hal)
      have hone := bi_one p
      clear hp hq hr
      cases p
      · go_wp2_with fail
        go_roundw
        · exact ⟨a + 1, by simp, by omega, fr.next htt, kp⟩
        · simp only [intOf]; omega
      · go_wp2_with fail
        go_roundw
        · exact ⟨a + 1, by simp, by omega, f1.next htt, fill_keeps kp hsz⟩
        · simp only [intOf]; omega
    · have haI : ¬ (a : Int) < ways := by omega
      have ht := fr.text (by rw [Hlen.out]; omega) ways
      rw [Hlen.out] at ht
      have hgv' := hide (hgv.out wr kr)
      go_wp2_with fail
      refine hgv'.out.mono ?_
      rintro e w' ⟨b', rfl, g1, g2, g3⟩
      go_wp2_with fail
      go_ret2
      exact Hgoal.out wr w' _ kr ⟨b', rfl, g1, g2, g3⟩

end Go.Proofs.YtgjomknpjigkhaaGreatDoor
