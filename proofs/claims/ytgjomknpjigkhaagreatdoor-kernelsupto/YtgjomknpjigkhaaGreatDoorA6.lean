/- The document's kernel: Exists. -/
import Derived.Test.YtgjomknpjigkhaaGreatDoorA4
namespace Go.Proofs.YtgjomknpjigkhaaGreatDoor
open Go.RowKit Go.Shelf

/-- Where one of two is true. -/
def orT (n : Nat) (u v : List Bool) : List Bool := (List.range (2 ^ n)).map fun a => (u[a]?).getD false || (v[a]?).getD false
/-- Where a function is true for some values of the first variables of a set. -/
def exT (n : Nat) (x : List Bool) (X : Nat) : Nat → List Bool
  | 0 => x
  | i + 1 => if X / 2 ^ i % 2 = 0 then exT n x X i else orT n (fixT n (exT n x X i) i false) (fixT n (exT n x X i) i true)

theorem exT_length {n : Nat} {x : List Bool} (h : x.length = 2 ^ n) (X : Nat) : ∀ i, (exT n x X i).length = 2 ^ n
  | 0 => h
  | i + 1 => by
    unfold exT
    split
    · exact exT_length h X i
    · simp [orT]

set_option maxRecDepth 100000 in
set_option maxHeartbeats 1000000 in
theorem rexists_arg {w : World} {b : RB} {R : RS} (h : RefAt w b R) (f X : Int) (hX : X < 0 ∨ ((2 ^ R.n : Nat) : Int) ≤ X) : Calls Tryz.prog 102 #[.pointer (some ⟨b.r, 0, none⟩), .int .i64 f, .int .i64 X] w (RErr w 1) := by
  have c1 := h.head.cell 1
  simp only [List.getElem?_toArray, List.getElem?_cons_succ, List.getElem?_cons_zero] at c1
  generalize ((2 ^ R.n : Nat) : Int) = W at c1 hX
  have hb := h.head.lt
  by_cases i0 : X < 0
  · go_enter Tryz.func102, Tryz.ntmps102
    go_wp2_with fail
    go_ret2
    exact ⟨rfl, Keeps.refl _ _⟩
  · have i1 : W ≤ X := by omega
    go_enter Tryz.func102, Tryz.ntmps102
    go_wp2_with fail
    go_ret2
    exact ⟨rfl, Keeps.refl _ _⟩

set_option maxRecDepth 100000 in
set_option maxHeartbeats 1000000 in
theorem rexists_bad {w : World} {b : RB} {R : RS} (h : RefAt w b R) (f : Int) (X : Nat) (hX : X < 2 ^ R.n) (hbad : R.look f = none) : Calls Tryz.prog 102 #[.pointer (some ⟨b.r, 0, none⟩), .int .i64 f, .int .i64 (X : Int)] w (RErr w 2) := by
  have c1 := h.head.cell 1
  simp only [List.getElem?_toArray, List.getElem?_cons_succ, List.getElem?_cons_zero] at c1
  have i1 : ¬ ((2 ^ R.n : Nat) : Int) ≤ (X : Int) := by omega
  generalize ((2 ^ R.n : Nat) : Int) = W at c1 i1
  have hb := h.head.lt
  have hg := hide (rget_none h f hbad)
  go_enter Tryz.func102, Tryz.ntmps102
  go_wp2_with fail
  refine hg.out.mono ?_
  rintro e w' ⟨rfl, rfl⟩
  go_wp2_with fail
  go_ret2
  exact ⟨rfl, Keeps.refl _ _⟩

set_option maxRecDepth 100000 in
set_option maxHeartbeats 2000000 in
theorem rexists_calls {w : World} {b : RB} {R : RS} (h : RefAt w b R) (hf : R.Fit) (f : Int) (X : Nat) (hX : X < 2 ^ R.n) (x : List Bool) (hx : R.look f = some x) (hxl : x.length = 2 ^ R.n) :
    Calls Tryz.prog 102 #[.pointer (some ⟨b.r, 0, none⟩), .int .i64 f, .int .i64 (X : Int)] w (RGives b R w (exT R.n x X R.n)) := by
  obtain ⟨ways, hw⟩ : ∃ ways, ways = 2 ^ R.n := ⟨_, rfl⟩
  have n8 := h.n8
  have w256 : ways ≤ 256 := by rw [hw]; exact Nat.pow_le_pow_right (n := 2) (by decide) n8
  have hlen := exT_length hxl X
  rw [← hw] at hX hlen
  have c1 : ∀ wr : World, Keeps [] w wr → wr.cell? ⟨b.r, 1, none⟩ = some (.int .i64 (ways : Int)) := fun _ k => by
    have := (h.keeps0 k).head.cell 1
    rw [hw]
    simpa using this
  have c0 : ∀ wr : World, Keeps [] w wr → wr.cell? ⟨b.r, 0, none⟩ = some (.int .i64 (R.n : Int)) := fun _ k => (h.keeps0 k).head.cell 0
  have hgv := hide (fun (wr : World) (k : Keeps [] w wr) => give_calls (h.keeps0 k) (exT R.n x X R.n) hf.lo hf.hi)
  have Hgoal := hide (fun (wr w' : World) (e : Ending) (k : Keeps [] w wr) (g : RGives b R wr (exT R.n x X R.n) e w') => g.of k)
  have hrb := h.head.lt
  have gx := hide (rget_some h f x hx)
  have hbit := hide (fun (w : World) (i q : Nat) (hi : i < R.n) (hq : X / 2 ^ i % 2 = q) => rbit_calls (w := w) X i q (by omega) (by omega) hq)
  have hfix := hide (fun (wr : World) (k : Keeps [] w wr) (t : List Bool) (i : Nat) (v : Bool) (ht : t.length = ways) (hi : i < R.n) => fixed_calls t i v (h.keeps0 k).head (by rfl) rfl n8 (by rw [ht, hw]) hi)
  have hor : ∀ u v : List Bool, u.length = ways → v.length = ways → ∀ a, a < ways → ∃ p q, u[a]? = some p ∧ v[a]? = some q ∧ (orT R.n u v)[a]? = some (p || q) := by
    intro u v hu hv a ha
    refine ⟨u[a]'(by omega), v[a]'(by omega), List.getElem?_eq_getElem _, List.getElem?_eq_getElem _, ?_⟩
    unfold orT
    rw [List.getElem?_map, List.getElem?_range (by rw [← hw]; exact ha)]
    simp [List.getElem?_eq_getElem (show a < u.length by omega), List.getElem?_eq_getElem (show a < v.length by omega)]
  have C1 := hide c1
  have C0 := hide c0
  have HX := hide hX
  unfold RGives at Hgoal ⊢
  generalize R.give (exT R.n x X R.n) = GG at hgv Hgoal ⊢
  have Hlen := hide hlen
  have Hor := hide hor
  have Hw := hide hw
  have d1 := c1 _ (Keeps.refl _ w)
  have i1 : ¬ (ways : Int) ≤ (X : Int) := by omega
  clear hlen hw c1 c0 hx hxl hor hX
  go_enter Tryz.func102, Tryz.ntmps102
  go_wp2_with fail
  refine gx.out.mono ?_
  rintro e w1 ⟨rfl, k1⟩
  go_wp2_with fail
  go_loopw [8, 10] (fun y z wr => ∃ i : Nat, y = .string (bts (exT R.n x X i)) ∧ z = .int .i64 i ∧ i ≤ R.n ∧ Keeps [] w wr) (fun _ z _ => ((R.n : Int) - intOf z).toNat)
  case atStart => exact ⟨0, rfl, rfl, by omega, k1⟩
  case round =>
    obtain ⟨i, rfl, rfl, hi, kr⟩ := hrel
    have e0 := C0.out _ kr
    by_cases hil : i < R.n
    · have hiI : (i : Int) < R.n := by omega
      obtain ⟨q, hq⟩ : ∃ q, X / 2 ^ i % 2 = q := ⟨_, rfl⟩
      have hc := hide (hbit.out wr i q hil hq)
      have hq2 : q = 0 ∨ q = 1 := by omega
      have Hq := hide hq
      clear hq
      go_wp2_with fail
      refine hc.out.mono ?_
      rintro e w' ⟨rfl, rfl⟩
      rcases hq2 with rfl | rfl
      · go_wp2_with fail
        go_roundw
        · refine ⟨i + 1, ?_, by simp, by omega, kr⟩
          rw [exT, if_pos Hq.out]
        · simp only [intOf]; omega
      · have hnext : exT R.n x X (i + 1) = orT R.n (fixT R.n (exT R.n x X i) i false) (fixT R.n (exT R.n x X i) i true) := by
          rw [exT, if_neg (by rw [Hq.out]; decide)]
        have hl := Hlen.out (i + 1)
        rw [hnext] at hl
        have Hnext := hide hnext
        clear hnext hc
        have fA := hide (hfix.out _ kr _ i false (Hlen.out i) hil)
        go_wp2_with fail
        refine fA.out.mono ?_
        rintro e w2 ⟨rfl, k2⟩
        have kr2 := kr.trans k2
        have fB := hide (hfix.out _ kr2 _ i true (Hlen.out i) hil)
        go_wp2_with fail
        refine fB.out.mono ?_
        rintro e w3 ⟨rfl, k3⟩
        have kr3 := kr2.trans k3
        have hlu : (fixT R.n (exT R.n x X i) i false).length = ways := by rw [Hw.out]; simp [fixT]
        have hlv : (fixT R.n (exT R.n x X i) i true).length = ways := by rw [Hw.out]; simp [fixT]
        generalize fixT R.n (exT R.n x X i) i false = u at hl hlu Hnext ⊢
        generalize fixT R.n (exT R.n x X i) i true = v at hl hlv Hnext ⊢
        have e1 := C1.out _ kr3
        have hmk := run_makeBytes w3 ways (by omega)
        have kx := kr3.trans (Keeps.alloc [] w3 (.cells (madeCells #[.int .u8 0] ways) 5))
        have fx := made_fillB w3 (orT R.n u v) ways hl
        have hsz := kr3.size
        have Hl := hide hl
        have Huv := hide (And.intro hlu hlv)
        clear fA fB hl hlu hlv k2 k3 kr2
        go_wp2_with fail
        generalize w3.alloc (.cells (madeCells #[.int .u8 0] ways) 5) = W at kx fx ⊢
        go_loopw [14] (fun y wr => ∃ a : Nat, y = .int .i64 a ∧ a ≤ ways ∧ FillB wr w3.heap.size (orT R.n u v) a ∧ Keeps [] w wr) (fun y _ => ((ways : Int) - intOf y).toNat)
        case atStart => exact ⟨0, rfl, by omega, fx, kx⟩
        case round =>
          obtain ⟨a, rfl, ha, fr, ks⟩ := hrel
          have e1 := C1.out _ ks
          by_cases hal : a < ways
          · have haI : (a : Int) < ways := by omega
            have hfz := fr.frozen a
            obtain ⟨v0, hcl⟩ := fr.cell (i := a) (by rw [Hl.out]; exact hal)
            obtain ⟨p, q, hp, hq, htt⟩ := Hor.out u v Huv.out.1 Huv.out.2 a hal
            have ix := fun w => bts_index hp w
            have iy := fun w => bts_index hq w
            have hone := bi_one p
            have hone2 := bi_one q
            have Htt := hide htt
            clear hp hq htt
            cases p
            all_goals
              go_wp2_with fail
              refine (truth_calls _).mono ?_
              rintro e w' ⟨rfl, rfl⟩
              go_wp2_with fail
              go_roundw
              · exact ⟨a + 1, by simp, by omega, fr.next Htt.out, fill_keeps ks hsz⟩
              · simp only [intOf]; omega
          · have haI : ¬ (a : Int) < ways := by omega
            have ht := fr.text (by rw [Hl.out]; omega) ways
            rw [Hl.out] at ht
            go_wp2_with fail
            go_roundw
            · refine ⟨i + 1, ?_, by simp, by omega, ks⟩
              rw [Hnext.out]
            · simp only [intOf]; omega
    · have hiI : ¬ (i : Int) < R.n := by omega
      have ei : i = R.n := by omega
      subst ei
      have hgv' := hide (hgv.out wr kr)
      go_wp2_with fail
      refine hgv'.out.mono ?_
      rintro e w' ⟨b', rfl, g1, g2, g3⟩
      go_wp2_with fail
      go_ret2
      exact Hgoal.out wr w' _ kr ⟨b', rfl, g1, g2, g3⟩

end Go.Proofs.YtgjomknpjigkhaaGreatDoor
