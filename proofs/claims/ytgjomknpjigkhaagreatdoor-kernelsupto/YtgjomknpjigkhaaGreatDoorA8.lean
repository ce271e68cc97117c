/- The document's kernel: Eval, Count, Support. -/
import Derived.Test.YtgjomknpjigkhaaGreatDoorA4
namespace Go.Proofs.YtgjomknpjigkhaaGreatDoor
open Go.RowKit Go.Shelf

/-- A question that is answered by an error. -/
def RErrB (w : World) (x : Int) (e : Ending) (w' : World) : Prop := e = .returned (.tuple #[.bool false, .int .i64 x]) ∧ Keeps [] w w'

set_option maxRecDepth 100000 in
set_option maxHeartbeats 1000000 in
theorem reval_arg {w : World} {b : RB} {R : RS} (h : RefAt w b R) (f X : Int) (hX : X < 0 ∨ ((2 ^ R.n : Nat) : Int) ≤ X) : Calls Tryz.prog 108 #[.pointer (some ⟨b.r, 0, none⟩), .int .i64 f, .int .i64 X] w (RErrB w 1) := by
  have c1 := h.head.cell 1
  simp only [List.getElem?_toArray, List.getElem?_cons_succ, List.getElem?_cons_zero] at c1
  generalize ((2 ^ R.n : Nat) : Int) = W at c1 hX
  have hb := h.head.lt
  by_cases i0 : X < 0
  · go_enter Tryz.func108, Tryz.ntmps108
    go_wp2_with fail
    go_ret2
    exact ⟨rfl, Keeps.refl _ _⟩
  · have i1 : W ≤ X := by omega
    go_enter Tryz.func108, Tryz.ntmps108
    go_wp2_with fail
    go_ret2
    exact ⟨rfl, Keeps.refl _ _⟩

set_option maxRecDepth 100000 in
set_option maxHeartbeats 1000000 in
theorem reval_bad {w : World} {b : RB} {R : RS} (h : RefAt w b R) (f : Int) (X : Nat) (hX : X < 2 ^ R.n) (hbad : R.look f = none) : Calls Tryz.prog 108 #[.pointer (some ⟨b.r, 0, none⟩), .int .i64 f, .int .i64 (X : Int)] w (RErrB w 2) := by
  have c1 := h.head.cell 1
  simp only [List.getElem?_toArray, List.getElem?_cons_succ, List.getElem?_cons_zero] at c1
  have i1 : ¬ ((2 ^ R.n : Nat) : Int) ≤ (X : Int) := by omega
  generalize ((2 ^ R.n : Nat) : Int) = W at c1 i1
  have hb := h.head.lt
  have hg := hide (rget_none h f hbad)
  go_enter Tryz.func108, Tryz.ntmps108
  go_wp2_with fail
  refine hg.out.mono ?_
  rintro e w' ⟨rfl, rfl⟩
  go_wp2_with fail
  go_ret2
  exact ⟨rfl, Keeps.refl _ _⟩

set_option maxRecDepth 100000 in
set_option maxHeartbeats 1000000 in
theorem reval_calls {w : World} {b : RB} {R : RS} (h : RefAt w b R) (f : Int) (X : Nat) (hX : X < 2 ^ R.n) (x : List Bool) (hx : R.look f = some x) (p : Bool) (hp : x[X]? = some p) : Calls Tryz.prog 108 #[.pointer (some ⟨b.r, 0, none⟩), .int .i64 f, .int .i64 (X : Int)] w fun e w' => e = .returned (.tuple #[.bool p, .int .i64 0]) ∧ Keeps [] w w' := by
  have c1 := h.head.cell 1
  simp only [List.getElem?_toArray, List.getElem?_cons_succ, List.getElem?_cons_zero] at c1
  have i1 : ¬ ((2 ^ R.n : Nat) : Int) ≤ (X : Int) := by omega
  generalize ((2 ^ R.n : Nat) : Int) = W at c1 i1
  have hb := h.head.lt
  have hg := hide (rget_some h f x hx)
  have ix := fun w => bts_index hp w
  have hone := bi_one p
  clear hp hx
  go_enter Tryz.func108, Tryz.ntmps108
  go_wp2_with fail
  refine hg.out.mono ?_
  rintro e w' ⟨rfl, k⟩
  go_wp2_with fail
  go_ret2
  refine ⟨?_, k⟩
  rw [← hone]
  simp [bi_one]

set_option maxRecDepth 100000 in
set_option maxHeartbeats 1000000 in
theorem rcount_bad {w : World} {b : RB} {R : RS} (h : RefAt w b R) (f : Int) (hbad : R.look f = none) : Calls Tryz.prog 110 #[.pointer (some ⟨b.r, 0, none⟩), .int .i64 f] w (RErr w 2) := by
  have hb := h.head.lt
  have hg := hide (rget_none h f hbad)
  go_enter Tryz.func110, Tryz.ntmps110
  go_wp2_with fail
  refine hg.out.mono ?_
  rintro e w' ⟨rfl, rfl⟩
  go_wp2_with fail
  go_ret2
  exact ⟨rfl, Keeps.refl _ _⟩

/-- How many of the first a are true. -/
def cntT (x : List Bool) (a : Nat) : Nat := ((x.take a).filter id).length
theorem cntT_le (x : List Bool) (a : Nat) : cntT x a ≤ a := by
  unfold cntT
  exact Nat.le_trans (List.length_filter_le _ _) (by simp; omega)
theorem cntT_succ {x : List Bool} {a : Nat} {p : Bool} (h : x[a]? = some p) : cntT x (a + 1) = cntT x a + (if p then 1 else 0) := by
  unfold cntT
  rw [List.take_add_one, h, List.filter_append, List.length_append]
  congr 1
  cases p <;> rfl

set_option maxRecDepth 100000 in
set_option maxHeartbeats 1000000 in
theorem rcount_calls {w : World} {b : RB} {R : RS} (h : RefAt w b R) (f : Int) (x : List Bool) (hx : R.look f = some x) (hl : x.length = 2 ^ R.n) : Calls Tryz.prog 110 #[.pointer (some ⟨b.r, 0, none⟩), .int .i64 f] w fun e w' => e = .returned (.tuple #[.int .i64 ((cntT x (2 ^ R.n) : Nat) : Int), .int .i64 0]) ∧ Keeps [] w w' := by
  have hb := h.head.lt
  obtain ⟨ways, hw⟩ : ∃ ways, ways = 2 ^ R.n := ⟨_, rfl⟩
  have w256 : ways ≤ 256 := by rw [hw]; exact Nat.pow_le_pow_right (n := 2) (by decide) h.n8
  rw [← hw] at hl ⊢
  have c1 : ∀ wr : World, Keeps [] w wr → wr.cell? ⟨b.r, 1, none⟩ = some (.int .i64 (ways : Int)) := fun _ k => by
    have := (h.keeps0 k).head.cell 1
    rw [hw]
    simpa using this
  have C1 := hide c1
  have Hl := hide hl
  have hg := hide (rget_some h f x hx)
  clear hx hw c1 hl
  go_enter Tryz.func110, Tryz.ntmps110
  go_wp2_with fail
  refine hg.out.mono ?_
  rintro e w1 ⟨rfl, k⟩
  go_wp2_with fail
  go_loopw [8, 9] (fun y z wr => ∃ m a : Nat, y = .int .i64 m ∧ z = .int .i64 a ∧ a ≤ ways ∧ m = cntT x a ∧ wr = w1) (fun _ z _ => ((ways : Int) - intOf z).toNat)
  case atStart => exact ⟨0, 0, rfl, rfl, by omega, by simp [cntT], rfl⟩
  case round =>
    obtain ⟨m, a, rfl, rfl, ha, hm, rfl⟩ := hrel
    have e1 := C1.out _ k
    have hmle := cntT_le x a
    rw [← hm] at hmle
    have Hm := hide hm
    clear hm
    by_cases hal : a < ways
    · have haI : (a : Int) < ways := by omega
      obtain ⟨p, hp⟩ : ∃ p, x[a]? = some p := ⟨_, List.getElem?_eq_getElem (by rw [Hl.out]; exact hal)⟩
      have ix := fun w => bts_index hp w
      have hone := bi_one p
      have hs := cntT_succ hp
      have Hs := hide hs
      clear hp hs
      cases p
      · go_wp2_with fail
        go_roundw
        · exact ⟨m, a + 1, rfl, by simp, by omega, by rw [Hs.out, Hm.out]; simp, by trivial⟩
        · simp only [intOf]; omega
      · go_wp2_with fail
        go_roundw
        · exact ⟨m + 1, a + 1, by simp, by simp, by omega, by rw [Hs.out, Hm.out]; simp, by trivial⟩
        · simp only [intOf]; omega
    · have haI : ¬ (a : Int) < ways := by omega
      have ea : a = ways := by omega
      subst ea
      go_wp2_with fail
      go_ret2
      exact ⟨by rw [← Hm.out]; rfl, k⟩

set_option maxRecDepth 100000 in
set_option maxHeartbeats 1000000 in
theorem rsupport_bad {w : World} {b : RB} {R : RS} (h : RefAt w b R) (f : Int) (hbad : R.look f = none) : Calls Tryz.prog 112 #[.pointer (some ⟨b.r, 0, none⟩), .int .i64 f] w (RErr w 2) := by
  have hb := h.head.lt
  have hg := hide (rget_none h f hbad)
  go_enter Tryz.func112, Tryz.ntmps112
  go_wp2_with fail
  refine hg.out.mono ?_
  rintro e w' ⟨rfl, rfl⟩
  go_wp2_with fail
  go_ret2
  exact ⟨rfl, Keeps.refl _ _⟩

/-- The first variables on which a table hangs, as a set. -/
def supT (n : Nat) (x : List Bool) : Nat → Nat
  | 0 => 0
  | i + 1 => supT n x i + (if fixT n x i false = fixT n x i true then 0 else 2 ^ i)

theorem supT_lt (n : Nat) (x : List Bool) : ∀ i, supT n x i < 2 ^ i
  | 0 => by simp [supT]
  | i + 1 => by
    have := supT_lt n x i
    unfold supT
    rw [Nat.pow_succ]
    split <;> omega

set_option maxRecDepth 100000 in
set_option maxHeartbeats 1000000 in
theorem rsupport_calls {w : World} {b : RB} {R : RS} (h : RefAt w b R) (f : Int) (x : List Bool) (hx : R.look f = some x) (hl : x.length = 2 ^ R.n) : Calls Tryz.prog 112 #[.pointer (some ⟨b.r, 0, none⟩), .int .i64 f] w fun e w' => e = .returned (.tuple #[.int .i64 ((supT R.n x R.n : Nat) : Int), .int .i64 0]) ∧ Keeps [] w w' := by
  have hb := h.head.lt
  have n8 := h.n8
  have c0 : ∀ wr : World, Keeps [] w wr → wr.cell? ⟨b.r, 0, none⟩ = some (.int .i64 (R.n : Int)) := fun _ k => (h.keeps0 k).head.cell 0
  have hfix := hide (fun (wr : World) (k : Keeps [] w wr) (i : Nat) (v : Bool) (hi : i < R.n) => fixed_calls x i v (h.keeps0 k).head (by rfl) rfl n8 hl hi)
  have hpw := hide (fun (w : World) (i r : Nat) (hi : i < R.n) (hr : 2 ^ i = r) => power_calls (w := w) i r (by omega) hr)
  have C0 := hide c0
  have hg := hide (rget_some h f x hx)
  clear hx c0 hl
  go_enter Tryz.func112, Tryz.ntmps112
  go_wp2_with fail
  refine hg.out.mono ?_
  rintro e w1 ⟨rfl, k⟩
  go_wp2_with fail
  go_loopw [8, 9] (fun y z wr => ∃ m a : Nat, y = .int .i64 m ∧ z = .int .i64 a ∧ a ≤ R.n ∧ m = supT R.n x a ∧ Keeps [] w wr) (fun _ z _ => ((R.n : Int) - intOf z).toNat)
  case atStart => exact ⟨0, 0, rfl, rfl, by omega, rfl, k⟩
  case round =>
    obtain ⟨m, a, rfl, rfl, ha, hm, kr⟩ := hrel
    have e1 := C0.out _ kr
    have hmle : m < 256 := by
      rw [hm]
      exact Nat.lt_of_lt_of_le (supT_lt R.n x a) (Nat.pow_le_pow_right (n := 2) (by decide) (by omega : a ≤ 8))
    have Hm := hide hm
    clear hm
    by_cases hal : a < R.n
    · have haI : (a : Int) < R.n := by omega
      have fA := hide (hfix.out _ kr a false hal)
      go_wp2_with fail
      refine fA.out.mono ?_
      rintro e w2 ⟨rfl, k2⟩
      have kr2 := kr.trans k2
      have fB := hide (hfix.out _ kr2 a true hal)
      go_wp2_with fail
      refine fB.out.mono ?_
      rintro e w3 ⟨rfl, k3⟩
      have kr3 := kr2.trans k3
      have hbq := bts_beq (fixT R.n x a false) (fixT R.n x a true)
      by_cases hq : fixT R.n x a false = fixT R.n x a true
      · rw [decide_eq_true hq] at hbq
        have Hq := hide hq
        clear hq
        go_wp2_with fail
        go_roundw
        · exact ⟨m, a + 1, rfl, by simp, by omega, by rw [supT, if_pos Hq.out, ← Hm.out]; rfl, kr3⟩
        · simp only [intOf]; omega
      · rw [decide_eq_false hq] at hbq
        have Hq := hide hq
        clear hq
        obtain ⟨r, hr⟩ : ∃ r, 2 ^ a = r := ⟨_, rfl⟩
        have hr2 : r ≤ 256 := by rw [← hr]; exact Nat.pow_le_pow_right (n := 2) (by decide) (by omega : a ≤ 8)
        have hp := hide (hpw.out w3 a r hal hr)
        have Hr := hide hr
        clear hr
        go_wp2_with fail
        refine hp.out.mono ?_
        rintro e w4 ⟨rfl, rfl⟩
        go_wp2_with fail
        go_roundw
        · exact ⟨m + r, a + 1, by simp, by simp, by omega, by rw [supT, if_neg Hq.out, ← Hm.out, Hr.out], kr3⟩
        · simp only [intOf]; omega
    · have haI : ¬ (a : Int) < R.n := by omega
      have ea : a = R.n := by omega
      go_wp2_with fail
      go_ret2
      refine ⟨?_, kr⟩
      have e2 : m = supT R.n x R.n := by
        have := Hm.out
        rw [ea] at this
        exact this
      rw [← e2]
      rfl

end Go.Proofs.YtgjomknpjigkhaaGreatDoor
