/- S6, S7. -/
import Derived.Test.YtgjomknpjigkhaaMMill
namespace Go.Proofs.Ytgjomknpjigkhaa
open Go.RowKit Go.Shelf

/-- A handle came out: the mill knows it. -/
theorem Ready.stepped_know {base : Nat} {w w0 w1 w2 w' : World} {m m' : MB} {M M' : ML} {K K' : KS} {F : (Int → Bool) → Bool} {h e c : Int} (R : Ready base w m M K) (k0 : Keeps [] w w0) (k1 : Keeps m.b.own w0 w1) (k2 : w2 = w1) (A : Ans K K' F h e c) (hM : MillAt w' m' M' K') (I : MI M' K') (hmb : m'.mb = m.mb) (hb : m'.b = m.b) (hn : M'.n = M.n) (bl : Below m.mb w2 w') (hc : c ≤ 524288) : Stepped base m m' M M' K K' w w' := by
  subst k2
  have hs : base ≤ w.heap.size := by have := R.mill.head.lt; have := R.low; omega
  refine ⟨hM, I, hmb, hb, hn, by have := A.next; omega, ?_, ?_⟩
  · rcases A.out with ⟨_, _, _, _, _, h1⟩ | ⟨_, ⟨_, _, _, _, h1⟩ | ⟨_, _, _, h1, _⟩⟩ <;> omega
  · exact ((k0.below hs (by simp)).trans (k1.below (by have := k0.size; omega) R.own)).trans (bl.mono R.low)

set_option maxRecDepth 100000 in
set_option maxHeartbeats 4000000 in
theorem step_var {base : Nat} {w : World} {m : MB} {M : ML} {K : KS} (R : Ready base w m M K) (A B C : Int) (a0 : -9223372036854775808 ≤ A) (a1 : A ≤ 9223372036854775807) (b0 : -9223372036854775808 ≤ B) (b1 : B ≤ 9223372036854775807) (c0 : -9223372036854775808 ≤ C) (c1 : C ≤ 9223372036854775807) (Kd : Int) (hKd : 11 ≤ Kd ∨ Kd < 0) :
    Calls Try.prog 7 #[.pointer (some ⟨m.mb, 0, none⟩), .agg #[.int .i64 Kd, .int .i64 A, .int .i64 B, .int .i64 C]] w (StepGives base m M K w) := by
  have e0 : ¬ Kd = 0 := by omega
  have z0 : (Kd == 0) = false := by simpa using e0
  have e1 : ¬ Kd = 1 := by omega
  have z1 : (Kd == 1) = false := by simpa using e1
  have e2 : ¬ Kd = 2 := by omega
  have z2 : (Kd == 2) = false := by simpa using e2
  have e3 : ¬ Kd = 3 := by omega
  have z3 : (Kd == 3) = false := by simpa using e3
  have e4 : ¬ Kd = 4 := by omega
  have z4 : (Kd == 4) = false := by simpa using e4
  have e5 : ¬ Kd = 5 := by omega
  have z5 : (Kd == 5) = false := by simpa using e5
  have e6 : ¬ Kd = 6 := by omega
  have z6 : (Kd == 6) = false := by simpa using e6
  have e7 : ¬ Kd = 7 := by omega
  have z7 : (Kd == 7) = false := by simpa using e7
  have e8 : ¬ Kd = 8 := by omega
  have z8 : (Kd == 8) = false := by simpa using e8
  have e9 : ¬ Kd = 9 := by omega
  have z9 : (Kd == 9) = false := by simpa using e9
  have e10 : ¬ Kd = 10 := by omega
  have z10 : (Kd == 10) = false := by simpa using e10
  clear hKd
  have hlen := R.len
  have htwo := R.two
  obtain ⟨ways, hways⟩ : ∃ x, x = 2 ^ M.n := ⟨_, rfl⟩
  have w32 : ways ≤ 32 := by rw [hways]; exact Nat.pow_le_pow_right (n := 2) (by decide) R.n5
  have Hways := hide hways
  obtain ⟨L, hL⟩ : ∃ x, x = M.fs.length := ⟨_, rfl⟩
  rw [← hL] at hlen htwo
  obtain ⟨i, ei, hi⟩ := pk_nat A (n := L) (by omega)
  obtain ⟨j, ej, hj⟩ := pk_nat B (n := L) (by omega)
  obtain ⟨l, el, hl⟩ := pk_nat C (n := L) (by omega)
  have HL := hide hL
  have pA := hide (fun w : World => pick_calls (w := w) A L a0 a1 (by omega))
  have pB := hide (fun w : World => pick_calls (w := w) B L b0 b1 (by omega))
  have pC := hide (fun w : World => pick_calls (w := w) C L c0 c1 (by omega))
  rw [ei] at pA
  rw [ej] at pB
  rw [el] at pC
  have hiI : (i : Int) < L := by omega
  have hjI : (j : Int) < L := by omega
  have hlI : (l : Int) < L := by omega
  have zx := size_alloc' w (.cells #[.int .i64 Kd, .int .i64 A, .int .i64 B, .int .i64 C] 27)
  have kx := Keeps.alloc [] w (.cells #[.int .i64 Kd, .int .i64 A, .int .i64 B, .int .i64 C] 27)
  have hx := CellsAt.new w #[.int .i64 Kd, .int .i64 A, .int .i64 B, .int .i64 C] 27
  have hM1 := R.mill.keeps0 kx
  have hmk := fun w : World => run_makeBools w ways (by omega)
  have g1 := hM1.head.cell 1
  have g2 := hM1.head.cell 2
  have g3 := hM1.head.cell 3
  have g4 := hM1.head.cell 4
  simp at g1 g3 g4
  have g2' : (w.alloc (.cells #[.int .i64 Kd, .int .i64 A, .int .i64 B, .int .i64 C] 27)).cell? ⟨m.mb, 2, none⟩ = some (.int .i64 ways) := by rw [g2, hways]; rfl
  rw [← hL] at g3 g4
  obtain ⟨pi, hpi⟩ : ∃ p, m.tbs[i]? = some p := ⟨m.tbs[i]'(by rw [R.mill.lens, ← hL]; exact hi), List.getElem?_eq_getElem _⟩
  obtain ⟨pj, hpj⟩ : ∃ p, m.tbs[j]? = some p := ⟨m.tbs[j]'(by rw [R.mill.lens, ← hL]; exact hj), List.getElem?_eq_getElem _⟩
  have ti := hM1.truthCell hpi
  have tj := hM1.truthCell hpj
  rw [← hways] at ti tj
  have Hpi := hide hpi
  have Hpj := hide hpj
  have Eij := hide (And.intro ei (And.intro ej el))
  have hmb := R.mill.head.lt
  have hbxm : m.mb < w.heap.size := hmb
  clear hways hL g2 ei ej el hpi hpj hmb
  go_enter Try.func7, Try.ntmps7
  go_wp2_with fail
  generalize w.alloc (.cells #[.int .i64 Kd, .int .i64 A, .int .i64 B, .int .i64 C] 27) = W at zx kx hx hM1 g1 g2' g3 g4 ti tj ⊢
  obtain ⟨bx, hbx⟩ : ∃ x, x = w.heap.size := ⟨_, rfl⟩
  rw [← hbx] at hx zx hbxm ⊢
  have kind : W.cell? ⟨bx, 0, none⟩ = some (.int .i64 Kd) := hx.cell 0
  have xA : W.cell? ⟨bx, 1, none⟩ = some (.int .i64 A) := hx.cell 1
  have xB : W.cell? ⟨bx, 2, none⟩ = some (.int .i64 B) := hx.cell 2
  have xC : W.cell? ⟨bx, 3, none⟩ = some (.int .i64 C) := hx.cell 3
  have Hbx := hide hbx
  clear hbx
  go_quiet ((go_at_call 11; exact (pA.out _).mono fun _ _ h => ⟨h.1, _, h.2⟩))
  revert nq
  intro q1
  go_wp2_with fail
  go_quiet ((go_at_call 11; exact (pB.out _).mono fun _ _ h => ⟨h.1, _, h.2⟩))
  revert nq
  intro q2
  go_wp2_with fail
  go_quiet ((go_at_call 11; exact (pC.out _).mono fun _ _ h => ⟨h.1, _, h.2⟩))
  revert nq
  intro q3
  go_wp2_with fail
  have kT : Keeps [] W ((W.drewN (q1 + q2 + q3)).alloc (.cells (madeCells #[.bool false] ways) 4)) := (Keeps.drewN [] W _).trans (Keeps.alloc [] _ _)
  have fT : ∀ F, Fill ((W.drewN (q1 + q2 + q3)).alloc (.cells (madeCells #[.bool false] ways) 4)) (bx + 1) M.n F 0 := fun F => by
    have := made_fill (W.drewN (q1 + q2 + q3)) M.n F
    rw [← Hways.out] at this
    rw [← zx]
    exact this
  have zT : ((W.drewN (q1 + q2 + q3)).alloc (.cells (madeCells #[.bool false] ways) 4)).heap.size = bx + 1 + 1 := by rw [size_alloc']; show W.heap.size + 1 = _; rw [zx]
  generalize (W.drewN (q1 + q2 + q3)).alloc (.cells (madeCells #[.bool false] ways) 4) = WT at kT fT zT ⊢
  have hMT := hM1.keeps0 kT
  have hxT := hx.keeps kT (by simp)
  have kwT := kx.trans kT
  have Hzx := hide zx
  have HzT := hide zT
  clear g1 g2' g3 g4 ti tj kind xA xB xC zx zT hM1 hx kx kT hmk pA pB pC q1 q2 q3
  obtain ⟨v, ev, hv⟩ := pk_nat A (n := M.n) R.n1
  have pV := hide (fun w : World => pick_calls (w := w) A M.n a0 a1 (by have := R.n1; omega))
  rw [ev] at pV
  have hbt := hide (fun (w : World) (a : Nat) (ha : a < ways) => bit_calls (w := w) a v (by omega) (by omega) (by omega) (by have := R.n5; omega))
  have u1 := hMT.head.cell 1
  have u3 : WT.cell? ⟨bx, 1, none⟩ = some (.int .i64 A) := hxT.cell 1
  simp at u1
  clear ev
  go_quiet ((go_at_call 11; exact (pV.out _).mono fun _ _ h => ⟨h.1, _, h.2⟩))
  go_wp2_with fail
  have fD := (fT (fun σ => σ v)).keeps (Keeps.drewN [] WT nq) (by simp)
  have kD := kwT.trans (Keeps.drewN [] WT nq)
  have zD : (WT.drewN nq).heap.size = bx + 1 + 1 := HzT.out
  have HzD := hide zD
  clear zD u1 u3 fT HzT hMT hxT
  generalize WT.drewN nq = WD at fD kD HzD ⊢
  clear z0 z1 z2 z3 z4 z5 z6 z7 z8 z9 z10
  go_loopw [37] (fun x wr => ∃ a : Nat, x = .int .i64 a ∧ a ≤ ways ∧ Fill wr (bx + 1) M.n (fun σ => σ v) a ∧ Keeps [] w wr ∧ bx + 1 + 1 ≤ wr.heap.size) (fun x _ => ((ways : Int) - intOf x).toNat)
  case atStart => exact ⟨0, rfl, by omega, fD, kD, by rw [HzD.out]; omega⟩
  case round =>
    obtain ⟨a, rfl, ha, fr, kr, zr⟩ := hrel
    have hMr := R.mill.keeps0 kr
    have d2 := hMr.head.cell 2
    have d2' : wr.cell? ⟨m.mb, 2, none⟩ = some (.int .i64 ways) := by rw [d2, Hways.out]; rfl
    clear d2
    by_cases hal : a < ways
    · have haI : (a : Int) < ways := by omega
      have hfz := fr.frozen a
      have hcl := fr.cell (by rw [← Hways.out]; exact hal)
      have hb1 := hide (hbt.out wr a hal)
      go_wp2_with fail
      refine hb1.out.mono ?_
      rintro e w1 ⟨rfl, rfl⟩
      go_wp2_with fail
      go_roundw
      · have kS := Keeps.setCell w1 ⟨bx + 1, a, none⟩ (.bool (bitB a v))
        refine ⟨a + 1, by simp, by omega, fr.next rfl, kr.trans_new kS (fun i hi => ?_), by have := kS.size; omega⟩
        simp only [List.mem_singleton] at hi
        have := Hbx.out
        exact .inr (by omega)
      · simp only [intOf]; omega
    · have haI : ¬ (a : Int) < ways := by omega
      have ht := fr.done (by rw [← Hways.out]; omega)
      have d0 := hMr.head.cell 0
      simp at d0
      have hc := hide (kvar_calls hMr.kern R.know.inv v (by omega) (by rw [← R.know.n]; omega) (by have := R.next; omega) (by have := R.nx; omega))
      go_wp2_with fail
      refine hc.out.mono ?_
      rintro e W4 ⟨h, y, K', rfl, hK4, An, k4⟩
      have hM4 := hMr.worked hK4 k4
      have ht4 := ht.keeps k4 (R.up (by omega))
      rw [R.know.n] at ht4
      have hkn := hide (know_calls hM4 R.know An (by have := R.nx; omega) (bx + 1) ways ht4 (by omega))
      rw [← Hways.out] at hkn
      go_wp2_with fail
      refine hkn.out.mono ?_
      rintro e W5 ⟨rfl, m', M', hM5, I5, e1, e2, e3, bl⟩
      go_wp2_with fail
      go_ret
      exact ⟨rfl, m', M', K', R.stepped_know kr k4 rfl An hM5 I5 e1 e2 e3 bl (by omega)⟩

end Go.Proofs.Ytgjomknpjigkhaa

namespace Go.Proofs.Ytgjomknpjigkhaa
open Go.RowKit Go.Shelf

theorem Ready.handle {base : Nat} {w : World} {m : MB} {M : ML} {K : KS} (R : Ready base w m M K) {i : Nat} (hi : i < M.fs.length) : ∃ f r, M.fs[i]? = some f ∧ get K.R f = some r ∧ M.truth[i]? = some (tab M.n (K.S.den r)) := by
  have h1 : M.fs[i]? = some M.fs[i] := List.getElem?_eq_getElem hi
  have hl : i < M.truth.length := by rw [R.know.len]; exact hi
  have h2 : M.truth[i]? = some M.truth[i] := List.getElem?_eq_getElem hl
  obtain ⟨r, h3, h4⟩ := R.know.each i _ _ h1 h2
  exact ⟨_, r, h1, h3, by rw [h2, h4, R.know.n]⟩

set_option maxRecDepth 100000 in
set_option maxHeartbeats 4000000 in
theorem step_not {base : Nat} {w : World} {m : MB} {M : ML} {K : KS} (R : Ready base w m M K) (A B C : Int) (a0 : -9223372036854775808 ≤ A) (a1 : A ≤ 9223372036854775807) (b0 : -9223372036854775808 ≤ B) (b1 : B ≤ 9223372036854775807) (c0 : -9223372036854775808 ≤ C) (c1 : C ≤ 9223372036854775807) :
    Calls Try.prog 7 #[.pointer (some ⟨m.mb, 0, none⟩), .agg #[.int .i64 4, .int .i64 A, .int .i64 B, .int .i64 C]] w (StepGives base m M K w) := by
  have hlen := R.len
  have htwo := R.two
  obtain ⟨ways, hways⟩ : ∃ x, x = 2 ^ M.n := ⟨_, rfl⟩
  have w32 : ways ≤ 32 := by rw [hways]; exact Nat.pow_le_pow_right (n := 2) (by decide) R.n5
  have Hways := hide hways
  obtain ⟨L, hL⟩ : ∃ x, x = M.fs.length := ⟨_, rfl⟩
  rw [← hL] at hlen htwo
  obtain ⟨i, ei, hi⟩ := pk_nat A (n := L) (by omega)
  obtain ⟨j, ej, hj⟩ := pk_nat B (n := L) (by omega)
  obtain ⟨l, el, hl⟩ := pk_nat C (n := L) (by omega)
  have HL := hide hL
  have pA := hide (fun w : World => pick_calls (w := w) A L a0 a1 (by omega))
  have pB := hide (fun w : World => pick_calls (w := w) B L b0 b1 (by omega))
  have pC := hide (fun w : World => pick_calls (w := w) C L c0 c1 (by omega))
  rw [ei] at pA
  rw [ej] at pB
  rw [el] at pC
  have hiI : (i : Int) < L := by omega
  have hjI : (j : Int) < L := by omega
  have hlI : (l : Int) < L := by omega
  have zx := size_alloc' w (.cells #[.int .i64 4, .int .i64 A, .int .i64 B, .int .i64 C] 27)
  have kx := Keeps.alloc [] w (.cells #[.int .i64 4, .int .i64 A, .int .i64 B, .int .i64 C] 27)
  have hx := CellsAt.new w #[.int .i64 4, .int .i64 A, .int .i64 B, .int .i64 C] 27
  have hM1 := R.mill.keeps0 kx
  have hmk := fun w : World => run_makeBools w ways (by omega)
  have g1 := hM1.head.cell 1
  have g2 := hM1.head.cell 2
  have g3 := hM1.head.cell 3
  have g4 := hM1.head.cell 4
  simp at g1 g3 g4
  have g2' : (w.alloc (.cells #[.int .i64 4, .int .i64 A, .int .i64 B, .int .i64 C] 27)).cell? ⟨m.mb, 2, none⟩ = some (.int .i64 ways) := by rw [g2, hways]; rfl
  rw [← hL] at g3 g4
  obtain ⟨pi, hpi⟩ : ∃ p, m.tbs[i]? = some p := ⟨m.tbs[i]'(by rw [R.mill.lens, ← hL]; exact hi), List.getElem?_eq_getElem _⟩
  obtain ⟨pj, hpj⟩ : ∃ p, m.tbs[j]? = some p := ⟨m.tbs[j]'(by rw [R.mill.lens, ← hL]; exact hj), List.getElem?_eq_getElem _⟩
  have ti := hM1.truthCell hpi
  have tj := hM1.truthCell hpj
  rw [← hways] at ti tj
  have Hpi := hide hpi
  have Hpj := hide hpj
  have Eij := hide (And.intro ei (And.intro ej el))
  have hmb := R.mill.head.lt
  have hbxm : m.mb < w.heap.size := hmb
  clear hways hL g2 ei ej el hpi hpj hmb
  go_enter Try.func7, Try.ntmps7
  go_wp2_with fail
  generalize w.alloc (.cells #[.int .i64 4, .int .i64 A, .int .i64 B, .int .i64 C] 27) = W at zx kx hx hM1 g1 g2' g3 g4 ti tj ⊢
  obtain ⟨bx, hbx⟩ : ∃ x, x = w.heap.size := ⟨_, rfl⟩
  rw [← hbx] at hx zx hbxm ⊢
  have kind : W.cell? ⟨bx, 0, none⟩ = some (.int .i64 4) := hx.cell 0
  have xA : W.cell? ⟨bx, 1, none⟩ = some (.int .i64 A) := hx.cell 1
  have xB : W.cell? ⟨bx, 2, none⟩ = some (.int .i64 B) := hx.cell 2
  have xC : W.cell? ⟨bx, 3, none⟩ = some (.int .i64 C) := hx.cell 3
  have Hbx := hide hbx
  clear hbx
  go_quiet ((go_at_call 11; exact (pA.out _).mono fun _ _ h => ⟨h.1, _, h.2⟩))
  revert nq
  intro q1
  go_wp2_with fail
  go_quiet ((go_at_call 11; exact (pB.out _).mono fun _ _ h => ⟨h.1, _, h.2⟩))
  revert nq
  intro q2
  go_wp2_with fail
  go_quiet ((go_at_call 11; exact (pC.out _).mono fun _ _ h => ⟨h.1, _, h.2⟩))
  revert nq
  intro q3
  go_wp2_with fail
  have kT : Keeps [] W ((W.drewN (q1 + q2 + q3)).alloc (.cells (madeCells #[.bool false] ways) 4)) := (Keeps.drewN [] W _).trans (Keeps.alloc [] _ _)
  have fT : ∀ F, Fill ((W.drewN (q1 + q2 + q3)).alloc (.cells (madeCells #[.bool false] ways) 4)) (bx + 1) M.n F 0 := fun F => by
    have := made_fill (W.drewN (q1 + q2 + q3)) M.n F
    rw [← Hways.out] at this
    rw [← zx]
    exact this
  have zT : ((W.drewN (q1 + q2 + q3)).alloc (.cells (madeCells #[.bool false] ways) 4)).heap.size = bx + 1 + 1 := by rw [size_alloc']; show W.heap.size + 1 = _; rw [zx]
  generalize (W.drewN (q1 + q2 + q3)).alloc (.cells (madeCells #[.bool false] ways) 4) = WT at kT fT zT ⊢
  have hMT := hM1.keeps0 kT
  have hxT := hx.keeps kT (by simp)
  have kwT := kx.trans kT
  have Hzx := hide zx
  have HzT := hide zT
  clear g1 g2' g3 g4 ti tj kind xA xB xC zx zT hM1 hx kx kT hmk pA pB pC q1 q2 q3
  obtain ⟨fi, ri, hfi, hri, hti⟩ := R.handle (i := i) (by rw [← HL.out]; exact hi)
  have c31 := cst_le5 (show K.S.n ≤ 5 by rw [← R.know.n]; exact R.n5)
  have Hti := hide hti
  clear hti
  go_loopw [14] (fun x wr => ∃ a : Nat, x = .int .i64 a ∧ a ≤ ways ∧ Fill wr (bx + 1) M.n (fun σ => !K.S.den ri σ) a ∧ Keeps [] w wr ∧ bx + 1 + 1 ≤ wr.heap.size) (fun x _ => ((ways : Int) - intOf x).toNat)
  case atStart => exact ⟨0, rfl, by omega, fT _, kwT, by rw [HzT.out]; omega⟩
  case round =>
    obtain ⟨a, rfl, ha, fr, kr, zr⟩ := hrel
    have hMr := R.mill.keeps0 kr
    have d2 := hMr.head.cell 2
    have d2' : wr.cell? ⟨m.mb, 2, none⟩ = some (.int .i64 ways) := by rw [d2, Hways.out]; rfl
    clear d2
    by_cases hal : a < ways
    · have haI : (a : Int) < ways := by omega
      have hfz := fr.frozen a
      have hcl := fr.cell (by rw [← Hways.out]; exact hal)
      have ci := (hMr.tables i pi _ Hpi.out Hti.out).2.cell (tab_get (by rw [← Hways.out]; exact hal))
      generalize hX : K.S.den ri (asg (a : Int)) = X at ci
      have HX := hide hX
      clear hX
      go_wp2_with fail
      go_roundw
      · have kS := Keeps.setCell wr ⟨bx + 1, a, none⟩ (.bool (!X))
        refine ⟨a + 1, by simp, by omega, fr.next (by show (!X) = !K.S.den ri (asg (a : Int)); rw [HX.out]), kr.trans_new kS (fun i hi => ?_), by have := kS.size; omega⟩
        simp only [List.mem_singleton] at hi
        have := Hbx.out
        exact .inr (by omega)
      · simp only [intOf]; omega
    · have haI : ¬ (a : Int) < ways := by omega
      have ht := fr.done (by rw [← Hways.out]; omega)
      have hsc := hide (fun (w : World) (h : KernelAt w m.b K) => knot_calls h R.know.inv fi ri hri (by have := R.next; omega) (by have := R.nx; omega))
      have hMD := hMr.keeps0 (Keeps.drew [] wr)
      have facts : ∀ {w' : World} {K : KS}, MillAt w' m M K → (w'.cell? ⟨m.mb, 0, none⟩ = some (.pointer (some ⟨m.b.k, 0, none⟩)) ∧ w'.cell? ⟨m.mb, 3, none⟩ = some (.slice (some ⟨m.gf, 0, none⟩) L m.cf) ∧ w'.cell? ⟨m.gf, i, none⟩ = some (.int .i64 fi)) := fun h1 => ⟨h1.head.cell 0, by rw [HL.out]; exact h1.head.cell 3, h1.fsCell hfi⟩
      have fD := facts hMD
      go_wp2_with fail
      go_region_held3 (fun w' => w'.cell? ⟨m.mb, 0, none⟩ = some (.pointer (some ⟨m.b.k, 0, none⟩)) ∧ w'.cell? ⟨m.mb, 3, none⟩ = some (.slice (some ⟨m.gf, 0, none⟩) L m.cf) ∧ w'.cell? ⟨m.gf, i, none⟩ = some (.int .i64 fi)) (first | exact fD | exact fE)
        (first
          | (go_at_call 22
             refine (hsc.out _ hMD.kern).mono ?_
             rintro e W4 ⟨h, y, K', rfl, hK4, An, k4⟩
             have hM4 := hMD.worked hK4 k4
             have fE := facts hM4))
      all_goals
        have ht4 := (ht.keeps (Keeps.drew [] wr) (by simp)).keeps k4 (R.up (by omega))
        rw [R.know.n] at ht4
        have hkn := hide (know_calls hM4 R.know An (by have := R.nx; omega) (bx + 1) ways ht4 (by omega))
        rw [← Hways.out] at hkn
        go_wp2_with fail
        refine hkn.out.mono ?_
        rintro e W5 ⟨rfl, m', M', hM5, I5, e1, e2, e3, bl⟩
        go_wp2_with fail
        go_ret
        exact ⟨rfl, m', M', K', R.stepped_know (kr.trans (Keeps.drew [] wr)) k4 rfl An hM5 I5 e1 e2 e3 bl (by omega)⟩

end Go.Proofs.Ytgjomknpjigkhaa
