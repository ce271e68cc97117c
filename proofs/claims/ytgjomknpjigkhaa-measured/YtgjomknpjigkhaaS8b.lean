/- S8b. -/
import Derived.Test.YtgjomknpjigkhaaS8
namespace Go.Proofs.Ytgjomknpjigkhaa
open Go.RowKit Go.Shelf

set_option maxRecDepth 100000 in
set_option maxHeartbeats 4000000 in
theorem step_apply1 {base : Nat} {w : World} {m : MB} {M : ML} {K : KS} (R : Ready base w m M K) (A B C : Int) (a0 : -9223372036854775808 ≤ A) (a1 : A ≤ 9223372036854775807) (b0 : -9223372036854775808 ≤ B) (b1 : B ≤ 9223372036854775807) (c0 : -9223372036854775808 ≤ C) (c1 : C ≤ 9223372036854775807) :
    Calls Try.prog 7 #[.pointer (some ⟨m.mb, 0, none⟩), .agg #[.int .i64 1, .int .i64 A, .int .i64 B, .int .i64 C]] w (StepGives base m M K w) := by
  have hlen := R.len
  have htwo := R.two
  obtain ⟨ways, hways⟩ : ∃ x, x = 2 ^ M.n := ⟨_, rfl⟩
  have w32 : ways ≤ 32 := by rw [hways]; exact Nat.pow_le_pow_right (n := 2) (by decide) R.n5
  have Hways := hide hways
  obtain ⟨L, hL⟩ : ∃ x, x = M.fs.length := ⟨_, rfl⟩
  rw [← hL] at hlen htwo
  obtain ⟨i, ei, hi⟩ := pk_nat A (n := L) (by omega)
  obtain ⟨j, ej, hj⟩ := pk_nat B (n := L) (by omega)
  obtain ⟨l, el, hl⟩ := pk_nat C (n := L) (by omega)
  have HL := hide hL
  have pA := hide (fun w : World => pick_calls (w := w) A L a0 a1 (by omega))
  have pB := hide (fun w : World => pick_calls (w := w) B L b0 b1 (by omega))
  have pC := hide (fun w : World => pick_calls (w := w) C L c0 c1 (by omega))
  rw [ei] at pA
  rw [ej] at pB
  rw [el] at pC
  have hiI : (i : Int) < L := by omega
  have hjI : (j : Int) < L := by omega
  have hlI : (l : Int) < L := by omega
  have zx := size_alloc' w (.cells #[.int .i64 1, .int .i64 A, .int .i64 B, .int .i64 C] 27)
  have kx := Keeps.alloc [] w (.cells #[.int .i64 1, .int .i64 A, .int .i64 B, .int .i64 C] 27)
  have hx := CellsAt.new w #[.int .i64 1, .int .i64 A, .int .i64 B, .int .i64 C] 27
  have hM1 := R.mill.keeps0 kx
  have hmk := fun w : World => run_makeBools w ways (by omega)
  have g1 := hM1.head.cell 1
  have g2 := hM1.head.cell 2
  have g3 := hM1.head.cell 3
  have g4 := hM1.head.cell 4
  simp at g1 g3 g4
  have g2' : (w.alloc (.cells #[.int .i64 1, .int .i64 A, .int .i64 B, .int .i64 C] 27)).cell? ⟨m.mb, 2, none⟩ = some (.int .i64 ways) := by rw [g2, hways]; rfl
  rw [← hL] at g3 g4
  obtain ⟨pi, hpi⟩ : ∃ p, m.tbs[i]? = some p := ⟨m.tbs[i]'(by rw [R.mill.lens, ← hL]; exact hi), List.getElem?_eq_getElem _⟩
  obtain ⟨pj, hpj⟩ : ∃ p, m.tbs[j]? = some p := ⟨m.tbs[j]'(by rw [R.mill.lens, ← hL]; exact hj), List.getElem?_eq_getElem _⟩
  have ti := hM1.truthCell hpi
  have tj := hM1.truthCell hpj
  rw [← hways] at ti tj
  have Hpi := hide hpi
  have Hpj := hide hpj
  have Eij := hide (And.intro ei (And.intro ej el))
  have hmb := R.mill.head.lt
  have hbxm : m.mb < w.heap.size := hmb
  clear hways hL g2 ei ej el hpi hpj hmb
  go_enter Try.func7, Try.ntmps7
  go_wp2_with fail
  generalize w.alloc (.cells #[.int .i64 1, .int .i64 A, .int .i64 B, .int .i64 C] 27) = W at zx kx hx hM1 g1 g2' g3 g4 ti tj ⊢
  obtain ⟨bx, hbx⟩ : ∃ x, x = w.heap.size := ⟨_, rfl⟩
  rw [← hbx] at hx zx hbxm ⊢
  have kind : W.cell? ⟨bx, 0, none⟩ = some (.int .i64 1) := hx.cell 0
  have xA : W.cell? ⟨bx, 1, none⟩ = some (.int .i64 A) := hx.cell 1
  have xB : W.cell? ⟨bx, 2, none⟩ = some (.int .i64 B) := hx.cell 2
  have xC : W.cell? ⟨bx, 3, none⟩ = some (.int .i64 C) := hx.cell 3
  have Hbx := hide hbx
  clear hbx
  go_quiet ((go_at_call 11; exact (pA.out _).mono fun _ _ h => ⟨h.1, _, h.2⟩))
  revert nq
  intro q1
  go_wp2_with fail
  go_quiet ((go_at_call 11; exact (pB.out _).mono fun _ _ h => ⟨h.1, _, h.2⟩))
  revert nq
  intro q2
  go_wp2_with fail
  go_quiet ((go_at_call 11; exact (pC.out _).mono fun _ _ h => ⟨h.1, _, h.2⟩))
  revert nq
  intro q3
  go_wp2_with fail
  have kT : Keeps [] W ((W.drewN (q1 + q2 + q3)).alloc (.cells (madeCells #[.bool false] ways) 4)) := (Keeps.drewN [] W _).trans (Keeps.alloc [] _ _)
  have fT : ∀ F, Fill ((W.drewN (q1 + q2 + q3)).alloc (.cells (madeCells #[.bool false] ways) 4)) (bx + 1) M.n F 0 := fun F => by
    have := made_fill (W.drewN (q1 + q2 + q3)) M.n F
    rw [← Hways.out] at this
    rw [← zx]
    exact this
  have zT : ((W.drewN (q1 + q2 + q3)).alloc (.cells (madeCells #[.bool false] ways) 4)).heap.size = bx + 1 + 1 := by rw [size_alloc']; show W.heap.size + 1 = _; rw [zx]
  generalize (W.drewN (q1 + q2 + q3)).alloc (.cells (madeCells #[.bool false] ways) 4) = WT at kT fT zT ⊢
  have hMT := hM1.keeps0 kT
  have hxT := hx.keeps kT (by simp)
  have kwT := kx.trans kT
  have Hzx := hide zx
  have HzT := hide zT
  clear g1 g2' g3 g4 ti tj kind xA xB xC zx zT hM1 hx kx kT hmk pA pB pC q1 q2 q3
  obtain ⟨fi, ri, hfi, hri, hti⟩ := R.handle (i := i) (by rw [← HL.out]; exact hi)
  obtain ⟨fj, rj, hfj, hrj, htj⟩ := R.handle (i := j) (by rw [← HL.out]; exact hj)
  have c31 := cst_le5 (show K.S.n ≤ 5 by rw [← R.know.n]; exact R.n5)
  have Hti := hide hti
  clear hti
  have Htj := hide htj
  clear htj
  go_loopw [11] (fun x wr => ∃ a : Nat, x = .int .i64 a ∧ a ≤ ways ∧ Fill wr (bx + 1) M.n (fun σ => opB 1 (K.S.den ri σ) (K.S.den rj σ)) a ∧ Keeps [] w wr ∧ bx + 1 + 1 ≤ wr.heap.size ∧ CellsAt wr bx #[.int .i64 1, .int .i64 A, .int .i64 B, .int .i64 C]) (fun x _ => ((ways : Int) - intOf x).toNat)
  case atStart => exact ⟨0, rfl, by omega, fT _, kwT, by rw [HzT.out]; omega, hxT⟩
  case round =>
    obtain ⟨a, rfl, ha, fr, kr, zr, hxr⟩ := hrel
    have hMr := R.mill.keeps0 kr
    have d2 := hMr.head.cell 2
    have d2' : wr.cell? ⟨m.mb, 2, none⟩ = some (.int .i64 ways) := by rw [d2, Hways.out]; rfl
    clear d2
    by_cases hal : a < ways
    · have haI : (a : Int) < ways := by omega
      have hfz := fr.frozen a
      have hcl := fr.cell (by rw [← Hways.out]; exact hal)
      have ci := (hMr.tables i pi _ Hpi.out Hti.out).2.cell (tab_get (by rw [← Hways.out]; exact hal))
      have cj := (hMr.tables j pj _ Hpj.out Htj.out).2.cell (tab_get (by rw [← Hways.out]; exact hal))
      generalize hX : K.S.den ri (asg (a : Int)) = X at ci
      generalize hY : K.S.den rj (asg (a : Int)) = Y at cj
      have HX := hide hX
      have HY := hide hY
      clear hX hY
      have ex : wr.cell? ⟨bx, 0, none⟩ = some (.int .i64 1) := hxr.cell 0
      simp only [List.append_eq, List.cons_append, List.nil_append]
      cases X with
      | false =>
        cases Y with
        | false =>
          go_upto_region 15 with fail
          refine wp_region_quiet_tail 69 (by kernel_rfl) (by kernel_rfl) ?_
          simp only [List.take_succ_cons, List.take_zero, List.drop_succ_cons, List.drop_zero]
          repeat (go_big_quiet_step (fail))
          refine wpQuiet_nil ?_
          go_wp2_with fail
          go_roundw
          · have kS : Keeps [bx + 1] wr (wr.setCell ⟨bx + 1, a, none⟩ (.bool false)).drew := (Keeps.setCell wr ⟨bx + 1, a, none⟩ (.bool false)).trans (Keeps.drew _ _)
            refine ⟨a + 1, by simp, by omega, (fr.next (by show false = opB 1 (K.S.den ri (asg (a : Int))) (K.S.den rj (asg (a : Int))); rw [HX.out, HY.out]; rfl)).keeps (Keeps.drew [] _) (by simp), kr.trans_new kS (fun i hi => ?_), by have := kS.size; omega, hxr.keeps kS (by simp)⟩
            simp only [List.mem_singleton] at hi
            have := Hbx.out
            exact .inr (by omega)
          · simp only [intOf]; omega
        | true =>
          go_upto_region 15 with fail
          refine wp_region_quiet_tail 69 (by kernel_rfl) (by kernel_rfl) ?_
          simp only [List.take_succ_cons, List.take_zero, List.drop_succ_cons, List.drop_zero]
          repeat (go_big_quiet_step (fail))
          refine wpQuiet_nil ?_
          go_wp2_with fail
          go_roundw
          · have kS : Keeps [bx + 1] wr (wr.setCell ⟨bx + 1, a, none⟩ (.bool true)).drew := (Keeps.setCell wr ⟨bx + 1, a, none⟩ (.bool true)).trans (Keeps.drew _ _)
            refine ⟨a + 1, by simp, by omega, (fr.next (by show true = opB 1 (K.S.den ri (asg (a : Int))) (K.S.den rj (asg (a : Int))); rw [HX.out, HY.out]; rfl)).keeps (Keeps.drew [] _) (by simp), kr.trans_new kS (fun i hi => ?_), by have := kS.size; omega, hxr.keeps kS (by simp)⟩
            simp only [List.mem_singleton] at hi
            have := Hbx.out
            exact .inr (by omega)
          · simp only [intOf]; omega
      | true =>
        cases Y with
        | false =>
          go_upto_region 15 with fail
          refine wp_region_quiet_tail 69 (by kernel_rfl) (by kernel_rfl) ?_
          simp only [List.take_succ_cons, List.take_zero, List.drop_succ_cons, List.drop_zero]
          repeat (go_big_quiet_step (fail))
          refine wpQuiet_nil ?_
          go_wp2_with fail
          go_roundw
          · have kS : Keeps [bx + 1] wr (wr.setCell ⟨bx + 1, a, none⟩ (.bool true)).drew := (Keeps.setCell wr ⟨bx + 1, a, none⟩ (.bool true)).trans (Keeps.drew _ _)
            refine ⟨a + 1, by simp, by omega, (fr.next (by show true = opB 1 (K.S.den ri (asg (a : Int))) (K.S.den rj (asg (a : Int))); rw [HX.out, HY.out]; rfl)).keeps (Keeps.drew [] _) (by simp), kr.trans_new kS (fun i hi => ?_), by have := kS.size; omega, hxr.keeps kS (by simp)⟩
            simp only [List.mem_singleton] at hi
            have := Hbx.out
            exact .inr (by omega)
          · simp only [intOf]; omega
        | true =>
          go_upto_region 15 with fail
          refine wp_region_quiet_tail 69 (by kernel_rfl) (by kernel_rfl) ?_
          simp only [List.take_succ_cons, List.take_zero, List.drop_succ_cons, List.drop_zero]
          repeat (go_big_quiet_step (fail))
          refine wpQuiet_nil ?_
          go_wp2_with fail
          go_roundw
          · have kS : Keeps [bx + 1] wr (wr.setCell ⟨bx + 1, a, none⟩ (.bool true)).drew := (Keeps.setCell wr ⟨bx + 1, a, none⟩ (.bool true)).trans (Keeps.drew _ _)
            refine ⟨a + 1, by simp, by omega, (fr.next (by show true = opB 1 (K.S.den ri (asg (a : Int))) (K.S.den rj (asg (a : Int))); rw [HX.out, HY.out]; rfl)).keeps (Keeps.drew [] _) (by simp), kr.trans_new kS (fun i hi => ?_), by have := kS.size; omega, hxr.keeps kS (by simp)⟩
            simp only [List.mem_singleton] at hi
            have := Hbx.out
            exact .inr (by omega)
          · simp only [intOf]; omega
    · have haI : ¬ (a : Int) < ways := by omega
      have ht := fr.done (by rw [← Hways.out]; omega)
      have hsc := hide (fun (w : World) (h : KernelAt w m.b K) => kapply_calls h R.know.inv 1 fi fj ri rj (by decide) (by decide) hri hrj (by have := R.next; omega) (by have := R.nx; omega))
      have hMD := hMr.keeps0 (Keeps.drew [] wr)
      have facts : ∀ {w' : World} {K : KS}, MillAt w' m M K → CellsAt w' bx #[.int .i64 1, .int .i64 A, .int .i64 B, .int .i64 C] → (w'.cell? ⟨m.mb, 0, none⟩ = some (.pointer (some ⟨m.b.k, 0, none⟩)) ∧ w'.cell? ⟨m.mb, 3, none⟩ = some (.slice (some ⟨m.gf, 0, none⟩) L m.cf) ∧ w'.cell? ⟨m.gf, i, none⟩ = some (.int .i64 fi) ∧ w'.cell? ⟨m.gf, j, none⟩ = some (.int .i64 fj) ∧ w'.cell? ⟨bx, 0, none⟩ = some (.int .i64 1)) := fun h1 h2 => ⟨h1.head.cell 0, by rw [HL.out]; exact h1.head.cell 3, h1.fsCell hfi, h1.fsCell hfj, h2.cell 0⟩
      have hxD := hxr.keeps (Keeps.drew [] wr) (by simp)
      have fD := facts hMD hxD
      go_wp2_with fail
      go_region_held3 (fun w' => w'.cell? ⟨m.mb, 0, none⟩ = some (.pointer (some ⟨m.b.k, 0, none⟩)) ∧ w'.cell? ⟨m.mb, 3, none⟩ = some (.slice (some ⟨m.gf, 0, none⟩) L m.cf) ∧ w'.cell? ⟨m.gf, i, none⟩ = some (.int .i64 fi) ∧ w'.cell? ⟨m.gf, j, none⟩ = some (.int .i64 fj) ∧ w'.cell? ⟨bx, 0, none⟩ = some (.int .i64 1)) (first | exact fD | exact fE)
        (first
          | (go_at_call 20
             refine (hsc.out _ hMD.kern).mono ?_
             rintro e W4 ⟨h, y, K', rfl, hK4, An, k4⟩
             have hM4 := hMD.worked hK4 k4
             have fE := facts hM4 (hxD.keeps k4 (R.up (by omega)))))
      all_goals
        have ht4 := (ht.keeps (Keeps.drew [] wr) (by simp)).keeps k4 (R.up (by omega))
        rw [R.know.n] at ht4
        have hkn := hide (know_calls hM4 R.know An (by have := R.nx; omega) (bx + 1) ways ht4 (by omega))
        rw [← Hways.out] at hkn
        go_wp2_with fail
        refine hkn.out.mono ?_
        rintro e W5 ⟨rfl, m', M', hM5, I5, e1, e2, e3, bl⟩
        go_wp2_with fail
        go_ret
        exact ⟨rfl, m', M', K', R.stepped_know (kr.trans (Keeps.drew [] wr)) k4 rfl An hM5 I5 e1 e2 e3 bl (by omega)⟩

end Go.Proofs.Ytgjomknpjigkhaa
