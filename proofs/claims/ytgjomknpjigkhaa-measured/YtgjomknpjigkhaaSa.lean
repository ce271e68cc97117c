/- Sa. -/
import Derived.Test.YtgjomknpjigkhaaMStep
namespace Go.Proofs.Ytgjomknpjigkhaa
open Go.RowKit Go.Shelf

theorem fc_le5 {n : Nat} (h : n ≤ 5) : fc (cst n + 1) n ≤ 992 := by
  match n, h with
  | 0, _ => decide
  | 1, _ => decide
  | 2, _ => decide
  | 3, _ => decide
  | 4, _ => decide
  | 5, _ => decide
  | n + 6, h => omega

set_option maxRecDepth 100000 in
set_option maxHeartbeats 4000000 in
theorem step_exists {base : Nat} {w : World} {m : MB} {M : ML} {K : KS} (R : Ready base w m M K) (A B C : Int) (a0 : -9223372036854775808 ≤ A) (a1 : A ≤ 9223372036854775807) (b0 : -9223372036854775808 ≤ B) (b1 : B ≤ 9223372036854775807) (c0 : -9223372036854775808 ≤ C) (c1 : C ≤ 9223372036854775807) :
    Calls Try.prog 7 #[.pointer (some ⟨m.mb, 0, none⟩), .agg #[.int .i64 6, .int .i64 A, .int .i64 B, .int .i64 C]] w (StepGives base m M K w) := by
  have hlen := R.len
  have htwo := R.two
  obtain ⟨ways, hways⟩ : ∃ x, x = 2 ^ M.n := ⟨_, rfl⟩
  have w32 : ways ≤ 32 := by rw [hways]; exact Nat.pow_le_pow_right (n := 2) (by decide) R.n5
  have Hways := hide hways
  obtain ⟨L, hL⟩ : ∃ x, x = M.fs.length := ⟨_, rfl⟩
  rw [← hL] at hlen htwo
  obtain ⟨i, ei, hi⟩ := pk_nat A (n := L) (by omega)
  obtain ⟨j, ej, hj⟩ := pk_nat B (n := L) (by omega)
  obtain ⟨l, el, hl⟩ := pk_nat C (n := L) (by omega)
  have HL := hide hL
  have pA := hide (fun w : World => pick_calls (w := w) A L a0 a1 (by omega))
  have pB := hide (fun w : World => pick_calls (w := w) B L b0 b1 (by omega))
  have pC := hide (fun w : World => pick_calls (w := w) C L c0 c1 (by omega))
  rw [ei] at pA
  rw [ej] at pB
  rw [el] at pC
  have hiI : (i : Int) < L := by omega
  have hjI : (j : Int) < L := by omega
  have hlI : (l : Int) < L := by omega
  have zx := size_alloc' w (.cells #[.int .i64 6, .int .i64 A, .int .i64 B, .int .i64 C] 27)
  have kx := Keeps.alloc [] w (.cells #[.int .i64 6, .int .i64 A, .int .i64 B, .int .i64 C] 27)
  have hx := CellsAt.new w #[.int .i64 6, .int .i64 A, .int .i64 B, .int .i64 C] 27
  have hM1 := R.mill.keeps0 kx
  have hmk := fun w : World => run_makeBools w ways (by omega)
  have g1 := hM1.head.cell 1
  have g2 := hM1.head.cell 2
  have g3 := hM1.head.cell 3
  have g4 := hM1.head.cell 4
  simp at g1 g3 g4
  have g2' : (w.alloc (.cells #[.int .i64 6, .int .i64 A, .int .i64 B, .int .i64 C] 27)).cell? ⟨m.mb, 2, none⟩ = some (.int .i64 ways) := by rw [g2, hways]; rfl
  rw [← hL] at g3 g4
  obtain ⟨pi, hpi⟩ : ∃ p, m.tbs[i]? = some p := ⟨m.tbs[i]'(by rw [R.mill.lens, ← hL]; exact hi), List.getElem?_eq_getElem _⟩
  obtain ⟨pj, hpj⟩ : ∃ p, m.tbs[j]? = some p := ⟨m.tbs[j]'(by rw [R.mill.lens, ← hL]; exact hj), List.getElem?_eq_getElem _⟩
  have ti := hM1.truthCell hpi
  have tj := hM1.truthCell hpj
  rw [← hways] at ti tj
  have Hpi := hide hpi
  have Hpj := hide hpj
  have Eij := hide (And.intro ei (And.intro ej el))
  have hmb := R.mill.head.lt
  have hbxm : m.mb < w.heap.size := hmb
  clear hways hL g2 ei ej el hpi hpj hmb
  go_enter Try.func7, Try.ntmps7
  go_wp2_with fail
  generalize w.alloc (.cells #[.int .i64 6, .int .i64 A, .int .i64 B, .int .i64 C] 27) = W at zx kx hx hM1 g1 g2' g3 g4 ti tj ⊢
  obtain ⟨bx, hbx⟩ : ∃ x, x = w.heap.size := ⟨_, rfl⟩
  rw [← hbx] at hx zx hbxm ⊢
  have kind : W.cell? ⟨bx, 0, none⟩ = some (.int .i64 6) := hx.cell 0
  have xA : W.cell? ⟨bx, 1, none⟩ = some (.int .i64 A) := hx.cell 1
  have xB : W.cell? ⟨bx, 2, none⟩ = some (.int .i64 B) := hx.cell 2
  have xC : W.cell? ⟨bx, 3, none⟩ = some (.int .i64 C) := hx.cell 3
  have Hbx := hide hbx
  clear hbx
  go_quiet ((go_at_call 11; exact (pA.out _).mono fun _ _ h => ⟨h.1, _, h.2⟩))
  revert nq
  intro q1
  go_wp2_with fail
  go_quiet ((go_at_call 11; exact (pB.out _).mono fun _ _ h => ⟨h.1, _, h.2⟩))
  revert nq
  intro q2
  go_wp2_with fail
  go_quiet ((go_at_call 11; exact (pC.out _).mono fun _ _ h => ⟨h.1, _, h.2⟩))
  revert nq
  intro q3
  go_wp2_with fail
  have kT : Keeps [] W ((W.drewN (q1 + q2 + q3)).alloc (.cells (madeCells #[.bool false] ways) 4)) := (Keeps.drewN [] W _).trans (Keeps.alloc [] _ _)
  have fT : ∀ F, Fill ((W.drewN (q1 + q2 + q3)).alloc (.cells (madeCells #[.bool false] ways) 4)) (bx + 1) M.n F 0 := fun F => by
    have := made_fill (W.drewN (q1 + q2 + q3)) M.n F
    rw [← Hways.out] at this
    rw [← zx]
    exact this
  have zT : ((W.drewN (q1 + q2 + q3)).alloc (.cells (madeCells #[.bool false] ways) 4)).heap.size = bx + 1 + 1 := by rw [size_alloc']; show W.heap.size + 1 = _; rw [zx]
  generalize (W.drewN (q1 + q2 + q3)).alloc (.cells (madeCells #[.bool false] ways) 4) = WT at kT fT zT ⊢
  have hMT := hM1.keeps0 kT
  have hxT := hx.keeps kT (by simp)
  have kwT := kx.trans kT
  have Hzx := hide zx
  have HzT := hide zT
  clear g1 g2' g3 g4 ti tj kind xA xB xC zx zT hM1 hx kx kT hmk pA pB pC q1 q2 q3
  obtain ⟨fi, ri, hfi, hri, hti⟩ := R.handle (i := i) (by rw [← HL.out]; exact hi)
  have hwp : 0 < ways := by rw [Hways.out]; exact Nat.two_pow_pos _
  obtain ⟨X, eX, hX⟩ := pk_nat B (n := ways) hwp
  have pX := hide (fun w : World => pick_calls (w := w) B ways b0 b1 (by omega))
  rw [eX] at pX
  have hfc := fc_le5 (show K.S.n ≤ 5 by rw [← R.know.n]; exact R.n5)
  have Hti := hide hti
  obtain ⟨F, hF⟩ : ∃ F : (Int → Bool) → Bool, ∀ σ, F σ = true ↔ ∃ τ : Int → Bool, (∀ v : Int, 0 ≤ v → v < K.S.n → bitB X v = false → τ v = σ v) ∧ K.S.den ri τ = true := by
    classical
    exact ⟨fun σ => decide (∃ τ : Int → Bool, (∀ v : Int, 0 ≤ v → v < K.S.n → bitB X v = false → τ v = σ v) ∧ K.S.den ri τ = true), fun σ => by simp⟩
  have HF := hide hF
  have u2 : WT.cell? ⟨m.mb, 2, none⟩ = some (.int .i64 ways) := by rw [hMT.head.cell 2, Hways.out]; rfl
  have u3 : WT.cell? ⟨bx, 2, none⟩ = some (.int .i64 B) := hxT.cell 2
  clear eX hti hF
  go_quiet ((go_at_call 11; exact (pX.out _).mono fun _ _ h => ⟨h.1, _, h.2⟩))
  go_wp2_with fail
  have fD := (fT F).keeps (Keeps.drewN [] WT nq) (by simp)
  have kD := kwT.trans (Keeps.drewN [] WT nq)
  have zD : (WT.drewN nq).heap.size = bx + 1 + 1 := HzT.out
  have HzD := hide zD
  clear zD u2 u3 fT HzT hMT hxT
  generalize WT.drewN nq = WD at fD kD HzD ⊢
  go_loopw [21] (fun x wr => ∃ a : Nat, x = .int .i64 a ∧ a ≤ ways ∧ Fill wr (bx + 1) M.n F a ∧ Keeps [] w wr ∧ bx + 1 + 1 ≤ wr.heap.size) (fun x _ => ((ways : Int) - intOf x).toNat)
  case atStart => exact ⟨0, rfl, by omega, fD, kD, by rw [HzD.out]; omega⟩
  case round =>
    obtain ⟨a, rfl, ha, fr, kr, zr⟩ := hrel
    have hMr := R.mill.keeps0 kr
    have d2 : wr.cell? ⟨m.mb, 2, none⟩ = some (.int .i64 ways) := by rw [hMr.head.cell 2, Hways.out]; rfl
    by_cases hal : a < ways
    · have haI : (a : Int) < ways := by omega
      have fA := fr.at (by rw [← Hways.out]; exact hal)
      go_wp2_with fail
      go_loopw [22] (fun x wr => ∃ b : Nat, x = .int .i64 b ∧ b ≤ ways ∧ FillAt wr (bx + 1) M.n F a (exUp K.S ri X a b) ∧ Keeps [] w wr ∧ bx + 1 + 1 ≤ wr.heap.size) (fun x _ => ((ways : Int) - intOf x).toNat)
      case atStart => exact ⟨0, rfl, by omega, fA, kr, zr⟩
      case round =>
        clear d2 hMr fr fA kr zr
        obtain ⟨b, rfl, hb, fb, kb, zb⟩ := hrel
        have hMb := R.mill.keeps0 kb
        have d2 : wr.cell? ⟨m.mb, 2, none⟩ = some (.int .i64 ways) := by rw [hMb.head.cell 2, Hways.out]; rfl
        by_cases hbl : b < ways
        · have hbI : (b : Int) < ways := by omega
          have ci := (hMb.tables i pi _ Hpi.out Hti.out).2.cell (tab_get (by rw [← Hways.out]; exact hbl))
          have hfz := fb.frozen a
          have hcl := fb.cell
          have hsu := exUp_succ K.S ri X a b
          have eA := bits_andNot a X (by omega)
          have eB := bits_andNot b X (by omega)
          generalize hT : exUp K.S ri X a b = T at hcl hsu fb
          generalize hY : K.S.den ri (asg (b : Int)) = Y at ci hsu
          obtain ⟨p1, hp1⟩ : ∃ p : Int, p = (clr a X : Int) := ⟨_, rfl⟩
          obtain ⟨p2, hp2⟩ : ∃ p : Int, p = (clr b X : Int) := ⟨_, rfl⟩
          rw [← hp1] at eA
          rw [← hp2] at eB
          have Hsu := hide hsu
          have Hp := hide (And.intro hp1 hp2)
          clear hsu hT hY hp1 hp2
          have fin : ∀ x : Bool, x = (T || (Y && decide (clr a X = clr b X))) → ∃ b' : Nat, (.int .i64 ((b : Int) + 1) : Value) = .int .i64 b' ∧ b' ≤ ways ∧ FillAt (wr.setCell ⟨bx + 1, a, none⟩ (.bool x)) (bx + 1) M.n F a (exUp K.S ri X a b') ∧ Keeps [] w (wr.setCell ⟨bx + 1, a, none⟩ (.bool x)) ∧ bx + 1 + 1 ≤ (wr.setCell ⟨bx + 1, a, none⟩ (.bool x)).heap.size := by
            intro x hx
            have kS := Keeps.setCell wr ⟨bx + 1, a, none⟩ (.bool x)
            refine ⟨b + 1, by simp, by omega, ?_, kb.trans_new kS (fun i hi => ?_), by have := kS.size; omega⟩
            · rw [Hsu.out, ← hx]
              exact fb.put (by rw [← Hways.out]; exact hal) x
            · simp only [List.mem_singleton] at hi
              have := Hbx.out
              exact .inr (by omega)
          have Fin := hide fin
          clear fin
          cases T with
          | true =>
            go_wp2_with fail
            go_roundw
            · exact Fin.out true (by simp)
            · simp only [intOf]; omega
          | false =>
            cases Y with
            | false =>
              go_wp2_with fail
              go_roundw
              · exact Fin.out false (by simp)
              · simp only [intOf]; omega
            | true =>
              by_cases hE : p1 = p2
              · have hc : clr a X = clr b X := by have := Hp.out; omega
                subst hE
                have Hc := hide hc
                clear hc
                go_wp2_with fail
                go_roundw
                · exact Fin.out true (by simp [Hc.out])
                · simp only [intOf]; omega
              · have hc : ¬ clr a X = clr b X := by have := Hp.out; omega
                have hq : (p1 == p2) = false := by simpa using hE
                have Hc := hide hc
                clear hc
                go_wp2_with fail
                go_roundw
                · exact Fin.out false (by simp [Hc.out])
                · simp only [intOf]; omega
        · have hbI : ¬ (b : Int) < ways := by omega
          have eb : b = ways := by omega
          have fN := fb.next (by rw [eb, Hways.out, R.know.n]; exact exUp_all R.know.inv.wf (R.know.inv.ok _ _ hri) R.know.inv.n8 HF.out (by rw [← R.know.n, ← Hways.out]; exact hal))
          clear eb
          go_wp2_with fail
          go_roundw
          · exact ⟨a + 1, by simp, by omega, fN, kb, zb⟩
          · simp only [intOf]; omega
    · have haI : ¬ (a : Int) < ways := by omega
      have ht := fr.done (by rw [← Hways.out]; omega)
      have hsc := hide (fun (w : World) (h : KernelAt w m.b K) => kexists_calls h R.know.inv fi ri X hri (by omega) (by rw [← R.know.n, ← Hways.out]; omega) (by have := R.next; omega) (by omega) (by have := R.nx; omega))
      have hMD := hMr.keeps0 (Keeps.drew [] wr)
      have facts : ∀ {w' : World} {K : KS}, MillAt w' m M K → (w'.cell? ⟨m.mb, 0, none⟩ = some (.pointer (some ⟨m.b.k, 0, none⟩)) ∧ w'.cell? ⟨m.mb, 3, none⟩ = some (.slice (some ⟨m.gf, 0, none⟩) L m.cf) ∧ w'.cell? ⟨m.gf, i, none⟩ = some (.int .i64 fi)) := fun h1 => ⟨h1.head.cell 0, by rw [HL.out]; exact h1.head.cell 3, h1.fsCell hfi⟩
      have fD := facts hMD
      go_wp2_with fail
      go_region_held3 (fun w' => w'.cell? ⟨m.mb, 0, none⟩ = some (.pointer (some ⟨m.b.k, 0, none⟩)) ∧ w'.cell? ⟨m.mb, 3, none⟩ = some (.slice (some ⟨m.gf, 0, none⟩) L m.cf) ∧ w'.cell? ⟨m.gf, i, none⟩ = some (.int .i64 fi)) (first | exact fD | exact fE)
        (first
          | (go_at_call 24
             refine (hsc.out _ hMD.kern).mono ?_
             rintro e W4 ⟨F', hF', h, y, K', rfl, hK4, An, k4⟩
             have hM4 := hMD.worked hK4 k4
             have fE := facts hM4))
      all_goals
        have hFF : F' = F := by
          funext σ
          rw [Bool.eq_iff_iff, hF' σ, HF.out σ]
        subst hFF
        have ht4 := (ht.keeps (Keeps.drew [] wr) (by simp)).keeps k4 (R.up (by omega))
        rw [R.know.n] at ht4
        have hkn := hide (know_calls hM4 R.know An (by have := R.nx; omega) (bx + 1) ways ht4 (by omega))
        rw [← Hways.out] at hkn
        clear hF'
        go_wp2_with fail
        refine hkn.out.mono ?_
        rintro e W5 ⟨rfl, m', M', hM5, I5, e1, e2, e3, bl⟩
        go_wp2_with fail
        go_ret
        exact ⟨rfl, m', M', K', R.stepped_know (kr.trans (Keeps.drew [] wr)) k4 rfl An hM5 I5 e1 e2 e3 bl (by omega)⟩

end Go.Proofs.Ytgjomknpjigkhaa
