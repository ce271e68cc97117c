/- Sd. -/
import Derived.Test.YtgjomknpjigkhaaSa
import Derived.Test.YtgjomknpjigkhaaSc
import Derived.Test.YtgjomknpjigkhaaMMill
namespace Go.Proofs.Ytgjomknpjigkhaa
open Go.RowKit Go.Shelf

set_option maxRecDepth 100000 in
set_option maxHeartbeats 4000000 in
theorem step_replace {base : Nat} {w : World} {m : MB} {M : ML} {K : KS} (R : Ready base w m M K) (A B C : Int) (a0 : -9223372036854775808 ≤ A) (a1 : A ≤ 9223372036854775807) (b0 : -9223372036854775808 ≤ B) (b1 : B ≤ 9223372036854775807) (c0 : -9223372036854775808 ≤ C) (c1 : C ≤ 9223372036854775807) :
    Calls Try.prog 7 #[.pointer (some ⟨m.mb, 0, none⟩), .agg #[.int .i64 7, .int .i64 A, .int .i64 B, .int .i64 C]] w (StepGives base m M K w) := by
  have hlen := R.len
  have htwo := R.two
  obtain ⟨ways, hways⟩ : ∃ x, x = 2 ^ M.n := ⟨_, rfl⟩
  have w32 : ways ≤ 32 := by rw [hways]; exact Nat.pow_le_pow_right (n := 2) (by decide) R.n5
  have Hways := hide hways
  obtain ⟨L, hL⟩ : ∃ x, x = M.fs.length := ⟨_, rfl⟩
  rw [← hL] at hlen htwo
  obtain ⟨i, ei, hi⟩ := pk_nat A (n := L) (by omega)
  obtain ⟨j, ej, hj⟩ := pk_nat B (n := L) (by omega)
  obtain ⟨l, el, hl⟩ := pk_nat C (n := L) (by omega)
  have HL := hide hL
  have pA := hide (fun w : World => pick_calls (w := w) A L a0 a1 (by omega))
  have pB := hide (fun w : World => pick_calls (w := w) B L b0 b1 (by omega))
  have pC := hide (fun w : World => pick_calls (w := w) C L c0 c1 (by omega))
  rw [ei] at pA
  rw [ej] at pB
  rw [el] at pC
  have hiI : (i : Int) < L := by omega
  have hjI : (j : Int) < L := by omega
  have hlI : (l : Int) < L := by omega
  have zx := size_alloc' w (.cells #[.int .i64 7, .int .i64 A, .int .i64 B, .int .i64 C] 27)
  have kx := Keeps.alloc [] w (.cells #[.int .i64 7, .int .i64 A, .int .i64 B, .int .i64 C] 27)
  have hx := CellsAt.new w #[.int .i64 7, .int .i64 A, .int .i64 B, .int .i64 C] 27
  have hM1 := R.mill.keeps0 kx
  have hmk := fun w : World => run_makeBools w ways (by omega)
  have g1 := hM1.head.cell 1
  have g2 := hM1.head.cell 2
  have g3 := hM1.head.cell 3
  have g4 := hM1.head.cell 4
  simp at g1 g3 g4
  have g2' : (w.alloc (.cells #[.int .i64 7, .int .i64 A, .int .i64 B, .int .i64 C] 27)).cell? ⟨m.mb, 2, none⟩ = some (.int .i64 ways) := by rw [g2, hways]; rfl
  rw [← hL] at g3 g4
  obtain ⟨pi, hpi⟩ : ∃ p, m.tbs[i]? = some p := ⟨m.tbs[i]'(by rw [R.mill.lens, ← hL]; exact hi), List.getElem?_eq_getElem _⟩
  obtain ⟨pj, hpj⟩ : ∃ p, m.tbs[j]? = some p := ⟨m.tbs[j]'(by rw [R.mill.lens, ← hL]; exact hj), List.getElem?_eq_getElem _⟩
  have ti := hM1.truthCell hpi
  have tj := hM1.truthCell hpj
  rw [← hways] at ti tj
  have Hpi := hide hpi
  have Hpj := hide hpj
  have Eij := hide (And.intro ei (And.intro ej el))
  have hmb := R.mill.head.lt
  have hbxm : m.mb < w.heap.size := hmb
  clear hways hL g2 ei ej el hpi hpj hmb
  go_enter Try.func7, Try.ntmps7
  go_wp2_with fail
  generalize w.alloc (.cells #[.int .i64 7, .int .i64 A, .int .i64 B, .int .i64 C] 27) = W at zx kx hx hM1 g1 g2' g3 g4 ti tj ⊢
  obtain ⟨bx, hbx⟩ : ∃ x, x = w.heap.size := ⟨_, rfl⟩
  rw [← hbx] at hx zx hbxm ⊢
  have kind : W.cell? ⟨bx, 0, none⟩ = some (.int .i64 7) := hx.cell 0
  have xA : W.cell? ⟨bx, 1, none⟩ = some (.int .i64 A) := hx.cell 1
  have xB : W.cell? ⟨bx, 2, none⟩ = some (.int .i64 B) := hx.cell 2
  have xC : W.cell? ⟨bx, 3, none⟩ = some (.int .i64 C) := hx.cell 3
  have Hbx := hide hbx
  clear hbx
  go_quiet ((go_at_call 11; exact (pA.out _).mono fun _ _ h => ⟨h.1, _, h.2⟩))
  revert nq
  intro q1
  go_wp2_with fail
  go_quiet ((go_at_call 11; exact (pB.out _).mono fun _ _ h => ⟨h.1, _, h.2⟩))
  revert nq
  intro q2
  go_wp2_with fail
  go_quiet ((go_at_call 11; exact (pC.out _).mono fun _ _ h => ⟨h.1, _, h.2⟩))
  revert nq
  intro q3
  go_wp2_with fail
  have kT : Keeps [] W ((W.drewN (q1 + q2 + q3)).alloc (.cells (madeCells #[.bool false] ways) 4)) := (Keeps.drewN [] W _).trans (Keeps.alloc [] _ _)
  have fT : ∀ F, Fill ((W.drewN (q1 + q2 + q3)).alloc (.cells (madeCells #[.bool false] ways) 4)) (bx + 1) M.n F 0 := fun F => by
    have := made_fill (W.drewN (q1 + q2 + q3)) M.n F
    rw [← Hways.out] at this
    rw [← zx]
    exact this
  have zT : ((W.drewN (q1 + q2 + q3)).alloc (.cells (madeCells #[.bool false] ways) 4)).heap.size = bx + 1 + 1 := by rw [size_alloc']; show W.heap.size + 1 = _; rw [zx]
  generalize (W.drewN (q1 + q2 + q3)).alloc (.cells (madeCells #[.bool false] ways) 4) = WT at kT fT zT ⊢
  have hMT := hM1.keeps0 kT
  have hxT := hx.keeps kT (by simp)
  have kwT := kx.trans kT
  have Hzx := hide zx
  have HzT := hide zT
  clear g1 g2' g3 g4 ti tj kind xA xB xC zx zT hM1 hx kx kT hmk pA pB pC q1 q2 q3
  obtain ⟨fi, ri, hfi, hri, hti⟩ := R.handle (i := i) (by rw [← HL.out]; exact hi)
  obtain ⟨raw, eraw, hraw⟩ := pk_nat B (n := 1000) (by decide)
  have pR := hide (fun w : World => pick_calls (w := w) B 1000 b0 b1 (by decide))
  have eraw' : pk B 1000 = raw := eraw
  rw [eraw'] at pR
  have hor := hide (order_calls' hMT R.n5 raw hraw)
  have hfc := fc_le5 (show K.S.n ≤ 5 by rw [← R.know.n]; exact R.n5)
  have Hti := hide hti
  have u3 : WT.cell? ⟨bx, 2, none⟩ = some (.int .i64 B) := hxT.cell 2
  have n1 := R.n1
  have n5 := R.n5
  clear eraw eraw' hti
  go_wp2_with fail
  refine (pR.out WT).mono ?_
  rintro e w1 ⟨rfl, rfl⟩
  go_wp2_with fail
  refine hor.out.mono ?_
  rintro e WO ⟨vo, to, rfl, he, ownO, kO⟩
  obtain ⟨g, c, rfl⟩ := own_form ownO (by omega)
  have zW : w1.heap.size = bx + 1 + 1 := HzT.out
  have fO := (fT (fun σ => K.S.den ri (fun v => σ ((to[v.toNat]?).getD 0)))).keeps kO (by simp)
  have kwO := kwT.trans kO
  rw [zW] at ownO
  have hgO := (own_base ownO g rfl).1
  have zO : bx + 1 + 1 ≤ WO.heap.size := by have := kO.size; omega
  have HO := hide ownO
  have HzO := hide zO
  clear zW u3 fT HzT hMT hxT ownO kO zO hor pR
  go_wp2_with fail
  go_loopw [26] (fun x wr => ∃ a : Nat, x = .int .i64 a ∧ a ≤ ways ∧ Fill wr (bx + 1) M.n (fun σ => K.S.den ri (fun v => σ ((to[v.toNat]?).getD 0))) a ∧ Keeps [] w wr ∧ bx + 1 + 1 ≤ wr.heap.size ∧ wr.ownsRow (bx + 1 + 1) 3 1 (.slice (some ⟨g, 0, none⟩) M.n c) M.n (ints to)) (fun x _ => ((ways : Int) - intOf x).toNat)
  case atStart => exact ⟨0, rfl, by omega, fO, kwO, HzO.out, HO.out⟩
  case round =>
    obtain ⟨a, rfl, ha, fr, kr, zr, owr⟩ := hrel
    have hMr := R.mill.keeps0 kr
    have d2 : wr.cell? ⟨m.mb, 2, none⟩ = some (.int .i64 ways) := by rw [hMr.head.cell 2, Hways.out]; rfl
    by_cases hal : a < ways
    · have haI : (a : Int) < ways := by omega
      go_wp2_with fail
      go_loopw [27, 28] (fun x y wr => ∃ v : Nat, y = .int .i64 v ∧ x = .int .i64 (code (fun u => asg a ((to[u.toNat]?).getD 0)) v) ∧ v ≤ M.n ∧ Fill wr (bx + 1) M.n (fun σ => K.S.den ri (fun v => σ ((to[v.toNat]?).getD 0))) a ∧ Keeps [] w wr ∧ bx + 1 + 1 ≤ wr.heap.size ∧ wr.ownsRow (bx + 1 + 1) 3 1 (.slice (some ⟨g, 0, none⟩) M.n c) M.n (ints to)) (fun _ y _ => ((M.n : Int) - intOf y).toNat)
      case atStart => exact ⟨0, rfl, rfl, by omega, fr, kr, zr, owr⟩
      case round =>
        clear d2 hMr fr kr zr owr
        obtain ⟨v, rfl, rfl, hv, fb, kb, zb, owb⟩ := hrel
        have hMb := R.mill.keeps0 kb
        have d1 : wr.cell? ⟨m.mb, 1, none⟩ = some (.int .i64 M.n) := hMb.head.cell 1
        have hcl := code_lt (fun u => asg a ((to[u.toNat]?).getD 0)) v
        have hpv : 2 ^ v ≤ 32 := Nat.pow_le_pow_right (n := 2) (by decide) (by omega : v ≤ 5)
        by_cases hvl : v < M.n
        · have hvI : (v : Int) < M.n := by omega
          obtain ⟨u, hu⟩ : ∃ u, to[v]? = some u := ⟨to[v]'(by rw [he.len]; exact hvl), List.getElem?_eq_getElem _⟩
          have hur := he.range _ (List.mem_of_getElem? hu)
          have hcu := ownsRow_cell owb hu
          have hsu := code_succ (fun u => asg a ((to[u.toNat]?).getD 0)) v
          have hσ : asg (a : Int) ((to[(v : Int).toNat]?).getD 0) = asg a u := by rw [Int.toNat_natCast, hu]; rfl
          rw [hσ] at hsu
          have hbt := hide (bit_calls (w := wr) a u (by omega) (by omega) hur.1 (by omega))
          obtain ⟨pw, epw, hpb, hwr⟩ := pw_facts hvl n5
          generalize hcd : code (fun u => asg a ((to[u.toNat]?).getD 0)) v = cd at hcl hsu
          have Hcd := hide hcd
          rw [← epw] at hcl hsu
          have Hsu := hide hsu
          have v63 : (v : Int) < 63 := by clear hwr; omega
          clear hcd epw hpv hu hσ hsu
          have fin : ∀ y : Nat, y = cd + (if asg a u then pw else 0) → ∃ v' : Nat, (.int .i64 ((v : Int) + 1) : Value) = .int .i64 v' ∧ (.int .i64 (y : Int) : Value) = .int .i64 (code (fun u => asg a ((to[u.toNat]?).getD 0)) v') ∧ v' ≤ M.n ∧ Fill wr (bx + 1) M.n (fun σ => K.S.den ri (fun v => σ ((to[v.toNat]?).getD 0))) a ∧ Keeps [] w wr ∧ bx + 1 + 1 ≤ wr.heap.size ∧ wr.ownsRow (bx + 1 + 1) 3 1 (.slice (some ⟨g, 0, none⟩) M.n c) M.n (ints to) := by
            intro y hy
            exact ⟨v + 1, by simp, by rw [Hsu.out, hy], by clear hwr; omega, fb, kb, zb, owb⟩
          have Fin := hide fin
          clear fin
          go_wp2_with fail
          refine hbt.out.mono ?_
          rintro e w3 ⟨rfl, rfl⟩
          cases hbit : bitB a u with
          | true =>
            have Hbit := hide hbit
            clear hbit
            go_wp2_with fail
            go_roundw
            · have := Fin.out (cd + pw) (by rw [show asg (a : Int) u = true from Hbit.out]; rfl)
              push_cast at this
              have hw3 : wrap64 ((cd : Int) + pw) = (cd : Int) + pw := by clear hwr; unfold wrap64; omega
              rw [hw3]
              exact this
            · clear hwr; simp only [intOf]; omega
          | false =>
            have Hbit := hide hbit
            clear hbit
            go_wp2_with fail
            go_roundw
            · exact Fin.out cd (by rw [show asg (a : Int) u = false from Hbit.out]; rfl)
            · clear hwr; simp only [intOf]; omega
        · have hvI : ¬ (v : Int) < M.n := by omega
          have ev : v = M.n := by omega
          subst ev
          rw [← Hways.out] at hcl
          have hden : K.S.den ri (asg (code (fun u => asg a ((to[u.toNat]?).getD 0)) M.n)) = K.S.den ri (fun v => asg a ((to[v.toNat]?).getD 0)) := by
            have := den_asg R.know.inv.wf (R.know.inv.ok _ _ hri) (fun u => asg a ((to[u.toNat]?).getD 0))
            rw [← R.know.n] at this
            exact this
          generalize code (fun u => asg a ((to[u.toNat]?).getD 0)) M.n = cd at hcl hden ⊢
          have hcI : (cd : Int) < ways := by omega
          have ci := (hMb.tables i pi _ Hpi.out Hti.out).2.cell (tab_get (a := cd) (by rw [← Hways.out]; exact hcl))
          have hfz := fb.frozen a
          have hcla := fb.cell (by rw [← Hways.out]; exact hal)
          rw [hden] at ci
          generalize hX : K.S.den ri (fun v => asg a ((to[v.toNat]?).getD 0)) = X at ci
          have HX := hide hX
          clear hX hden
          go_wp2_with fail
          go_roundw
          · have kS := Keeps.setCell wr ⟨bx + 1, a, none⟩ (.bool X)
            refine ⟨a + 1, by simp, by omega, fb.next (by show X = K.S.den ri (fun v => asg a ((to[v.toNat]?).getD 0)); rw [HX.out]), kb.trans_new kS (fun i hi => ?_), by have := kS.size; omega, ownsRow_kept owb kS (fun q hq x => ?_)⟩
            · simp only [List.mem_singleton] at hi
              have := Hbx.out
              exact .inr (by omega)
            · have := (own_base owb q hq).1
              simp only [List.mem_singleton] at x
              omega
          · simp only [intOf]; omega
    · have haI : ¬ (a : Int) < ways := by omega
      have ht := fr.done (by rw [← Hways.out]; omega)
      have hel : to.length = M.n := he.len
      have hrow : RowIs wr.drew g to := by
        obtain ⟨cs, tg⟩ := own_tag owr g rfl
        refine ⟨cs, ⟨_, tg⟩, fun k x hx => ?_⟩
        have := ownsRow_cell owr hx
        rw [CellsAt.cell ⟨_, tg⟩] at this
        exact this
      have hsc := hide (fun (w : World) (h : KernelAt w m.b K) (hr : RowIs w g to) => kreplace_calls h R.know.inv fi ri hri g c to hr (R.up (by omega)) (by rw [← R.know.n]; exact he) (by have := R.next; omega) (by omega) (by have := R.nx; omega))
      rw [hel] at hsc
      have hMD := hMr.keeps0 (Keeps.drew [] wr)
      have facts : ∀ {w' : World} {K : KS}, MillAt w' m M K → (w'.cell? ⟨m.mb, 0, none⟩ = some (.pointer (some ⟨m.b.k, 0, none⟩)) ∧ w'.cell? ⟨m.mb, 3, none⟩ = some (.slice (some ⟨m.gf, 0, none⟩) L m.cf) ∧ w'.cell? ⟨m.gf, i, none⟩ = some (.int .i64 fi)) := fun h1 => ⟨h1.head.cell 0, by rw [HL.out]; exact h1.head.cell 3, h1.fsCell hfi⟩
      have fD := facts hMD
      clear hel
      go_wp2_with fail
      go_region_held3 (fun w' => w'.cell? ⟨m.mb, 0, none⟩ = some (.pointer (some ⟨m.b.k, 0, none⟩)) ∧ w'.cell? ⟨m.mb, 3, none⟩ = some (.slice (some ⟨m.gf, 0, none⟩) L m.cf) ∧ w'.cell? ⟨m.gf, i, none⟩ = some (.int .i64 fi)) (first | exact fD | exact fE)
        (first
          | (go_at_call 26
             refine (hsc.out _ hMD.kern hrow).mono ?_
             rintro e W4 ⟨h, y, K', rfl, hK4, An, k4⟩
             have hM4 := hMD.worked hK4 k4
             have fE := facts hM4))
      all_goals
        have ht4 := (ht.keeps (Keeps.drew [] wr) (by simp)).keeps k4 (R.up (by omega))
        rw [R.know.n] at ht4
        have hkn := hide (know_calls hM4 R.know An (by have := R.nx; omega) (bx + 1) ways ht4 (by omega))
        rw [← Hways.out] at hkn
        go_wp2_with fail
        refine hkn.out.mono ?_
        rintro e W5 ⟨rfl, m', M', hM5, I5, e1, e2, e3, bl⟩
        go_wp2_with fail
        go_ret
        exact ⟨rfl, m', M', K', R.stepped_know (kr.trans (Keeps.drew [] wr)) k4 rfl An hM5 I5 e1 e2 e3 bl (by omega)⟩

end Go.Proofs.Ytgjomknpjigkhaa
