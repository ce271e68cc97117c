/- 'Measured'. -/
import Derived.Test.YtgjomknpjigkhaaSj
import Derived.Test.YtgjomknpjigkhaaP1
namespace Go.Proofs.Ytgjomknpjigkhaa
open Go.RowKit Go.Shelf

theorem Script.view {w : World} {v : Value} {n : Nat} (h : Script w v n) : ∃ (ao : Option Addr) (cap : Nat), v = .slice ao n cap ∧ ∀ i, i < n → ∃ a, ao = some a ∧ ∃ k x y z : Int, Fits x ∧ Fits y ∧ Fits z ∧ w.cell? (a.add (i * 4)) = some (.int .i64 k) ∧ w.cell? ((a.add (i * 4)).add 1) = some (.int .i64 x) ∧ w.cell? ((a.add (i * 4)).add 2) = some (.int .i64 y) ∧ w.cell? ((a.add (i * 4)).add 3) = some (.int .i64 z) := by
  rcases h.row with ⟨rfl, rfl⟩ | ⟨a, cap, rfl, hc⟩
  · exact ⟨none, 0, rfl, fun i hi => by omega⟩
  · exact ⟨some a, cap, rfl, fun i hi => ⟨a, rfl, hc i hi⟩⟩

set_option maxRecDepth 100000 in
set_option maxHeartbeats 4000000 in
theorem measured_calls {w : World} (raw : Int) (hraw : Fits raw) (v : Value) (n : Nat) (hs : Script w v n) :
    Calls Try.prog 5 #[.int .i64 raw, v] w fun e w' => e = .returned (.bool true) ∧ Below w.heap.size w w' := by
  have hop := hide (opened_calls (w := w) raw hraw.1 hraw.2)
  have hpn : ∀ (w : World) (a : Addr), (binOp .eql 23 (.pointer (some a)) (.pointer none)).run Try.prog w = .ok (.bool false) w := fun w a => by kernel_rfl
  have hfew := hs.few
  obtain ⟨ao, cap, rfl, hcells⟩ := hs.view
  have Hcells := hide hcells
  clear hcells
  go_enter Try.func5, Try.ntmps5
  go_wp2_with fail
  refine hop.out.mono ?_
  rintro e W0 ⟨m, M, rfl, hM, I, n1, n5, low, own, k0⟩
  have r0 := Run.begin hM I n5 low own
  have b0 := k0.below (Nat.le_refl _) (by simp)
  obtain ⟨mb, hmb⟩ : ∃ x, x = m.mb := ⟨_, rfl⟩
  have Hmb := hide hmb
  rw [← hmb]
  clear hmb
  go_wp2_with fail
  go_loopw [6] (fun x wr => ∃ (i : Nat) (m' : MB) (M' : ML) (K' : KS), x = .int .i64 i ∧ i ≤ n ∧ m'.mb = mb ∧ Run w.heap.size wr i m' M' K' ∧ Below w.heap.size w wr) (fun x _ => ((n : Int) - intOf x).toNat)
  case atStart => exact ⟨0, m, M, _, rfl, by omega, Hmb.out.symm, r0, b0⟩
  case round =>
    clear hM I n1 n5 low own k0 r0 b0 Hmb
    obtain ⟨i, m', M', K', rfl, hi, hmb', rr, br⟩ := hrel
    by_cases hil : i < n
    · have hiI : (i : Int) < n := by omega
      obtain ⟨a, rfl, k, x, y, z, fx, fy, fz, g0, g1, g2, g3⟩ := Hcells.out i hil
      have lt : (a.add (i * 4)).block < w.heap.size := cell_lt g0
      have e0 : wr.cell? (a.add (i * 4)) = some (.int .i64 k) := by rw [br.cell lt]; exact g0
      have e1 : wr.cell? ⟨(a.add (i * 4)).block, (a.add (i * 4)).off + 1, none⟩ = some (.int .i64 x) := by rw [br.cell (p := ⟨(a.add (i * 4)).block, (a.add (i * 4)).off + 1, none⟩) lt]; exact g1
      have e2 : wr.cell? ⟨(a.add (i * 4)).block, (a.add (i * 4)).off + 2, none⟩ = some (.int .i64 y) := by rw [br.cell (p := ⟨(a.add (i * 4)).block, (a.add (i * 4)).off + 2, none⟩) lt]; exact g2
      have e3 : wr.cell? ⟨(a.add (i * 4)).block, (a.add (i * 4)).off + 3, none⟩ = some (.int .i64 z) := by rw [br.cell (p := ⟨(a.add (i * 4)).block, (a.add (i * 4)).off + 3, none⟩) lt]; exact g3
      have hst := step_calls (rr.ready hil hfew) k x y z fx fy fz
      rw [hmb'] at hst
      have Hst := hide hst
      clear g0 g1 g2 g3 hst
      go_wp2_with fail
      refine Hst.out.mono ?_
      rintro e W1 ⟨rfl, m1, M1, K1, st⟩
      go_wp2_with fail
      go_roundw
      · exact ⟨i + 1, m1, M1, K1, by simp, by omega, st.mb.trans hmb', rr.step st, br.trans st.below⟩
      · simp only [intOf]; omega
    · have hiI : ¬ (i : Int) < n := by omega
      subst hmb'
      have I := rr.know
      have n5 := rr.n5
      have ow := rr.own
      have hM := rr.mill
      obtain ⟨L, hL⟩ : ∃ x, x = M'.fs.length := ⟨_, rfl⟩
      have hl : L ≤ 102 := by rw [hL]; have := I.count; have := I.inv.hundred; omega
      have HL := hide hL
      obtain ⟨N, hN⟩ : ∃ x, x = K'.S.N.length := ⟨_, rfl⟩
      have hN2 : N ≤ 26010 := by rw [hN]; exact I.inv.few
      have hto := hide (ktotal_calls rr.mill.kern)
      rw [← hN] at hto
      have HN := hide hN
      have g0 : wr.cell? ⟨m'.mb, 0, none⟩ = some (.pointer (some ⟨m'.b.k, 0, none⟩)) := rr.mill.head.cell 0
      have facts : ∀ {w' : World} {q : Nat} {fi : Int}, MillAt w' m' M' K' → M'.fs[q]? = some fi → (w'.cell? ⟨m'.mb, 0, none⟩ = some (.pointer (some ⟨m'.b.k, 0, none⟩)) ∧ w'.cell? ⟨m'.mb, 3, none⟩ = some (.slice (some ⟨m'.gf, 0, none⟩) L m'.cf) ∧ w'.cell? ⟨m'.gf, q, none⟩ = some (.int .i64 fi)) := fun h1 h2 => ⟨h1.head.cell 0, by rw [HL.out]; exact h1.head.cell 3, h1.fsCell h2⟩
      have hnR := rr.mill.kern.roots.nodup
      have hnN := rr.mill.kern.store.nodes.nodup
      clear hL hN rr
      go_wp2_with fail
      refine hto.out.mono ?_
      rintro e wr ⟨rfl, rfl⟩
      go_wp2_with fail
      go_loopw [9, 10] (fun x9 x10 wr => ∃ (q s : Nat) (ys : List Int), x10 = .int .i64 q ∧ x9 = .int .i64 s ∧ q ≤ L ∧ s = ys.length ∧ s ≤ q * 26010 ∧ Cover M' K' q ys ∧ MillAt wr m' M' K' ∧ Below w.heap.size w wr) (fun _ x10 _ => ((L : Int) - intOf x10).toNat)
      case atStart => exact ⟨0, 0, [], rfl, rfl, by omega, rfl, by omega, fun k hk => by omega, hM, br⟩
      case round =>
        clear g0 hM br hto
        obtain ⟨q, s, ys, rfl, rfl, hq, hsy, hsb, hcov, hMq, bq⟩ := hrel
        have Hsy := hide hsy
        clear hsy
        have d3 : wr.cell? ⟨m'.mb, 3, none⟩ = some (.slice (some ⟨m'.gf, 0, none⟩) L m'.cf) := by rw [HL.out]; exact hMq.head.cell 3
        by_cases hql : q < L
        · have hqI : (q : Int) < L := by omega
          obtain ⟨fi, ri, hfi, hri, hti⟩ := I.handle (i := q) (by rw [← HL.out]; exact hql)
          have hsz := hide (fun (w : World) (h : KernelAt w m'.b K') => ksize_calls h I.inv fi ri hri)
          have hsp := hide (fun (w : World) (h : KernelAt w m'.b K') => ksupport_calls h I.inv fi ri hri)
          have hMD := hMq.keeps0 (Keeps.drew [] wr)
          have fD := facts hMD hfi
          clear hti
          go_wp2_with fail
          go_region_held3 (fun w' => w'.cell? ⟨m'.mb, 0, none⟩ = some (.pointer (some ⟨m'.b.k, 0, none⟩)) ∧ w'.cell? ⟨m'.mb, 3, none⟩ = some (.slice (some ⟨m'.gf, 0, none⟩) L m'.cf) ∧ w'.cell? ⟨m'.gf, q, none⟩ = some (.int .i64 fi)) (first | exact fD | exact fE)
            (first
              | (go_at_call 15
                 refine (hsz.out _ hMD.kern).mono ?_
                 rintro e W4 ⟨xs, rfl, hg, hK4, k4⟩
                 have hM4 := hMD.keeps0 k4
                 have fE := facts hM4 hfi))
          all_goals
            have b4 : Below w.heap.size w W4 := bq.trans (((Keeps.drew [] wr).trans k4).below bq.size (by simp))
            have hMF := hM4.keeps0 (Keeps.drew [] W4)
            have fF := facts hMF hfi
            have hxN : xs.length ≤ N := by rw [HN.out]; exact nodes_le hg
            have hx0 : q < 2 → xs.length = 0 := fun h2 => nodes_none (I.inv.small hri (I.first hfi h2)) hg
            generalize hxl : xs.length = xl at hxN hx0 ⊢
            have Hxl := hide hxl
            clear fD fE hMD hxl
            go_wp2_with fail
            go_region_held3 (fun w' => w'.cell? ⟨m'.mb, 0, none⟩ = some (.pointer (some ⟨m'.b.k, 0, none⟩)) ∧ w'.cell? ⟨m'.mb, 3, none⟩ = some (.slice (some ⟨m'.gf, 0, none⟩) L m'.cf) ∧ w'.cell? ⟨m'.gf, q, none⟩ = some (.int .i64 fi)) (first | exact fF | exact fG)
              (first
                | (go_at_call 16
                   refine (hsp.out _ hMF.kern).mono ?_
                   rintro e W6 ⟨s6, xs6, rfl, hg6, hso, hK6, k6⟩
                   have hM6 := hMF.keeps0 k6
                   have fG := facts hM6 hfi))
            all_goals
              have b6 : Below w.heap.size w W6 := b4.trans (((Keeps.drew [] W4).trans k6).below b4.size (by simp))
              have hx6 : xs6.length = xl := by rw [← Hxl.out]; exact Nat.le_antisymm (good_len hg6 hg) (good_len hg hg6)
              have hcb : ∀ v, v ≤ 8 → cb s6 v ≤ xl := fun v hv => by rw [← hx6]; exact cb_le hso hv
              have Hcb := hide hcb
              have s60 := hso.1
              have s61 := hso.2.1
              have hgt : ¬ (N : Int) < xl := by omega
              clear hcb hx6 hso fF fG
              by_cases hq2 : q < 2
              · have hqI2 : (q : Int) < 2 := by omega
                have ex := hx0 hq2
                subst ex
                clear hx0
                go_wp2_with fail
                go_loopw [11, 15] (fun x11 x15 wr => ∃ v : Nat, x15 = .int .i64 v ∧ x11 = .int .i64 (((0 : Nat) : Int) - (cb s6 v : Nat)) ∧ v ≤ M'.n ∧ MillAt wr m' M' K' ∧ Below w.heap.size w wr) (fun _ x15 _ => ((M'.n : Int) - intOf x15).toNat)
                case atStart => exact ⟨0, rfl, by simp [cb], by omega, hM6, b6⟩
                case round =>
                  clear hM6 b6 hM4 b4 hMF k6 k4 hK6 hK4
                  obtain ⟨v, rfl, rfl, hv, hMv, bv⟩ := hrel
                  have d1 : wr.cell? ⟨m'.mb, 1, none⟩ = some (.int .i64 M'.n) := hMv.head.cell 1
                  have hc := Hcb.out v (by omega)
                  have hcs := cb_succ s6 v
                  generalize hcv : cb s6 v = c at hc hcs ⊢
                  have Hcs := hide hcs
                  have Hcv := hide hcv
                  clear hcs hcv
                  by_cases hvl : v < M'.n
                  · have hvI : (v : Int) < M'.n := by omega
                    have hbt := hide (bit_calls (w := wr) s6 v s60 s61 (by omega) (by omega))
                    have hc1 := Hcb.out (v + 1) (by omega)
                    rw [Hcs.out] at hc1
                    go_wp2_with fail
                    refine hbt.out.mono ?_
                    rintro e w3 ⟨rfl, rfl⟩
                    cases hbit : bitB s6 v with
                    | true =>
                      have Hbit := hide hbit
                      rw [hbit] at hc1
                      simp only [if_true] at hc1
                      clear hbit
                      go_wp2_with fail
                      go_roundw
                      · refine ⟨v + 1, by simp, ?_, by omega, hMv, bv⟩
                        rw [Hcs.out, Hbit.out]
                        simp only [if_true]
                        congr 1
                        omega
                      · simp only [intOf]; omega
                    | false =>
                      have Hbit := hide hbit
                      clear hbit hc1
                      go_wp2_with fail
                      go_roundw
                      · refine ⟨v + 1, by simp, ?_, by omega, hMv, bv⟩
                        rw [Hcs.out, Hbit.out]
                        simp
                      · simp only [intOf]; omega
                  · have hvI : ¬ (v : Int) < M'.n := by omega
                    have hno : ¬ ((0 : Nat) : Int) - (c : Int) < 0 := by omega
                    have hMG := hMv.keeps0 (Keeps.drew [] wr)
                    have fH := facts hMG hfi
                    go_wp2_with fail
                    go_region_held3 (fun w' => w'.cell? ⟨m'.mb, 0, none⟩ = some (.pointer (some ⟨m'.b.k, 0, none⟩)) ∧ w'.cell? ⟨m'.mb, 3, none⟩ = some (.slice (some ⟨m'.gf, 0, none⟩) L m'.cf) ∧ w'.cell? ⟨m'.gf, q, none⟩ = some (.int .i64 fi)) (first | exact fH | exact fJ)
                      (first
                        | (go_at_call 15
                           refine (hsz.out _ hMG.kern).mono ?_
                           rintro e W8 ⟨xs8, rfl, hg8, hK8, k8⟩
                           have hM8 := hMG.keeps0 k8
                           have fJ := facts hM8 hfi))
                    all_goals
                      have b8 : Below w.heap.size w W8 := bv.trans (((Keeps.drew [] wr).trans k8).below bv.size (by simp))
                      have h8N : xs8.length ≤ N := by rw [HN.out]; exact nodes_le hg8
                      generalize hz8 : xs8.length = z8 at h8N ⊢
                      have Hz8 := hide hz8
                      clear fH fJ hz8
                      go_wp2_with fail
                      go_roundw
                      · refine ⟨q + 1, s + z8, ys ++ xs8.map Prod.fst, by simp, by simp, by omega, ?_, by omega, hcov.next hfi hri hg8, hM8, b8⟩
                        rw [List.length_append, List.length_map, Hz8.out, ← Hsy.out]
                      · simp only [intOf]; omega
              · have hqI2 : ¬ (q : Int) < 2 := by omega
                clear hx0
                go_wp2_with fail
                go_loopw [11, 15] (fun x11 x15 wr => ∃ v : Nat, x15 = .int .i64 v ∧ x11 = .int .i64 ((xl : Int) - (cb s6 v : Nat)) ∧ v ≤ M'.n ∧ MillAt wr m' M' K' ∧ Below w.heap.size w wr) (fun _ x15 _ => ((M'.n : Int) - intOf x15).toNat)
                case atStart => exact ⟨0, rfl, by simp [cb], by omega, hM6, b6⟩
                case round =>
                  clear hM6 b6 hM4 b4 hMF k6 k4 hK6 hK4
                  obtain ⟨v, rfl, rfl, hv, hMv, bv⟩ := hrel
                  have d1 : wr.cell? ⟨m'.mb, 1, none⟩ = some (.int .i64 M'.n) := hMv.head.cell 1
                  have hc := Hcb.out v (by omega)
                  have hcs := cb_succ s6 v
                  generalize hcv : cb s6 v = c at hc hcs ⊢
                  have Hcs := hide hcs
                  have Hcv := hide hcv
                  clear hcs hcv
                  by_cases hvl : v < M'.n
                  · have hvI : (v : Int) < M'.n := by omega
                    have hbt := hide (bit_calls (w := wr) s6 v s60 s61 (by omega) (by omega))
                    have hc1 := Hcb.out (v + 1) (by omega)
                    rw [Hcs.out] at hc1
                    go_wp2_with fail
                    refine hbt.out.mono ?_
                    rintro e w3 ⟨rfl, rfl⟩
                    cases hbit : bitB s6 v with
                    | true =>
                      have Hbit := hide hbit
                      rw [hbit] at hc1
                      simp only [if_true] at hc1
                      clear hbit
                      go_wp2_with fail
                      go_roundw
                      · refine ⟨v + 1, by simp, ?_, by omega, hMv, bv⟩
                        rw [Hcs.out, Hbit.out]
                        simp only [if_true]
                        congr 1
                        omega
                      · simp only [intOf]; omega
                    | false =>
                      have Hbit := hide hbit
                      clear hbit hc1
                      go_wp2_with fail
                      go_roundw
                      · refine ⟨v + 1, by simp, ?_, by omega, hMv, bv⟩
                        rw [Hcs.out, Hbit.out]
                        simp
                      · simp only [intOf]; omega
                  · have hvI : ¬ (v : Int) < M'.n := by omega
                    have hno : ¬ (xl : Int) - (c : Int) < 0 := by omega
                    have hMG := hMv.keeps0 (Keeps.drew [] wr)
                    have fH := facts hMG hfi
                    go_wp2_with fail
                    go_region_held3 (fun w' => w'.cell? ⟨m'.mb, 0, none⟩ = some (.pointer (some ⟨m'.b.k, 0, none⟩)) ∧ w'.cell? ⟨m'.mb, 3, none⟩ = some (.slice (some ⟨m'.gf, 0, none⟩) L m'.cf) ∧ w'.cell? ⟨m'.gf, q, none⟩ = some (.int .i64 fi)) (first | exact fH | exact fJ)
                      (first
                        | (go_at_call 15
                           refine (hsz.out _ hMG.kern).mono ?_
                           rintro e W8 ⟨xs8, rfl, hg8, hK8, k8⟩
                           have hM8 := hMG.keeps0 k8
                           have fJ := facts hM8 hfi))
                    all_goals
                      have b8 : Below w.heap.size w W8 := bv.trans (((Keeps.drew [] wr).trans k8).below bv.size (by simp))
                      have h8N : xs8.length ≤ N := by rw [HN.out]; exact nodes_le hg8
                      generalize hz8 : xs8.length = z8 at h8N ⊢
                      have Hz8 := hide hz8
                      clear fH fJ hz8
                      go_wp2_with fail
                      go_roundw
                      · refine ⟨q + 1, s + z8, ys ++ xs8.map Prod.fst, by simp, by simp, by omega, ?_, by omega, hcov.next hfi hri hg8, hM8, b8⟩
                        rw [List.length_append, List.length_map, Hz8.out, ← Hsy.out]
                      · simp only [intOf]; omega
        · have hqI : ¬ (q : Int) < L := by omega
          have hle := hcov.all I hnR hnN (by rw [← HL.out]; omega)
          rw [← HN.out, ← Hsy.out] at hle
          have hleI : (N : Int) ≤ s := by omega
          go_wp2_with fail
          go_ret
          exact ⟨by simp, bq⟩

end Go.Proofs.Ytgjomknpjigkhaa
