/- Sf. -/
import Derived.Test.YtgjomknpjigkhaaMMill
import Derived.Test.YtgjomknpjigkhaaMStep
namespace Go.Proofs.Ytgjomknpjigkhaa
open Go.RowKit Go.Shelf

theorem xor_lt {n a v : Nat} (ha : a < 2 ^ n) (hv : v < n) : a ^^^ 2 ^ v < 2 ^ n := Nat.xor_lt_two_pow ha (Nat.pow_lt_pow_right (by decide) hv)

theorem MI.handle {M : ML} {K : KS} (I : MI M K) {i : Nat} (hi : i < M.fs.length) : ∃ f r, M.fs[i]? = some f ∧ get K.R f = some r ∧ M.truth[i]? = some (tab M.n (K.S.den r)) := by
  have h1 : M.fs[i]? = some M.fs[i] := List.getElem?_eq_getElem hi
  have hl : i < M.truth.length := by rw [I.len]; exact hi
  have h2 : M.truth[i]? = some M.truth[i] := List.getElem?_eq_getElem hl
  obtain ⟨r, h3, h4⟩ := I.each i _ _ h1 h2
  exact ⟨_, r, h1, h3, by rw [h2, h4, I.n]⟩

set_option maxRecDepth 100000 in
set_option maxHeartbeats 4000000 in
theorem true1_calls {w : World} {m : MB} {M : ML} {K : KS} (hM : MillAt w m M K) (I : MI M K) (n5 : M.n ≤ 5) (hlim : K.S.next < lim) :
    Calls Try.prog 8 #[.pointer (some ⟨m.mb, 0, none⟩)] w fun e w' => e = .returned (.bool true) ∧ MillAt w' m M K ∧ Keeps m.b.own w w' := by
  have n1 : 1 ≤ M.n := by rw [I.n]; exact I.inv.n1
  obtain ⟨ways, hways⟩ : ∃ x, x = 2 ^ M.n := ⟨_, rfl⟩
  have w32 : ways ≤ 32 := by rw [hways]; exact Nat.pow_le_pow_right (n := 2) (by decide) n5
  have Hways := hide hways
  obtain ⟨L, hL⟩ : ∃ x, x = M.fs.length := ⟨_, rfl⟩
  have hl : L ≤ 102 := by rw [hL]; have := I.count; have := I.inv.hundred; omega
  have HL := hide hL
  have facts : ∀ {w' : World} {i : Nat} {fi : Int}, MillAt w' m M K → M.fs[i]? = some fi → (w'.cell? ⟨m.mb, 0, none⟩ = some (.pointer (some ⟨m.b.k, 0, none⟩)) ∧ w'.cell? ⟨m.mb, 3, none⟩ = some (.slice (some ⟨m.gf, 0, none⟩) L m.cf) ∧ w'.cell? ⟨m.gf, i, none⟩ = some (.int .i64 fi)) := fun h1 h2 => ⟨h1.head.cell 0, by rw [HL.out]; exact h1.head.cell 3, h1.fsCell h2⟩
  clear hways hL
  go_enter Try.func8, Try.ntmps8
  go_wp2_with fail
  go_loopw [3] (fun x wr => ∃ i : Nat, x = .int .i64 i ∧ i ≤ L ∧ MillAt wr m M K ∧ Keeps m.b.own w wr) (fun x _ => ((L : Int) - intOf x).toNat)
  case atStart => exact ⟨0, rfl, by omega, hM, Keeps.refl _ _⟩
  case round =>
    obtain ⟨i, rfl, hi, hMi, ki⟩ := hrel
    have d3 : wr.cell? ⟨m.mb, 3, none⟩ = some (.slice (some ⟨m.gf, 0, none⟩) L m.cf) := by rw [HL.out]; exact hMi.head.cell 3
    by_cases hil : i < L
    · have hiI : (i : Int) < L := by omega
      obtain ⟨fi, ri, hfi, hri, hti⟩ := I.handle (i := i) (by rw [← HL.out]; exact hil)
      obtain ⟨pi, hpi⟩ : ∃ p, m.tbs[i]? = some p := ⟨m.tbs[i]'(by rw [hM.lens, ← HL.out]; exact hil), List.getElem?_eq_getElem _⟩
      have Hti := hide hti
      have Hpi := hide hpi
      have okr := I.inv.ok _ _ hri
      clear hti hpi
      go_wp2_with fail
      go_loopw [4, 5, 6] (fun x4 x5 x6 wr => ∃ a s : Nat, x6 = .int .i64 a ∧ x4 = .int .i64 (cntUp K.S ri a : Nat) ∧ x5 = .int .i64 s ∧ a ≤ ways ∧ Sup K.S ri M.n a s ∧ MillAt wr m M K ∧ Keeps m.b.own w wr) (fun _ _ x6 _ => ((ways : Int) - intOf x6).toNat)
      case atStart => exact ⟨0, 0, rfl, rfl, rfl, by omega, Sup.zero _ _ _, hMi, ki⟩
      case round =>
        clear d3 hMi ki
        obtain ⟨a, s, rfl, rfl, rfl, ha, hs, hMa, ka⟩ := hrel
        have d2 : wr.cell? ⟨m.mb, 2, none⟩ = some (.int .i64 ways) := by rw [hMa.head.cell 2, Hways.out]; rfl
        by_cases hal : a < ways
        · have haI : (a : Int) < ways := by omega
          have hal' : a < 2 ^ M.n := by rw [← Hways.out]; exact hal
          have hev := hide (fun (w : World) (h : KernelAt w m.b K) => keval_calls h I.inv fi ri a hri (by omega) (by rw [← I.n, ← Hways.out]; omega))
          have hMD := hMa.keeps0 (Keeps.drew [] wr)
          have fD := facts hMD hfi
          have hcl := cntUp_le K.S ri a
          have hcs := cntUp_succ K.S ri a
          generalize cntUp K.S ri a = cn at hcl hcs ⊢
          generalize hX : K.S.den ri (asg (a : Int)) = X at hev hcs
          have HX := hide hX
          have Hcs := hide hcs
          clear hX hcs
          go_wp2_with fail
          go_region_held3 (fun w' => w'.cell? ⟨m.mb, 0, none⟩ = some (.pointer (some ⟨m.b.k, 0, none⟩)) ∧ w'.cell? ⟨m.mb, 3, none⟩ = some (.slice (some ⟨m.gf, 0, none⟩) L m.cf) ∧ w'.cell? ⟨m.gf, i, none⟩ = some (.int .i64 fi)) (first | exact fD | exact fE)
            (first
              | (go_at_call 29
                 refine (hev.out _ hMD.kern).mono ?_
                 rintro e W4 ⟨rfl, hK4, k4⟩
                 have hM4 := hMD.keeps0 k4
                 have fE := facts hM4 hfi))
          all_goals
            have kk : Keeps m.b.own w W4 := ka.trans (((Keeps.drew [] wr).trans k4).mono (by simp))
            have ci := (hM4.tables i pi _ Hpi.out Hti.out).2.cell (tab_get hal')
            rw [HX.out] at ci
            have ti := hM4.truthCell Hpi.out
            rw [← Hways.out] at ti
            have e4 : W4.cell? ⟨m.mb, 4, none⟩ = some (.slice (some ⟨m.gt, 0, none⟩) L m.ct) := by rw [HL.out]; exact hM4.head.cell 4
            cases X with
            | false =>
              go_wp2_with fail
              go_loopw [5, 9] (fun x5 x9 wr => ∃ v s' : Nat, x9 = .int .i64 v ∧ x5 = .int .i64 s' ∧ v ≤ M.n ∧ SupAt K.S ri M.n a v s' ∧ MillAt wr m M K ∧ Keeps m.b.own w wr) (fun _ x9 _ => ((M.n : Int) - intOf x9).toNat)
              case atStart => exact ⟨0, s, rfl, rfl, by omega, hs.at, hM4, kk⟩
              case round =>
                clear hM4 ci ti e4 kk
                obtain ⟨v, s', rfl, rfl, hv, hsv, hMv, kv⟩ := hrel
                have d1 : wr.cell? ⟨m.mb, 1, none⟩ = some (.int .i64 M.n) := hMv.head.cell 1
                by_cases hvl : v < M.n
                · have hvI : (v : Int) < M.n := by omega
                  have v63 : (v : Int) < 63 := by omega
                  obtain ⟨pw, ax, epw, eax, hax, hwr, hxo, hor⟩ := pw_bits hvl n5 hal' hsv.lt
                  have HY0 : ∃ Y, K.S.den ri (asg ((a ^^^ 2 ^ v : Nat) : Int)) = Y := ⟨_, rfl⟩
                  obtain ⟨Y, hY⟩ := HY0
                  have ci := (hMv.tables i pi _ Hpi.out Hti.out).2.cell (tab_get hax)
                  rw [eax, hY] at ci
                  rw [← eax] at ci
                  rw [← Hways.out] at hax
                  have HY := hide hY
                  have Hpw := hide epw
                  clear hY epw eax
                  have haxI : (ax : Int) < ways := by clear hwr hxo hor; omega
                  have ti := hMv.truthCell Hpi.out
                  rw [← Hways.out] at ti
                  have e4 : wr.cell? ⟨m.mb, 4, none⟩ = some (.slice (some ⟨m.gt, 0, none⟩) L m.ct) := by rw [HL.out]; exact hMv.head.cell 4
                  cases Y with
                  | false =>
                    go_wp2_with fail
                    go_quiet (fail)
                    go_wp2_with fail
                    go_roundw
                    · exact ⟨v + 1, s', by simp, rfl, by omega, hsv.no (by unfold Ne; rw [HX.out, HY.out]; decide), hMv.drewN _, kv.trans (Keeps.drewN _ _ _)⟩
                    · simp only [intOf]; omega
                  | true =>
                    go_wp2_with fail
                    go_quiet (fail)
                    go_wp2_with fail
                    go_roundw
                    · exact ⟨v + 1, (s' ||| pw : Nat), by simp, rfl, by omega, by rw [Hpw.out]; exact hsv.yes hvl (by unfold Ne; rw [HX.out, HY.out]; decide), hMv.drewN _, kv.trans (Keeps.drewN _ _ _)⟩
                    · simp only [intOf]; omega
                · have hvI : ¬ (v : Int) < M.n := by omega
                  have ev : v = M.n := by omega
                  subst ev
                  have hsn := hsv.next
                  go_wp2_with fail
                  go_roundw
                  · refine ⟨a + 1, s', by simp, ?_, rfl, by omega, hsn, hMv, kv⟩
                    rw [Hcs.out]
                    rfl
                  · simp only [intOf]; omega
            | true =>
              go_wp2_with fail
              go_loopw [5, 9] (fun x5 x9 wr => ∃ v s' : Nat, x9 = .int .i64 v ∧ x5 = .int .i64 s' ∧ v ≤ M.n ∧ SupAt K.S ri M.n a v s' ∧ MillAt wr m M K ∧ Keeps m.b.own w wr) (fun _ x9 _ => ((M.n : Int) - intOf x9).toNat)
              case atStart => exact ⟨0, s, rfl, rfl, by omega, hs.at, hM4, kk⟩
              case round =>
                clear hM4 ci ti e4 kk
                obtain ⟨v, s', rfl, rfl, hv, hsv, hMv, kv⟩ := hrel
                have d1 : wr.cell? ⟨m.mb, 1, none⟩ = some (.int .i64 M.n) := hMv.head.cell 1
                by_cases hvl : v < M.n
                · have hvI : (v : Int) < M.n := by omega
                  have v63 : (v : Int) < 63 := by omega
                  obtain ⟨pw, ax, epw, eax, hax, hwr, hxo, hor⟩ := pw_bits hvl n5 hal' hsv.lt
                  have HY0 : ∃ Y, K.S.den ri (asg ((a ^^^ 2 ^ v : Nat) : Int)) = Y := ⟨_, rfl⟩
                  obtain ⟨Y, hY⟩ := HY0
                  have ci := (hMv.tables i pi _ Hpi.out Hti.out).2.cell (tab_get hax)
                  rw [eax, hY] at ci
                  rw [← eax] at ci
                  rw [← Hways.out] at hax
                  have HY := hide hY
                  have Hpw := hide epw
                  clear hY epw eax
                  have haxI : (ax : Int) < ways := by clear hwr hxo hor; omega
                  have ti := hMv.truthCell Hpi.out
                  rw [← Hways.out] at ti
                  have e4 : wr.cell? ⟨m.mb, 4, none⟩ = some (.slice (some ⟨m.gt, 0, none⟩) L m.ct) := by rw [HL.out]; exact hMv.head.cell 4
                  cases Y with
                  | false =>
                    go_wp2_with fail
                    go_quiet (fail)
                    go_wp2_with fail
                    go_roundw
                    · exact ⟨v + 1, (s' ||| pw : Nat), by simp, rfl, by omega, by rw [Hpw.out]; exact hsv.yes hvl (by unfold Ne; rw [HX.out, HY.out]; decide), hMv.drewN _, kv.trans (Keeps.drewN _ _ _)⟩
                    · simp only [intOf]; omega
                  | true =>
                    go_wp2_with fail
                    go_quiet (fail)
                    go_wp2_with fail
                    go_roundw
                    · exact ⟨v + 1, s', by simp, rfl, by omega, hsv.no (by unfold Ne; rw [HX.out, HY.out]; decide), hMv.drewN _, kv.trans (Keeps.drewN _ _ _)⟩
                    · simp only [intOf]; omega
                · have hvI : ¬ (v : Int) < M.n := by omega
                  have ev : v = M.n := by omega
                  subst ev
                  have hsn := hsv.next
                  go_wp2_with fail
                  go_roundw
                  · refine ⟨a + 1, s', by simp, ?_, rfl, by omega, hsn, hMv, kv⟩
                    rw [Hcs.out]
                    rfl
                  · simp only [intOf]; omega
        · have haI : ¬ (a : Int) < ways := by omega
          have ea : a = ways := by omega
          have hcn : cntUp K.S ri a = cntV K.S.n (K.S.den ri) (fun _ => false) := by rw [ea, Hways.out, I.n]; exact cntUp_all I.inv.wf okr
          rw [hcn]
          have hs2 : Sup K.S ri K.S.n (2 ^ K.S.n) s := by rw [ea, Hways.out, I.n] at hs; exact hs
          have hct := hide (fun (w : World) (h : KernelAt w m.b K) => kcount_calls h I.inv fi ri hri hlim)
          have hsp := hide (fun (w : World) (h : KernelAt w m.b K) => ksupport_calls h I.inv fi ri hri)
          generalize cntV K.S.n (K.S.den ri) (fun _ => false) = cv at hct ⊢
          have hMD := hMa.keeps0 (Keeps.drew [] wr)
          have fD := facts hMD hfi
          clear hcn ea
          go_wp2_with fail
          go_region_held3 (fun w' => w'.cell? ⟨m.mb, 0, none⟩ = some (.pointer (some ⟨m.b.k, 0, none⟩)) ∧ w'.cell? ⟨m.mb, 3, none⟩ = some (.slice (some ⟨m.gf, 0, none⟩) L m.cf) ∧ w'.cell? ⟨m.gf, i, none⟩ = some (.int .i64 fi)) (first | exact fD | exact fE)
            (first
              | (go_at_call 30
                 refine (hct.out _ hMD.kern).mono ?_
                 rintro e W4 ⟨rfl, hK4, k4⟩
                 have hM4 := hMD.worked hK4 k4
                 have fE := facts hM4 hfi))
          all_goals
            have kk4 : Keeps m.b.own w W4 := (ka.trans ((Keeps.drew [] wr).mono (by simp))).trans k4
            have hMF := hM4.keeps0 (Keeps.drew [] W4)
            have fF := facts hMF hfi
            clear fD fE hMD
            go_wp2_with fail
            go_region_held3 (fun w' => w'.cell? ⟨m.mb, 0, none⟩ = some (.pointer (some ⟨m.b.k, 0, none⟩)) ∧ w'.cell? ⟨m.mb, 3, none⟩ = some (.slice (some ⟨m.gf, 0, none⟩) L m.cf) ∧ w'.cell? ⟨m.gf, i, none⟩ = some (.int .i64 fi)) (first | exact fF | exact fG)
              (first
                | (go_at_call 16
                   refine (hsp.out _ hMF.kern).mono ?_
                   rintro e W6 ⟨s6, xs, rfl, hg, hso, hK6, k6⟩
                   have es6 := Sup.all I.inv.wf I.inv.n8 okr hg hso hs2
                   subst es6
                   have hM6 := hMF.keeps0 k6
                   have fG := facts hM6 hfi))
            all_goals
              go_wp2_with fail
              go_roundw
              · exact ⟨i + 1, by simp, by omega, hM6, kk4.trans (((Keeps.drew [] W4).trans k6).mono (by simp))⟩
              · simp only [intOf]; omega
    · have hiI : ¬ (i : Int) < L := by omega
      go_wp2_with fail
      go_ret
      exact ⟨rfl, hMi, ki⟩

end Go.Proofs.Ytgjomknpjigkhaa
