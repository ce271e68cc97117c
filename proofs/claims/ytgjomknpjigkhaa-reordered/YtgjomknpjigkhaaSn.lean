/- 'Reordered'. -/
import Derived.Test.YtgjomknpjigkhaaSm
import Derived.Test.YtgjomknpjigkhaaSl
import Derived.Test.YtgjomknpjigkhaaSk
namespace Go.Proofs.Ytgjomknpjigkhaa
open Go.RowKit Go.Shelf

theorem row_up {w : World} {m : MB} {M : ML} {K : KS} (hM : MillAt w m M K) {w1 : World} {base : Nat} {e : TypeId} {g n c : Nat} {xs : List Value} (h : w1.ownsRow base e 1 (.slice (some ⟨g, 0, none⟩) n c) n xs) (hb : m.mb ≤ base) {w2 : World} (k : Keeps m.b.own w1 w2) : w2.ownsRow base e 1 (.slice (some ⟨g, 0, none⟩) n c) n xs :=
  ownsRow_kept h k (fun q hq x => by
    have h1 := hM.below q x
    have h2 := (own_base h q hq).1
    omega)

set_option maxRecDepth 100000 in
set_option maxHeartbeats 8000000 in
theorem reordered_calls {w : World} (raw : Int) (hraw : Fits raw) (v : Value) (n : Nat) (hs : Script w v n) (which level : Int) (hwh : Fits which) (hlv : Fits level) :
    Calls Try.prog 4 #[.int .i64 raw, v, .int .i64 which, .int .i64 level] w fun e w' => e = .returned (.bool true) ∧ Below w.heap.size w w' := by
  have hop := hide (opened_calls (w := w) raw hraw.1 hraw.2)
  have hpn : ∀ (w : World) (a : Addr), (binOp .eql 23 (.pointer (some a)) (.pointer none)).run Try.prog w = .ok (.bool false) w := fun w a => by kernel_rfl
  have hfew := hs.few
  obtain ⟨ao, cap, rfl, hcells⟩ := hs.view
  have Hcells := hide hcells
  clear hcells
  go_enter Try.func4, Try.ntmps4
  go_wp2_with fail
  refine hop.out.mono ?_
  rintro e W0 ⟨m, M, rfl, hM, I, n1, n5, low, own, k0⟩
  have r0 := Run.begin hM I n5 low own
  have b0 := k0.below (Nat.le_refl _) (by simp)
  obtain ⟨mb, hmb⟩ : ∃ x, x = m.mb := ⟨_, rfl⟩
  have Hmb := hide hmb
  rw [← hmb]
  clear hmb
  go_wp2_with fail
  go_loopw [10] (fun x wr => ∃ (i : Nat) (m' : MB) (M' : ML) (K' : KS), x = .int .i64 i ∧ i ≤ n ∧ m'.mb = mb ∧ Run w.heap.size wr i m' M' K' ∧ Below w.heap.size w wr) (fun x _ => ((n : Int) - intOf x).toNat)
  case atStart => exact ⟨0, m, M, _, rfl, by omega, Hmb.out.symm, r0, b0⟩
  case round =>
    clear hM I n1 n5 low own k0 r0 b0 Hmb
    obtain ⟨i, m', M', K', rfl, hi, hmb', rr, br⟩ := hrel
    by_cases hil : i < n
    · have hiI : (i : Int) < n := by omega
      obtain ⟨a, rfl, k, x, y, z, fx, fy, fz, g0, g1, g2, g3⟩ := Hcells.out i hil
      have lt : (a.add (i * 4)).block < w.heap.size := cell_lt g0
      have e0 : wr.cell? (a.add (i * 4)) = some (.int .i64 k) := by rw [br.cell lt]; exact g0
      have e1 : wr.cell? ⟨(a.add (i * 4)).block, (a.add (i * 4)).off + 1, none⟩ = some (.int .i64 x) := by rw [br.cell (p := ⟨(a.add (i * 4)).block, (a.add (i * 4)).off + 1, none⟩) lt]; exact g1
      have e2 : wr.cell? ⟨(a.add (i * 4)).block, (a.add (i * 4)).off + 2, none⟩ = some (.int .i64 y) := by rw [br.cell (p := ⟨(a.add (i * 4)).block, (a.add (i * 4)).off + 2, none⟩) lt]; exact g2
      have e3 : wr.cell? ⟨(a.add (i * 4)).block, (a.add (i * 4)).off + 3, none⟩ = some (.int .i64 z) := by rw [br.cell (p := ⟨(a.add (i * 4)).block, (a.add (i * 4)).off + 3, none⟩) lt]; exact g3
      have hst := step_calls (rr.ready hil hfew) k x y z fx fy fz
      rw [hmb'] at hst
      have Hst := hide hst
      clear g0 g1 g2 g3 hst
      go_wp2_with fail
      refine Hst.out.mono ?_
      rintro e W1 ⟨rfl, m1, M1, K1, st⟩
      go_wp2_with fail
      go_roundw
      · exact ⟨i + 1, m1, M1, K1, by simp, by omega, st.mb.trans hmb', rr.step st, br.trans st.below⟩
      · simp only [intOf]; omega
    · have hiI : ¬ (i : Int) < n := by omega
      subst hmb'
      have I := rr.know
      have n5 := rr.n5
      have ow := rr.own
      have hM := rr.mill
      have n1 : 1 ≤ M'.n := by rw [I.n]; exact I.inv.n1
      have hnx : K'.S.next + 2000000 < lim := by have := rr.next; unfold lim; omega
      have hol : K'.S.order.length = M'.n := by rw [I.n]; rfl
      have hmbw := hM.head.lt
      have hs5 := swc_le5 (show K'.S.n ≤ 5 by rw [← I.n]; exact n5)
      have hs0 := swc_nonneg K'.S.n
      have g0 : wr.cell? ⟨m'.mb, 0, none⟩ = some (.pointer (some ⟨m'.b.k, 0, none⟩)) := hM.head.cell 0
      have hord := hide (korder_calls hM.kern I.inv)
      rw [hol] at hord
      have Hol := hide hol
      clear rr hol
      go_wp2_with fail
      refine hord.out.mono ?_
      rintro e Wa ⟨va, rfl, owa, hKa, ka⟩
      obtain ⟨ga, ca, rfl⟩ := own_form owa (by omega)
      have hMa := hM.keeps0 ka
      have ba : Below w.heap.size w Wa := br.trans (ka.below br.size (by simp))
      have hba : m'.mb ≤ wr.heap.size := by omega
      obtain ⟨bse, hbse⟩ : ∃ x, x = wr.heap.size := ⟨_, rfl⟩
      rw [← hbse] at owa hba
      have Owa := hide owa
      have Hba := hide hba
      have d0 : Wa.cell? ⟨m'.mb, 0, none⟩ = some (.pointer (some ⟨m'.b.k, 0, none⟩)) := hMa.head.cell 0
      have d1 : Wa.cell? ⟨m'.mb, 1, none⟩ = some (.int .i64 M'.n) := hMa.head.cell 1
      have hto := hide (ktotal_calls hMa.kern)
      obtain ⟨T0, hT0⟩ : ∃ x, x = K'.S.N.length := ⟨_, rfl⟩
      rw [← hT0] at hto
      have HT0 := hide hT0
      have hNd := hMa.kern.nd
      clear g0 hord hM br ka hbse owa hba hmbw hT0 hKa
      go_wp2_with fail
      refine hto.out.mono ?_
      rintro e Wz ⟨rfl, rfl⟩
      by_cases hn1 : 1 < M'.n
      · have hnI : (1 : Int) < M'.n := by omega
        obtain ⟨at', eat, hat⟩ := pk_nat level (n := M'.n - 1) (by omega)
        have eat' : pk level ((M'.n : Int) - 1) = at' := by rw [← eat]; congr 1; omega
        have pL := hide (fun w : World => pick_calls (w := w) level ((M'.n : Int) - 1) hlv.1 hlv.2 (by omega))
        rw [eat'] at pL
        have hsw := hide (kSwap_yes hMa.kern I.inv at' (by omega) (by rw [← I.n]; omega) (by omega))
        rw [Int.toNat_natCast] at hsw
        clear eat eat'
        go_wp2_with fail
        refine (pL.out _).mono ?_
        rintro e Wz ⟨rfl, rfl⟩
        go_wp2_with fail
        refine hsw.out.mono ?_
        rintro e Wb ⟨rfl, K1, hK1, re1, ho1, kb⟩
        have hMb := hMa.worked hK1 kb
        have I1 := I.re re1
        have owb := row_up hMa Owa.out Hba.out kb
        have bb : Below w.heap.size w Wb := ba.trans (kb.below ba.size ow)
        have ol1 : K1.S.order.length = M'.n := by rw [I1.n]; rfl
        have c0 : Wb.cell? ⟨m'.mb, 0, none⟩ = some (.pointer (some ⟨m'.b.k, 0, none⟩)) := hMb.head.cell 0
        have hord := hide (korder_calls hMb.kern I1.inv)
        rw [ol1] at hord
        have hmbb := hMb.head.lt
        clear d0 d1 hto pL hsw hMa ba hK1 kb ol1
        go_wp2_with fail
        refine hord.out.mono ?_
        rintro e Wc ⟨vc, rfl, owc, hKc, kc⟩
        obtain ⟨gc, cc, rfl⟩ := own_form owc (by omega)
        have hMc := hMb.keeps0 kc
        have owac := ownsRow_kept owb kc (by simp)
        have bc : Below w.heap.size w Wc := bb.trans (kc.below bb.size (by simp))
        have Owac := hide owac
        have Owc := hide owc
        have Ho1 := hide ho1
        have c1 : Wc.cell? ⟨m'.mb, 1, none⟩ = some (.int .i64 M'.n) := hMc.head.cell 1
        clear c0 hord owb owac owc hKc kc bb hMb hmbb ho1
        go_wp2_with fail
        go_loopw [17] (fun x w2 => ∃ j : Nat, x = .int .i64 j ∧ j ≤ M'.n ∧ w2 = Wc) (fun x _ => ((M'.n : Int) - intOf x).toNat)
        case atStart => exact ⟨0, rfl, by omega, rfl⟩
        case round =>
          obtain ⟨j, rfl, hj, rfl⟩ := hrel
          by_cases hjl : j < M'.n
          · have hjI : (j : Int) < M'.n := by omega
            have at1 : (at' : Int) + 1 < M'.n := by omega
            have hol := Hol.out
            obtain ⟨x, hx⟩ : ∃ x, K'.S.order[j]? = some x := ⟨K'.S.order[j]'(by omega), List.getElem?_eq_getElem _⟩
            obtain ⟨y, hy⟩ : ∃ y, K'.S.order[at' + 1]? = some y := ⟨K'.S.order[at' + 1]'(by omega), List.getElem?_eq_getElem _⟩
            obtain ⟨z, hz⟩ : ∃ z, K'.S.order[at']? = some z := ⟨K'.S.order[at']'(by omega), List.getElem?_eq_getElem _⟩
            have cx := ownsRow_cell Owac.out hx
            have cy := ownsRow_cell Owac.out hy
            have cz := ownsRow_cell Owac.out hz
            have hl2 : at' + 1 < K'.S.order.length := by omega
            have hsg := swapAt_get hl2
            rw [← Ho1.out] at hsg
            have hother := fun (h1 : j ≠ at') (h2 : j ≠ at' + 1) => swapAt_other (o := K'.S.order) h1 h2
            rw [← Ho1.out] at hother
            by_cases ja : j = at'
            · subst ja
              have cn := ownsRow_cell Owc.out (hsg.1.trans hy)
              have hne : ((j : Int) == (j : Int) + 1) = false := by simp; omega
              clear hsg hother hx hy hz hol hl2
              go_wp2_with fail
              go_roundw
              · exact ⟨j + 1, by simp, by omega, trivial⟩
              · simp only [intOf]; omega
            · by_cases jb : j = at' + 1
              · subst jb
                have cn := ownsRow_cell Owc.out (hsg.2.trans hz)
                have hne : (((at' + 1 : Nat) : Int) == (at' : Int)) = false := by simp; omega
                clear hsg hother hx hy hz hol hl2
                go_wp2_with fail
                go_roundw
                · exact ⟨at' + 1 + 1, by simp, by omega, trivial⟩
                · simp only [intOf]; omega
              · have cn := ownsRow_cell Owc.out ((hother ja jb).trans hx)
                have hne : ((j : Int) == (at' : Int)) = false := by simp; omega
                have hne2 : ((j : Int) == (at' : Int) + 1) = false := by simp; omega
                clear hsg hother hx hy hz hol hl2
                go_wp2_with fail
                go_roundw
                · exact ⟨j + 1, by simp, by omega, trivial⟩
                · simp only [intOf]; omega
          · have hjI : ¬ (j : Int) < M'.n := by omega
            have ht1 := hide (true1_calls hMc I1 n5 (by have := re1.next; omega))
            go_wp2_with fail
            refine ht1.out.mono ?_
            rintro e Wd ⟨rfl, hMd, kd⟩
            have owd := row_up hMc Owac.out Hba.out kd
            have bd : Below w.heap.size w Wd := bc.trans (kd.below bc.size ow)
            have hn1K : K1.S.n = K'.S.n := re1.n
            have hsw2 := hide (kSwap_yes hMd.kern I1.inv at' (by omega) (by rw [← I1.n]; omega) (by rw [hn1K]; have := re1.next; omega))
            rw [Int.toNat_natCast] at hsw2
            have c0 : Wd.cell? ⟨m'.mb, 0, none⟩ = some (.pointer (some ⟨m'.b.k, 0, none⟩)) := hMd.head.cell 0
            clear ht1 hMc bc c1
            go_wp2_with fail
            refine hsw2.out.mono ?_
            rintro e We ⟨rfl, K2, hK2, re12, ho12, ke⟩
            have hMe := hMd.worked hK2 ke
            have I2 := I1.re re12
            have Owe := hide (row_up hMd owd Hba.out ke)
            have be : Below w.heap.size w We := bd.trans (ke.below bd.size ow)
            rw [hn1K] at re12
            have re2 := re1.trans re12
            have ho2 : K2.S.order = K'.S.order := by rw [ho12, Ho1.out]; exact swapAt_twice (by rw [Hol.out]; omega)
            have Ho2 := hide ho2
            have hto2 := hide (ktotal_calls hMe.kern)
            have hTT := total_eq I.inv hNd I2.inv hMe.kern.nd re2.R re2.den ho2
            rw [hTT, ← HT0.out] at hto2
            have c0e : We.cell? ⟨m'.mb, 0, none⟩ = some (.pointer (some ⟨m'.b.k, 0, none⟩)) := hMe.head.cell 0
            clear hsw2 hMd hK2 ke bd owd ho12 hTT c0 ho2
            go_wp2_with fail
            refine hto2.out.mono ?_
            rintro e Wz ⟨rfl, rfl⟩
            clear hto2 c0e
            have n8K : K2.S.n = M'.n := I2.n.symm
            obtain ⟨vv, evv, hvv⟩ := pk_nat which (n := M'.n) n1
            have pV := hide (fun w : World => pick_calls (w := w) which M'.n hwh.1 hwh.2 (by omega))
            rw [evv] at pV
            have hsn2 : swc K2.S.n = swc K'.S.n := by rw [n8K, I.n]
            have hsf := hide (ksift_calls hMe.kern I2.inv vv (by omega) (by rw [n8K]; omega) (by rw [hsn2]; have := re2.next; omega))
            have d0 : Wz.cell? ⟨m'.mb, 0, none⟩ = some (.pointer (some ⟨m'.b.k, 0, none⟩)) := hMe.head.cell 0
            have d1 : Wz.cell? ⟨m'.mb, 1, none⟩ = some (.int .i64 M'.n) := hMe.head.cell 1
            have dE := hMe.kern.nd
            clear evv
            go_wp2_with fail
            refine (pV.out _).mono ?_
            rintro e We ⟨rfl, rfl⟩
            clear hn1 hnI
            go_wp2_with fail
            refine hsf.out.mono ?_
            rintro e Wf ⟨rfl, p, K3, hK3, mv, hp, hbest, kf⟩
            have hMf := hMe.worked hK3 kf
            have I3 := I2.re mv.re
            have owf := row_up hMe Owe.out Hba.out kf
            have bf : Below w.heap.size w Wf := be.trans (kf.below be.size ow)
            have dF := hMf.kern.nd
            have T3le : K3.S.N.length ≤ T0 := by
              have h1 := (hbest.least (by omega) (by rw [n8K]; omega) mv dF hp (q := K2.S.pl vv) (I2.inv.wf.pl_range (by omega) (by rw [n8K]; omega)).1 (I2.inv.wf.pl_range (by omega) (by rw [n8K]; omega)).2.1 (TotAt.here (Moved.refl I2.inv vv) dE)).1
              have h2 := total_eq I.inv hNd I2.inv dE re2.R re2.den Ho2.out
              have := HT0.out
              omega
            have hp0 := I3.inv.wf.pl_range (v := (vv : Int)) (by omega) (by rw [← I3.n]; omega)
            rw [hp] at hp0
            have hp1 : p < M'.n := by have := hp0.2.1; rw [← I3.n] at this; exact this
            obtain ⟨pn, hpn'⟩ := Int.eq_ofNat_of_zero_le hp0.1
            subst hpn'
            have hpv : K3.S.order[pn]? = some (vv : Int) := by have := hp0.2.2.1; rw [Int.toNat_natCast] at this; exact this
            have hto3 := hide (ktotal_calls hMf.kern)
            obtain ⟨T3, hT3⟩ : ∃ x, x = K3.S.N.length := ⟨_, rfl⟩
            rw [← hT3] at hto3 T3le
            have HT3 := hide hT3
            have c0 : Wf.cell? ⟨m'.mb, 0, none⟩ = some (.pointer (some ⟨m'.b.k, 0, none⟩)) := hMf.head.cell 0
            have ol3 : K3.S.order.length = M'.n := by rw [I3.n]; rfl
            have hord3 := hide (korder_calls hMf.kern I3.inv)
            rw [ol3] at hord3
            have hmbf := hMf.head.lt
            clear d0 d1 pV hsf hMe hK3 kf be hT3 hp0
            go_wp2_with fail
            refine hto3.out.mono ?_
            rintro e Wg ⟨rfl, rfl⟩
            go_wp2_with fail
            refine hord3.out.mono ?_
            rintro e Wh ⟨vh, rfl, owh, hKh, kh⟩
            obtain ⟨gh, ch, rfl⟩ := own_form owh (by omega)
            have hMh := hMf.keeps0 kh
            have owah := ownsRow_kept owf kh (by simp)
            have bh : Below w.heap.size w Wh := bf.trans (kh.below bf.size (by simp))
            have ht1 := hide (true1_calls hMh I3 n5 (by have := mv.re.next; have := re2.next; omega))
            have Owah := hide owah
            have Owh := hide owh
            clear c0 hto3 hord3 hMf bf owf owah owh hKh kh
            go_wp2_with fail
            refine ht1.out.mono ?_
            rintro e Wi ⟨rfl, hMi, ki⟩
            have oa := row_up hMh Owah.out Hba.out ki
            have ob := row_up hMh Owh.out (by omega) ki
            have bi : Below w.heap.size w Wi := bh.trans (ki.below bh.size ow)
            have hoth := hide (others_calls (ga := ga) (ca := ca) (gb := gh) (cb' := ch) K'.S.order K3.S.order vv (by rw [Hol.out]; exact oa) (by rw [ol3]; exact ob) (by rw [Hol.out, ol3]) (by rw [Hol.out]; omega) (by rw [mv.rest, Ho2.out]) (by have := (rest_at I.inv.wf (v := (vv : Int)) (by omega) (by rw [← I.n]; omega)).2; exact this))
            rw [Hol.out, ol3] at hoth
            have T3I : ¬ (T0 : Int) < T3 := by omega
            have Oa := hide oa
            have Ob := hide ob
            have Hpv := hide hpv
            clear ht1 hMh ki oa ob bh hpv
            go_wp2_with fail
            refine hoth.out.mono ?_
            rintro e Wj ⟨rfl, kj⟩
            have hMj := hMi.keeps0 kj
            have obj := ownsRow_kept Ob.out kj (by simp)
            have bj : Below w.heap.size w Wj := bi.trans (kj.below bi.size (by simp))
            have Obj := hide obj
            have c1 : Wj.cell? ⟨m'.mb, 1, none⟩ = some (.int .i64 M'.n) := hMj.head.cell 1
            clear hoth hMi bi kj obj
            have HbestL := hide (fun (K4 : KS) (c : Int) (m4 : Moved K2 K4 vv c) (d4 : Nd K4) (q : Int) (hq : K4.S.pl vv = q) => hbest.at (by omega) (by rw [n8K]; omega) mv dF hp m4 d4 hq)
            have hx3 : K3.S.next ≤ K'.S.next + 500000 := by have := mv.re.next; rw [hsn2] at this; have := re2.next; omega
            have hpl3 : K3.S.pl vv = pn := hp
            have Hpl := hide (fun (j : Nat) (x : Int) (h : K3.S.order[j]? = some x) => I3.inv.wf.pl_at h)
            have Hpl3 := hide hpl3
            have Mv := hide mv
            clear hp hbest hpl3 dE dF
            go_wp2_with fail
            go_loopw [27, 28] (fun x27 x28 w2 => ∃ j t : Nat, x28 = .int .i64 j ∧ x27 = .int .i64 t ∧ j ≤ M'.n ∧ (pn < j → t = pn) ∧ w2 = Wj) (fun _ x28 _ => ((M'.n : Int) - intOf x28).toNat)
            case atStart => exact ⟨0, 0, rfl, rfl, by omega, fun h => by omega, rfl⟩
            case round =>
              obtain ⟨j, t, rfl, rfl, hj, htp, rfl⟩ := hrel
              by_cases hjl : j < M'.n
              · have hjI : (j : Int) < M'.n := by omega
                obtain ⟨x, hx⟩ : ∃ x, K3.S.order[j]? = some x := ⟨K3.S.order[j]'(by omega), List.getElem?_eq_getElem _⟩
                have cx := ownsRow_cell Obj.out hx
                by_cases jp : j = pn
                · subst jp
                  have ex : x = vv := by have := Hpv.out; rw [hx] at this; exact Option.some.inj this
                  subst ex
                  clear hx
                  go_wp2_with fail
                  go_roundw
                  · exact ⟨j + 1, j, by simp, rfl, by omega, fun _ => rfl, trivial⟩
                  · simp only [intOf]; omega
                · have hne : (x == (vv : Int)) = false := by
                    simp only [beq_eq_false_iff_ne, ne_eq]
                    intro e
                    have h1 := Hpl.out j x hx
                    rw [e, Hpl3.out] at h1
                    omega
                  clear hx
                  go_wp2_with fail
                  go_roundw
                  · exact ⟨j + 1, t, by simp, rfl, by omega, fun h => htp (by omega), trivial⟩
                  · simp only [intOf]; omega
              · have hjI : ¬ (j : Int) < M'.n := by omega
                have et := htp (by omega)
                subst et
                have hMj' := hide hMj
                go_wp2_with fail
                go_loopw [29] (fun x29 w2 => ∃ (i4 : Nat) (K4 : KS) (c : Int), x29 = .int .i64 i4 ∧ i4 ≤ t ∧ K4.S.pl vv = i4 ∧ Moved K2 K4 vv c ∧ MillAt w2 m' M' K4 ∧ K4.S.next ≤ K'.S.next + 500000 + (t - i4) * 6324 ∧ Below w.heap.size w w2) (fun x29 _ => (intOf x29).toNat)
                case atStart => exact ⟨t, K3, _, rfl, by omega, Hpl3.out, Mv.out, hMj'.out, by omega, bj⟩
                case round =>
                  clear bj hMj
                  obtain ⟨i4, K4, c, rfl, hi4, pl4, mv4, hM4, hx4, b4⟩ := hrel
                  have I4 := I2.re mv4.re
                  have hn4K : K4.S.n = K'.S.n := by rw [← I4.n]; exact I.n
                  have c0 := hM4.head.cell 0
                  simp at c0
                  by_cases hi0 : 0 < i4
                  · have hiI : (0 : Int) < i4 := by omega
                    have hsw := hide (kSwap_yes hM4.kern I4.inv ((i4 : Int) - 1) (by omega) (by rw [← I4.n]; omega) (by rw [hn4K]; omega))
                    go_wp2_with fail
                    refine hsw.out.mono ?_
                    rintro e W6 ⟨rfl, K6, hK6, re6, ho6, k6⟩
                    have hM6 := hM4.worked hK6 k6
                    have b6 : Below w.heap.size w W6 := b4.trans (k6.below b4.size ow)
                    have hup := mv4.up I4.inv.wf (by omega) (by rw [← I4.n]; omega) re6 (by rw [pl4]; omega) (by rw [ho6, pl4])
                    have hx6 := re6.next
                    rw [hn4K] at hx6
                    go_wp2_with fail
                    go_roundw
                    · exact ⟨i4 - 1, K6, _, by congr 1; omega, by omega, by rw [hup.2, pl4]; omega, hup.1, hM6, by omega, b6⟩
                    · simp only [intOf]; omega
                  · have hiI : ¬ (0 : Int) < i4 := by omega
                    have e4 : i4 = 0 := by omega
                    subst e4
                    clear c0
                    go_wp2_with fail
                    go_loopw [30] (fun x30 w2 => ∃ (j : Nat) (K5 : KS) (c : Int), x30 = .int .i64 j ∧ j ≤ M'.n ∧ (j < M'.n → K5.S.pl vv = j) ∧ Moved K2 K5 vv c ∧ MillAt w2 m' M' K5 ∧ K5.S.next ≤ K'.S.next + 600000 + j * 6324 ∧ Below w.heap.size w w2) (fun x30 _ => ((M'.n : Int) - intOf x30).toNat)
                    case atStart => exact ⟨0, K4, c, rfl, by omega, fun _ => pl4, mv4, hM4, by omega, b4⟩
                    case round =>
                      clear b4 hM4 mv4 pl4 hx4 I4 hn4K
                      obtain ⟨j, K5, c, rfl, hj, hpl5, mv5, hM5, hx5, b5⟩ := hrel
                      have I5 := I2.re mv5.re
                      have hn5K : K5.S.n = K'.S.n := by rw [← I5.n]; exact I.n
                      have c0 := hM5.head.cell 0
                      have c1 := hM5.head.cell 1
                      simp at c0 c1
                      by_cases hjl : j < M'.n
                      · have hjI : (j : Int) < M'.n := by omega
                        have pl5 := hpl5 hjl
                        have hlst := HbestL.out K5 c mv5 hM5.kern.nd j pl5
                        have hto5 := hide (ktotal_calls hM5.kern)
                        rw [← HT3.out] at hlst
                        generalize K5.S.N.length = t5 at hlst hto5
                        have hge : ¬ (t5 : Int) < T3 := by have := hlst.1; omega
                        have Hlst := hide hlst
                        clear hpl5 hlst
                        go_wp2_with fail
                        refine hto5.out.mono ?_
                        rintro e W5 ⟨rfl, rfl⟩
                        rcases (by omega : j < t ∨ j = t ∨ t < j) with h | h | h
                        · have hjp : (j : Int) < t := by omega
                          have hq := Hlst.out.2.1 (by omega)
                          have hne : ((t5 : Int) == (T3 : Int)) = false := by simp; omega
                          have hje : ((j : Int) == (t : Int)) = false := by simp; omega
                          clear hq
                          go_wp2_with fail
                          by_cases hjn : j + 1 < M'.n
                          · have hsw := hide (kSwap_yes hM5.kern I5.inv j (by omega) (by rw [← I5.n]; omega) (by rw [hn5K]; omega))
                            rw [Int.toNat_natCast] at hsw
                            refine hsw.out.mono ?_
                            rintro e W6 ⟨rfl, K6, hK6, re6, ho6, k6⟩
                            have hM6 := hM5.worked hK6 k6
                            have b6 : Below w.heap.size w W6 := b5.trans (k6.below b5.size ow)
                            have hdn := mv5.down I5.inv.wf (by omega) (by rw [← I5.n]; omega) re6 (by rw [pl5, ← I5.n]; omega) (by rw [ho6, pl5, Int.toNat_natCast])
                            have hx6 := re6.next
                            rw [hn5K] at hx6
                            go_wp2_with fail
                            go_roundw
                            · exact ⟨j + 1, K6, _, by simp, by omega, fun _ => by rw [hdn.2, pl5]; simp, hdn.1, hM6, by push_cast; omega, b6⟩
                            · simp only [intOf]; omega
                          · have hsw := hide (kSwap_no hM5.kern I5.inv j (by omega) (by rw [← I5.n]; omega))
                            refine hsw.out.mono ?_
                            rintro e W6 ⟨rfl, rfl⟩
                            go_wp2_with fail
                            go_roundw
                            · exact ⟨j + 1, K5, c, by simp, by omega, fun h => by omega, mv5, hM5, by push_cast; omega, b5⟩
                            · simp only [intOf]; omega
                        · have hq := Hlst.out.2.2 (by omega)
                          subst h
                          subst hq
                          go_wp2_with fail
                          by_cases hjn : j + 1 < M'.n
                          · have hsw := hide (kSwap_yes hM5.kern I5.inv j (by omega) (by rw [← I5.n]; omega) (by rw [hn5K]; omega))
                            rw [Int.toNat_natCast] at hsw
                            refine hsw.out.mono ?_
                            rintro e W6 ⟨rfl, K6, hK6, re6, ho6, k6⟩
                            have hM6 := hM5.worked hK6 k6
                            have b6 : Below w.heap.size w W6 := b5.trans (k6.below b5.size ow)
                            have hdn := mv5.down I5.inv.wf (by omega) (by rw [← I5.n]; omega) re6 (by rw [pl5, ← I5.n]; omega) (by rw [ho6, pl5, Int.toNat_natCast])
                            have hx6 := re6.next
                            rw [hn5K] at hx6
                            go_wp2_with fail
                            go_roundw
                            · exact ⟨j + 1, K6, _, by simp, by omega, fun _ => by rw [hdn.2, pl5]; simp, hdn.1, hM6, by push_cast; omega, b6⟩
                            · simp only [intOf]; omega
                          · have hsw := hide (kSwap_no hM5.kern I5.inv j (by omega) (by rw [← I5.n]; omega))
                            refine hsw.out.mono ?_
                            rintro e W6 ⟨rfl, rfl⟩
                            go_wp2_with fail
                            go_roundw
                            · exact ⟨j + 1, K5, c, by simp, by omega, fun h => by omega, mv5, hM5, by push_cast; omega, b5⟩
                            · simp only [intOf]; omega
                        · have hjp : ¬ (j : Int) < t := by omega
                          have hjd : decide ((j : Int) < t) = false := decide_eq_false hjp
                          have hje : ((j : Int) == (t : Int)) = false := by simp; omega
                          go_wp2_with fail
                          by_cases hjn : j + 1 < M'.n
                          · have hsw := hide (kSwap_yes hM5.kern I5.inv j (by omega) (by rw [← I5.n]; omega) (by rw [hn5K]; omega))
                            rw [Int.toNat_natCast] at hsw
                            refine hsw.out.mono ?_
                            rintro e W6 ⟨rfl, K6, hK6, re6, ho6, k6⟩
                            have hM6 := hM5.worked hK6 k6
                            have b6 : Below w.heap.size w W6 := b5.trans (k6.below b5.size ow)
                            have hdn := mv5.down I5.inv.wf (by omega) (by rw [← I5.n]; omega) re6 (by rw [pl5, ← I5.n]; omega) (by rw [ho6, pl5, Int.toNat_natCast])
                            have hx6 := re6.next
                            rw [hn5K] at hx6
                            go_wp2_with fail
                            go_roundw
                            · exact ⟨j + 1, K6, _, by simp, by omega, fun _ => by rw [hdn.2, pl5]; simp, hdn.1, hM6, by push_cast; omega, b6⟩
                            · simp only [intOf]; omega
                          · have hsw := hide (kSwap_no hM5.kern I5.inv j (by omega) (by rw [← I5.n]; omega))
                            refine hsw.out.mono ?_
                            rintro e W6 ⟨rfl, rfl⟩
                            go_wp2_with fail
                            go_roundw
                            · exact ⟨j + 1, K5, c, by simp, by omega, fun h => by omega, mv5, hM5, by push_cast; omega, b5⟩
                            · simp only [intOf]; omega
                      · have hjI : ¬ (j : Int) < M'.n := by omega
                        go_wp2_with fail
                        go_ret
                        exact ⟨rfl, b5⟩
      · have hnI : ¬ (1 : Int) < M'.n := by omega
        obtain ⟨K2, hK2⟩ : ∃ X, X = K' := ⟨_, rfl⟩
        have hMe : MillAt Wz m' M' K2 := by rw [hK2]; exact hMa
        have I2 : MI M' K2 := by rw [hK2]; exact I
        have Owe := Owa
        have be := ba
        have re2 : Re K' K2 0 := by rw [hK2]; exact Re.refl I.inv
        have Ho2 : Hid (K2.S.order = K'.S.order) := hide (by rw [hK2])
        clear hMa ba d0 d1 hto hK2
        have n8K : K2.S.n = M'.n := I2.n.symm
        obtain ⟨vv, evv, hvv⟩ := pk_nat which (n := M'.n) n1
        have pV := hide (fun w : World => pick_calls (w := w) which M'.n hwh.1 hwh.2 (by omega))
        rw [evv] at pV
        have hsn2 : swc K2.S.n = swc K'.S.n := by rw [n8K, I.n]
        have hsf := hide (ksift_calls hMe.kern I2.inv vv (by omega) (by rw [n8K]; omega) (by rw [hsn2]; have := re2.next; omega))
        have d0 : Wz.cell? ⟨m'.mb, 0, none⟩ = some (.pointer (some ⟨m'.b.k, 0, none⟩)) := hMe.head.cell 0
        have d1 : Wz.cell? ⟨m'.mb, 1, none⟩ = some (.int .i64 M'.n) := hMe.head.cell 1
        have dE := hMe.kern.nd
        clear evv
        go_wp2_with fail
        refine (pV.out _).mono ?_
        rintro e We ⟨rfl, rfl⟩
        go_wp2_with fail
        refine hsf.out.mono ?_
        rintro e Wf ⟨rfl, p, K3, hK3, mv, hp, hbest, kf⟩
        have hMf := hMe.worked hK3 kf
        have I3 := I2.re mv.re
        have owf := row_up hMe Owe.out Hba.out kf
        have bf : Below w.heap.size w Wf := be.trans (kf.below be.size ow)
        have dF := hMf.kern.nd
        have T3le : K3.S.N.length ≤ T0 := by
          have h1 := (hbest.least (by omega) (by rw [n8K]; omega) mv dF hp (q := K2.S.pl vv) (I2.inv.wf.pl_range (by omega) (by rw [n8K]; omega)).1 (I2.inv.wf.pl_range (by omega) (by rw [n8K]; omega)).2.1 (TotAt.here (Moved.refl I2.inv vv) dE)).1
          have h2 := total_eq I.inv hNd I2.inv dE re2.R re2.den Ho2.out
          have := HT0.out
          omega
        have hp0 := I3.inv.wf.pl_range (v := (vv : Int)) (by omega) (by rw [← I3.n]; omega)
        rw [hp] at hp0
        have hp1 : p < M'.n := by have := hp0.2.1; rw [← I3.n] at this; exact this
        obtain ⟨pn, hpn'⟩ := Int.eq_ofNat_of_zero_le hp0.1
        subst hpn'
        have hpv : K3.S.order[pn]? = some (vv : Int) := by have := hp0.2.2.1; rw [Int.toNat_natCast] at this; exact this
        have hto3 := hide (ktotal_calls hMf.kern)
        obtain ⟨T3, hT3⟩ : ∃ x, x = K3.S.N.length := ⟨_, rfl⟩
        rw [← hT3] at hto3 T3le
        have HT3 := hide hT3
        have c0 : Wf.cell? ⟨m'.mb, 0, none⟩ = some (.pointer (some ⟨m'.b.k, 0, none⟩)) := hMf.head.cell 0
        have ol3 : K3.S.order.length = M'.n := by rw [I3.n]; rfl
        have hord3 := hide (korder_calls hMf.kern I3.inv)
        rw [ol3] at hord3
        have hmbf := hMf.head.lt
        clear d0 d1 pV hsf hMe hK3 kf be hT3 hp0
        go_wp2_with fail
        refine hto3.out.mono ?_
        rintro e Wg ⟨rfl, rfl⟩
        go_wp2_with fail
        refine hord3.out.mono ?_
        rintro e Wh ⟨vh, rfl, owh, hKh, kh⟩
        obtain ⟨gh, ch, rfl⟩ := own_form owh (by omega)
        have hMh := hMf.keeps0 kh
        have owah := ownsRow_kept owf kh (by simp)
        have bh : Below w.heap.size w Wh := bf.trans (kh.below bf.size (by simp))
        have ht1 := hide (true1_calls hMh I3 n5 (by have := mv.re.next; have := re2.next; omega))
        have Owah := hide owah
        have Owh := hide owh
        clear c0 hto3 hord3 hMf bf owf owah owh hKh kh
        go_wp2_with fail
        refine ht1.out.mono ?_
        rintro e Wi ⟨rfl, hMi, ki⟩
        have oa := row_up hMh Owah.out Hba.out ki
        have ob := row_up hMh Owh.out (by omega) ki
        have bi : Below w.heap.size w Wi := bh.trans (ki.below bh.size ow)
        have hoth := hide (others_calls (ga := ga) (ca := ca) (gb := gh) (cb' := ch) K'.S.order K3.S.order vv (by rw [Hol.out]; exact oa) (by rw [ol3]; exact ob) (by rw [Hol.out, ol3]) (by rw [Hol.out]; omega) (by rw [mv.rest, Ho2.out]) (by have := (rest_at I.inv.wf (v := (vv : Int)) (by omega) (by rw [← I.n]; omega)).2; exact this))
        rw [Hol.out, ol3] at hoth
        have T3I : ¬ (T0 : Int) < T3 := by omega
        have Oa := hide oa
        have Ob := hide ob
        have Hpv := hide hpv
        clear ht1 hMh ki oa ob bh hpv
        go_wp2_with fail
        refine hoth.out.mono ?_
        rintro e Wj ⟨rfl, kj⟩
        have hMj := hMi.keeps0 kj
        have obj := ownsRow_kept Ob.out kj (by simp)
        have bj : Below w.heap.size w Wj := bi.trans (kj.below bi.size (by simp))
        have Obj := hide obj
        have c1 : Wj.cell? ⟨m'.mb, 1, none⟩ = some (.int .i64 M'.n) := hMj.head.cell 1
        clear hoth hMi bi kj obj
        have HbestL := hide (fun (K4 : KS) (c : Int) (m4 : Moved K2 K4 vv c) (d4 : Nd K4) (q : Int) (hq : K4.S.pl vv = q) => hbest.at (by omega) (by rw [n8K]; omega) mv dF hp m4 d4 hq)
        have hx3 : K3.S.next ≤ K'.S.next + 500000 := by have := mv.re.next; rw [hsn2] at this; have := re2.next; omega
        have hpl3 : K3.S.pl vv = pn := hp
        have Hpl := hide (fun (j : Nat) (x : Int) (h : K3.S.order[j]? = some x) => I3.inv.wf.pl_at h)
        have Hpl3 := hide hpl3
        have Mv := hide mv
        clear hp hbest hpl3 dE dF
        go_wp2_with fail
        go_loopw [27, 28] (fun x27 x28 w2 => ∃ j t : Nat, x28 = .int .i64 j ∧ x27 = .int .i64 t ∧ j ≤ M'.n ∧ (pn < j → t = pn) ∧ w2 = Wj) (fun _ x28 _ => ((M'.n : Int) - intOf x28).toNat)
        case atStart => exact ⟨0, 0, rfl, rfl, by omega, fun h => by omega, rfl⟩
        case round =>
          obtain ⟨j, t, rfl, rfl, hj, htp, rfl⟩ := hrel
          by_cases hjl : j < M'.n
          · have hjI : (j : Int) < M'.n := by omega
            obtain ⟨x, hx⟩ : ∃ x, K3.S.order[j]? = some x := ⟨K3.S.order[j]'(by omega), List.getElem?_eq_getElem _⟩
            have cx := ownsRow_cell Obj.out hx
            by_cases jp : j = pn
            · subst jp
              have ex : x = vv := by have := Hpv.out; rw [hx] at this; exact Option.some.inj this
              subst ex
              clear hx
              go_wp2_with fail
              go_roundw
              · exact ⟨j + 1, j, by simp, rfl, by omega, fun _ => rfl, trivial⟩
              · simp only [intOf]; omega
            · exfalso; omega
          · have hjI : ¬ (j : Int) < M'.n := by omega
            have et := htp (by omega)
            subst et
            have hMj' := hide hMj
            go_wp2_with fail
            go_loopw [29] (fun x29 w2 => ∃ (i4 : Nat) (K4 : KS) (c : Int), x29 = .int .i64 i4 ∧ i4 ≤ t ∧ K4.S.pl vv = i4 ∧ Moved K2 K4 vv c ∧ MillAt w2 m' M' K4 ∧ K4.S.next ≤ K'.S.next + 500000 + (t - i4) * 6324 ∧ Below w.heap.size w w2) (fun x29 _ => (intOf x29).toNat)
            case atStart => exact ⟨t, K3, _, rfl, by omega, Hpl3.out, Mv.out, hMj'.out, by omega, bj⟩
            case round =>
              clear bj hMj
              obtain ⟨i4, K4, c, rfl, hi4, pl4, mv4, hM4, hx4, b4⟩ := hrel
              have I4 := I2.re mv4.re
              have hn4K : K4.S.n = K'.S.n := by rw [← I4.n]; exact I.n
              have c0 := hM4.head.cell 0
              simp at c0
              by_cases hi0 : 0 < i4
              · exfalso; omega
              · have hiI : ¬ (0 : Int) < i4 := by omega
                have e4 : i4 = 0 := by omega
                subst e4
                clear c0
                go_wp2_with fail
                go_loopw [30] (fun x30 w2 => ∃ (j : Nat) (K5 : KS) (c : Int), x30 = .int .i64 j ∧ j ≤ M'.n ∧ (j < M'.n → K5.S.pl vv = j) ∧ Moved K2 K5 vv c ∧ MillAt w2 m' M' K5 ∧ K5.S.next ≤ K'.S.next + 600000 + j * 6324 ∧ Below w.heap.size w w2) (fun x30 _ => ((M'.n : Int) - intOf x30).toNat)
                case atStart => exact ⟨0, K4, c, rfl, by omega, fun _ => pl4, mv4, hM4, by omega, b4⟩
                case round =>
                  clear b4 hM4 mv4 pl4 hx4 I4 hn4K
                  obtain ⟨j, K5, c, rfl, hj, hpl5, mv5, hM5, hx5, b5⟩ := hrel
                  have I5 := I2.re mv5.re
                  have hn5K : K5.S.n = K'.S.n := by rw [← I5.n]; exact I.n
                  have c0 := hM5.head.cell 0
                  have c1 := hM5.head.cell 1
                  simp at c0 c1
                  by_cases hjl : j < M'.n
                  · have hjI : (j : Int) < M'.n := by omega
                    have pl5 := hpl5 hjl
                    have hlst := HbestL.out K5 c mv5 hM5.kern.nd j pl5
                    have hto5 := hide (ktotal_calls hM5.kern)
                    rw [← HT3.out] at hlst
                    generalize K5.S.N.length = t5 at hlst hto5
                    have hge : ¬ (t5 : Int) < T3 := by have := hlst.1; omega
                    have Hlst := hide hlst
                    clear hpl5 hlst
                    go_wp2_with fail
                    refine hto5.out.mono ?_
                    rintro e W5 ⟨rfl, rfl⟩
                    rcases (by omega : j < t ∨ j = t ∨ t < j) with h | h | h
                    · exfalso; omega
                    · have hq := Hlst.out.2.2 (by omega)
                      subst h
                      subst hq
                      go_wp2_with fail
                      by_cases hjn : j + 1 < M'.n
                      · exfalso; omega
                      · have hsw := hide (kSwap_no hM5.kern I5.inv j (by omega) (by rw [← I5.n]; omega))
                        refine hsw.out.mono ?_
                        rintro e W6 ⟨rfl, rfl⟩
                        go_wp2_with fail
                        go_roundw
                        · exact ⟨j + 1, K5, c, by simp, by omega, fun h => by omega, mv5, hM5, by push_cast; omega, b5⟩
                        · simp only [intOf]; omega
                    · exfalso; omega
                  · have hjI : ¬ (j : Int) < M'.n := by omega
                    go_wp2_with fail
                    go_ret
                    exact ⟨rfl, b5⟩

end Go.Proofs.Ytgjomknpjigkhaa
