/- Texts: PR. -/
import Derived.Test.YtgjomknpjigkhaaGreatDoorT33
namespace Go.Proofs.YtgjomknpjigkhaaGreatDoor
open Go.RowKit

theorem kind_finN (g : Sg) : (rkind g != 101) = !isFinG g := by cases g <;> rfl
theorem kind_wordW (g : Sg) : (rkind g == 119) = (isDomG g || isRelG g) := by cases g <;> rfl

/-- What the grammar says of the terms of an item. -/
def ItemT : ItemI → Prop
  | .clause a ls => (∀ t ∈ a.terms, isTermG t.g = true) ∧ ∀ l ∈ ls, ∀ t ∈ l.atom.terms, isTermG t.g = true
  | _ => True

/-- The state at the head of the round. -/
def SnSt (w wr : World) (P : Nat) (tkv : Value) (is is' : List ItemI) (RR : Except Flt Mean) : Prop :=
  (∃ m cs dv rv kv rvs kcs, SnR w wr P tkv m cs dv rv kv rvs kcs none ∧ cs ++ clausesI is' = clausesI is ∧ senseS m is' = RR) ∨ ∃ fl : Flt, fl.1 ≠ 0 ∧ (∃ a b c, CellsAt wr P #[a, b, c, tkv, .int .i64 fl.1, .int .i64 fl.2]) ∧ Keeps [P] w wr ∧ RR = .error fl

theorem SnSt.of {w W : World} {P : Nat} {tkv : Value} {cs : List (AtomI × List LitI)} {x : ItemI} {is is' : List ItemI} {m : Mean} {RR : Except Flt Mean} {cs' : List (AtomI × List LitI)} (h : ItTo w W P tkv cs' (addItem m x)) (hc : cs ++ clausesI (x :: is') = clausesI is) (hcs : cs' = cs ++ clauseI x) (hR : senseS m (x :: is') = RR) : SnSt w W P tkv is is' RR := by
  simp only [senseS] at hR
  cases hA : addItem m x with
  | error fl =>
    rw [hA] at h hR
    obtain ⟨h1, h2, h3⟩ := h
    exact .inr ⟨fl, h1, h2, h3, hR.symm⟩
  | ok m' =>
    rw [hA] at h hR
    obtain ⟨dv, rv, kv, rvs, kcs, h⟩ := h
    refine .inl ⟨m', cs', dv, rv, kv, rvs, kcs, h, ?_, hR⟩
    rw [hcs, ← hc, List.append_assoc]
    congr 1
    cases x <;> rfl

/-- A column more. -/
theorem col_push {wb W4 W5 : World} {P RB k g cap : Nat} {pcs : Array Value} {s x rdv : Value} {vals : List Value} (hP : P < wb.heap.size) (hRB : wb.heap.size ≤ RB) (hc : CellsAt W4 P pcs) (k4 : Keeps [P] wb W4) (hR : CellsAt W4 RB #[s, rdv]) (hrow : W4.ownsRow (RB + 1) 3 1 rdv k vals) (hown : W5.ownsRow (RB + 1) 3 1 (.slice (some ⟨g, 0, none⟩) (k + 1) cap) (k + 1) (vals ++ [x])) (hg : W4.grownBy W5 rdv.ownBlock) : CellsAt W5 RB #[s, rdv] ∧ CellsAt (W5.setCell ⟨RB, 1, none⟩ (.slice (some ⟨g, 0, none⟩) (k + 1) cap)) P pcs ∧ Keeps [P] wb (W5.setCell ⟨RB, 1, none⟩ (.slice (some ⟨g, 0, none⟩) (k + 1) cap)) ∧ CellsAt (W5.setCell ⟨RB, 1, none⟩ (.slice (some ⟨g, 0, none⟩) (k + 1) cap)) RB #[s, .slice (some ⟨g, 0, none⟩) (k + 1) cap] ∧ (W5.setCell ⟨RB, 1, none⟩ (.slice (some ⟨g, 0, none⟩) (k + 1) cap)).ownsRow (RB + 1) 3 1 (.slice (some ⟨g, 0, none⟩) (k + 1) cap) (k + 1) (vals ++ [x]) := by
  have k5 := grownBy_keeps' hg (ownL rdv) (fun r e => .inl (by simp [ownL, e]))
  have kS := Keeps.setCell W5 ⟨RB, 1, none⟩ (.slice (some ⟨g, 0, none⟩) (k + 1) cap)
  have kall := (k5.mono (T' := RB :: ownL rdv) (fun i hi => by simp [hi])).trans (kS.mono (T' := RB :: ownL rdv) (fun i hi => by have e : i = RB := (by simpa using hi); simp [e]))
  have hl : ∀ j ∈ ownL rdv, RB + 1 ≤ j := fun j hj => (ownL_at hrow j hj).1
  have hR5 := hR.keeps k5 (fun q => by have := hl RB q; omega)
  refine ⟨hR5, hc.keeps kall (fun q => ?_), k4.trans_new kall (fun j hj => .inr ?_), hR5.setCell 1 _, ownsRow_kept hown kS (fun i hi q => ?_)⟩
  · rcases List.mem_cons.1 q with q | q
    · omega
    · have := hl P q; omega
  · rcases List.mem_cons.1 hj with q | q
    · omega
    · have := hl j q; omega
  · have e : i = RB := by simpa using q
    have := (ownE_lt hown i hi).1
    omega

set_option maxRecDepth 100000 in
set_option maxHeartbeats 16000000 in
theorem sense_calls {w : World} {P tb gt tc : Nat} {toks : List Tn} {is : List ItemI} (htl : toks.length ≤ 1000000) (hwf : ∀ t ∈ toks, WfE t.g) (hat : ItemsAt toks 0 is) (hit : ∀ x ∈ is, ItemT x) (hP : CellsAt w P #[.slice none 0 0, .slice none 0 0, .slice none 0 0, (.slice (some ⟨gt, 0, none⟩) toks.length tc), .int .i64 0, .int .i64 0]) (hsz : w.heap.size = P + 1) (htk : w.ownsRow tb 245 4 (.slice (some ⟨gt, 0, none⟩) toks.length tc) toks.length (rtCs toks)) (hgP : gt ≠ P) : Calls Tryz.prog 230 #[.pointer (some ⟨P, 0, none⟩)] w fun e w' => e = .returned (.tuple #[]) ∧ SensTo w' P (.slice (some ⟨gt, 0, none⟩) toks.length tc) is (senseS emptyM is) ∧ Keeps [P] w w' := by
  obtain ⟨i0, hi0, hz0, hz1, hz2⟩ := info_parts info3
  obtain ⟨i5, hi5, hy0, hy1, hy2⟩ := info_parts info314Q
  obtain ⟨i6, hi6, hx0, hx1, hx2⟩ := info_parts info264Q
  have hT : ∀ W, Keeps [P] w W → W.ownsRow tb 245 4 (.slice (some ⟨gt, 0, none⟩) toks.length tc) toks.length (rtCs toks) := fun W k => ownsRow_kept htk k (fun j hj => by
    have e : gt = j := by simpa [Value.ownBlock] using hj
    simp
    omega)
  have HTr := hide hT
  have HT := hide (fun (W : World) (k : Keeps [P] w W) (q : Nat) (t : Tn) (hq : toks[q]? = some t) => ownTok (hT W k) hq)
  have hgt0 : gt < w.heap.size := (ownE_lt htk gt rfl).2
  have hPl := hP.lt
  have c3 := hP.cell 3
  generalize hRR : senseS emptyM is = RR
  have HRR := hide hRR
  have Hwf := hide hwf
  have Hat := hide hat
  have Hit := hide hit
  have HS0 : Hid (SnR w w P (.slice (some ⟨gt, 0, none⟩) toks.length tc) emptyM [] (.slice none 0 0) (.slice none 0 0) (.slice none 0 0) [] [] none) := hide ⟨hsz, hP, ⟨World.ownsRow_nil .., by simp, World.ownsRow_nil .., by simp, rfl⟩, World.ownsRow_nil .., rfl, Keeps.refl _ _, MeanOk.empty⟩
  have Hsz := hide hsz
  clear hRR hwf hat hit hP hT htk hsz
  go_enter Tryz.func230, Tryz.ntmps230
  go_wp2_with fail
  go_loopw [3] (fun x wr => ∃ (q : Nat) (is' : List ItemI), x = .int .i64 q ∧ ItemsAt toks q is' ∧ (∀ x ∈ is', ItemT x) ∧ SnSt w wr P (.slice (some ⟨gt, 0, none⟩) toks.length tc) is is' RR) (fun x _ => toks.length - (intOf x).toNat)
  case atStart => exact ⟨0, is, rfl, Hat.out, Hit.out, .inl ⟨emptyM, [], _, _, _, _, _, HS0.out, rfl, HRR.out⟩⟩
  case round =>
    clear HS0 HRR Hat Hit c3
    obtain ⟨q, is', rfl, hat, hit, hst⟩ := hrel
    obtain ⟨t, htq, htf⟩ := hat.tok
    have hqL : q < toks.length := (List.getElem?_eq_some_iff.1 htq).1
    have hqI : (q : Int) < toks.length := by omega
    have hkf := kind_finN t.g
    rw [htf] at hkf
    have hkw := kind_wordW t.g
    rcases hst with ⟨m, cs, dv, rv, kv, rvs, kcs, hS, hcs, hres⟩ | ⟨fl, hfl, ⟨a, b, c, hC⟩, kw, hRE⟩
    · obtain ⟨k0, k1, k2, k3⟩ := HT.out _ hS.keep q t htq
      have hgtr : gt < wr.heap.size := by have := hS.keep.size; omega
      have p4 := hS.cells.cell 4
      have hPr := hS.cells.lt
      cases is' with
      | nil =>
        have hke : (rkind t.g != 101) = false := by rw [hkf]; rfl
        have HEnd : Hid (SensTo wr P (.slice (some ⟨gt, 0, none⟩) toks.length tc) is RR) := hide (by
          rw [← hres]
          obtain ⟨ra, rc, hrv⟩ := ownE_len hS.mn.rels
          have hcs' : cs = clausesI is := by rw [← hcs]; simp [clausesI]
          exact ⟨dv, rv, kv, kcs, ⟨hS.cells, ⟨ra, rc, hrv⟩, by rw [← hcs']; exact hS.krow, by rw [← hcs']; exact hS.rcs⟩⟩)
        have HK := hide hS.keep
        clear hS hcs hres hkf hkw
        go_wp2_with fail
        go_end0
        exact ⟨rfl, HEnd.out, HK.out⟩
      | cons x xs =>
        have hke : (rkind t.g != 101) = true := by rw [hkf]; rfl
        obtain ⟨nx, hx, hqn, hxs⟩ := hat
        have hnL : nx < toks.length := by obtain ⟨t', h1, _⟩ := hxs.tok; exact (List.getElem?_eq_some_iff.1 h1).1
        have Hxs := hide hxs
        have Hitx := hide (hit x (by simp))
        have Hits := hide (fun y (hy : y ∈ xs) => hit y (by simp [hy]))
        have Hres := hide hres
        have Hres0 := hide hres
        have Hcs := hide hcs
        have HS := hide hS
        have hqn' : q < nx := hqn
        obtain ⟨da, dc, hdv⟩ := ownE_len hS.mn.doms
        obtain ⟨ra, rc, hrv⟩ := ownE_len hS.mn.rels
        subst hdv
        subst hrv
        have hok4 := hS.ok.doms
        have hok6 := hS.ok.rels
        have hKr := hS.keep
        clear hres hcs hxs hit hkf
        cases x with
        | clause a ls =>
          as_aux_lemma =>
            obtain ⟨ht1, ht2⟩ := Hitx.out
            have hword : (rkind t.g == 119) = false := by
              obtain ⟨h1, h2, _⟩ := hx
              rw [h1.name] at htq
              cases htq
              rw [hkw]
              cases hg : a.name.g <;> rw [hg] at h2 <;> first | rfl | cases h2
            have hcall := hide (clauseR_calls hS.mn hS.ok (Nat.lt_succ_self P) (by have := hS.keep.size; have := Hsz.out; omega) hS.cells hS.krow hS.rcs (HTr.out _ hS.keep) hgP htl Hwf.out hx ht1 ht2)
            clear hkw hx hS ht1 ht2
            go_wp2_with fail
            refine hcall.out.mono ?_
            rintro e w7 ⟨rfl, hTo, hK⟩
            have HSt : Hid (SnSt w w7 P (.slice (some ⟨gt, 0, none⟩) toks.length tc) is xs RR) := hide (SnSt.of (x := .clause a ls) (HS.out.clause hTo hK) Hcs.out rfl Hres.out)
            clear hTo hK
            go_wp2_with fail
            go_roundw
            · exact ⟨nx, xs, rfl, Hxs.out, Hits.out, HSt.out⟩
            · simp only [intOf]; omega
        | dom n z =>
          as_aux_lemma =>
            obtain ⟨⟨td, htd, hdg⟩, hn1, hz1', rfl⟩ := hx
            rw [htd] at htq
            cases htq
            have htg : t.g = .dom := by cases hg : t.g <;> rw [hg] at hdg <;> first | rfl | cases hdg
            have hword : (rkind t.g == 119) = true := by rw [htg]; rfl
            have hdomt : ((txt t.g).toList == [100, 111, 109]) = true := by rw [toList_beq]; exact decide_eq_true (by rw [htg]; rfl)
            have hnL1 : q + 1 < toks.length := (List.getElem?_eq_some_iff.1 hn1).1
            have hnI1 : (q : Int) + 1 < toks.length := by omega
            have hnI2 : (q : Int) + 2 < toks.length := by omega
            obtain ⟨n0, n1, n2, n3⟩ := HT.out _ hKr (q + 1) n hn1
            have kN := Keeps.alloc [] wr (.cells #[.int .u8 (rkind n.g), .string (txt n.g), .int .i64 (numOf n.g), .int .i64 n.line] 245)
            have hN := CellsAt.new wr #[.int .u8 (rkind n.g), .string (txt n.g), .int .i64 (numOf n.g), .int .i64 n.line] 245
            have hS1 := hS.kept kN
            have p0 := hS1.cells.cell 0
            have x0 := hN.cell 0
            have x1 := hN.cell 1
            have x2 := hN.cell 2
            have x3 := hN.cell 3
            have hwr := hide (fun (bb : Bool) => wrongG_calls (w := (wr.alloc (.cells #[.int .u8 (rkind n.g), .string (txt n.g), .int .i64 (numOf n.g), .int .i64 n.line] 245)).drew) (P := P) (f := none) FOk.none (rkind n.g) (numOf n.g) n.line (txt n.g) bb 6 (hS1.cells.keeps (Keeps.drew [] _) (by simp)))
            have Hz1 := hide hz1'
            have HN := hide hN
            clear htg hdg hkw hn1 hz1' hN hS1 hS htd
            go_upto_region 5 with fail
            refine wp_region_quiet_tail 8 (by kernel_rfl) (by kernel_rfl) ?_
            simp only [List.take_succ_cons, List.take_zero, List.drop_succ_cons, List.drop_zero]
            repeat (go_big_quiet_step (fail))
            refine wpQuiet_nil ?_
            go_wp2_with fail
            refine (hwr.out _).mono ?_
            rintro e w6 ⟨rfl, hC6, k6, _⟩
            generalize hF6 : wrong none ((m.doms.length : Int) == 4) 6 n.line = f6 at hC6
            have Hf6 : Hid (FOk f6) := hide (by rw [← hF6]; exact FOk.none.wrong _ (by decide))
            have HF6 : Hid (wrong none (decide (m.doms.length = 4)) 6 n.line = f6) := hide (by
              rw [← hF6]
              congr 1
              by_cases h : m.doms.length = 4
              · simp [h]
              · have h2 : ¬ (m.doms.length : Int) = 4 := by omega
                simp [h, h2])
            have k6' := (Keeps.drew [P] _).trans k6
            have K6 := hide ((kN.mono (T' := [P]) (by simp)).trans k6')
            have HS6 := hide (HS.out.from K6.out hC6)
            have hNc := HN.out.keeps k6' (by simp; omega)
            generalize hNN : wr.heap.size = N at *
            have HNN := hide hNN
            have hgt6 : gt < w6.heap.size := by have := K6.out.size; omega
            have hP6 := hC6.lt
            have hN6 := hNc.lt
            clear hF6 k6 k6' hC6 hwr n0 n1 n2 n3 p0 x0 x1 x2 x3 kN HN k0 k1 k2 k3 p4
            have hNl := hNc.cell 0
            have x0 := hNc.cell 0
            have x1 := hNc.cell 1
            have x2 := hNc.cell 2
            have x3 := hNc.cell 3
            have hSd := HS6.out.kept (Keeps.drew [] w6)
            have hdom := hide (rdom_at hSd.mn (hSd.cells.cell 0) (by have := hSd.ok.doms; omega) (txt n.g))
            have hrel := hide (rrel_at hSd.mn (hSd.cells.cell 1) (by have := hSd.ok.rels; omega) (txt n.g))
            have hwr := hide (fun (bb : Bool) => wrongG_calls (w := w6.drew) (P := P) Hf6.out (rkind n.g) (numOf n.g) n.line (txt n.g) bb 7 hSd.cells)
            generalize hF7 : wrong f6 (m.taken (txt n.g)) 7 n.line = f7
            have HF7 := hide hF7
            have Hf7 : Hid (FOk f7) := hide (by rw [← hF7]; exact Hf6.out.wrong _ (by decide))
            clear hSd hF7 hNl
            go_upto_region 6 with fail
            go_cut [] (fun wd => CellsAt wd P #[.slice da m.doms.length dc, .slice ra m.rels.length rc, kv, .slice (some ⟨gt, 0, none⟩) toks.length tc, .int .i64 (fC f7).1, .int .i64 (fC f7).2] ∧ Keeps [P] w6 wd)
            case first =>
              as_aux_lemma =>
                cases hd : m.dom (txt n.g) with
                | some d =>
                  rw [hd] at hdom
                  have hdom2 : Hid (Calls Tryz.prog 273 #[.pointer (some ⟨P, 0, none⟩), .string (txt n.g)] w6.drew fun e w' => e = .returned (.int .i64 (d : Int)) ∧ w' = w6.drew) := hdom
                  have hd0 : decide ((0 : Int) ≤ (d : Int)) = true := by simp
                  have htk2 : m.taken (txt n.g) = true := by simp [Mean.taken, hd]
                  have HF7b : Hid (wrong f6 true 7 n.line = f7) := hide (by rw [← HF7.out, htk2])
                  clear hdom hd htk2 HF7
                  refine wp_region_quiet_tail 14 (by kernel_rfl) (by kernel_rfl) ?_
                  simp only [List.take_succ_cons, List.take_zero, List.drop_succ_cons, List.drop_zero]
                  repeat (first | go_big_quiet_step (fail) | (go_big_quiet_want; go_big_quiet_op; apply Exists.intro; refine And.intro (hdom2.out) ?_; go_big_quiet_on) | (go_big_quiet_want; go_big_quiet_op; apply Exists.intro; refine And.intro (hrel.out) ?_; go_big_quiet_on))
                  refine wpQuiet_nil ?_
                  go_wp2_with fail
                  refine (hwr.out _).mono ?_
                  rintro e w9 ⟨rfl, hC9, k9, _⟩
                  have HC9 := hide hC9
                  have K9 := hide ((Keeps.drew [P] w6).trans k9)
                  clear hC9 k9
                  go_wp2_with fail
                  go_meet
                  exact ⟨by rw [← HF7b.out]; exact HC9.out, K9.out⟩
                | none =>
                  rw [hd] at hdom
                  have hdom2 : Hid (Calls Tryz.prog 273 #[.pointer (some ⟨P, 0, none⟩), .string (txt n.g)] w6.drew fun e w' => e = .returned (.int .i64 (-1)) ∧ w' = w6.drew) := hdom
                  have hd0 : decide ((0 : Int) ≤ (-1 : Int)) = false := by decide
                  have htk2 : m.taken (txt n.g) = decide (0 ≤ plInt (m.rel (txt n.g))) := by
                    simp only [Mean.taken, hd, Option.isSome_none, Bool.false_or]
                    cases m.rel (txt n.g) with
                    | none => rfl
                    | some r => simp [plInt]
                  have HF7b : Hid (wrong f6 (decide (0 ≤ plInt (m.rel (txt n.g)))) 7 n.line = f7) := hide (by rw [← HF7.out, htk2])
                  generalize plInt (m.rel (txt n.g)) = ρ at *
                  clear hdom hd htk2 HF7
                  refine wp_region_quiet_tail 14 (by kernel_rfl) (by kernel_rfl) ?_
                  simp only [List.take_succ_cons, List.take_zero, List.drop_succ_cons, List.drop_zero]
                  repeat (first | go_big_quiet_step (fail) | (go_big_quiet_want; go_big_quiet_op; apply Exists.intro; refine And.intro (hdom2.out) ?_; go_big_quiet_on) | (go_big_quiet_want; go_big_quiet_op; apply Exists.intro; refine And.intro (hrel.out) ?_; go_big_quiet_on))
                  refine wpQuiet_nil ?_
                  go_wp2_with fail
                  refine (hwr.out _).mono ?_
                  rintro e w9 ⟨rfl, hC9, k9, _⟩
                  have HC9 := hide hC9
                  have K9 := hide ((Keeps.drew [P] w6).trans k9)
                  clear hC9 k9
                  go_wp2_with fail
                  go_meet
                  exact ⟨by rw [← HF7b.out]; exact HC9.out, K9.out⟩
            case rest =>
              obtain ⟨hC7, k7⟩ := hcut
              rename World => w7
              have K7 := hide (K6.out.trans k7)
              have hNc7 := hNc.keeps k7 (by simp; omega)
              obtain ⟨z0, z1, z2, z3⟩ := HT.out _ (hKr.trans K7.out) (q + 2) z Hz1.out
              have hwr := hide (fun (bb : Bool) => wrongG_calls (w := w7.drew) (P := P) Hf7.out (rkind z.g) (numOf z.g) z.line (txt z.g) bb 9 (hC7.keeps (Keeps.drew [] _) (by simp)))
              generalize hF9 : wrong f7 (decide (numOf z.g < 1 ∨ 8 < numOf z.g)) 9 z.line = f9
              have HF9 := hide hF9
              have HNc7 := hide hNc7
              have hgt7 : gt < w7.heap.size := by have := k7.size; omega
              have hP7 := hC7.lt
              clear hF9 hC7 k7 hNc7 hNc hdom hrel HS6
              go_upto_region 7 with fail
              go_cut [] (fun wd => CellsAt wd P #[.slice da m.doms.length dc, .slice ra m.rels.length rc, kv, .slice (some ⟨gt, 0, none⟩) toks.length tc, .int .i64 (fC f9).1, .int .i64 (fC f9).2] ∧ Keeps [P] w7 wd)
              case first =>
                as_aux_lemma =>
                  by_cases hz : numOf z.g < 1
                  · have hb1 : decide (numOf z.g < 1) = true := by simp [hz]
                    have HF9b : Hid (wrong f7 true 9 z.line = f9) := hide (by rw [← HF9.out]; simp [hz])
                    clear HF9
                    refine wp_region_quiet_tail 22 (by kernel_rfl) (by kernel_rfl) ?_
                    simp only [List.take_succ_cons, List.take_zero, List.drop_succ_cons, List.drop_zero]
                    repeat (go_big_quiet_step (fail))
                    refine wpQuiet_nil ?_
                    go_wp2_with fail
                    refine (hwr.out _).mono ?_
                    rintro e w9 ⟨rfl, hC9, k9, _⟩
                    have HC9 := hide hC9
                    have K9 := hide ((Keeps.drew [P] w7).trans k9)
                    clear hC9 k9
                    go_wp2_with fail
                    go_meet
                    exact ⟨by rw [← HF9b.out]; exact HC9.out, K9.out⟩
                  · have hb1 : decide (numOf z.g < 1) = false := by simp [hz]
                    have HF9b : Hid (wrong f7 (decide (8 < numOf z.g)) 9 z.line = f9) := hide (by rw [← HF9.out]; simp [hz])
                    clear HF9
                    refine wp_region_quiet_tail 22 (by kernel_rfl) (by kernel_rfl) ?_
                    simp only [List.take_succ_cons, List.take_zero, List.drop_succ_cons, List.drop_zero]
                    repeat (go_big_quiet_step (fail))
                    refine wpQuiet_nil ?_
                    go_wp2_with fail
                    refine (hwr.out _).mono ?_
                    rintro e w9 ⟨rfl, hC9, k9, _⟩
                    have HC9 := hide hC9
                    have K9 := hide ((Keeps.drew [P] w7).trans k9)
                    clear hC9 k9
                    go_wp2_with fail
                    go_meet
                    exact ⟨by rw [← HF9b.out]; exact HC9.out, K9.out⟩
              case rest =>
                obtain ⟨hC8, k8⟩ := hcut
                rename World => w8
                have K8 := hide (K7.out.trans k8)
                have hNc8 := HNc7.out.keeps k8 (by simp; omega)
                obtain ⟨z0, z1, z2, z3⟩ := HT.out _ (hKr.trans K8.out) (q + 2) z Hz1.out
                have kA := Keeps.alloc [] w8 (.cells #[.string (txt n.g), .int .i64 (numOf z.g)] 314)
                have p0 := hC8.cell 0
                have p0' := (hC8.keeps kA (by simp)).cell 0
                have x1 := hNc8.cell 1
                have rowA := ownsRow_kept (HS.out.from K8.out hC8).mn.doms kA (by simp)
                have Hdf : Hid (domR m n z = f9) := hide (by unfold domR; rw [HF6.out, HF7.out, HF9.out])
                have hgt8 : gt < w8.heap.size := by have := k8.size; omega
                have hP8 := hC8.lt
                have hN8 := hNc8.lt
                have HC8 := hide hC8
                have HNc8 := hide hNc8
                clear hC8 hNc8 hwr HNc7 k8
                go_upto_region 8 with fail
                clear z0 z1 z2 z3
                obtain ⟨Q2, hQ2⟩ : ∃ Q2, Q2 = q + 2 := ⟨_, rfl⟩
                have hwq : IntKind.i64.wrap ((q : Int) + 2) = (Q2 : Int) := by rw [IntKind.wrap_i64]; omega
                have hQI : (Q2 : Int) < toks.length := by omega
                have hQ0 : (0 : Int) ≤ (Q2 : Int) := by omega
                obtain ⟨_, _, z2, _⟩ := HT.out _ (hKr.trans K8.out) Q2 z (by rw [hQ2]; exact Hz1.out)
                obtain ⟨_, _, z2', _⟩ := HT.out _ ((hKr.trans K8.out).trans (kA.mono (T' := [P]) (by simp))) Q2 z (by rw [hQ2]; exact Hz1.out)
                have HQ2 := hide hQ2
                have x1' := (HNc8.out.keeps kA (by simp)).cell 1
                have hdvl : ∀ j ∈ ownL (.slice da m.doms.length dc), P + 1 ≤ j ∧ j < N := fun j hj => by rw [← HNN.out]; exact ownL_at HS.out.mn.doms j hj
                have Hdvl := hide hdvl
                clear hQ2 hdvl
                have F1 : w8.drew.cell? ⟨P, 0, none⟩ = some (.slice da m.doms.length dc) ∧ w8.drew.cell? ⟨N, 1, none⟩ = some (.string (txt n.g)) ∧ w8.drew.cell? ⟨gt, Q2 * 4 + 2, none⟩ = some (.int .i64 (numOf z.g)) := ⟨p0, x1, z2⟩
                have F2 : (w8.alloc (.cells #[.string (txt n.g), .int .i64 (numOf z.g)] 314)).drew.cell? ⟨P, 0, none⟩ = some (.slice da m.doms.length dc) ∧ (w8.alloc (.cells #[.string (txt n.g), .int .i64 (numOf z.g)] 314)).drew.cell? ⟨N, 1, none⟩ = some (.string (txt n.g)) ∧ (w8.alloc (.cells #[.string (txt n.g), .int .i64 (numOf z.g)] 314)).drew.cell? ⟨gt, Q2 * 4 + 2, none⟩ = some (.int .i64 (numOf z.g)) := ⟨p0', x1', z2'⟩
                have HF1 := hide F1
                have HF2 := hide F2
                clear F1 F2 p0 p0' x1 x1' z2 z2'
                refine wp_region_Z 18 (fun w' => w'.cell? ⟨P, 0, none⟩ = some (.slice da m.doms.length dc) ∧ w'.cell? ⟨N, 1, none⟩ = some (.string (txt n.g)) ∧ w'.cell? ⟨gt, Q2 * 4 + 2, none⟩ = some (.int .i64 (numOf z.g))) (by kernel_rfl) ?_
                refine wpAnyZ_take (i := 0) (oi := { dst := some 91, op := Go.Op.move (Go.Operand.tmp 0), type := 235, pos := "sense.go:56", after := #[], guard := none }) (v := ?_) rfl (by kernel_rfl) (by kernel_rfl) (by kernel_rfl) (by kernel_rfl) (fun _ _ _ h => h) (Or.inl ⟨by rfl, ?_⟩) HF1.out ?_
                rotate_left
                · (intro w' hSw; obtain ⟨sP, sN, sT⟩ := hSw; go_simp; try with_reducible rfl)
                simp only [Act.put, List.setIfInBounds_toArray, List.set_cons_zero, List.set_cons_succ]
                refine wpAnyZ_take (i := 1) (oi := { dst := some 92, op := Go.Op.move (Go.Operand.tmp 0), type := 235, pos := "sense.go:56", after := #[], guard := none }) (v := ?_) rfl (by kernel_rfl) (by kernel_rfl) (by kernel_rfl) (by kernel_rfl) (fun _ _ _ h => h) (Or.inl ⟨by rfl, ?_⟩) HF1.out ?_
                rotate_left
                · (intro w' hSw; obtain ⟨sP, sN, sT⟩ := hSw; go_simp; try with_reducible rfl)
                simp only [Act.put, List.setIfInBounds_toArray, List.set_cons_zero, List.set_cons_succ]
                refine wpAnyZ_take (i := 2) (oi := { dst := some 93, op := Go.Op.nilCheck (Go.Operand.tmp 92), type := 0, pos := "sense.go:56", after := #[{ on := 1, ground := Go.Ground.data }], guard := none }) (v := ?_) rfl (by kernel_rfl) (by kernel_rfl) (by kernel_rfl) (by kernel_rfl) (fun _ _ _ h => h) (Or.inl ⟨by rfl, ?_⟩) HF1.out ?_
                rotate_left
                · (intro w' hSw; obtain ⟨sP, sN, sT⟩ := hSw; go_simp; try with_reducible rfl)
                simp only [Act.put, List.setIfInBounds_toArray, List.set_cons_zero, List.set_cons_succ]
                refine wpAnyZ_take (i := 3) (oi := { dst := some 94, op := Go.Op.fieldAddr 243 (Go.Operand.tmp 93) 0, type := 0, pos := "sense.go:56", after := #[{ on := 2, ground := Go.Ground.data }], guard := none }) (v := ?_) rfl (by kernel_rfl) (by kernel_rfl) (by kernel_rfl) (by kernel_rfl) (fun _ _ _ h => h) (Or.inl ⟨by rfl, ?_⟩) HF1.out ?_
                rotate_left
                · (intro w' hSw; obtain ⟨sP, sN, sT⟩ := hSw; go_simp; try with_reducible rfl)
                simp only [Act.put, List.setIfInBounds_toArray, List.set_cons_zero, List.set_cons_succ]
                refine wpAnyZ_take (i := 4) (oi := { dst := some 95, op := Go.Op.load 238 (Go.Operand.tmp 94), type := 238, pos := "sense.go:56", after := #[{ on := 3, ground := Go.Ground.data }], guard := none }) (v := ?_) rfl (by kernel_rfl) (by kernel_rfl) (by kernel_rfl) (by kernel_rfl) (fun _ _ _ h => h) (Or.inl ⟨by rfl, ?_⟩) HF1.out ?_
                rotate_left
                · (intro w' hSw; obtain ⟨sP, sN, sT⟩ := hSw; go_simp; try with_reducible rfl)
                simp only [Act.put, List.setIfInBounds_toArray, List.set_cons_zero, List.set_cons_succ]
                refine wpAnyZ_take (i := 5) (oi := { dst := some 96, op := Go.Op.fieldAddr 245 (Go.Operand.tmp 4) 1, type := 0, pos := "sense.go:56", after := #[], guard := none }) (v := ?_) rfl (by kernel_rfl) (by kernel_rfl) (by kernel_rfl) (by kernel_rfl) (fun _ _ _ h => h) (Or.inl ⟨by rfl, ?_⟩) HF1.out ?_
                rotate_left
                · (intro w' hSw; obtain ⟨sP, sN, sT⟩ := hSw; go_simp; try with_reducible rfl)
                simp only [Act.put, List.setIfInBounds_toArray, List.set_cons_zero, List.set_cons_succ]
                refine wpAnyZ_take (i := 6) (oi := { dst := some 97, op := Go.Op.load 9 (Go.Operand.tmp 96), type := 9, pos := "sense.go:56", after := #[{ on := 5, ground := Go.Ground.data }], guard := none }) (v := ?_) rfl (by kernel_rfl) (by kernel_rfl) (by kernel_rfl) (by kernel_rfl) (fun _ _ _ h => h) (Or.inl ⟨by rfl, ?_⟩) HF1.out ?_
                rotate_left
                · (intro w' hSw; obtain ⟨sP, sN, sT⟩ := hSw; go_simp; try with_reducible rfl)
                simp only [Act.put, List.setIfInBounds_toArray, List.set_cons_zero, List.set_cons_succ]
                refine wpAnyZ_take (i := 7) (oi := { dst := some 98, op := Go.Op.move (Go.Operand.tmp 2), type := 241, pos := "sense.go:56", after := #[], guard := none }) (v := ?_) rfl (by kernel_rfl) (by kernel_rfl) (by kernel_rfl) (by kernel_rfl) (fun _ _ _ h => h) (Or.inl ⟨by rfl, ?_⟩) HF1.out ?_
                rotate_left
                · (intro w' hSw; obtain ⟨sP, sN, sT⟩ := hSw; go_simp; try with_reducible rfl)
                simp only [Act.put, List.setIfInBounds_toArray, List.set_cons_zero, List.set_cons_succ]
                refine wpAnyZ_take (i := 8) (oi := { dst := some 99, op := Go.Op.move (Go.Operand.tmp 3), type := 3, pos := "sense.go:56", after := #[], guard := none }) (v := ?_) rfl (by kernel_rfl) (by kernel_rfl) (by kernel_rfl) (by kernel_rfl) (fun _ _ _ h => h) (Or.inl ⟨by rfl, ?_⟩) HF1.out ?_
                rotate_left
                · (intro w' hSw; obtain ⟨sP, sN, sT⟩ := hSw; go_simp; try with_reducible rfl)
                simp only [Act.put, List.setIfInBounds_toArray, List.set_cons_zero, List.set_cons_succ]
                refine wpAnyZ_take (i := 9) (oi := { dst := some 100, op := Go.Op.binOp Go.BinOp.add 3 (Go.Operand.tmp 99) (Go.Operand.const (Go.Value.int Go.IntKind.i64 2)) 3, type := 3, pos := "sense.go:56", after := #[{ on := 8, ground := Go.Ground.data }], guard := none }) (v := ?_) rfl (by kernel_rfl) (by kernel_rfl) (by kernel_rfl) (by kernel_rfl) (fun _ _ _ h => h) (Or.inl ⟨by rfl, ?_⟩) HF1.out ?_
                rotate_left
                · (intro w' hSw; obtain ⟨sP, sN, sT⟩ := hSw; go_simp; try with_reducible rfl)
                simp only [Act.put, List.setIfInBounds_toArray, List.set_cons_zero, List.set_cons_succ]
                refine wpAnyZ_take (i := 10) (oi := { dst := some 101, op := Go.Op.indexAddr 241 (Go.Operand.tmp 98) (Go.Operand.tmp 100), type := 0, pos := "sense.go:56", after := #[{ on := 7, ground := Go.Ground.data }, { on := 9, ground := Go.Ground.data }], guard := none }) (v := ?_) rfl (by kernel_rfl) (by kernel_rfl) (by kernel_rfl) (by kernel_rfl) (fun _ _ _ h => h) (Or.inl ⟨by rfl, ?_⟩) HF1.out ?_
                rotate_left
                · (intro w' hSw; obtain ⟨sP, sN, sT⟩ := hSw; go_simp; try with_reducible rfl)
                simp only [Act.put, List.setIfInBounds_toArray, List.set_cons_zero, List.set_cons_succ]
                refine wpAnyZ_take (i := 11) (oi := { dst := some 102, op := Go.Op.fieldAddr 245 (Go.Operand.tmp 101) 2, type := 0, pos := "sense.go:56", after := #[{ on := 10, ground := Go.Ground.data }], guard := none }) (v := ?_) rfl (by kernel_rfl) (by kernel_rfl) (by kernel_rfl) (by kernel_rfl) (fun _ _ _ h => h) (Or.inl ⟨by rfl, ?_⟩) HF1.out ?_
                rotate_left
                · (intro w' hSw; obtain ⟨sP, sN, sT⟩ := hSw; go_simp; try with_reducible rfl)
                simp only [Act.put, List.setIfInBounds_toArray, List.set_cons_zero, List.set_cons_succ]
                refine wpAnyZ_take (i := 12) (oi := { dst := some 103, op := Go.Op.load 3 (Go.Operand.tmp 102), type := 3, pos := "sense.go:56", after := #[{ on := 11, ground := Go.Ground.data }], guard := none }) (v := ?_) rfl (by kernel_rfl) (by kernel_rfl) (by kernel_rfl) (by kernel_rfl) (fun _ _ _ h => h) (Or.inl ⟨by rfl, ?_⟩) HF1.out ?_
                rotate_left
                · (intro w' hSw; obtain ⟨sP, sN, sT⟩ := hSw; go_simp; try with_reducible rfl)
                simp only [Act.put, List.setIfInBounds_toArray, List.set_cons_zero, List.set_cons_succ]
                refine wpAnyZ_take (i := 13) (oi := { dst := some 104, op := Go.Op.build 314 #[(0, Go.Operand.tmp 97), (1, Go.Operand.tmp 103)], type := 314, pos := "sense.go:56", after := #[{ on := 6, ground := Go.Ground.data }, { on := 12, ground := Go.Ground.data }], guard := none }) (v := ?_) rfl (by kernel_rfl) (by kernel_rfl) (by kernel_rfl) (by kernel_rfl) (fun _ _ _ h => h) (Or.inl ⟨by rfl, ?_⟩) HF1.out ?_
                rotate_left
                · (intro w' hSw; obtain ⟨sP, sN, sT⟩ := hSw; go_simp; try with_reducible rfl)
                simp only [Act.put, List.setIfInBounds_toArray, List.set_cons_zero, List.set_cons_succ]
                refine wpAnyZ_one (i := 14) (o := { dst := some 105, op := Go.Op.buildSlice 238 1 #[(0, Go.Operand.tmp 104)], type := 238, pos := "sense.go:56", after := #[{ on := 13, ground := Go.Ground.data }], guard := none }) (by kernel_rfl) rfl ?_
                intro K hK
                have HK14 := hide hK
                clear hK
                rw [if_pos (by rfl)]
                go_simp
                refine HK14.out _ _ (fun _ => HF2.out) ?_
                clear HK14
                try simp only [Act.put, List.setIfInBounds_toArray, List.set_cons_zero, List.set_cons_succ]
                refine wpAnyZ_one (i := 15) (o := { dst := some 106, op := Go.Op.call { callee := Go.Callee.builtin Go.Builtin.append, args := #[Go.Operand.tmp 95, Go.Operand.tmp 105], argTypes := #[238, 238] }, type := 238, pos := "sense.go:56", after := #[{ on := 4, ground := Go.Ground.data }, { on := 14, ground := Go.Ground.data }], guard := none }) (by kernel_rfl) rfl ?_
                intro K hK
                have HK15 := hide hK
                clear hK
                refine step_append_lies _ (by rfl) _ _ _ (by rfl) (P + 1) 314 i5 _ 2 24 Tryz.underlying238 hi5 hy0 hy1 hy2 rfl (by omega) (.slice da m.doms.length dc) m.doms.length (domCs m.doms) (by rfl) (ownsRow_kept rowA (Keeps.drew [] _) (by simp)) ⟨w8.heap.size, 0, none⟩ 1 1 [.string (txt n.g), .int .i64 (numOf z.g)] (by rfl) (by rfl) (two_cells (W := w8)) (by simp [Value.oneCell']) (by omega) (by unfold maxLen; omega) (by omega) (by show P + 1 ≤ (w8.alloc _).heap.size; rw [sizeE_alloc]; omega) (w8.heap.size + 1) (by show (w8.alloc _).heap.size = _; rw [sizeE_alloc]) ?_
                intro g9 cap9 w9 hown9 hgrow hat hlt9
                obtain ⟨hP9, hTo⟩ := HS.out.dom (f := f9) (K8.out.trans ((kA.mono (T' := [P]) (by simp)).trans (Keeps.drew _ _))) ((HC8.out.keeps kA (by simp)).keeps (Keeps.drew [] _) (by simp)) Hdf.out hown9 hgrow (by rcases hat with q | q; exact .inl q; exact .inr (by rw [q]; show _ = (w8.alloc _).heap.size; rw [sizeE_alloc]))
                have HSt := hide (SnSt.of (x := .dom n z) (is := is) (is' := xs) (RR := RR) hTo Hcs.out (by simp [clauseI]) Hres.out)
                have e0 := hP9.cell 0
                have f0 := hP9.frozen 0
                have k9 := grownBy_keeps' hgrow (ownL (.slice da m.doms.length dc)) (fun r e => .inl (by simp [ownL, e]))
                have HF3 : Hid (w9.cell? ⟨P, 0, none⟩ = some (.slice da m.doms.length dc) ∧ w9.cell? ⟨N, 1, none⟩ = some (.string (txt n.g)) ∧ w9.cell? ⟨gt, Q2 * 4 + 2, none⟩ = some (.int .i64 (numOf z.g))) := hide ⟨e0, (((HNc8.out.keeps kA (by simp)).keeps (Keeps.drew [] _) (by simp)).keeps k9 (fun q => by have := (Hdvl.out N q).2; omega)).cell 1, (ownTok (ownsRow_kept (HTr.out _ ((hKr.trans K8.out).trans ((kA.mono (T' := [P]) (by simp)).trans (Keeps.drew _ _)))) k9 (fun j hj q => by have e : gt = j := (by simpa [Value.ownBlock] using hj); have := (Hdvl.out j q).1; have := Hsz.out; omega)) (by rw [HQ2.out]; exact Hz1.out)).2.2.1⟩
                clear hTo hP9 k9 hown9 hgrow hat hlt9 hwq
                refine HK15.out _ _ (fun _ => HF3.out) ?_
                clear HK15
                try simp only [Act.put, List.setIfInBounds_toArray, List.set_cons_zero, List.set_cons_succ]
                refine wpAnyZ_one (i := 16) (o := { dst := some 107, op := Go.Op.nilCheck (Go.Operand.tmp 91), type := 0, pos := "sense.go:56", after := #[{ on := 0, ground := Go.Ground.data }, { on := 0, ground := Go.Ground.phase }, { on := 1, ground := Go.Ground.phase }, { on := 2, ground := Go.Ground.phase }, { on := 3, ground := Go.Ground.phase }, { on := 4, ground := Go.Ground.phase }, { on := 5, ground := Go.Ground.phase }, { on := 6, ground := Go.Ground.phase }, { on := 7, ground := Go.Ground.phase }, { on := 8, ground := Go.Ground.phase }, { on := 9, ground := Go.Ground.phase }, { on := 10, ground := Go.Ground.phase }, { on := 11, ground := Go.Ground.phase }, { on := 12, ground := Go.Ground.phase }, { on := 13, ground := Go.Ground.phase }, { on := 14, ground := Go.Ground.phase }, { on := 15, ground := Go.Ground.phase }], guard := none }) (by kernel_rfl) rfl ?_
                intro K hK
                have HK16 := hide hK
                clear hK
                rw [if_pos (by rfl)]
                go_simp
                refine HK16.out _ _ (fun _ => HF3.out) ?_
                clear HK16
                try simp only [Act.put, List.setIfInBounds_toArray, List.set_cons_zero, List.set_cons_succ]
                refine wpAnyZ_one (i := 17) (o := { dst := some 108, op := Go.Op.fieldAddr 243 (Go.Operand.tmp 107) 0, type := 0, pos := "sense.go:56", after := #[{ on := 16, ground := Go.Ground.data }, { on := 0, ground := Go.Ground.phase }, { on := 1, ground := Go.Ground.phase }, { on := 2, ground := Go.Ground.phase }, { on := 3, ground := Go.Ground.phase }, { on := 4, ground := Go.Ground.phase }, { on := 5, ground := Go.Ground.phase }, { on := 6, ground := Go.Ground.phase }, { on := 7, ground := Go.Ground.phase }, { on := 8, ground := Go.Ground.phase }, { on := 9, ground := Go.Ground.phase }, { on := 10, ground := Go.Ground.phase }, { on := 11, ground := Go.Ground.phase }, { on := 12, ground := Go.Ground.phase }, { on := 13, ground := Go.Ground.phase }, { on := 14, ground := Go.Ground.phase }, { on := 15, ground := Go.Ground.phase }], guard := none }) (by kernel_rfl) rfl ?_
                intro K hK
                have HK17 := hide hK
                clear hK
                rw [if_pos (by rfl)]
                go_simp
                refine HK17.out _ _ (fun _ => HF3.out) ?_
                clear HK17
                try simp only [Act.put, List.setIfInBounds_toArray, List.set_cons_zero, List.set_cons_succ]
                refine wpAnyZ_one (i := 18) (o := { dst := none, op := Go.Op.store 238 (Go.Operand.tmp 108) (Go.Operand.tmp 106), type := 0, pos := "sense.go:56", after := #[{ on := 17, ground := Go.Ground.data }, { on := 15, ground := Go.Ground.data }, { on := 15, ground := Go.Ground.chain }, { on := 0, ground := Go.Ground.phase }, { on := 1, ground := Go.Ground.phase }, { on := 2, ground := Go.Ground.phase }, { on := 3, ground := Go.Ground.phase }, { on := 4, ground := Go.Ground.phase }, { on := 5, ground := Go.Ground.phase }, { on := 6, ground := Go.Ground.phase }, { on := 7, ground := Go.Ground.phase }, { on := 8, ground := Go.Ground.phase }, { on := 9, ground := Go.Ground.phase }, { on := 10, ground := Go.Ground.phase }, { on := 11, ground := Go.Ground.phase }, { on := 12, ground := Go.Ground.phase }, { on := 13, ground := Go.Ground.phase }, { on := 14, ground := Go.Ground.phase }, { on := 15, ground := Go.Ground.phase }], guard := none }) (by kernel_rfl) rfl ?_
                intro K hK
                have HK18 := hide hK
                clear hK
                rw [if_pos (by rfl)]
                go_simp
                refine HK18.out _ _ (fun h => absurd rfl h) ?_
                clear HK18
                refine wpAnyZ_done (by kernel_rfl) ?_
                go_wp2_with fail
                go_roundw
                · exact ⟨q + 4, xs, by simp, Hxs.out, Hits.out, HSt.out⟩
                · simp only [intOf]; omega
        | rel n cols =>
          as_aux_lemma =>
            obtain ⟨⟨td, htd, hdg⟩, hn1, hlist, rfl⟩ := hx
            rw [htd] at htq
            cases htq
            have htg : t.g = .rel := by cases hg : t.g <;> rw [hg] at hdg <;> first | rfl | cases hdg
            have hword : (rkind t.g == 119) = true := by rw [htg]; rfl
            have hdomt : ((txt t.g).toList == [100, 111, 109]) = false := by rw [toList_beq]; exact decide_eq_false (by rw [htg]; decide)
            have hnL1 : q + 1 < toks.length := (List.getElem?_eq_some_iff.1 hn1).1
            have hnI1 : (q : Int) + 1 < toks.length := by omega
            obtain ⟨n0, n1, n2, n3⟩ := HT.out _ hKr (q + 1) n hn1
            have kN := Keeps.alloc [] wr (.cells #[.int .u8 (rkind n.g), .string (txt n.g), .int .i64 (numOf n.g), .int .i64 n.line] 245)
            have hN := CellsAt.new wr #[.int .u8 (rkind n.g), .string (txt n.g), .int .i64 (numOf n.g), .int .i64 n.line] 245
            have hS1 := hS.kept kN
            have p1 := hS1.cells.cell 1
            have x0 := hN.cell 0
            have x1 := hN.cell 1
            have x2 := hN.cell 2
            have x3 := hN.cell 3
            have hwr := hide (fun (bb : Bool) => wrongG_calls (w := (wr.alloc (.cells #[.int .u8 (rkind n.g), .string (txt n.g), .int .i64 (numOf n.g), .int .i64 n.line] 245)).drew) (P := P) (f := none) FOk.none (rkind n.g) (numOf n.g) n.line (txt n.g) bb 6 (hS1.cells.keeps (Keeps.drew [] _) (by simp)))
            have Hlist := hide hlist
            have HN := hide hN
            clear htg hdg hkw hn1 hlist hN hS1 hS htd
            go_upto_region 12 with fail
            refine wp_region_quiet_tail 8 (by kernel_rfl) (by kernel_rfl) ?_
            simp only [List.take_succ_cons, List.take_zero, List.drop_succ_cons, List.drop_zero]
            repeat (go_big_quiet_step (fail))
            refine wpQuiet_nil ?_
            go_wp2_with fail
            refine (hwr.out _).mono ?_
            rintro e w6 ⟨rfl, hC6, k6, _⟩
            generalize hF6 : wrong none ((m.rels.length : Int) == 6) 6 n.line = f6 at hC6
            have Hf6 : Hid (FOk f6) := hide (by rw [← hF6]; exact FOk.none.wrong _ (by decide))
            have HF6 : Hid (wrong none (decide (m.rels.length = 6)) 6 n.line = f6) := hide (by
              rw [← hF6]
              congr 1
              by_cases h : m.rels.length = 6
              · simp [h]
              · have h2 : ¬ (m.rels.length : Int) = 6 := by omega
                simp [h, h2])
            have k6' := (Keeps.drew [P] _).trans k6
            have K6 := hide ((kN.mono (T' := [P]) (by simp)).trans k6')
            have HS6 := hide (HS.out.from K6.out hC6)
            have hNc := HN.out.keeps k6' (by simp; omega)
            have hWb : P < wr.heap.size := hPr
            generalize hNN : wr.heap.size = N at *
            have HNN := hide hNN
            have hgt6 : gt < w6.heap.size := by have := K6.out.size; omega
            have hP6 := hC6.lt
            have hN6 := hNc.lt
            clear hF6 k6 k6' hC6 hwr n0 n1 n2 n3 p1 x0 x1 x2 x3 kN HN k0 k1 k2 k3 p4
            have hNl := hNc.cell 0
            have x0 := hNc.cell 0
            have x1 := hNc.cell 1
            have x2 := hNc.cell 2
            have x3 := hNc.cell 3
            have hSd := HS6.out.kept (Keeps.drew [] w6)
            have hdom := hide (rdom_at hSd.mn (hSd.cells.cell 0) (by have := hSd.ok.doms; omega) (txt n.g))
            have hrel := hide (rrel_at hSd.mn (hSd.cells.cell 1) (by have := hSd.ok.rels; omega) (txt n.g))
            have hwr := hide (fun (bb : Bool) => wrongG_calls (w := w6.drew) (P := P) Hf6.out (rkind n.g) (numOf n.g) n.line (txt n.g) bb 7 hSd.cells)
            generalize hF7 : wrong f6 (m.taken (txt n.g)) 7 n.line = f7
            have HF7 := hide hF7
            have Hf7 : Hid (FOk f7) := hide (by rw [← hF7]; exact Hf6.out.wrong _ (by decide))
            clear hSd hF7 hNl
            go_upto_region 13 with fail
            go_cut [] (fun wd => CellsAt wd P #[.slice da m.doms.length dc, .slice ra m.rels.length rc, kv, .slice (some ⟨gt, 0, none⟩) toks.length tc, .int .i64 (fC f7).1, .int .i64 (fC f7).2] ∧ Keeps [P] w6 wd)
            case first =>
              as_aux_lemma =>
                cases hd : m.dom (txt n.g) with
                | some d =>
                  rw [hd] at hdom
                  have hdom2 : Hid (Calls Tryz.prog 273 #[.pointer (some ⟨P, 0, none⟩), .string (txt n.g)] w6.drew fun e w' => e = .returned (.int .i64 (d : Int)) ∧ w' = w6.drew) := hdom
                  have hd0 : decide ((0 : Int) ≤ (d : Int)) = true := by simp
                  have htk2 : m.taken (txt n.g) = true := by simp [Mean.taken, hd]
                  have HF7b : Hid (wrong f6 true 7 n.line = f7) := hide (by rw [← HF7.out, htk2])
                  clear hdom hd htk2 HF7
                  refine wp_region_quiet_tail 14 (by kernel_rfl) (by kernel_rfl) ?_
                  simp only [List.take_succ_cons, List.take_zero, List.drop_succ_cons, List.drop_zero]
                  repeat (first | go_big_quiet_step (fail) | (go_big_quiet_want; go_big_quiet_op; apply Exists.intro; refine And.intro (hdom2.out) ?_; go_big_quiet_on) | (go_big_quiet_want; go_big_quiet_op; apply Exists.intro; refine And.intro (hrel.out) ?_; go_big_quiet_on))
                  refine wpQuiet_nil ?_
                  go_wp2_with fail
                  refine (hwr.out _).mono ?_
                  rintro e w9 ⟨rfl, hC9, k9, _⟩
                  have HC9 := hide hC9
                  have K9 := hide ((Keeps.drew [P] w6).trans k9)
                  clear hC9 k9
                  go_wp2_with fail
                  go_meet
                  exact ⟨by rw [← HF7b.out]; exact HC9.out, K9.out⟩
                | none =>
                  rw [hd] at hdom
                  have hdom2 : Hid (Calls Tryz.prog 273 #[.pointer (some ⟨P, 0, none⟩), .string (txt n.g)] w6.drew fun e w' => e = .returned (.int .i64 (-1)) ∧ w' = w6.drew) := hdom
                  have hd0 : decide ((0 : Int) ≤ (-1 : Int)) = false := by decide
                  have htk2 : m.taken (txt n.g) = decide (0 ≤ plInt (m.rel (txt n.g))) := by
                    simp only [Mean.taken, hd, Option.isSome_none, Bool.false_or]
                    cases m.rel (txt n.g) with
                    | none => rfl
                    | some r => simp [plInt]
                  have HF7b : Hid (wrong f6 (decide (0 ≤ plInt (m.rel (txt n.g)))) 7 n.line = f7) := hide (by rw [← HF7.out, htk2])
                  generalize plInt (m.rel (txt n.g)) = ρ at *
                  clear hdom hd htk2 HF7
                  refine wp_region_quiet_tail 14 (by kernel_rfl) (by kernel_rfl) ?_
                  simp only [List.take_succ_cons, List.take_zero, List.drop_succ_cons, List.drop_zero]
                  repeat (first | go_big_quiet_step (fail) | (go_big_quiet_want; go_big_quiet_op; apply Exists.intro; refine And.intro (hdom2.out) ?_; go_big_quiet_on) | (go_big_quiet_want; go_big_quiet_op; apply Exists.intro; refine And.intro (hrel.out) ?_; go_big_quiet_on))
                  refine wpQuiet_nil ?_
                  go_wp2_with fail
                  refine (hwr.out _).mono ?_
                  rintro e w9 ⟨rfl, hC9, k9, _⟩
                  have HC9 := hide hC9
                  have K9 := hide ((Keeps.drew [P] w6).trans k9)
                  clear hC9 k9
                  go_wp2_with fail
                  go_meet
                  exact ⟨by rw [← HF7b.out]; exact HC9.out, K9.out⟩
            case rest =>
              obtain ⟨hC7, k7⟩ := hcut
              rename World => w7
              have K7 := hide (K6.out.trans k7)
              have hNc7 := hNc.keeps k7 (by simp; omega)
              have x1 := hNc7.cell 1
              have kR := Keeps.alloc [] w7 (.cells #[.string (txt n.g), .slice none 0 0] 264)
              have hR7 := CellsAt.new w7 #[.string (txt n.g), .slice none 0 0] 264
              have HR7 := hide hR7
              have HC7 := hide (hC7.keeps kR (by simp))
              have K7R := hide (K7.out.trans (kR.mono (T' := [P]) (by simp)))
              have hRB : N ≤ w7.heap.size := by have := K7.out.size; have := HNN.out; omega
              have hP7 := hC7.lt
              generalize hFF : colsR m f7 0 cols = FF
              have HFF := hide hFF
              have HRf : Hid (relR m n cols = FF) := hide (by unfold relR; rw [HF6.out, HF7.out]; exact hFF)
              have hcn : 0 < cols.length := List.length_pos_iff.2 Hlist.out.some
              clear hFF hC7 k7 hNc7 hNc hdom hrel HS6 hwr hR7 kR HF7 HF6
              go_wp2_with fail
              clear x1
              go_loopw [3] (fun x wr2 => ∃ (q2 k : Nat) (f : FltO) (rdv : Value), x = .int .i64 q2 ∧ q2 = q + 3 + 2 * k ∧ k < cols.length ∧ FOk f ∧ CellsAt wr2 P #[.slice da m.doms.length dc, .slice ra m.rels.length rc, kv, .slice (some ⟨gt, 0, none⟩) toks.length tc, .int .i64 (fC f).1, .int .i64 (fC f).2] ∧ Keeps [P] wr wr2 ∧ CellsAt wr2 w7.heap.size #[.string (txt n.g), rdv] ∧ wr2.ownsRow (w7.heap.size + 1) 3 1 rdv k ((cols.take k).map (fun (c : Tn) => Value.int .i64 (plInt (m.dom (txt c.g))))) ∧ w7.heap.size + 1 ≤ wr2.heap.size ∧ colsR m f k (cols.drop k) = FF) (fun x _ => q + 3 + 2 * cols.length - (intOf x).toNat)
              case atStart => exact ⟨q + 3, 0, f7, _, by simp, by simp, hcn, Hf7.out, HC7.out, K7R.out, HR7.out, World.ownsRow_nil .., by rw [sizeE_alloc]; omega, by rw [List.drop_zero]; exact HFF.out⟩
              case round =>
                clear HC7 K7R HR7 HFF Hf7
                obtain ⟨q2, k, f, rdv, rfl, hq2, hk, hfo, hC, kwo, hR, hrow, hsz2, hres⟩ := hrel
                obtain ⟨c, hc⟩ : ∃ c, cols[k]? = some c := ⟨_, List.getElem?_eq_getElem hk⟩
                have hdc : cols.drop k = c :: cols.drop (k + 1) := by
                  rw [List.drop_eq_getElem_cons hk]
                  congr 1
                  rw [List.getElem?_eq_getElem hk] at hc
                  exact Option.some.inj hc
                have htk1 : cols.take (k + 1) = cols.take k ++ [c] := by rw [List.take_add_one, hc]; rfl
                have hq1 : toks[q2]? = some c := by
                  rw [← Hlist.out.elem k c hc]
                  congr 1
                  omega
                obtain ⟨s, hs1, hs2⟩ := Hlist.out.sep k hk
                have hqs : toks[q2 + 1]? = some s := by
                  rw [← hs1]
                  congr 1
                  omega
                have hqsL : q2 + 1 < toks.length := (List.getElem?_eq_some_iff.1 hqs).1
                have hq2I : (q2 : Int) < toks.length := by omega
                have hq2J : (q2 : Int) + 1 < toks.length := by omega
                obtain ⟨rda, rdc, hrd⟩ := ownE_len hrow
                subst hrd
                have kW := hKr.trans kwo
                obtain ⟨c0, c1, c2, c3⟩ := HT.out _ kW q2 c hq1
                have hSr := HS.out.from kwo hC
                have hdom := hide (rdom_at hSr.mn (hSr.cells.cell 0) (by have := hSr.ok.doms; omega) (txt c.g))
                have r1 := hR.cell 1
                have hwr := hide (fun (bb : Bool) => wrongG_calls (w := wr.drew) (P := P) hfo (rkind c.g) (numOf c.g) c.line (txt c.g) bb 6 (hC.keeps (Keeps.drew [] _) (by simp)))
                have hgtr2 : gt < wr.heap.size := by have := kW.size; omega
                have hPr2 := hC.lt
                have hRr2 := hR.lt
                rw [hdc, colsR] at hres
                have HC := hide hC
                have HR := hide hR
                have Hrow := hide hrow
                have Hres := hide hres
                have Hq2 := hide hq2
                have Hk := hide hk
                have Hfo := hide hfo
                have Hq1 := hide hq1
                have Hqs := hide hqs
                have Hs2 := hide hs2
                have Htk1 := hide htk1
                have KW := hide kW
                have KWO := hide kwo
                have hkl : k ≤ 1000000 := by omega
                have hisN : decide (plInt (m.dom (txt c.g)) < 0) = (m.dom (txt c.g)).isNone := by
                  cases m.dom (txt c.g) with
                  | none => rfl
                  | some d => exact decide_eq_false (by simp only [plInt]; omega)
                have HisN := hide hisN
                generalize hδ : plInt (m.dom (txt c.g)) = δ at *
                have Hδ := hide hδ
                clear hSr hC hR hrow hres hq2 hk hfo hq1 hqs hs1 hs2 htk1 kW kwo hδ hisN hdc hc hqsL
                rename World => wq
                go_wp2_with fail
                refine hdom.out.mono ?_
                rintro e w1 ⟨rfl, rfl⟩
                go_upto_region 17 with fail
                refine wp_region_quiet_tail 9 (by kernel_rfl) (by kernel_rfl) ?_
                simp only [List.take_succ_cons, List.take_zero, List.drop_succ_cons, List.drop_zero]
                repeat (go_big_quiet_step (fail))
                refine wpQuiet_nil ?_
                go_wp2_with fail
                refine (hwr.out _).mono ?_
                rintro e w8 ⟨rfl, hC8, k8, _⟩
                generalize hF8 : wrong f ((k : Int) == 3) 6 c.line = f8 at hC8
                have Hf8 : Hid (FOk f8) := hide (by rw [← hF8]; exact Hfo.out.wrong _ (by decide))
                have HF8 : Hid (wrong f (decide (k = 3)) 6 c.line = f8) := hide (by
                  rw [← hF8]
                  congr 1
                  by_cases h : k = 3
                  · simp [h]
                  · have h2 : ¬ (k : Int) = 3 := by omega
                    simp [h, h2])
                have k8' := (Keeps.drew [P] _).trans k8
                obtain ⟨c0, c1, c2, c3⟩ := HT.out _ (KW.out.trans k8') q2 c Hq1.out
                have hwr8 := hide (fun (bb : Bool) => wrongG_calls (w := w8) (P := P) Hf8.out (rkind c.g) (numOf c.g) c.line (txt c.g) bb 8 hC8)
                have hgt8 : gt < w8.heap.size := by have := k8'.size; omega
                have HR8 := hide (HR.out.keeps k8' (by simp; omega))
                have Hrow8 := hide (ownsRow_kept Hrow.out k8' (fun j hj => by have := (ownE_lt Hrow.out j hj).1; simp; omega))
                have K8 := hide k8'
                clear hF8 hC8 k8 k8' r1 hwr hdom
                go_wp2_with fail
                refine (hwr8.out _).mono ?_
                rintro e w9 ⟨rfl, hC9, k9, _⟩
                generalize hF9 : wrong f8 (decide (δ < 0)) 8 c.line = f9 at hC9
                have Hf9 : Hid (FOk f9) := hide (by rw [← hF9]; exact Hf8.out.wrong _ (by decide))
                have Hres9 : Hid (colsR m f9 (k + 1) (cols.drop (k + 1)) = FF) := hide (by rw [← Hres.out, HF8.out, ← HisN.out, hF9])
                have hR9 := HR8.out.keeps k9 (by simp; omega)
                have hrow9 := ownsRow_kept Hrow8.out k9 (fun j hj => by have := (ownE_lt Hrow8.out j hj).1; simp; omega)
                have K9 := hide ((KWO.out.trans K8.out).trans k9)
                have kL := Keeps.alloc [] w9 (.cells #[.int .i64 δ] 3)
                have r9 := hR9.cell 1
                have rowL := ownsRow_kept hrow9 kL (by simp)
                have hs9 := (K8.out.trans k9).size
                have HC9 := hide hC9
                have HR9 := hide hR9
                clear hF9 hC9 k9 hR9 hrow9 hwr8 HR8 Hrow8 c0 c1 c2 c3
                go_wp2_with (at_builtin; refine wpList_append_own_at _ rfl _ _ 40 rfl (w7.heap.size + 1) 3 i0 (.int .i64 0) 1 8 Tryz.underlying40 hi0 hz0 hz1 hz2 rfl (by decide) _ k ((cols.take k).map (fun (c : Tn) => Value.int .i64 (plInt (m.dom (txt c.g))))) rfl rowL ⟨w9.heap.size, 0, none⟩ 1 1 [.int .i64 δ] rfl (by simp) int_one (by simp [Value.oneCell']) (by unfold maxLen; omega) (by omega) (by rw [sizeE_alloc]; omega) ?_)
                intro v10 w10 own10 grow10 nil10 at10
                obtain ⟨g10, cap10, rfl⟩ := ownE_succ own10
                obtain ⟨a1, a2, a3, a4, a5⟩ := col_push (wb := _) (g := g10) (cap := cap10) (x := .int .i64 δ) (by rw [HNN.out]; exact hWb) (by rw [HNN.out]; exact hRB) (HC9.out.keeps kL (by simp)) (K9.out.trans (kL.mono (T' := [P]) (by simp))) (HR9.out.keeps kL (by simp)) rowL (by rw [List.map_take]; exact own10) grow10
                have e1 := a1.cell 1
                have f1 := a1.frozen 1
                have A2 := hide a2
                have A3 := hide a3
                have A4 := hide a4
                have A5 : Hid ((w10.setCell ⟨w7.heap.size, 1, none⟩ (.slice (some ⟨g10, 0, none⟩) (k + 1) cap10)).ownsRow (w7.heap.size + 1) 3 1 (.slice (some ⟨g10, 0, none⟩) (k + 1) cap10) (k + 1) ((cols.take (k + 1)).map (fun (c : Tn) => Value.int .i64 (plInt (m.dom (txt c.g)))))) := hide (by rw [Htk1.out, List.map_append, List.map_cons, List.map_nil, Hδ.out]; exact a5)
                have s1 := (HT.out _ (hKr.trans a3) (q2 + 1) s Hqs.out).2.1
                have hgt11 : gt < (w10.setCell ⟨w7.heap.size, 1, none⟩ (.slice (some ⟨g10, 0, none⟩) (k + 1) cap10)).heap.size := by have := (hKr.trans a3).size; omega
                have hsz11 : w7.heap.size + 1 ≤ (w10.setCell ⟨w7.heap.size, 1, none⟩ (.slice (some ⟨g10, 0, none⟩) (k + 1) cap10)).heap.size := a4.lt
                have hb := txt_rp (Hwf.out s (List.mem_of_getElem? Hqs.out))
                rw [Hs2.out] at hb
                clear own10 grow10 nil10 at10 a1 a2 a3 a4 a5 r9 rowL kL HC9 HR9 K9
                by_cases hlast : k + 1 = cols.length
                · have hbt : ((txt s.g).toList == [41]) = true := by rw [hb]; simpa using hlast
                  have Hlast := hide hlast
                  clear hb hlast
                  go_upto_region 23 with fail
                  generalize w10.setCell ⟨w7.heap.size, 1, none⟩ (.slice (some ⟨g10, 0, none⟩) (k + 1) cap10) = w11 at *
                  have hres11 : f9 = FF := by rw [← Hres9.out, Hlast.out, List.drop_length]; rfl
                  have Hf11 : Hid (relR m n cols = f9) := hide (by rw [hres11]; exact HRf.out)
                  have kA := Keeps.alloc [] w11 (.cells #[.string (txt n.g), .slice (some ⟨g10, 0, none⟩) (k + 1) cap10] 264)
                  have p1 := A2.out.cell 1
                  have p1' := (A2.out.keeps kA (by simp)).cell 1
                  have y0 := A4.out.cell 0
                  have y1 := A4.out.cell 1
                  have rowA := ownsRow_kept (HS.out.from A3.out A2.out).mn.rels kA (by simp)
                  have Hrd : Hid (w11.ownsRow (P + 1) 3 1 (.slice (some ⟨g10, 0, none⟩) (k + 1) cap10) cols.length (cols.map (fun (c : Tn) => Value.int .i64 (plInt (m.dom (txt c.g)))))) := hide (by
                    have h5 := A5.out
                    rw [Hlast.out, List.take_length] at h5
                    rw [Hlast.out]
                    exact ownsRow_base h5 (by omega))
                  have hP11 := A2.out.lt
                  have hq4 : (q2 : Int) + 1 + 2 = ((q + 2 * cols.length + 4 : Nat) : Int) := by have := Hq2.out; have := Hlast.out; omega
                  have HqE := hide hq4
                  have hmes : q < q + 2 * cols.length + 4 := by omega
                  clear e1 f1 s1 A5 hres11 Hres9 hq4
                  go_wp2_with fail
                  go_region_law (first
                    | (refine step_append_lies _ (by rfl) _ _ _ (by rfl) (P + 1) 264 i6 _ 2 40 Tryz.underlying239 hi6 hx0 hx1 hx2 rfl (by omega) (.slice ra m.rels.length rc) m.rels.length rvs (by rfl) (ownsRow_kept rowA (Keeps.drew [] _) (by simp)) ⟨w11.heap.size, 0, none⟩ 1 1 [.string (txt n.g), .slice (some ⟨g10, 0, none⟩) (k + 1) cap10] (by rfl) (by rfl) (two_cells (W := w11)) (by simp [Value.oneCell']) (by omega) (by unfold maxLen; omega) (by omega) (by show P + 1 ≤ (w11.alloc _).heap.size; rw [sizeE_alloc]; omega) (w11.heap.size + 1) (by show (w11.alloc _).heap.size = _; rw [sizeE_alloc]) ?_
                       intro g12 cap12 w12 hown12 hgrow hat hlt12
                       obtain ⟨hP12, hTo⟩ := HS.out.rel (f := f9) (n := n) (A3.out.trans ((kA.mono (T' := [P]) (by simp)).trans (Keeps.drew _ _))) ((A2.out.keeps kA (by simp)).keeps (Keeps.drew [] _) (by simp)) Hf11.out (ownsRow_kept (ownsRow_kept Hrd.out kA (by simp)) (Keeps.drew [] _) (by simp)) hown12 hgrow (by rcases hat with q | q; exact .inl q; exact .inr (by rw [q]; show _ = (w11.alloc _).heap.size; rw [sizeE_alloc]))
                       have HSt := hide (SnSt.of (x := .rel n cols) (is := is) (is' := xs) (RR := RR) hTo Hcs.out (by simp [clauseI]) Hres0.out)
                       have e0 := hP12.cell 1
                       have f0 := hP12.frozen 1
                       clear hTo hP12))
                  all_goals
                    go_wp2_with fail
                    go_roundw
                    · exact ⟨q + 2 * cols.length + 4, xs, by rw [← HqE.out], Hxs.out, Hits.out, HSt.out⟩
                    · have := Hq2.out; have := Hlast.out; simp only [intOf]; omega
                · have hbf : ((txt s.g).toList == [41]) = false := by rw [hb]; simpa using hlast
                  clear hb
                  go_wp2_with fail
                  go_roundw
                  · exact ⟨q2 + 2, k + 1, f9, _, by simp; omega, by have := Hq2.out; omega, by have := Hk.out; omega, Hf9.out, A2.out, A3.out, A4.out, A5.out, hsz11, Hres9.out⟩
                  · have := Hq2.out; have := Hk.out; simp only [intOf]; omega
    · have k0 := (HT.out _ kw q t htq).1
      have hgtr : gt < wr.heap.size := by have := kw.size; omega
      have p4 := hC.cell 4
      have hPr := hC.lt
      have hfl0 : ((fl.1 : Int) == 0) = false := by rw [beq_eq_false_iff_ne]; omega
      have HEnd : Hid (SensTo wr P (.slice (some ⟨gt, 0, none⟩) toks.length tc) is RR) := hide (by rw [hRE]; exact ⟨a, b, c, hC⟩)
      have HK := hide kw
      clear hC hRE hkw hit hat
      cases is' with
      | nil =>
        have hke : (rkind t.g != 101) = false := by rw [hkf]; rfl
        clear hkf
        go_wp2_with fail
        go_end0
        exact ⟨rfl, HEnd.out, HK.out⟩
      | cons x xs =>
        have hke : (rkind t.g != 101) = true := by rw [hkf]; rfl
        clear hkf
        go_wp2_with fail
        go_end0
        exact ⟨rfl, HEnd.out, HK.out⟩

end Go.Proofs.YtgjomknpjigkhaaGreatDoor
