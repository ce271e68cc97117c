/- Texts: P4. -/
import Derived.Test.YtgjomknpjigkhaaGreatDoorT21
import Derived.Deep.DeepCutAuto
import Derived.Deep.RegionWith
namespace Go.Proofs.YtgjomknpjigkhaaGreatDoor
open Go.RowKit

def layL (n : Nat) (E : Edges) (line hr : Nat) : FltO → List (AtomM × Bool) → FltO
  | f, [] => f
  | f, x :: xs => layL n E line hr (wrong f (x.2 && hangB n E x.1.rel hr) 13 line) xs
def layC (n : Nat) (E : Edges) : FltO → List ClauseM → FltO
  | f, [] => f
  | f, c :: cs => layC n E (layL n E c.line c.head.rel f c.lits) cs
theorem layL_some (n : Nat) (E : Edges) (line hr : Nat) (f : Flt) (xs : List (AtomM × Bool)) : layL n E line hr (some f) xs = some f := by
  induction xs with
  | nil => rfl
  | cons x xs ih => simp only [layL, wrong_some]; exact ih
theorem layC_some (n : Nat) (E : Edges) (f : Flt) (cs : List ClauseM) : layC n E (some f) cs = some f := by
  induction cs with
  | nil => rfl
  | cons x xs ih => simp only [layC, layL_some]; exact ih
theorem layL_none (n : Nat) (E : Edges) (line hr : Nat) (xs : List (AtomM × Bool)) : layL n E line hr none xs = if (xs.any fun l => l.2 && hangB n E l.1.rel hr) = true then some (13, line) else none := by
  induction xs with
  | nil => rfl
  | cons x xs ih =>
    simp only [layL]
    cases hx : (x.2 && hangB n E x.1.rel hr) with
    | true => rw [wrong_true, layL_some, if_pos (by simp only [List.any_cons, hx, Bool.true_or])]
    | false => rw [wrong_false, ih]; simp only [List.any_cons, hx, Bool.false_or]
theorem layC_none (n : Nat) (E : Edges) (cs : List ClauseM) : layC n E none cs = (firstC (circleC n E) cs).map fun l => (13, l) := by
  induction cs with
  | nil => rfl
  | cons c cs ih =>
    simp only [layC, layL_none, firstC]
    by_cases h : circleC n E c = true
    · rw [if_pos h, if_pos (show (c.lits.any fun l => l.2 && hangB n E l.1.rel c.head.rel) = true from h), layC_some]; rfl
    · rw [if_neg h, if_neg (show ¬ (c.lits.any fun l => l.2 && hangB n E l.1.rel c.head.rel) = true from h), ih]

theorem MatchCs.at {cs : List (AtomI × List LitI)} {xs : List ClauseM} (h : MatchCs cs xs) {i : Nat} {c : AtomI × List LitI} {x : ClauseM} (hi : cs[i]? = some c) (hx : xs[i]? = some x) : MatchC c x := by
  induction cs generalizing xs i with
  | nil => simp at hi
  | cons y cs ih => cases xs with
    | nil => simp at hx
    | cons z xs =>
      cases i with
      | zero => simp at hi hx; subst hi; subst hx; exact h.1
      | succ i => exact ih h.2 (by simpa using hi) (by simpa using hx)
theorem MatchLs.no {sc : Scope} {ls : List LitI} {xs : List (AtomM × Bool)} (h : MatchLs sc ls xs) {i : Nat} {l : LitI} {x : AtomM × Bool} (hi : ls[i]? = some l) (hx : xs[i]? = some x) : x.2 = l.no := by
  induction ls generalizing xs i with
  | nil => simp at hi
  | cons y cs ih => cases xs with
    | nil => simp at hx
    | cons z xs =>
      cases i with
      | zero => simp at hi hx; subst hi; subst hx; exact h.2.1
      | succ i => exact ih h.2.2 (by simpa using hi) (by simpa using hx)

theorem RP.keeps {w w' : World} {base P n : Nat} {X : List Nat} {cs : List (AtomI × List LitI)} {xs : List ClauseM} {dv rv kv tv c l c' l' : Value} {kcs : List Value} (h : RP w base P n X cs xs dv rv kv tv c l kcs) (hP : P < base) (k : Keeps [P] w w') (hc : CellsAt w' P #[dv, rv, kv, tv, c', l']) : RP w' base P n X cs xs dv rv kv tv c' l' kcs :=
  ⟨hc, h.rels, ownsRow_kept h.row k (fun i hi => by have := ownE_lt h.row i hi; simp; omega), h.rcs.kept k (by simp; omega)⟩

set_option maxRecDepth 100000 in
set_option maxHeartbeats 8000000 in
theorem layered_calls {w : World} {base P n : Nat} {X : List Nat} {cs : List (AtomI × List LitI)} {xs : List ClauseM} {dv rv kv tv : Value} {f : FltO} {kcs : List Value} (hf : FOk f) (hPb : P < base) (h : RP w base P n X cs xs dv rv kv tv (.int .i64 (fC f).1) (.int .i64 (fC f).2) kcs) (hn : n ≤ 1000) (hl : cs.length ≤ 1000000) (hll : ∀ q ∈ cs, q.2.length ≤ 1000000) (hr : ∀ x ∈ xs, RelsOk n x) (hm : MatchCs cs xs) : Calls Tryz.prog 232 #[.pointer (some ⟨P, 0, none⟩)] w fun e w' => e = .returned (.tuple #[]) ∧ CellsAt w' P #[dv, rv, kv, tv, .int .i64 (fC (layC n (edgesM xs) f xs)).1, .int .i64 (fC (layC n (edgesM xs) f xs)).2] ∧ Keeps [P] w w' := by
  obtain ⟨ka, kc, rfl⟩ := ownE_len h.row
  have hPl := h.cells.lt
  have HP := hide (fun (W : World) (c' l' : Value) (k : Keeps [P] w W) (hc : CellsAt W P #[dv, rv, .slice ka cs.length kc, tv, c', l']) => h.keeps hPb k hc)
  have Hlen := hide h.rcs.len
  have hcell := hide h.cells
  have Hll := hide hll
  have Hr := hide hr
  have Hm := hide hm
  have hhg := hide (fun (W : World) (c' l' : Value) (h : RP W base P n X cs xs dv rv (.slice ka cs.length kc) tv c' l' kcs) (a b : Nat) (ha : a < n) (hb : b < n) => hangs_calls h hn hl hll hr ha hb)
  generalize hR : layC n (edgesM xs) f xs = R
  have HR := hide hR
  have Hf := hide hf
  clear hR h hll hr hm hf
  go_enter Tryz.func232, Tryz.ntmps232
  go_wp2_with fail
  go_loopw [2] (fun x wr => ∃ (q : Nat) (f : FltO), x = .int .i64 q ∧ q ≤ cs.length ∧ FOk f ∧ CellsAt wr P #[dv, rv, .slice ka cs.length kc, tv, .int .i64 (fC f).1, .int .i64 (fC f).2] ∧ Keeps [P] w wr ∧ layC n (edgesM xs) f (xs.drop q) = R) (fun x _ => cs.length - (intOf x).toNat)
  case atStart => exact ⟨0, f, rfl, by omega, Hf.out, hcell.out, Keeps.refl _ _, by rw [List.drop_zero]; exact HR.out⟩
  case round =>
    clear HR Hf hcell
    obtain ⟨q, f, rfl, hqn, hf, hC, kr, hres⟩ := hrel
    have c2 := hC.cell 2
    have HfO := hide hf
    by_cases hql : q < cs.length
    · have hqI : (q : Int) < cs.length := by omega
      obtain ⟨ci, hci⟩ : ∃ ci, cs[q]? = some ci := ⟨_, List.getElem?_eq_getElem hql⟩
      have hRP := HP.out _ _ _ kr hC
      obtain ⟨x, hv, lv, ls, ru, hx, hcells, hhv, hlv, hls⟩ := hRP.rcs.at hci
      have hxl : q < xs.length := by rw [Hlen.out]; exact hql
      have hdi : xs.drop q = x :: xs.drop (q + 1) := by
        rw [List.drop_eq_getElem_cons hxl]
        congr 1
        rw [List.getElem?_eq_getElem hxl] at hx
        exact Option.some.inj hx
      rw [hdi] at hres
      have hro := Hr.out x (List.mem_of_getElem? hx)
      obtain ⟨sc, _, _, _, hML, hline⟩ := Hm.out.at hci hx
      obtain ⟨ha1, hc1', rfl⟩ := ownE_len hhv
      obtain ⟨la, lc, rfl⟩ := ownE_len hlv
      have hrr := hRP.row
      obtain ⟨gk, hgk⟩ := ownE_pos2 hrr (by omega)
      subst hgk
      have d0 : wr.cell? ⟨gk, q * 6, none⟩ = some (.int .i64 (x.head.rel : Int)) := ownE_cells hrr (by have := hcells 0 (by omega); rw [Nat.add_zero] at this; rw [this]; rfl)
      have d1 : wr.cell? ⟨gk, q * 6 + 1, none⟩ = some (.slice ha1 ci.1.terms.length hc1') := ownE_cells hrr (by rw [hcells 1 (by omega)]; rfl)
      have d2 : wr.cell? ⟨gk, q * 6 + 2, none⟩ = some (.bool false) := ownE_cells hrr (by rw [hcells 2 (by omega)]; rfl)
      have d3 : wr.cell? ⟨gk, q * 6 + 3, none⟩ = some (.int .i64 ci.1.name.line) := ownE_cells hrr (by rw [hcells 3 (by omega)]; rfl)
      have d4 : wr.cell? ⟨gk, q * 6 + 4, none⟩ = some (.slice la ci.2.length lc) := ownE_cells hrr (by rw [hcells 4 (by omega)]; rfl)
      have d5 : wr.cell? ⟨gk, q * 6 + 5, none⟩ = some (.bool ru) := ownE_cells hrr (by rw [hcells 5 (by omega)]; rfl)
      rw [← hline] at d3
      have hgkl : gk < wr.heap.size := (ownE_lt hrr gk rfl).2
      have kC := Keeps.alloc [] wr (.cells #[.int .i64 (x.head.rel : Int), .slice ha1 ci.1.terms.length hc1', .bool false, .int .i64 x.line, .slice la ci.2.length lc, .bool ru] 254)
      have hCc := CellsAt.new wr #[.int .i64 (x.head.rel : Int), .slice ha1 ci.1.terms.length hc1', .bool false, .int .i64 x.line, .slice la ci.2.length lc, .bool ru] 254
      have HC := hide (hC.keeps kC (by simp))
      have HCc := hide hCc
      have kr1 := kr.trans (kC.mono (by simp))
      have hPw := hC.lt
      have Hlv := hide (fun (W : World) (k : Keeps [P] wr W) => ownsRow_kept hlv k (fun i hi => by have := ownE_lt hlv i hi; simp; omega))
      have Hls := hide (fun (W : World) (k : Keeps [P] wr W) => hls.kept k (by simp; omega))
      have HML := hide hML
      have hll := Hll.out ci (List.mem_of_getElem? hci)
      have hCn : wr.heap.size ≠ P := by omega
      have HrL := hide hro.2
      have hHN := hro.1
      have Hres : Hid (layC n (edgesM xs) (layL n (edgesM xs) x.line x.head.rel f (x.lits.drop 0)) (xs.drop (q + 1)) = R) := hide (by rw [← hres, List.drop_zero]; rfl)
      have kW := hide (kC.mono (T' := [P]) (by simp))
      clear hres hC hCc hlv hls hML hdi hci hx hcells hhv hrr hro hxl hline hRP hf kC kr
      rename World => wo
      go_wp2_with fail
      go_loopw [4] (fun x' wr => ∃ (i : Nat) (f : FltO), x' = .int .i64 i ∧ i ≤ ci.2.length ∧ FOk f ∧ CellsAt wr P #[dv, rv, .slice (some ⟨gk, 0, none⟩) cs.length kc, tv, .int .i64 (fC f).1, .int .i64 (fC f).2] ∧ CellsAt wr wo.heap.size #[.int .i64 (x.head.rel : Int), .slice ha1 ci.1.terms.length hc1', .bool false, .int .i64 x.line, .slice la ci.2.length lc, .bool ru] ∧ Keeps [P] w wr ∧ Keeps [P] wo wr ∧ layC n (edgesM xs) (layL n (edgesM xs) x.line x.head.rel f (x.lits.drop i)) (xs.drop (q + 1)) = R) (fun x' _ => ci.2.length - (intOf x').toNat)
      case atStart => exact ⟨0, f, rfl, by omega, HfO.out, HC.out, HCc.out, kr1, kW.out, Hres.out⟩
      case round =>
        clear Hres c2 d0 d1 d2 d3 d4 d5 HC HCc kr1 kW HfO f
        obtain ⟨i, f, rfl, hil, hf, hC, hCc, kr, kwo, hres⟩ := hrel
        have e0 := hCc.cell 0
        have e3 := hCc.cell 3
        have e4 := hCc.cell 4
        have hCl := hCc.lt
        by_cases hi : i < ci.2.length
        · have hiI : (i : Int) < ci.2.length := by omega
          obtain ⟨li, hli⟩ : ∃ li, ci.2[i]? = some li := ⟨_, List.getElem?_eq_getElem hi⟩
          have hlsw := Hls.out wr kwo
          obtain ⟨xi, v, hxi, hcs, hv⟩ := hlsw.at hli
          have hxl : i < x.lits.length := by rw [hlsw.len]; exact hi
          have hdi : x.lits.drop i = xi :: x.lits.drop (i + 1) := by
            rw [List.drop_eq_getElem_cons hxl]
            congr 1
            rw [List.getElem?_eq_getElem hxl] at hxi
            exact Option.some.inj hxi
          rw [hdi] at hres
          have hrel := HrL.out xi (List.mem_of_getElem? hxi)
          have hno := HML.out.no hli hxi
          have hlr := Hlv.out wr kwo
          obtain ⟨gl, hgl⟩ := ownE_pos2 hlr (by omega)
          subst hgl
          have Hl0 := hide (fun (W : World) (k : Keeps [P] wr W) => (⟨ownE_cells (ownsRow_kept hlr k (fun i hi => by have := ownE_lt hlr i hi; simp; omega)) (by have := hcs 0 (by omega); rw [Nat.add_zero] at this; rw [this]; rfl), ownE_cells (ownsRow_kept hlr k (fun i hi => by have := ownE_lt hlr i hi; simp; omega)) (by rw [hcs 2 (by omega)]; rfl)⟩ : W.cell? ⟨gl, i * 4, none⟩ = some (.int .i64 (xi.1.rel : Int)) ∧ W.cell? ⟨gl, i * 4 + 2, none⟩ = some (.bool li.no)))
          have l0 := (Hl0.out wr (Keeps.refl _ _)).1
          have hRP := HP.out _ _ _ kr hC
          have hcall := hide (hhg.out (wr.drew) _ _ (hRP.keeps hPb (Keeps.drew _ _) (hC.keeps (Keeps.drew [] _) (by simp))) xi.1.rel x.head.rel hrel hHN)
          have HCc := hide hCc
          have HC := hide hC
          have Hf := hide hf
          have Hres := hide hres
          clear hlsw hcs hv hxl hdi hlr hRP hli hxi hC hCc hres hf
          generalize hHB : hangB n (edgesM xs) xi.1.rel x.head.rel = HB at *
          have HHB := hide hHB
          clear hHB
          go_upto_region 7 with fail
          go_cut [5] (fun y wd => y = .bool HB ∧ Keeps [] wr wd)
          case first =>
            go_region_law (refine step_callA rfl 276 _ _ rfl _ Tryz.func276 (by kernel_rfl) (by kernel_rfl) [.pointer (some ⟨P, 0, none⟩), .int .i64 (xi.1.rel : Int), .int .i64 (x.head.rel : Int)] rfl ?_
                           refine hcall.out.mono ?_
                           rintro e w5 ⟨rfl, k5⟩
                           have K5 := hide ((Keeps.drew [] wr).trans k5))
            all_goals
              go_wp2_with fail
              go_meet
              exact ⟨rfl, K5.out⟩
          case rest =>
            obtain ⟨rfl, hcut⟩ := hcut
            have kcP := hcut.mono (T' := [P]) (by simp)
            obtain ⟨l1, l2⟩ := Hl0.out wc kcP
            have hC2 := HC.out.keeps hcut (by simp)
            have hCc2 := HCc.out.keeps hcut (by simp)
            have q0 := hCc2.cell 0
            have q3 := hCc2.cell 3
            have q4 := hCc2.cell 4
            have hszc := hcut.size
            have hwr := hide (fun (bb : Bool) => wrongG_calls (w := wc.drew) (P := P) Hf.out 0 0 x.line ⟨#[]⟩ bb 13 (hC2.keeps (Keeps.drew [] _) (by simp)))
            have HCc2 := hide hCc2
            have kw3 := hide (kr.trans (kcP.trans (Keeps.drew _ _)))
            have kw4 := hide (kwo.trans (kcP.trans (Keeps.drew _ _)))
            clear hcut kcP hC2 hCc2 l0 e0 e3 e4 hcall
            cases hnn : li.no with
            | false =>
              rw [hnn] at l2 hno
              have hr2 : Hid (layC n (edgesM xs) (layL n (edgesM xs) x.line x.head.rel (wrong f false 13 x.line) (x.lits.drop (i + 1))) (xs.drop (q + 1)) = R) := hide (by rw [← Hres.out]; simp only [layL, hno, Bool.false_and])
              clear hnn hno
              go_wp2_with fail
              first | go_region_with (go_at_call 272; refine (hwr.out false).mono ?_; rintro e w6 ⟨rfl, hC6, k6, _⟩; have HC6 := hide hC6; have K6 := hide (kw3.out.trans k6); have K7 := hide (kw4.out.trans k6); have HCc6 := hide ((HCc2.out.keeps (Keeps.drew [] _) (by simp)).keeps k6 (by simp; omega)); clear hC6 k6) | fail
              all_goals
                go_wp2_with fail
                go_roundw
                · exact ⟨i + 1, _, by simp, by omega, Hf.out.wrong _ (by decide), HC6.out, HCc6.out, K6.out, K7.out, hr2.out⟩
                · simp only [intOf]; omega
            | true =>
              rw [hnn] at l2 hno
              have hr2 : Hid (layC n (edgesM xs) (layL n (edgesM xs) x.line x.head.rel (wrong f HB 13 x.line) (x.lits.drop (i + 1))) (xs.drop (q + 1)) = R) := hide (by rw [← Hres.out]; simp only [layL, hno, HHB.out, Bool.true_and])
              clear hnn hno
              go_wp2_with fail
              first | go_region_with (go_at_call 272; refine (hwr.out HB).mono ?_; rintro e w6 ⟨rfl, hC6, k6, _⟩; have HC6 := hide hC6; have K6 := hide (kw3.out.trans k6); have K7 := hide (kw4.out.trans k6); have HCc6 := hide ((HCc2.out.keeps (Keeps.drew [] _) (by simp)).keeps k6 (by simp; omega)); clear hC6 k6) | fail
              all_goals
                go_wp2_with fail
                go_roundw
                · exact ⟨i + 1, _, by simp, by omega, Hf.out.wrong _ (by decide), HC6.out, HCc6.out, K6.out, K7.out, hr2.out⟩
                · simp only [intOf]; omega
        · have hiI : ¬ (i : Int) < ci.2.length := by omega
          have hdz : x.lits.drop i = [] := List.drop_eq_nil_of_le (by rw [(Hls.out wr kwo).len]; omega)
          rw [hdz] at hres
          have Hres : Hid (layC n (edgesM xs) f (xs.drop (q + 1)) = R) := hide hres
          have HC := hide hC
          have Hf := hide hf
          clear hres hdz hC hCc hf
          go_wp2_with fail
          go_roundw
          · exact ⟨q + 1, f, by simp, by omega, Hf.out, HC.out, kr, Hres.out⟩
          · simp only [intOf]; omega
    · have hqI : ¬ (q : Int) < cs.length := by omega
      have hdz : xs.drop q = [] := List.drop_eq_nil_of_le (by rw [Hlen.out]; omega)
      rw [hdz] at hres
      have Hres : Hid (f = R) := hide hres
      have HC := hide hC
      clear hres hdz hC hf
      go_wp2_with fail
      go_end0
      exact ⟨rfl, by rw [← Hres.out]; exact HC.out, kr⟩

end Go.Proofs.YtgjomknpjigkhaaGreatDoor
