/- Texts: PM. -/
import Derived.Test.YtgjomknpjigkhaaGreatDoorT17
namespace Go.Proofs.YtgjomknpjigkhaaGreatDoor
open Go.RowKit

theorem ret_pair {fn : Func} {t p : Tmp} {ty : TypeId} (h : fn.results = #[.cell p ty, .tmp t]) (tmps : Array Value) {w : World} {g : Nat} {cs : Array Value} {fs : Array Field} (hc : CellsAt w g cs) (hu : Tryz.prog.underlying ty = some (.struct fs)) (hi : (Tryz.prog.info? ty).map (·.size) = some cs.size) (hp : tmps.getD p undef = .pointer (some ⟨g, 0, none⟩)) : (results fn tmps).run Tryz.prog w = .ok (.tuple #[.agg cs, tmps.getD t undef]) w := by
  obtain ⟨tt, ht⟩ := hc
  have hp' : tmps[p]?.getD undef = .pointer (some ⟨g, 0, none⟩) := by simpa using hp
  simp [results, h, hp', asAddr, run_loadVar_row w g tt ty cs (0, 0) _ ht hu rfl hi]
theorem cells_new2 (w : World) (o : Obj) (cs : Array Value) (t : TypeId) : CellsAt ((w.alloc o).alloc (.cells cs t)) (w.heap.size + 1) cs := by
  have := CellsAt.new (w.alloc o) cs t
  rwa [sizeE_alloc] at this
theorem cells_new3 (w : World) (o : Obj) (cs : Array Value) (t : TypeId) : CellsAt ((w.alloc o).drew.alloc (.cells cs t)) (w.heap.size + 1) cs := by
  have := CellsAt.new (w.alloc o).drew cs t
  have e : (w.alloc o).drew.heap.size = w.heap.size + 1 := sizeE_alloc w o
  rwa [e] at this
theorem size251 : (Tryz.prog.info? 251).map (·.size) = some 4 := by kernel_rfl

/-- The last place of a name among the first j. -/
def Fnd (sc : Scope) (s : ByteArray) (j : Nat) (at_ : Int) : Prop := (at_ = -1 ∧ ∀ q x, q < j → sc[q]? = some x → x.1 ≠ s) ∨ ∃ p : Nat, at_ = (p : Int) ∧ p < j ∧ ∃ d, sc[p]? = some (s, d)
theorem Fnd.zero (sc : Scope) (s : ByteArray) : Fnd sc s 0 (-1) := .inl ⟨rfl, fun q x h => by omega⟩
theorem Fnd.hit {sc : Scope} {s : ByteArray} {j : Nat} {x : ByteArray × Nat} (hx : sc[j]? = some x) (he : x.1 = s) : Fnd sc s (j + 1) (j : Int) := .inr ⟨j, rfl, by omega, x.2, by rw [hx, ← he]⟩
theorem Fnd.miss {sc : Scope} {s : ByteArray} {j : Nat} {at_ : Int} (h : Fnd sc s j at_) {x : ByteArray × Nat} (hx : sc[j]? = some x) (he : ¬ x.1 = s) : Fnd sc s (j + 1) at_ := by
  rcases h with ⟨h1, h2⟩ | ⟨p, h1, h2, h3⟩
  · refine .inl ⟨h1, fun q y hq hy => ?_⟩
    rcases Nat.lt_succ_iff_lt_or_eq.1 hq with h | h
    · exact h2 q y h hy
    · subst h; rw [hx] at hy; cases hy; exact he
  · exact .inr ⟨p, h1, by omega, h3⟩
theorem Fnd.done {sc : Scope} {s : ByteArray} {at_ : Int} (ho : Once sc) (h : Fnd sc s sc.length at_) : at_ = plInt (placeIn sc s) := by
  rcases h with ⟨h1, h2⟩ | ⟨p, h1, h2, d, h3⟩
  · rw [placeIn_not sc s (fun j q hj => h2 j q hj)]
    exact h1
  · cases hp : placeIn sc s with
    | none =>
      exfalso
      have := placeIn_drop sc s p (fun j q hj hq => ?_) h3 rfl
      · rw [hp] at this; cases this
      · intro he
        have := ho j p q (s, d) hq h3 he
        omega
    | some q =>
      obtain ⟨d', hq⟩ := placeIn_some hp
      have := ho q p _ _ hq h3 rfl
      subst this
      exact h1

theorem AtRTo.of {w0 w wr W : World} {P V D N : Nat} {dv rv kv tkv vv0 dd0 : Value} {a : AtomI} {ρ : Int} {f : FltO} {vts : List Tn} {sc : Scope} {vv dd tv : Value} (h : AtR w wr P V D N w0.heap.size dv rv kv tkv a.name ρ (P :: scF V D vv0 dd0) f vts (sc.map Prod.snd) vv dd a.terms tv) (hv : vts.map (fun t => txt t.g) = sc.map Prod.fst) (k : Keeps [w.heap.size] wr W) {i : Nat} {e : Ending} (he : e = .returned (.tuple #[.agg #[.int .i64 ρ, tv, .bool false, .int .i64 a.name.line], .int .i64 (atomEnd i a : Nat)])) : AtRTo w P V D w0.heap.size dv rv kv tkv vv0 dd0 i a ρ (f, sc) e W := by
  have hN := h.pre.hN
  have hPw := (h.pre.hT P h.pre.hP).1
  have one : ∀ j, j ≠ w.heap.size → j ∉ [w.heap.size] := fun j hj q => hj (by simpa using q)
  refine ⟨tv, vts, vv, dd, he, h.cells.keeps k (one _ (by omega)), h.sc.keeps k (fun j hj => one j ?_), hv, ownsRow_base (ownsRow_kept h.row k (fun i hi => one i (by have := (ownE_lt h.row i hi).1; omega))) (by omega), h.keep.trans_new k (fun j hj => .inr (by have e : j = w.heap.size := (by simpa using hj); omega)), fun j hj => ?_⟩
  · rcases h.far j hj with q | q
    · have := (h.pre.hT j q).1; omega
    · omega
  · rcases h.foot j hj with q | q
    · exact .inl q
    · exact .inr ⟨by omega, q.2⟩

theorem AtR.start {w wd : World} {P V D B : Nat} {dv rv kv tkv : Value} {n : Tn} {ρ : Int} {f : FltO} {vts : List Tn} {ds : List Nat} {vv dd : Value} (hsc : ScR w B V D vts ds vv dd) (hPB : P < B) (hB : B ≤ w.heap.size) (k : Keeps [P] w wd) (hP : CellsAt wd P #[dv, rv, kv, tkv, .int .i64 (fC f).1, .int .i64 (fC f).2]) (hR : CellsAt wd w.heap.size #[.int .i64 0, .slice none 0 0, .bool false, .int .i64 0]) (hA : CellsAt wd (w.heap.size + 1) #[.int .i64 ρ, .slice none 0 0, .bool false, .int .i64 n.line]) : AtR w (wd.alloc (.cells #[.int .u8 (rkind n.g), .string (txt n.g), .int .i64 (numOf n.g), .int .i64 n.line] 245)) P V D wd.heap.size B dv rv kv tkv n ρ (P :: scF V D vv dd) f vts ds vv dd [] (.slice none 0 0) := by
  have kA := Keeps.alloc [] wd (.cells #[.int .u8 (rkind n.g), .string (txt n.g), .int .i64 (numOf n.g), .int .i64 n.line] 245)
  have hsc1 := (hsc.keeps k (fun j hj q => by have e : j = P := (by simpa using q); have := (hsc.lt j hj).1; omega)).keeps kA (by simp)
  refine ⟨⟨fun j hj => ?_, List.mem_cons_self, List.mem_cons_of_mem _ (mem_scF.2 (.inl rfl)), List.mem_cons_of_mem _ (mem_scF.2 (.inr (.inl rfl))), hPB, hsc.low.1, hsc.low.2, hB, hA.lt⟩, hP.keeps kA (by simp), hsc1, hR.keeps kA (by simp), hA.keeps kA (by simp), CellsAt.new wd _ 245, World.ownsRow_nil .., (k.mono (T' := P :: scF V D vv dd) (fun j hj => by have e : j = P := (by simpa using hj); simp [e])).trans (kA.mono (by simp)), fun j hj => .inl (List.mem_cons_of_mem _ (mem_scF.2 (.inr (.inr hj))))⟩
  rcases List.mem_cons.1 hj with q | q
  · exact ⟨by omega, .inl q⟩
  · exact ⟨(hsc.lt j q).2, .inr (hsc.lt j q).1⟩

set_option maxRecDepth 100000 in
set_option maxHeartbeats 16000000 in
theorem atomR_calls {w0 w : World} {P V D mb tb gt tc i : Nat} {m : Mean} {dv rv kv : Value} {rvs : List Value} {f : FltO} {sc : Scope} {vts : List Tn} {vv dd : Value} {toks : List Tn} {a : AtomI}
    (hm : RMn w0 mb [] m dv rv rvs) (hok : MeanOk m) (hPm : P < mb) (k0 : Keeps [P] w0 w) (hP0 : P < w0.heap.size)
    (hP : CellsAt w P #[dv, rv, kv, .slice (some ⟨gt, 0, none⟩) toks.length tc, .int .i64 (fC f).1, .int .i64 (fC f).2]) (hf : FOk f)
    (htk : w0.ownsRow tb 245 4 (.slice (some ⟨gt, 0, none⟩) toks.length tc) toks.length (rtCs toks)) (hgP : gt ≠ P) (htl : toks.length ≤ 1000000) (hwf : ∀ t ∈ toks, WfE t.g)
    (hsc : ScR w w0.heap.size V D vts (sc.map Prod.snd) vv dd) (hvn : vts.map (fun t => txt t.g) = sc.map Prod.fst) (hon : Once sc) (hsl : sc.length ≤ 1000000)
    (ha : AtomAt toks i a) : Calls Tryz.prog 292 #[.pointer (some ⟨P, 0, none⟩), .int .i64 i, .pointer (some ⟨V, 0, none⟩), .pointer (some ⟨D, 0, none⟩)] w fun e w' => AtRTo w P V D w0.heap.size dv rv kv (.slice (some ⟨gt, 0, none⟩) toks.length tc) vv dd i a (plInt (m.rel (txt a.name.g))) (atomR m f sc a) e w' := by
  obtain ⟨i0, hi0, hz0, hz1, hz2⟩ := info_parts info245Q
  obtain ⟨i3, hi3, hw0, hw1, hw2⟩ := info_parts info3
  obtain ⟨ra, rc, rfl⟩ := ownE_len hm.rels
  obtain ⟨da, dc, rfl⟩ := ownE_len hm.doms
  have HM := hide (fun (W : World) (k : Keeps [P] w0 W) => hm.kept k (fun j hj => .inr (.inl (by have e : j = P := (by simpa using hj); omega))))
  have hT : ∀ W, Keeps [P] w0 W → W.ownsRow tb 245 4 (.slice (some ⟨gt, 0, none⟩) toks.length tc) toks.length (rtCs toks) := fun W k => ownsRow_kept htk k (fun j hj => by
    have e : gt = j := by simpa [Value.ownBlock] using hj
    simp
    omega)
  have HT := hide (fun (W : World) (k : Keeps [P] w0 W) (q : Nat) (t : Tn) (hq : toks[q]? = some t) => ownTok (hT W k) hq)
  have hsz0 := k0.size
  have hgt0 : gt < w0.heap.size := (ownE_lt htk gt rfl).2
  have hPl := hP.lt
  have hVl := hsc.v.lt
  have hDl := hsc.d.lt
  have hgtw : gt < w.heap.size := by omega
  have hiL : i < toks.length := (List.getElem?_eq_some_iff.1 ha.name).1
  have hiI : (i : Int) < toks.length := by omega
  -- the result's variable
  have kA := Keeps.alloc [] w (.cells #[.int .i64 0, .slice none 0 0, .bool false, .int .i64 0] 251)
  have hR1 := CellsAt.new w #[.int .i64 0, .slice none 0 0, .bool false, .int .i64 0] 251
  have hP1 := hP.keeps kA (by simp)
  have c3 := hP1.cell 3
  have k1 := k0.trans (kA.mono (T' := [P]) (by simp))
  obtain ⟨t0, t1, t2, t3⟩ := HT.out _ k1 i a.name ha.name
  have hrel := hide (fun (W : World) (k : Keeps [] w W) => rrel_at (HM.out _ (k0.trans (k.mono (T' := [P]) (by simp)))) ((hP.keeps k (by simp)).cell 1) (by have := hok.rels; omega) (txt a.name.g))
  generalize hρ : plInt (m.rel (txt a.name.g)) = ρ at *
  have Hρ := hide hρ
  generalize hRR : atomR m f sc a = RR
  have HRR := hide hRR
  have HP1 := hide hP1
  have HR1 := hide hR1
  have Hsc := hide hsc
  have Hf := hide hf
  have Hvn := hide hvn
  have Hon := hide hon
  have Hwf := hide hwf
  have Hm := hide hm
  have Htm := hide ha.list
  have Hnm := hide ha.name
  clear hρ hRR hP hP1 hR1 hsc hf hvn hon hwf hm ha htk hT
  go_enter Tryz.func292, Tryz.ntmps292
  go_upto_region 2 with fail
  go_cut [11] (fun y wd => y = .pointer (some ⟨w.heap.size + 1, 0, none⟩) ∧ Keeps [] w wd ∧ CellsAt wd P #[.slice da m.doms.length dc, .slice ra m.rels.length rc, kv, .slice (some ⟨gt, 0, none⟩) toks.length tc, .int .i64 (fC f).1, .int .i64 (fC f).2] ∧ CellsAt wd w.heap.size #[.int .i64 0, .slice none 0 0, .bool false, .int .i64 0] ∧ CellsAt wd (w.heap.size + 1) #[.int .i64 ρ, .slice none 0 0, .bool false, .int .i64 a.name.line])
  case first =>
    go_region_law (first
      | (refine step_callA rfl 193 _ _ rfl _ Tryz.func193 (by kernel_rfl) (by kernel_rfl) [.pointer (some ⟨P, 0, none⟩), .string (txt a.name.g)] rfl ?_
         refine (hrel.out _ (by first | exact kA.trans (Keeps.drew _ _) | exact (kA.trans (Keeps.alloc [] _ _)).trans (Keeps.drew _ _))).mono ?_
         rintro e w1 ⟨rfl, rfl⟩))
    all_goals
      go_wp2_with fail
      go_meet
      refine ⟨rfl, ?_, ?_, ?_, ?_⟩
      · first | exact (kA.trans (Keeps.drew _ _)).trans (Keeps.alloc [] _ _) | exact (kA.trans (Keeps.alloc [] _ _)).trans (Keeps.drew _ _)
      · first | exact (HP1.out.keeps (Keeps.drew [] _) (by simp)).keeps (Keeps.alloc [] _ _) (by simp) | exact (HP1.out.keeps (Keeps.alloc [] _ _) (by simp)).keeps (Keeps.drew [] _) (by simp)
      · first | exact (HR1.out.keeps (Keeps.drew [] _) (by simp)).keeps (Keeps.alloc [] _ _) (by simp) | exact (HR1.out.keeps (Keeps.alloc [] _ _) (by simp)).keeps (Keeps.drew [] _) (by simp)
      · first | exact cells_new3 _ _ _ _ | exact (cells_new2 _ _ _ _).keeps (Keeps.drew [] _) (by simp)
  case rest =>
    obtain ⟨rfl, kc, hPc, hRc, hAc⟩ := hcut
    have k2 := k0.trans (kc.mono (T' := [P]) (by simp))
    obtain ⟨tk0, tk1, tk2, tk3⟩ := HT.out _ k2 i a.name Hnm.out
    have a0 := hAc.cell 0
    have hszc := kc.size
    have hgtc : gt < wc.heap.size := by omega
    have hwr := hide (fun (bb : Bool) => wrongG_calls (w := wc.drew) (P := P) Hf.out (rkind a.name.g) (numOf a.name.g) a.name.line (txt a.name.g) bb 8 (hPc.keeps (Keeps.drew [] _) (by simp)))
    have HRc := hide hRc
    have HAc := hide hAc
    generalize hF1 : wrong f (decide (ρ < 0)) 8 a.name.line = f1
    have HF1 := hide hF1
    clear hF1 hPc hRc hAc hrel t0 t1 t2 t3 c3 HP1 HR1 k1 kA
    rename World => wA
    go_upto_region 3 with fail
    go_cut [] (fun wd => CellsAt wd P #[.slice da m.doms.length dc, .slice ra m.rels.length rc, kv, .slice (some ⟨gt, 0, none⟩) toks.length tc, .int .i64 (fC f1).1, .int .i64 (fC f1).2] ∧ Keeps [P] wA wd)
    case first =>
      go_region_law (first
        | (refine step_callA rfl 272 _ _ rfl _ Tryz.func272 (by kernel_rfl) (by kernel_rfl) [.pointer (some ⟨P, 0, none⟩), .bool (decide (ρ < 0)), .int .i64 8, .agg #[.int .u8 (rkind a.name.g), .string (txt a.name.g), .int .i64 (numOf a.name.g), .int .i64 a.name.line]] rfl ?_
           refine (hwr.out _).mono ?_
           rintro e w6 ⟨rfl, hC6, k6, _⟩
           have HC6 := hide hC6
           have K6 := hide ((Keeps.drew [P] wA).trans k6)
           clear hC6 k6))
      all_goals
        go_wp2_with fail
        go_meet
        exact ⟨by rw [← HF1.out]; exact HC6.out, K6.out⟩
    case rest =>
      rename World => wN
      obtain ⟨hPd, kd⟩ := hcut
      have hfo : FOk f1 := by rw [← HF1.out]; exact Hf.out.wrong _ (by decide)
      have HfO := hide hfo
      have k3 := k2.trans kd
      have hPw0 : P < w0.heap.size := hP0
      obtain ⟨tk0, tk1, tk2, tk3⟩ := HT.out _ k3 i a.name Hnm.out
      have HAt0 := hide (AtR.start (n := a.name) (ρ := ρ) (f := f1) Hsc.out hPw0 hsz0 ((kc.mono (T' := [P]) (by simp)).trans kd) hPd (HRc.out.keeps kd (fun q => by have e : w.heap.size = P := (by simpa using q); omega)) (HAc.out.keeps kd (fun q => by have e : w.heap.size + 1 = P := (by simpa using q); omega)))
      have hgtd : gt < wN.heap.size := by have := kd.size; omega
      have hnn : 0 < a.terms.length := List.length_pos_iff.2 Htm.out.some
      clear hfo hPd k2 k3 kd a0 hwr HRc HAc
      go_wp2_with fail
      go_loopw [1] (fun x wr => ∃ (q : Nat) (ts : List Tn) (tv : Value), x = .int .i64 q ∧ q = i + 2 + 2 * ts.length ∧ ts.length < a.terms.length ∧ a.terms.take ts.length = ts ∧ AtR w wr P V D wN.heap.size w0.heap.size (.slice da m.doms.length dc) (.slice ra m.rels.length rc) kv (.slice (some ⟨gt, 0, none⟩) toks.length tc) a.name ρ (P :: scF V D vv dd) f1 vts (sc.map Prod.snd) vv dd ts tv) (fun x _ => i + 2 + 2 * a.terms.length - (intOf x).toNat)
      case atStart => exact ⟨i + 2, [], _, by simp, by simp, hnn, rfl, HAt0.out⟩
      case round =>
        clear HAt0 tk0 tk1 tk2 tk3
        obtain ⟨q, ts, tv, rfl, hq, hk, hts, hAt⟩ := hrel
        obtain ⟨t, ht⟩ : ∃ t, a.terms[ts.length]? = some t := ⟨_, List.getElem?_eq_getElem hk⟩
        have hq1 : toks[q]? = some t := by
          have := Htm.out.elem ts.length t ht
          rw [← this]
          congr 1
          omega
        obtain ⟨s, hs1, hs2⟩ := Htm.out.sep ts.length hk
        have hq2 : toks[q + 1]? = some s := by
          rw [← hs1]
          congr 1
          omega
        have hq2L : q + 1 < toks.length := (List.getElem?_eq_some_iff.1 hq2).1
        have hqI : (q : Int) < toks.length := by omega
        have hqJ : (q : Int) + 1 < toks.length := by omega
        have hst : ts ++ [t] = a.terms.take (ts.length + 1) := by
          rw [List.take_add_one, ht, hts]
          rfl
        have hend : q + 2 = i + 2 + 2 * (ts.length + 1) := by omega
        have htl2 : ts.length ≤ 1000000 := by omega
        obtain ⟨ta, tcc, rfl⟩ := ownE_len hAt.row
        have kw := hAt.low k0
        obtain ⟨v0, v1, v2, v3⟩ := HT.out _ kw q t hq1
        have kK := Keeps.alloc [] wr (.cells #[.int .u8 (rkind t.g), .string (txt t.g), .int .i64 (numOf t.g), .int .i64 t.line] 245)
        have d1 := hAt.at_.cell 1
        have d1' := (hAt.at_.keeps kK (by simp)).cell 1
        have rowA := ownsRow_kept hAt.row kK (by simp)
        have hwz := hAt.nm.lt
        have hAl := hAt.at_.lt
        have hgtr : gt < wr.heap.size := by have := kw.size; omega
        have HAt := hide hAt
        have Hk := hide hk
        have Hst := hide hst
        have Hend := hide hend
        have Hq2 := hide hq2
        have Hs2 := hide hs2
        clear hAt hk hst hend hq2 hs1 hs2 hq hts ht hq1 hq2L
        rename World => wL
        go_upto_region 6 with fail
        go_cut [] (fun wd => ∃ gg cap, AtR w wd P V D wN.heap.size w0.heap.size (.slice da m.doms.length dc) (.slice ra m.rels.length rc) kv (.slice (some ⟨gt, 0, none⟩) toks.length tc) a.name ρ (P :: scF V D vv dd) f1 vts (sc.map Prod.snd) vv dd (ts ++ [t]) (.slice (some ⟨gg, 0, none⟩) (ts.length + 1) cap))
        case first =>
          go_region_law (first
            | (refine step_append_lies _ (by rfl) _ _ _ (by rfl) (wN.heap.size + 1) 245 i0 _ 4 40 Tryz.underlying241 hi0 hz0 hz1 hz2 rfl (by omega) (.slice ta ts.length tcc) ts.length (rtCs ts) (by rfl) (ownsRow_kept rowA (Keeps.drew [] _) (by simp)) ⟨wL.heap.size, 0, none⟩ 1 1 [.int .u8 (rkind t.g), .string (txt t.g), .int .i64 (numOf t.g), .int .i64 t.line] (by rfl) (by rfl) (four_cells (W := wL)) (by simp [Value.oneCell']) (by omega) (by unfold maxLen; omega) (by omega) (by show wN.heap.size + 1 ≤ (wL.alloc _).heap.size; rw [sizeE_alloc]; omega) (wL.heap.size + 1) (by show (wL.alloc _).heap.size = _; rw [sizeE_alloc]) ?_
               intro gg cap w5 hown5 hgrow hat hlt5
               obtain ⟨hA5, hNew⟩ := HAt.out.push (t := t) (kK.trans (Keeps.drew [] _)) hown5 hgrow (by rcases hat with q | q; exact .inl q; exact .inr (by rw [q]; show _ = (wL.alloc _).heap.size; rw [sizeE_alloc]))
               have HN := hide hNew
               have e1 := hA5.cell 1
               have f1' := hA5.frozen 1
               clear hA5 hNew))
          all_goals
            go_wp2_with fail
            go_meet
            exact ⟨_, _, HN.out⟩
        case rest =>
          obtain ⟨gg, cap, hAt⟩ := hcut
          have kwc := hAt.low k0
          have hs1 := (HT.out _ kwc (q + 1) s Hq2.out).2.1
          have hb := txt_rp (Hwf.out s (List.mem_of_getElem? Hq2.out))
          rw [Hs2.out] at hb
          have hgtx : gt < wc.heap.size := by have := kwc.size; omega
          clear v0 v1 v2 v3 d1 d1' rowA kK kw
          by_cases hlast : ts.length + 1 = a.terms.length
          · have hbt : ((txt s.g).toList == [41]) = true := by rw [hb]; simpa using hlast
            have hall : ts ++ [t] = a.terms := by rw [Hst.out, hlast, List.take_length]
            rw [hall, hlast] at hAt
            have hend2 : q + 2 = atomEnd i a := by have := Hend.out; unfold atomEnd; omega
            have Hend2 := hide hend2
            have htl3 : a.terms.length ≤ 1000001 := by omega
            clear hb hall hend2 Hst Hend Hq2 Hs2 Hk hlast htl2
            cases hmr : m.rel (txt a.name.g) with
            | none =>
              have hρ : ρ = -1 := by rw [← Hρ.out, hmr]; rfl
              subst hρ
              have HRn : Hid ((f1, sc) = RR) := hide (by rw [← HRR.out, ← HF1.out]; unfold atomR; rw [hmr]; rfl)
              have g0 := hAt.at_.cell 0
              have g1 := hAt.at_.cell 1
              have g2 := hAt.at_.cell 2
              have g3 := hAt.at_.cell 3
              obtain ⟨b0, b0', b1, b1', b2, b2', b3, b3', hat, hk⟩ := res4 hAt.res (.int .i64 (-1)) (.slice (some ⟨gg, 0, none⟩) a.terms.length cap) (.bool false) (.int .i64 a.name.line)
              have Hat := hide hat
              have Hkk := hide hk
              have HA2 := hide hAt
              clear hat hk hAt hmr
              go_wp2_with fail
              refine bodyPost_ret (ret_pair (t := 9) (p := 8) (ty := 251) (by kernel_rfl) _ Hat.out Tryz.underlying251 size251 rfl) rfl ?_
              rw [← HRn.out]
              exact AtRTo.of HA2.out Hvn.out Hkk.out (by rw [← Hend2.out]; simp; omega)
            | some r =>
              have hρ : ρ = (r : Int) := by rw [← Hρ.out, hmr]; rfl
              subst hρ
              have hrl : r < m.rels.length := placeIn_lt hmr
              obtain ⟨⟨rn, ds⟩, hrs⟩ : ∃ x, m.rels[r]? = some x := ⟨_, List.getElem?_eq_getElem hrl⟩
              have hcols : m.cols r = ds := by simp [Mean.cols, hrs]
              have hds : ∀ d ∈ ds, d < m.doms.length := (hok.cols _ (List.mem_of_getElem? hrs)).2
              have hdl : ds.length ≤ 3 := (hok.cols _ (List.mem_of_getElem? hrs)).1
              have hff : f1 = f := by
                rw [← HF1.out, show decide ((r : Int) < 0) = false by simp, wrong_false]
              have hMc := HM.out _ kwc
              obtain ⟨gr, hgr⟩ := ownE_pos2 hMc.rels (by omega)
              subst hgr
              obtain ⟨cv, _, hc2, hcrow⟩ := Hm.out.rrs.at hrs
              obtain ⟨ca, cc, rfl⟩ := ownE_len hcrow
              have Hcol := hide (fun (W : World) (k : Keeps [P] w0 W) => ownsRow_kept hcrow k (fun j hj => by have := (ownE_lt hcrow j hj).1; simp; omega))
              have e1 : wc.cell? ⟨gr, r * 2 + 1, none⟩ = some (.slice ca ds.length cc) := ownE_cells hMc.rels hc2
              have p1 := hAt.cells.cell 1
              have g0 := hAt.at_.cell 0
              have g1 := hAt.at_.cell 1
              have n0 := hAt.nm.cell 0
              have n1 := hAt.nm.cell 1
              have n2 := hAt.nm.cell 2
              have n3 := hAt.nm.cell 3
              have hrI : (r : Int) < m.rels.length := by omega
              have hwr := hide (fun (x : Nat) (bb : Bool) => wrongG_calls (w := wc.drewN x) (P := P) HfO.out (rkind a.name.g) (numOf a.name.g) a.name.line (txt a.name.g) bb 10 (hAt.cells.keeps (Keeps.drewN [] _ x) (by simp)))
              have HR1 : Hid (termsR m (wrong f1 (decide (a.terms.length ≠ ds.length)) 10 a.name.line) sc a.terms ds = RR) := hide (by rw [← HRR.out, hff]; unfold atomR; rw [hmr]; simp only [hcols])
              have Hds := hide hds
              have HA2 := hide hAt
              clear hmr hcols hds hff hMc hc2 hcrow hAt kwc
              go_wp2_with fail
              go_quiet (fail)
              go_wp2_with fail
              refine (hwr.out _ _).mono ?_
              rintro e w6 ⟨rfl, hC6, k6, _⟩
              have hA6 := (HA2.out.kept (Keeps.drewN [] _ nq)).wronged k6 hC6
              generalize hF2 : wrong f1 ((a.terms.length : Int) != (ds.length : Int)) 10 a.name.line = f2 at hA6
              have hbn : decide (a.terms.length ≠ ds.length) = ((a.terms.length : Int) != (ds.length : Int)) := by
                by_cases h : a.terms.length = ds.length
                · simp [h]
                · have h2 : ¬ (a.terms.length : Int) = (ds.length : Int) := by omega
                  simp [h, bne, h2]
              have HR2 : Hid (termsR m f2 sc a.terms ds = RR) := hide (by rw [← hF2, ← hbn]; exact HR1.out)
              have Hf2 : Hid (FOk f2) := hide (by rw [← hF2]; exact HfO.out.wrong _ (by decide))
              have HA6 := hide hA6
              have g1 := hA6.at_.cell 1
              clear hF2 hbn HR1 hwr HA2 hC6 k6 e1 p1 g0 n0 n1 n2 n3 hA6 HfO
              go_wp2_with fail
              go_loopw [14] (fun x wr => ∃ (k : Nat) (fi : FltO) (sci : Scope) (vti : List Tn) (dsi : List Nat) (vvi ddi : Value), x = .int .i64 k ∧ k ≤ a.terms.length ∧ k ≤ ds.length ∧ FOk fi ∧ Once sci ∧ sci.length ≤ sc.length + k ∧ vti.map (fun t => txt t.g) = sci.map Prod.fst ∧ dsi = sci.map Prod.snd ∧ AtR w wr P V D wN.heap.size w0.heap.size (.slice da m.doms.length dc) (.slice (some ⟨gr, 0, none⟩) m.rels.length rc) kv (.slice (some ⟨gt, 0, none⟩) toks.length tc) a.name (r : Int) (P :: scF V D vv dd) fi vti dsi vvi ddi a.terms (.slice (some ⟨gg, 0, none⟩) a.terms.length cap) ∧ termsR m fi sci (a.terms.drop k) (ds.drop k) = RR) (fun x _ => a.terms.length - (intOf x).toNat)
              case atStart => exact ⟨0, f2, sc, vts, _, vv, dd, rfl, by omega, by omega, Hf2.out, Hon.out, by omega, Hvn.out, rfl, HA6.out, by rw [List.drop_zero, List.drop_zero]; exact HR2.out⟩
              case round =>
                clear HA6 HR2 Hf2 g1 hs1 hgtx
                obtain ⟨k, fi, sci, vti, dsi, vvi, ddi, rfl, hka, hkd, hfi, hoi, hli, hvi, hdsi, hAt, hres⟩ := hrel
                have kw := hAt.low k0
                have g1 := hAt.at_.cell 1
                have hvl : vti.length = sci.length := by have := congrArg List.length hvi; simpa using this
                by_cases hk1 : k < a.terms.length
                · have hk1I : (k : Int) < a.terms.length := by omega
                  by_cases hk2 : k < ds.length
                  · have hk2I : (k : Int) < ds.length := by omega
                    obtain ⟨t, ht⟩ : ∃ t, a.terms[k]? = some t := ⟨_, List.getElem?_eq_getElem hk1⟩
                    obtain ⟨d, hd⟩ : ∃ d, ds[k]? = some d := ⟨_, List.getElem?_eq_getElem hk2⟩
                    have hdt : a.terms.drop k = t :: a.terms.drop (k + 1) := by
                      rw [List.drop_eq_getElem_cons hk1]
                      congr 1
                      rw [List.getElem?_eq_getElem hk1] at ht
                      exact Option.some.inj ht
                    have hdd : ds.drop k = d :: ds.drop (k + 1) := by
                      rw [List.drop_eq_getElem_cons hk2]
                      congr 1
                      rw [List.getElem?_eq_getElem hk2] at hd
                      exact Option.some.inj hd
                    rw [hdt, hdd, termsR] at hres
                    obtain ⟨r0, r1, r2, r3⟩ := ownTok hAt.row ht
                    obtain ⟨gc, hgc⟩ := ownE_pos2 (Hcol.out wr kw) (by omega)
                    subst hgc
                    have Hcd := hide (fun (W : World) (kW : Keeps [P] w0 W) => ownE_cells (Hcol.out W kW) (colC_at hd))
                    have hdm := Hds.out d (List.mem_of_getElem? hd)
                    have kK := Keeps.alloc [] wr (.cells #[.int .u8 (rkind t.g), .string (txt t.g), .int .i64 (numOf t.g), .int .i64 t.line] 245)
                    have hK := CellsAt.new wr #[.int .u8 (rkind t.g), .string (txt t.g), .int .i64 (numOf t.g), .int .i64 t.line] 245
                    have hAt1 := hAt.kept kK
                    have kw1 := hAt1.low k0
                    have x0 := hK.cell 0
                    have x1 := hK.cell 1
                    have x2 := hK.cell 2
                    have x3 := hK.cell 3
                    have hggl : gg < wr.heap.size := (ownE_lt hAt.row gg rfl).2
                    have hki := kind_int t.g
                    have Hvi := hide hvi
                    have Hdsi := hide hdsi
                    have Hdl : dsi.length = sci.length := by rw [hdsi, List.length_map]
                    have Hdsl := hide Hdl
                    have Hvl := hide hvl
                    have Hoi := hide hoi
                    have Hfi := hide hfi
                    have HAt1 := hide hAt1
                    have HK := hide hK
                    have Hres := hide hres
                    have hPr := hAt.cells.lt
                    have hVr := hAt.sc.v.lt
                    have hDr := hAt.sc.d.lt
                    clear hAt hAt1 hK hdt hdd hres hvi hvl hoi hfi ht hd kw Hcol hdsi Hdl
                    cases hg : isIntG t.g with
                    | true =>
                      rw [hg] at hki
                      obtain ⟨⟨dn, sz⟩, hdz⟩ : ∃ x, m.doms[d]? = some x := ⟨_, List.getElem?_eq_getElem hdm⟩
                      have hMd := (HM.out _ kw1).doms
                      obtain ⟨gd, hgd⟩ := ownE_pos2 hMd (by omega)
                      subst hgd
                      have y1 := ownE_cells hMd (domCs_at hdz).2
                      have p0 := HAt1.out.cells.cell 0
                      have y0 := Hcd.out _ kw1
                      have hsz : m.size d = sz := by simp [Mean.size, hdz]
                      have hdI : (d : Int) < m.doms.length := by omega
                      have hd0 : decide ((0 : Int) ≤ (d : Int)) = true := by simp
                      have hwr := hide (fun (bb : Bool) => wrongG_calls (w := (wr.alloc (.cells #[.int .u8 (rkind t.g), .string (txt t.g), .int .i64 (numOf t.g), .int .i64 t.line] 245)).drew) (P := P) Hfi.out (rkind t.g) (numOf t.g) t.line (txt t.g) bb 9 (HAt1.out.cells.keeps (Keeps.drew [] _) (by simp)))
                      have HR9 : Hid (termsR m (wrong fi (decide (sz ≤ numOf t.g)) 9 t.line) sci (a.terms.drop (k + 1)) (ds.drop (k + 1)) = RR) := hide (by rw [← Hres.out]; simp only [termR, hg, if_true, hsz])
                      clear hMd hdz hsz Hres Hcd HK Hds hg
                      go_upto_region 19 with fail
                      refine wp_region_quiet_tail 23 (by kernel_rfl) (by kernel_rfl) ?_
                      simp only [List.take_succ_cons, List.take_zero, List.drop_succ_cons, List.drop_zero]
                      repeat (go_big_quiet_step (fail))
                      refine wpQuiet_nil ?_
                      go_wp2_with fail
                      refine (hwr.out _).mono ?_
                      rintro e w6 ⟨rfl, hC6, k6, _⟩
                      have HN := hide ((HAt1.out.kept (Keeps.drew [] _)).wronged k6 hC6)
                      clear hC6 k6
                      go_wp2_with fail
                      go_roundw
                      · exact ⟨k + 1, _, sci, vti, dsi, vvi, ddi, by simp, by omega, by omega, Hfi.out.wrong _ (by decide), Hoi.out, by omega, Hvi.out, Hdsi.out, HN.out, HR9.out⟩
                      · simp only [intOf]; omega
                    | false =>
                      rw [hg] at hki
                      obtain ⟨va, vc, hvv⟩ := ownE_len HAt1.out.sc.vrow
                      subst hvv
                      obtain ⟨dda, ddc, hddv⟩ := ownE_len HAt1.out.sc.drow
                      subst hddv
                      have v0 := HAt1.out.sc.v.cell 0
                      have hvm : vti.length ≤ 2000000 := by have := Hvl.out; omega
                      clear kK kw1
                      go_wp2_with fail
                      rename World => wo
                      go_loopw [16, 17] (fun y x wj => ∃ (j : Nat) (at_ : Int), y = .int .i64 at_ ∧ x = .int .i64 j ∧ j ≤ vti.length ∧ Fnd sci (txt t.g) j at_ ∧ AtR w wj P V D wN.heap.size w0.heap.size (.slice da m.doms.length dc) (.slice (some ⟨gr, 0, none⟩) m.rels.length rc) kv (.slice (some ⟨gt, 0, none⟩) toks.length tc) a.name (r : Int) (P :: scF V D vv dd) fi vti dsi (.slice va vti.length vc) (.slice dda dsi.length ddc) a.terms (.slice (some ⟨gg, 0, none⟩) a.terms.length cap) ∧ CellsAt wj wo.heap.size #[.int .u8 (rkind t.g), .string (txt t.g), .int .i64 (numOf t.g), .int .i64 t.line]) (fun _ x _ => vti.length - (intOf x).toNat)
                      case atStart => exact ⟨0, -1, rfl, rfl, by omega, Fnd.zero _ _, HAt1.out, HK.out⟩
                      case round =>
                        clear v0 x0 x1 x2 x3 HAt1 HK g1 r0 r1 r2 r3 hggl hVr hDr
                        obtain ⟨j, at_, rfl, rfl, hj, hfnd, hAt, hK⟩ := hrel
                        have v0 := hAt.sc.v.cell 0
                        have x1 := hK.cell 1
                        by_cases hjl : j < vti.length
                        · have hjI : (j : Int) < vti.length := by omega
                          obtain ⟨tj, htj⟩ : ∃ tj, vti[j]? = some tj := ⟨_, List.getElem?_eq_getElem hjl⟩
                          obtain ⟨xj, hxj⟩ : ∃ xj, sci[j]? = some xj := ⟨_, List.getElem?_eq_getElem (by have := Hvl.out; omega)⟩
                          have hnx : txt tj.g = xj.1 := by
                            have := congrArg (fun l : List ByteArray => l[j]?) Hvi.out
                            simpa [htj, hxj] using this
                          obtain ⟨gv, hgv⟩ := ownE_pos2 hAt.sc.vrow (by omega)
                          subst hgv
                          have y1 := (ownTok hAt.sc.vrow htj).2.1
                          have HA2 := hide hAt
                          have HK2 := hide hK
                          by_cases he : txt tj.g = txt t.g
                          · have hb : ((txt tj.g).toList == (txt t.g).toList) = true := str_eq.2 he
                            have HF : Hid (Fnd sci (txt t.g) (j + 1) (j : Int)) := hide (Fnd.hit hxj (by rw [← hnx]; exact he))
                            clear he hnx hxj htj hAt hK hfnd
                            go_wp2_with fail
                            go_quiet (fail)
                            go_wp2_with fail
                            go_roundw
                            · exact ⟨j + 1, j, rfl, by simp, by omega, HF.out, HA2.out.kept (Keeps.drewN [] _ _), HK2.out.keeps (Keeps.drewN [] _ _) (by simp)⟩
                            · simp only [intOf]; omega
                          · have hb : ((txt tj.g).toList == (txt t.g).toList) = false := by rw [← Bool.not_eq_true, str_eq]; exact he
                            have HF : Hid (Fnd sci (txt t.g) (j + 1) at_) := hide (hfnd.miss hxj (by rw [← hnx]; exact he))
                            clear he hnx hxj htj hAt hK hfnd
                            go_wp2_with fail
                            go_quiet (fail)
                            go_wp2_with fail
                            go_roundw
                            · exact ⟨j + 1, at_, rfl, by simp, by omega, HF.out, HA2.out.kept (Keeps.drewN [] _ _), HK2.out.keeps (Keeps.drewN [] _ _) (by simp)⟩
                            · simp only [intOf]; omega
                        · have hjI : ¬ (j : Int) < vti.length := by omega
                          have hje : j = sci.length := by have := Hvl.out; omega
                          have hpl := Fnd.done Hoi.out (hje ▸ hfnd)
                          have kwj := hAt.low k0
                          have y0 := Hcd.out _ kwj
                          have x0 := hK.cell 0
                          have x2 := hK.cell 2
                          have x3 := hK.cell 3
                          have hwr := hide (fun (bb : Bool) (c : Nat) => wrongG_calls (w := wr.drew) (P := P) Hfi.out (rkind t.g) (numOf t.g) t.line (txt t.g) bb c (hAt.cells.keeps (Keeps.drew [] _) (by simp)))
                          have HA2 := hide hAt
                          have HK2 := hide hK
                          clear hje hfnd hK
                          cases hp : placeIn sci (txt t.g) with
                          | some p =>
                            have hat : at_ = (p : Int) := by rw [hpl, hp]; rfl
                            subst hat
                            obtain ⟨dp, hdp⟩ := placeIn_some hp
                            have hpL : p < sci.length := (List.getElem?_eq_some_iff.1 hdp).1
                            have hpI : (p : Int) < (dsi.length : Nat) := by have := Hdsl.out; omega
                            have hp0 : ¬ (p : Int) < 0 := by omega
                            obtain ⟨gd, hgd⟩ := ownE_pos2 hAt.sc.drow (by have := Hdsl.out; omega)
                            subst hgd
                            have z0 := hAt.sc.d.cell 0
                            have z1 : wr.cell? ⟨gd, p, none⟩ = some (.int .i64 (dp : Int)) := ownE_cells hAt.sc.drow (colC_at (by rw [Hdsi.out]; simp [hdp]))
                            have hbn : decide (dp ≠ d) = ((dp : Int) != (d : Int)) := by
                              by_cases h : dp = d
                              · simp [h]
                              · have h2 : ¬ (dp : Int) = (d : Int) := by omega
                                simp [h, bne, h2]
                            have HR9 : Hid (termsR m (wrong fi ((dp : Int) != (d : Int)) 11 t.line) sci (a.terms.drop (k + 1)) (ds.drop (k + 1)) = RR) := hide (by rw [← Hres.out, ← hbn]; simp [termR, hg, hp, hdp])
                            clear hp hdp hpl hAt hbn hg Hres Hcd Hds
                            go_upto_region 30 with fail
                            refine wp_region_quiet_tail 13 (by kernel_rfl) (by kernel_rfl) ?_
                            simp only [List.take_succ_cons, List.take_zero, List.drop_succ_cons, List.drop_zero]
                            repeat (go_big_quiet_step (fail))
                            refine wpQuiet_nil ?_
                            go_wp2_with fail
                            refine (hwr.out _ 11).mono ?_
                            rintro e w6 ⟨rfl, hC6, k6, _⟩
                            have HN := hide ((HA2.out.kept (Keeps.drew [] _)).wronged k6 hC6)
                            clear hC6 k6
                            go_wp2_with fail
                            go_roundw
                            · exact ⟨k + 1, _, sci, vti, dsi, _, _, by simp, by omega, by omega, Hfi.out.wrong _ (by decide), Hoi.out, by omega, Hvi.out, Hdsi.out, HN.out, HR9.out⟩
                            · simp only [intOf]; omega
                          | none =>
                            have hat : at_ = -1 := by rw [hpl, hp]; rfl
                            subst hat
                            generalize hF6 : wrong fi ((vti.length : Int) == 4) 6 t.line = f6
                            have hbn : decide (sci.length = 4) = ((vti.length : Int) == 4) := by
                              rw [Hvl.out]
                              by_cases h : sci.length = 4
                              · simp [h]
                              · have h2 : ¬ (sci.length : Int) = 4 := by omega
                                simp [h, h2]
                            have HR6 : Hid (termsR m f6 (sci ++ [(txt t.g, d)]) (a.terms.drop (k + 1)) (ds.drop (k + 1)) = RR) := hide (by rw [← Hres.out, ← hF6, ← hbn]; simp [termR, hg, hp])
                            have Hon6 : Hid (Once (sci ++ [(txt t.g, d)])) := hide (Hoi.out.push hp d)
                            have Hf6 : Hid (FOk f6) := hide (by rw [← hF6]; exact Hfi.out.wrong _ (by decide))
                            have Hvn6 : Hid ((vti ++ [t]).map (fun t => txt t.g) = (sci ++ [(txt t.g, d)]).map Prod.fst) := hide (by simp [Hvi.out])
                            have HF6 := hide hF6
                            clear hp hpl hAt hbn hg Hres Hds hF6
                            rename World => wj
                            go_upto_region 27 with fail
                            go_cut [] (fun wd => AtR w wd P V D wN.heap.size w0.heap.size (.slice da m.doms.length dc) (.slice (some ⟨gr, 0, none⟩) m.rels.length rc) kv (.slice (some ⟨gt, 0, none⟩) toks.length tc) a.name (r : Int) (P :: scF V D vv dd) f6 vti dsi (.slice va vti.length vc) (.slice dda dsi.length ddc) a.terms (.slice (some ⟨gg, 0, none⟩) a.terms.length cap) ∧ CellsAt wd wo.heap.size #[.int .u8 (rkind t.g), .string (txt t.g), .int .i64 (numOf t.g), .int .i64 t.line])
                            case first =>
                              go_region_law (first
                                | (refine step_callA rfl 272 _ _ rfl _ Tryz.func272 (by kernel_rfl) (by kernel_rfl) [.pointer (some ⟨P, 0, none⟩), .bool ((vti.length : Int) == 4), .int .i64 6, .agg #[.int .u8 (rkind t.g), .string (txt t.g), .int .i64 (numOf t.g), .int .i64 t.line]] rfl ?_
                                   refine (hwr.out _ 6).mono ?_
                                   rintro e w6 ⟨rfl, hC6, k6, _⟩
                                   have HN := hide ((HA2.out.kept (Keeps.drew [] _)).wronged k6 hC6)
                                   have HK6 := hide ((HK2.out.keeps (Keeps.drew [] _) (by simp)).keeps k6 (fun q => by have e : wo.heap.size = P := (by simpa using q); omega))
                                   clear hC6 k6))
                              all_goals
                                go_wp2_with fail
                                go_meet
                                exact ⟨by rw [← HF6.out]; exact HN.out, HK6.out⟩
                            case rest =>
                              obtain ⟨hAt, hK⟩ := hcut
                              rename World => w7
                              have kL := Keeps.alloc [] w7 (.cells #[.int .u8 (rkind t.g), .string (txt t.g), .int .i64 (numOf t.g), .int .i64 t.line] 245)
                              have v0 := hAt.sc.v.cell 0
                              have v0' := (hAt.sc.v.keeps kL (by simp)).cell 0
                              have x0 := hK.cell 0
                              have x1 := hK.cell 1
                              have x2 := hK.cell 2
                              have x3 := hK.cell 3
                              have rowA := ownsRow_kept hAt.sc.vrow kL (by simp)
                              have hsz6 := (hAt.low k0).size
                              have hVl6 := hAt.sc.v.lt
                              have HA3 := hide hAt
                              clear hAt hK HA2 HK2 hwr
                              go_upto_region 28 with fail
                              go_cut [] (fun wd => ∃ g2 cap2, AtR w wd P V D wN.heap.size w0.heap.size (.slice da m.doms.length dc) (.slice (some ⟨gr, 0, none⟩) m.rels.length rc) kv (.slice (some ⟨gt, 0, none⟩) toks.length tc) a.name (r : Int) (P :: scF V D vv dd) f6 (vti ++ [t]) dsi (.slice (some ⟨g2, 0, none⟩) (vti.length + 1) cap2) (.slice dda dsi.length ddc) a.terms (.slice (some ⟨gg, 0, none⟩) a.terms.length cap))
                              case first =>
                                go_region_law (first
                                  | (refine step_append_lies _ (by rfl) _ _ _ (by rfl) w0.heap.size 245 i0 _ 4 40 Tryz.underlying241 hi0 hz0 hz1 hz2 rfl (by omega) (.slice va vti.length vc) vti.length (rtCs vti) (by rfl) (ownsRow_kept rowA (Keeps.drew [] _) (by simp)) ⟨w7.heap.size, 0, none⟩ 1 1 [.int .u8 (rkind t.g), .string (txt t.g), .int .i64 (numOf t.g), .int .i64 t.line] (by rfl) (by rfl) (four_cells (W := w7)) (by simp [Value.oneCell']) (by omega) (by unfold maxLen; omega) (by omega) (by show w0.heap.size ≤ (w7.alloc _).heap.size; rw [sizeE_alloc]; omega) (w7.heap.size + 1) (by show (w7.alloc _).heap.size = _; rw [sizeE_alloc]) ?_
                                     intro g2 cap2 w5 hown5 hgrow hat hlt5
                                     obtain ⟨hV5, hNew, _⟩ := HA3.out.pushV (t := t) (kL.trans (Keeps.drew [] _)) hown5 hgrow (by rcases hat with q | q; exact .inl q; exact .inr (by rw [q]; show _ = (w7.alloc _).heap.size; rw [sizeE_alloc]))
                                     have HN := hide hNew
                                     have e1 := hV5.cell 0
                                     have f1' := hV5.frozen 0
                                     clear hV5 hNew))
                                all_goals
                                  go_wp2_with fail
                                  go_meet
                                  exact ⟨_, _, HN.out⟩
                              case rest =>
                                obtain ⟨g2, cap2, hAt⟩ := hcut
                                rename World => w8
                                have kM := Keeps.alloc [] w8 (.cells #[.int .i64 (d : Int)] 3)
                                have z0 := hAt.sc.d.cell 0
                                have z0' := (hAt.sc.d.keeps kM (by simp)).cell 0
                                have y0 := Hcd.out _ (hAt.low k0)
                                have rowB := ownsRow_kept hAt.sc.drow kM (by simp)
                                have hsz8 := (hAt.low k0).size
                                have hDl8 := hAt.sc.d.lt
                                have HA4 := hide hAt
                                have hsm : dsi.length ≤ 2000000 := by have := Hdsl.out; omega
                                clear hAt HA3 v0 v0' x0 x1 x2 x3 rowA kL Hcd
                                go_wp2_with fail
                                go_region_law (first
                                  | (refine step_append_lies _ (by rfl) _ _ _ (by rfl) w0.heap.size 3 i3 _ 1 8 Tryz.underlying40 hi3 hw0 hw1 hw2 rfl (by omega) (.slice dda dsi.length ddc) dsi.length (colC dsi) (by rfl) (ownsRow_kept rowB (Keeps.drew [] _) (by simp)) ⟨w8.heap.size, 0, none⟩ 1 1 [.int .i64 (d : Int)] (by rfl) (by rfl) (int_one (W := w8)) (by simp [Value.oneCell']) (by omega) (by unfold maxLen; omega) (by omega) (by show w0.heap.size ≤ (w8.alloc _).heap.size; rw [sizeE_alloc]; omega) (w8.heap.size + 1) (by show (w8.alloc _).heap.size = _; rw [sizeE_alloc]) ?_
                                     intro g3 cap3 w5 hown5 hgrow hat hlt5
                                     obtain ⟨hD5, hNew⟩ := HA4.out.pushD (d := d) (kM.trans (Keeps.drew [] _)) hown5 hgrow (by rcases hat with q | q; exact .inl q; exact .inr (by rw [q]; show _ = (w8.alloc _).heap.size; rw [sizeE_alloc]))
                                     have HN := hide hNew
                                     have e1 := hD5.cell 0
                                     have f1' := hD5.frozen 0
                                     clear hD5 hNew))
                                all_goals
                                  go_wp2_with fail
                                  go_roundw
                                  · exact ⟨k + 1, f6, sci ++ [(txt t.g, d)], vti ++ [t], dsi ++ [d], _, _, by simp, by omega, by omega, Hf6.out, Hon6.out, by rw [List.length_append, List.length_singleton]; omega, Hvn6.out, by rw [List.map_append, Hdsi.out]; rfl, HN.out, HR6.out⟩
                                  · simp only [intOf]; omega
                  · have hk2I : ¬ (k : Int) < ds.length := by omega
                    subst hdsi
                    have HRn : Hid ((fi, sci) = RR) := hide (by
                      rw [← hres, show ds.drop k = [] from List.drop_eq_nil_of_le (by omega)]
                      cases a.terms.drop k <;> rfl)
                    have g0 := hAt.at_.cell 0
                    have g2 := hAt.at_.cell 2
                    have g3 := hAt.at_.cell 3
                    obtain ⟨b0, b0', b1, b1', b2, b2', b3, b3', hat, hk⟩ := res4 hAt.res (.int .i64 (r : Int)) (.slice (some ⟨gg, 0, none⟩) a.terms.length cap) (.bool false) (.int .i64 a.name.line)
                    have Hat := hide hat
                    have Hkk := hide hk
                    have HA2 := hide hAt
                    have Hvi := hide hvi
                    clear hat hk hAt hres hvi hvl hoi hfi
                    go_wp2_with fail
                    refine bodyPost_ret (ret_pair (t := 9) (p := 8) (ty := 251) (by kernel_rfl) _ Hat.out Tryz.underlying251 size251 rfl) rfl ?_
                    rw [← HRn.out]
                    exact AtRTo.of HA2.out Hvi.out Hkk.out (by rw [← Hend2.out]; simp; omega)
                · have hk1I : ¬ (k : Int) < a.terms.length := by omega
                  subst hdsi
                  have HRn : Hid ((fi, sci) = RR) := hide (by
                    rw [← hres, show a.terms.drop k = [] from List.drop_eq_nil_of_le (by omega)]
                    rfl)
                  have g0 := hAt.at_.cell 0
                  have g2 := hAt.at_.cell 2
                  have g3 := hAt.at_.cell 3
                  obtain ⟨b0, b0', b1, b1', b2, b2', b3, b3', hat, hk⟩ := res4 hAt.res (.int .i64 (r : Int)) (.slice (some ⟨gg, 0, none⟩) a.terms.length cap) (.bool false) (.int .i64 a.name.line)
                  have Hat := hide hat
                  have Hkk := hide hk
                  have HA2 := hide hAt
                  have Hvi := hide hvi
                  clear hat hk hAt hres hvi hvl hoi hfi
                  go_wp2_with fail
                  refine bodyPost_ret (ret_pair (t := 9) (p := 8) (ty := 251) (by kernel_rfl) _ Hat.out Tryz.underlying251 size251 rfl) rfl ?_
                  rw [← HRn.out]
                  exact AtRTo.of HA2.out Hvi.out Hkk.out (by rw [← Hend2.out]; simp; omega)
          · have hbf : ((txt s.g).toList == [41]) = false := by rw [hb]; simpa using hlast
            have HA2 := hide hAt
            clear hb hAt
            go_wp2_with fail
            go_roundw
            · exact ⟨q + 2, ts ++ [t], _, by simp; omega, by rw [List.length_append, List.length_singleton]; exact Hend.out, by rw [List.length_append, List.length_singleton]; have := Hk.out; omega, by rw [List.length_append, List.length_singleton]; exact Hst.out.symm, HA2.out⟩
            · have := Hend.out; have := Hk.out; simp only [intOf]; omega

end Go.Proofs.YtgjomknpjigkhaaGreatDoor
