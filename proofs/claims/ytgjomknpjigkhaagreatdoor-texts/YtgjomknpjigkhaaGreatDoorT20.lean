/- Texts: PP. -/
import Derived.Test.YtgjomknpjigkhaaGreatDoorT19
namespace Go.Proofs.YtgjomknpjigkhaaGreatDoor
open Go.RowKit

/-- As many lits as there is room for. -/
theorem LitsAt.len {toks : List Tn} {i j : Nat} {ls : List LitI} (h : LitsAt toks i ls j) : i + ls.length < toks.length := by
  induction ls generalizing i with
  | nil =>
    obtain ⟨_, t, h1, _⟩ := h
    have := (List.getElem?_eq_some_iff.1 h1).1
    simpa using this
  | cons l ls ih =>
    obtain ⟨_, _, h3⟩ := h
    have := ih h3
    have h4 : i + 1 ≤ litEnd (i + 1) l := by unfold litEnd atomEnd litAtom; split <;> omega
    simp
    omega

theorem ClR.done {w wr W4 W5 : World} {P V D C mb g cap : Nat} {dv rv kv tkv : Value} {m : Mean} {f : FltO} {vts : List Tn} {ds : List Nat} {vv dd hv : Value} {a : AtomI} {ρ : Int} {ru : Bool} {ls : List LitI} {lv : Value} {lcs rvs kcs : List Value} {cs : List (AtomI × List LitI)}
    (h : ClR w wr P V D C dv rv kv tkv m f vts ds vv dd (.int .i64 ρ) hv (.bool false) (.int .i64 a.name.line) a.terms ru ls lv lcs) (hf : (clR m a ls).1 = f) (hρ : plInt (m.rel (txt a.name.g)) = ρ) (hm : RMn w mb [] m dv rv rvs) (hPm : P < mb) (hmb : mb ≤ w.heap.size) (hkv : w.ownsRow mb 254 6 kv cs.length kcs) (hcs : RCs w mb [] cs m.clauses kcs) (ht : ∀ t ∈ a.terms, isTermG t.g = true) (hl : ∀ l ∈ ls, ∀ t ∈ l.atom.terms, isTermG t.g = true)
    (k : Keeps [] wr W4) (hown : W5.ownsRow mb 254 6 (.slice (some ⟨g, 0, none⟩) (cs.length + 1) cap) (cs.length + 1) (kcs ++ [.int .i64 ρ, hv, .bool false, .int .i64 a.name.line, lv, .bool ru])) (hg : W4.grownBy W5 kv.ownBlock) (hat : kv.ownBlock = some g ∨ g = W4.heap.size) :
    CellsAt W5 P #[dv, rv, kv, tkv, .int .i64 (fC f).1, .int .i64 (fC f).2] ∧ ClTo (W5.setCell ⟨P, 2, none⟩ (.slice (some ⟨g, 0, none⟩) (cs.length + 1) cap)) mb P dv rv tkv rvs cs a ls (addClause m a ls) ∧ Keeps (P :: ownL kv) w (W5.setCell ⟨P, 2, none⟩ (.slice (some ⟨g, 0, none⟩) (cs.length + 1) cap)) := by
  subst hρ
  exact clauseR_done h hm hPm hmb hkv hcs ht hl hf k hown hg hat

theorem six_cells {W : World} {a b c d e f : Value} {t : TypeId} : ∀ (j : Nat) (x : Value), [a, b, c, d, e, f][j]? = some x → (W.alloc (.cells #[a, b, c, d, e, f] t)).cell? ((⟨W.heap.size, 0, none⟩ : Addr).add j) = some x := by
  intro j x hx
  rw [Addr.add_lit, Nat.zero_add, (CellsAt.new W #[a, b, c, d, e, f] t).cell]
  match j with
  | 0 => simpa using hx
  | 1 => simpa using hx
  | 2 => simpa using hx
  | 3 => simpa using hx
  | 4 => simpa using hx
  | 5 => simpa using hx
  | j + 6 => simp at hx

set_option maxRecDepth 100000 in
set_option maxHeartbeats 16000000 in
theorem clauseR_calls {w : World} {P mb tb gt tc i nx : Nat} {m : Mean} {dv rv kv : Value} {rvs kcs : List Value} {cs : List (AtomI × List LitI)} {toks : List Tn} {a : AtomI} {ls : List LitI}
    (hm : RMn w mb [] m dv rv rvs) (hok : MeanOk m) (hPm : P < mb) (hmb : mb ≤ w.heap.size)
    (hP : CellsAt w P #[dv, rv, kv, (.slice (some ⟨gt, 0, none⟩) toks.length tc), .int .i64 0, .int .i64 0])
    (hkv : w.ownsRow mb 254 6 kv cs.length kcs) (hcs : RCs w mb [] cs m.clauses kcs)
    (htk : w.ownsRow tb 245 4 (.slice (some ⟨gt, 0, none⟩) toks.length tc) toks.length (rtCs toks)) (hgP : gt ≠ P) (htl : toks.length ≤ 1000000) (hwf : ∀ t ∈ toks, WfE t.g)
    (hit : ItemAt toks i (.clause a ls) nx) (ht : ∀ t ∈ a.terms, isTermG t.g = true) (hl : ∀ l ∈ ls, ∀ t ∈ l.atom.terms, isTermG t.g = true) :
    Calls Tryz.prog 274 #[.pointer (some ⟨P, 0, none⟩), .int .i64 i] w fun e w' => e = .returned (.int .i64 (nx : Nat)) ∧ ClTo w' mb P dv rv (.slice (some ⟨gt, 0, none⟩) toks.length tc) rvs cs a ls (addClause m a ls) ∧ Keeps (P :: ownL kv) w w' := by
  obtain ⟨i1, hi1, hx0, hx1, hx2⟩ := info_parts info251Q
  obtain ⟨i4, hi4, hu0, hu1, hu2⟩ := info_parts info254Q
  obtain ⟨ka, kc, rfl⟩ := ownE_len hkv
  obtain ⟨hat0, _, jj, hbody, rfl⟩ := hit
  have hT : ∀ W, Keeps [P] w W → W.ownsRow tb 245 4 (.slice (some ⟨gt, 0, none⟩) toks.length tc) toks.length (rtCs toks) := fun W k => ownsRow_kept htk k (fun j hj => by
    have e : gt = j := by simpa [Value.ownBlock] using hj
    simp
    omega)
  have HT := hide (fun (W : World) (k : Keeps [P] w W) (q : Nat) (t : Tn) (hq : toks[q]? = some t) => ownTok (hT W k) hq)
  have hgt0 : gt < w.heap.size := (ownE_lt htk gt rfl).2
  have hPl := hP.lt
  have hiL : i < toks.length := (List.getElem?_eq_some_iff.1 hat0.name).1
  have hiI : (i : Int) < toks.length := by omega
  have hcl : m.clauses.length = cs.length := hcs.len
  have hcl2 : cs.length ≤ 52 := by rw [← hcl]; exact hok.clauses
  have HAtom := hide (fun (W : World) (f : FltO) (V D j : Nat) (sc : Scope) (vts : List Tn) (dsi : List Nat) (vv dd : Value) (b : AtomI) (k : Keeps [P] w W) (hc : CellsAt W P #[dv, rv, .slice ka cs.length kc, (.slice (some ⟨gt, 0, none⟩) toks.length tc), .int .i64 (fC f).1, .int .i64 (fC f).2]) (hf : FOk f) (hs : ScR W w.heap.size V D vts dsi vv dd) (hd : dsi = sc.map Prod.snd) (hv : vts.map (fun t => txt t.g) = sc.map Prod.fst) (ho : Once sc) (hl : sc.length ≤ 1000000) (hb : AtomAt toks j b) => atomR_calls (w0 := w) (w := W) hm hok hPm k hPl hc hf htk hgP htl hwf (hd ▸ hs) hv ho hl hb)
  -- the two variables
  have kV := Keeps.alloc [] w (.cells #[.slice none 0 0] 241)
  have kVD := kV.trans (Keeps.alloc [] _ (.cells #[.slice none 0 0] 40))
  have hV := (CellsAt.new w #[.slice none 0 0] 241).keeps (Keeps.alloc [] _ (.cells #[.slice none 0 0] 40)) (by simp)
  have hD := cells_new2 w (.cells #[.slice none 0 0] 241) #[.slice none 0 0] 40
  have hP2 := hP.keeps kVD (by simp)
  have c3 := hP.cell 3
  have p2 := hP2.cell 2
  obtain ⟨t0, t1, t2, t3⟩ := HT.out _ (kVD.mono (by simp)) i a.name hat0.name
  have hwr := hide (fun (bb : Bool) => wrongG_calls (w := ((w.alloc (.cells #[.slice none 0 0] 241)).alloc (.cells #[.slice none 0 0] 40)).drew) (P := P) (f := none) FOk.none (rkind a.name.g) (numOf a.name.g) a.name.line (txt a.name.g) bb 6 (hP2.keeps (Keeps.drew [] _) (by simp)))
  have HV := hide hV
  have HD := hide hD
  have Hat0 := hide hat0
  have Hbody := hide hbody
  have Hm := hide hm
  have Hkv := hide hkv
  have Hcs := hide hcs
  have Hwf := hide hwf
  have Ht := hide ht
  have Hl := hide hl
  have Hcl := hide hcl
  have HkVD := hide kVD
  generalize hρ : plInt (m.rel (txt a.name.g)) = ρ at *
  have Hρ := hide hρ
  clear hρ hP hP2 hV hD hat0 hbody hm hkv hcs hwf ht hl hcl hT htk kV kVD
  go_enter Tryz.func274, Tryz.ntmps274
  go_upto_region 4 with fail
  refine wp_region_quiet_tail 11 (by kernel_rfl) (by kernel_rfl) ?_
  simp only [List.take_succ_cons, List.take_zero, List.drop_succ_cons, List.drop_zero]
  repeat (go_big_quiet_step (fail))
  refine wpQuiet_nil ?_
  go_wp2_with fail
  refine (hwr.out _).mono ?_
  rintro e w6 ⟨rfl, hC6, k6, _⟩
  generalize hF0 : wrong none ((cs.length : Int) == 52) 6 a.name.line = f0 at hC6
  have hf0 : FOk f0 := by rw [← hF0]; exact FOk.none.wrong _ (by decide)
  have hF0' : wrong none (decide (m.clauses.length = 52)) 6 a.name.line = f0 := by
    rw [← hF0, Hcl.out]
    congr 1
    by_cases h : cs.length = 52
    · simp [h]
    · have h2 : ¬ (cs.length : Int) = 52 := by omega
      simp [h, h2]
  have k6' := (Keeps.drew [P] _).trans k6
  have HC0 := hide (ClR.start (m := m) hPl ((HkVD.out.mono (T' := [P]) (by simp)).trans k6') hC6 (HV.out.keeps k6' (by simp; omega)) (HD.out.keeps k6' (by simp; omega)))
  have Hf0 := hide hf0
  have HF0 := hide hF0'
  clear hF0 hF0' hf0 hC6 k6 k6' t0 t1 t2 t3 p2 c3 hwr HV HD HkVD
  go_wp2_with fail
  refine (HAtom.out _ f0 _ _ i [] [] [] _ _ a HC0.out.keep HC0.out.cells Hf0.out HC0.out.sc rfl rfl (by intro i j a b h; simp at h) (by simp) Hat0.out).mono ?_
  rintro e w7 hat
  rw [Hρ.out] at hat
  obtain ⟨va, vc, vts, vv, dd, rfl, hvn, hcl7, hnext⟩ := HC0.out.head hat
  have hall := atomR_all (m := m) (f := f0) (sc := []) (a := a) (by intro i j a b h; simp at h) Hf0.out
  obtain ⟨hon, hfo, hln⟩ := hall
  generalize hX1 : atomR m f0 [] a = X1 at *
  obtain ⟨f1, sc1⟩ := X1
  have s1 := hcl7.setCell 0 (.int .i64 ρ)
  have s2 := s1.setCell 1 (.slice va a.terms.length vc)
  have s3 := s2.setCell 2 (.bool false)
  have s4 := s3.setCell 3 (.int .i64 a.name.line)
  have b0 := hcl7.cell 0
  have b0' := hcl7.frozen 0
  have b1 := s1.cell 1
  have b1' := s1.frozen 1
  have b2 := s2.cell 2
  have b2' := s2.frozen 2
  have b3 := s3.cell 3
  have b3' := s3.frozen 3
  have kS := ((((Keeps.setCell w7 ⟨w6.heap.size, 0, none⟩ (.int .i64 ρ)).trans (Keeps.setCell _ ⟨w6.heap.size, 1, none⟩ (.slice va a.terms.length vc))).trans (Keeps.setCell _ ⟨w6.heap.size, 2, none⟩ (.bool false))).trans (Keeps.setCell _ ⟨w6.heap.size, 3, none⟩ (.int .i64 a.name.line)))
  have HC1 := hide (hnext _ kS s4)
  have hend0 : ∃ t', toks[atomEnd i a]? = some t' ∧ isArrowG t'.g = decide (ls ≠ []) := by
    have hb := Hbody.out
    cases ls with
    | nil =>
      obtain ⟨_, t', h1, h2⟩ := hb
      exact ⟨t', h1, by cases hg : t'.g <;> rw [hg] at h2 <;> first | rfl | cases h2⟩
    | cons l ls =>
      obtain ⟨⟨t', h1, h2⟩, _⟩ := hb
      exact ⟨t', h1, by rw [h2]; simp⟩
  obtain ⟨t', ht', hta⟩ := hend0
  have heL : atomEnd i a < toks.length := (List.getElem?_eq_some_iff.1 ht').1
  have heB : i + 2 * a.terms.length + 2 ≤ toks.length := by unfold atomEnd at heL; omega
  have hsl1 : sc1.length ≤ atomEnd i a := by unfold atomEnd; have : sc1.length ≤ 0 + a.terms.length := hln; omega
  generalize hEE : atomEnd i a = E at *
  have heI : (E : Int) < toks.length := by omega
  have hb := txt_arrow (Hwf.out t' (List.mem_of_getElem? ht'))
  rw [hta] at hb
  have HX1 := hide hX1
  have HEE := hide hEE
  have Hvn := hide hvn
  have Hon := hide hon
  have Hfo := hide hfo
  have Hht' := hide ht'
  generalize hC : w6.heap.size = C at *
  have q1 := (HT.out _ HC1.out.keep E t' Hht'.out).2.1
  clear hX1 hEE hvn hon hfo ht' hta hcl7 hnext s1 s2 s3 s4 kS hat HC0 Hf0 hln heB
  go_upto_region 7 with fail
  generalize (((w7.setCell ⟨C, 0, none⟩ (.int .i64 ρ)).setCell ⟨C, 1, none⟩ (.slice va a.terms.length vc)).setCell ⟨C, 2, none⟩ (.bool false)).setCell ⟨C, 3, none⟩ (.int .i64 a.name.line) = w8 at *
  clear b0 b0' b1 b1' b2 b2' b3 b3'
  have hgt8 : gt < w8.heap.size := by have := HC1.out.keep.size; omega
  cases ls with
  | nil =>
    have hbf : ((txt t'.g).toList == [58, 45]) = false := by rw [hb]; simp
    have HJ : Hid (jj = E) := hide (by have := Hbody.out; exact this.1)
    have HRf : Hid ((clR m a []).1 = f1) := hide (by unfold clR; rw [HF0.out, HX1.out]; rfl)
    clear hb HX1 HF0
    have hCt := HC1.out
    have kT := Keeps.alloc [] w8 (.cells #[.int .i64 ρ, .slice va a.terms.length vc, .bool false, .int .i64 a.name.line, (.slice none 0 0), .bool false] 254)
    have p2 := hCt.cells.cell 2
    have p2' := (hCt.cells.keeps kT (by simp)).cell 2
    have y0 := hCt.cl.cell 0
    have y1 := hCt.cl.cell 1
    have y2 := hCt.cl.cell 2
    have y3 := hCt.cl.cell 3
    have y4 := hCt.cl.cell 4
    have y5 := hCt.cl.cell 5
    have hkT := ownsRow_kept Hkv.out (hCt.keep.trans (kT.mono (T' := [P]) (by simp))) (fun j hj => by have := (ownE_lt Hkv.out j hj).1; simp; omega)
    have hsT := hCt.keep.size
    have hPlT := hCt.cells.lt
    clear hCt
    go_wp2_with fail
    go_region_law (first
      | (refine step_append_lies _ (by rfl) _ _ _ (by rfl) mb 254 i4 _ 6 80 Tryz.underlying240 hi4 hu0 hu1 hu2 rfl (by omega) (.slice ka cs.length kc) cs.length kcs (by rfl) (ownsRow_kept hkT (Keeps.drew [] _) (by simp)) ⟨w8.heap.size, 0, none⟩ 1 1 [.int .i64 ρ, .slice va a.terms.length vc, .bool false, .int .i64 a.name.line, (.slice none 0 0), .bool false] (by rfl) (by rfl) (six_cells (W := w8)) (by simp [Value.oneCell']) (by omega) (by unfold maxLen; omega) (by omega) (by show mb ≤ (w8.alloc _).heap.size; rw [sizeE_alloc]; omega) (w8.heap.size + 1) (by show (w8.alloc _).heap.size = _; rw [sizeE_alloc]) ?_
         intro g9 cap9 w9 hown9 hgrow hat hlt9
         obtain ⟨hP9, hTo, hKp⟩ := HC1.out.done HRf.out Hρ.out Hm.out hPm hmb Hkv.out Hcs.out Ht.out Hl.out (kT.trans (Keeps.drew [] _)) hown9 hgrow (by rcases hat with q | q; exact .inl q; exact .inr (by rw [q]; show _ = (w8.alloc _).heap.size; rw [sizeE_alloc]))
         have HTo := hide hTo
         have HKp := hide hKp
         have e2 := hP9.cell 2
         have f2 := hP9.frozen 2
         clear hTo hKp hP9))
    all_goals
      go_wp2_with fail
      go_ret
      exact ⟨by rw [HJ.out]; simp, HTo.out, HKp.out⟩
  | cons l0 lr =>
    have hbt : ((txt t'.g).toList == [58, 45]) = true := by rw [hb]; simp
    obtain ⟨_, hlit0, hlits0⟩ := Hbody.out
    have e5 := HC1.out.cl.cell 5
    have f5 := HC1.out.cl.frozen 5
    have HC2 := hide (HC1.out.setC (Keeps.setCell w8 ⟨C, 5, none⟩ (.bool true)) (HC1.out.cl.setCell 5 (.bool true)) HC1.out.hrow HC1.out.hX)
    generalize hRR : litsR m f1 sc1 0 (l0 :: lr) = RR
    have HRR := hide hRR
    have HRc : Hid (clR m a (l0 :: lr) = RR) := hide (by unfold clR; rw [HF0.out, HX1.out]; exact hRR)
    have Hlit0 := hide hlit0
    have Hlits0 := hide hlits0
    have HLSl : Hid ((l0 :: lr).length ≤ toks.length) := hide (by
      have hh := LitsAt.len Hlits0.out
      simp
      omega)
    generalize hLS : l0 :: lr = LS at *
    have HLS := hide hLS
    have hfl1 : FOk f1 := Hfo.out
    have hon1 : Once sc1 := Hon.out
    clear hb HX1 HF0 hRR hlit0 hlits0 hLS HC1 Hbody
    go_wp2_with fail
    clear e5 f5 q1 hgt8
    go_loopw [1] (fun x wr => ∃ (q : Nat) (dn : List LitI) (l : LitI) (rest : List LitI) (f : FltO) (sci : Scope) (vti : List Tn) (dsi : List Nat) (vvi ddi lv : Value) (lcs : List Value), x = .int .i64 q ∧ dn ++ l :: rest = LS ∧ LitAt toks (q + 1) l ∧ LitsAt toks (litEnd (q + 1) l) rest jj ∧ FOk f ∧ Once sci ∧ sci.length ≤ q ∧ vti.map (fun t => txt t.g) = sci.map Prod.fst ∧ dsi = sci.map Prod.snd ∧ ClR w wr P w.heap.size (w.heap.size + 1) C dv rv (.slice ka cs.length kc) (.slice (some ⟨gt, 0, none⟩) toks.length tc) m f vti dsi vvi ddi (.int .i64 ρ) (.slice va a.terms.length vc) (.bool false) (.int .i64 a.name.line) a.terms true dn lv lcs ∧ litsR m f sci dn.length (l :: rest) = RR) (fun x _ => toks.length - (intOf x).toNat)
    case atStart => exact ⟨E, [], l0, lr, f1, sc1, vts, _, vv, dd, _, [], rfl, HLS.out, Hlit0.out, Hlits0.out, hfl1, hon1, hsl1, Hvn.out, rfl, HC2.out, by rw [List.length_nil, HLS.out]; exact HRR.out⟩
    case round =>
      clear HC2 hbt
      obtain ⟨q, dn, l, rest, f, sci, vti, dsi, vvi, ddi, lv, lcs, rfl, hdn, hlit, hlits, hfi, hoi, hsi, hvi, hdi, hC, hres⟩ := hrel
      obtain ⟨la, lc, rfl⟩ := ownE_len hC.lrow
      obtain ⟨⟨tb', htb, hbg⟩, hla⟩ := hlit
      have hbb := txt_bang (Hwf.out tb' (List.mem_of_getElem? htb))
      rw [hbg] at hbb
      have htbL : q + 1 < toks.length := (List.getElem?_eq_some_iff.1 htb).1
      have hq1I : (q : Int) + 1 < toks.length := by omega
      have haiL : litAtom (q + 1) l < toks.length := (List.getElem?_eq_some_iff.1 hla.name).1
      have hend1 : ∃ t2, toks[litEnd (q + 1) l]? = some t2 ∧ isCommaG t2.g = decide (rest ≠ []) := by
        cases rest with
        | nil =>
          obtain ⟨_, t2, h1, h2⟩ := hlits
          exact ⟨t2, h1, by cases hg : t2.g <;> rw [hg] at h2 <;> first | rfl | cases h2⟩
        | cons l2 rest =>
          obtain ⟨⟨t2, h1, h2⟩, _⟩ := hlits
          exact ⟨t2, h1, by rw [h2]; simp⟩
      obtain ⟨t2, ht2, ht2c⟩ := hend1
      have hLEL : litEnd (q + 1) l < toks.length := (List.getElem?_eq_some_iff.1 ht2).1
      have hgr : q + 1 ≤ litAtom (q + 1) l ∧ litEnd (q + 1) l = litAtom (q + 1) l + 2 * l.atom.terms.length + 2 := ⟨by unfold litAtom; split <;> omega, rfl⟩
      have tb1 := (HT.out _ hC.keep (q + 1) tb' htb).2.1
      have hgtr : gt < wr.heap.size := by have := hC.keep.size; omega
      have hlatom : litAtom (q + 1) l = if l.no then q + 1 + 1 else q + 1 := rfl
      have hLE : litEnd (q + 1) l = atomEnd (litAtom (q + 1) l) l.atom := rfl
      generalize hAI : litAtom (q + 1) l = AI at *
      generalize hLEE : litEnd (q + 1) l = LE at *
      have HLA := hide hlatom
      have HLE := hide hLE
      have Hla := hide hla
      have Hgr := hide hgr
      have Ht2 := hide ht2
      have Hdn := hide hdn
      have Hlits := hide hlits
      have Hfi := hide hfi
      have Hoi := hide hoi
      have Hvi := hide hvi
      have Hdi := hide hdi
      have HC := hide hC
      have Hres := hide hres
      have Hcm := txt_comma (Hwf.out t2 (List.mem_of_getElem? ht2))
      rw [ht2c] at Hcm
      have HCm := hide Hcm
      have hAII : (AI : Int) < toks.length := by omega
      have hLEI : (LE : Int) < toks.length := by omega
      clear hlatom hLE hla hgr ht2 hdn hlits hfi hoi hvi hdi hC hres Hcm ht2c hbg htb hAI hLEE htbL
      cases hno : l.no with
      | false =>
        rw [hno] at hbb
        have hai : AI = q + 1 := by rw [HLA.out, hno]; rfl
        have haiI : (q : Int) + 1 = (AI : Int) := by rw [hai]; simp
        have Hno := hide hno
        have Hai := hide hai
        have HaiI := hide haiI
        clear hno hai haiI HLA
        go_upto_region 13 with fail
        rw [HaiI.out]
        have hCr := HC.out
        obtain ⟨z0, z1, z2, z3⟩ := HT.out _ hCr.keep AI l.atom.name Hla.out.name
        have c4 := hCr.cl.cell 4
        have hwr := hide (fun (bb : Bool) => wrongG_calls (w := wr.drew) (P := P) Hfi.out (rkind l.atom.name.g) (numOf l.atom.name.g) l.atom.name.line (txt l.atom.name.g) bb 6 (hCr.cells.keeps (Keeps.drew [] _) (by simp)))
        have hdnl : dn.length ≤ 1000000 := by
          have := congrArg List.length Hdn.out
          have h2 := HLSl.out
          simp at this
          omega
        clear hCr tb1 hbb
        refine wp_region_quiet_tail 9 (by kernel_rfl) (by kernel_rfl) ?_
        simp only [List.take_succ_cons, List.take_zero, List.drop_succ_cons, List.drop_zero]
        repeat (go_big_quiet_step (fail))
        refine wpQuiet_nil ?_
        go_wp2_with fail
        refine (hwr.out _).mono ?_
        rintro e w6 ⟨rfl, hC6, k6, _⟩
        generalize hF6 : wrong f ((dn.length : Int) == 4) 6 l.atom.name.line = f6 at hC6
        have Hf6 : Hid (FOk f6) := hide (by rw [← hF6]; exact Hfi.out.wrong _ (by decide))
        have HF6 : Hid (wrong f (decide (dn.length = 4)) 6 l.atom.name.line = f6) := hide (by
          rw [← hF6]
          congr 1
          by_cases h : dn.length = 4
          · simp [h]
          · have h2 : ¬ (dn.length : Int) = 4 := by omega
            simp [h, h2])
        have HC6 := hide ((HC.out.kept (Keeps.drew [] _)).wronged k6 hC6)
        clear hC6 k6 hF6 hwr z0 z1 z2 z3 c4 HC
        go_wp2_with fail
        refine (HAtom.out _ f6 _ _ AI sci vti dsi vvi ddi l.atom (HC6.out.kept (Keeps.alloc [] w6 (.cells #[.int .i64 0, .slice none 0 0, .bool false, .int .i64 0] 251))).keep (HC6.out.kept (Keeps.alloc [] w6 (.cells #[.int .i64 0, .slice none 0 0, .bool false, .int .i64 0] 251))).cells Hf6.out (HC6.out.kept (Keeps.alloc [] w6 (.cells #[.int .i64 0, .slice none 0 0, .bool false, .int .i64 0] 251))).sc Hdi.out Hvi.out Hoi.out (by omega) Hla.out).mono ?_
        rintro e w7 hat
        obtain ⟨vb, vd, vts2, vv2, dd2, rfl, hA2, hvn2, hW⟩ := HC6.out.lit hat
        obtain ⟨hon2, hfo2, hln2⟩ := atomR_all (m := m) (f := f6) (sc := sci) (a := l.atom) Hoi.out Hf6.out
        generalize hX2 : atomR m f6 sci l.atom = X2 at *
        obtain ⟨f2, sc2⟩ := X2
        rw [← HLE.out] at *
        generalize hρ2 : plInt (m.rel (txt l.atom.name.g)) = ρ2 at *
        obtain ⟨b0, b0', b1, b1', b2, b2', b3, b3', hat4, hk4⟩ := res4 hA2 (.int .i64 ρ2) (.slice vb l.atom.terms.length vd) (.bool false) (.int .i64 l.atom.name.line)
        have d2 := hat4.cell 2
        have d2' := hat4.frozen 2
        have hat5 := hat4.setCell 2 (.bool false)
        have hk5 := hk4.trans (Keeps.setCell _ ⟨w6.heap.size, 2, none⟩ (.bool false))
        obtain ⟨hC8, hrow8, hX8⟩ := hW _ hk5
        have HC8 := hide hC8
        have Hrow8 := hide hrow8
        have HX8 := hide hX8
        have Hat5 := hide hat5
        have Hvn2 := hide hvn2
        have Hon2 := hide hon2
        have Hfo2 := hide hfo2
        have HX2 := hide hX2
        have Hρ2 := hide hρ2
        have hsl2 : sc2.length ≤ LE := by have := Hgr.out; have : sc2.length ≤ sci.length + l.atom.terms.length := hln2; omega
        generalize hA2n : w6.heap.size = A2 at *
        clear hC8 hrow8 hX8 hat5 hvn2 hon2 hfo2 hX2 hρ2 hat4 hk4 hk5 hW hA2 hat HC6 Hf6 hln2
        go_upto_region 17 with fail
        generalize ((((w7.setCell ⟨A2, 0, none⟩ (.int .i64 ρ2)).setCell ⟨A2, 1, none⟩ (.slice vb l.atom.terms.length vd)).setCell ⟨A2, 2, none⟩ (.bool false)).setCell ⟨A2, 3, none⟩ (.int .i64 l.atom.name.line)).setCell ⟨A2, 2, none⟩ (.bool false) = w8 at *
        clear b0 b0' b1 b1' b2 b2' b3 b3' d2 d2'
        have c4 := HC8.out.cl.cell 4
        have a0 := Hat5.out.cell 0
        have a1 := Hat5.out.cell 1
        have a2 := Hat5.out.cell 2
        have a3 := Hat5.out.cell 3
        have kL := Keeps.alloc [] w8 (.cells #[.int .i64 ρ2, .slice vb l.atom.terms.length vd, .bool false, .int .i64 l.atom.name.line] 251)
        have rowL := ownsRow_kept HC8.out.lrow kL (by simp)
        have hs8 := HC8.out.keep.size
        go_wp2_with (at_builtin; refine wpList_append_own_at _ rfl _ _ 252 rfl w.heap.size 251 i1 (.agg #[.int .i64 0, .slice none 0 0, .bool false, .int .i64 0]) 4 48 Tryz.underlying252 hi1 hx0 hx1 hx2 rfl (by decide) _ dn.length lcs rfl rowL ⟨w8.heap.size, 0, none⟩ 1 1 [.int .i64 ρ2, .slice vb l.atom.terms.length vd, .bool false, .int .i64 l.atom.name.line] rfl (by simp) four_cells (by simp [Value.oneCell']) (by unfold maxLen; omega) (by omega) (by rw [sizeE_alloc]; omega) ?_)
        intro v9 w9 own9 grow9 nil9 at9
        obtain ⟨g9, cap9, rfl⟩ := ownE_succ own9
        have hat9 : (Value.slice la dn.length lc).ownBlock = some g9 ∨ g9 = (w8.alloc (.cells #[.int .i64 ρ2, .slice vb l.atom.terms.length vd, .bool false, .int .i64 l.atom.name.line] 251)).heap.size := by
          rcases at9 with q | q
          · exact .inl q.symm
          · exact .inr (by simpa [Value.ownBlock] using q)
        obtain ⟨hC9, hNew⟩ := HC8.out.push (l := l) Hrow8.out HX8.out kL (by rw [Hρ2.out, Hno.out]; exact own9) grow9 hat9
        have e4 := hC9.cell 4
        have f4 := hC9.frozen 4
        have HN := hide hNew
        have q2 := (HT.out _ hNew.keep LE t2 Ht2.out).2.1
        have hgt9 : gt < w9.heap.size := by have := hNew.keep.size; simp at this; omega
        have hcm := HCm.out
        have Hres2 : Hid (litsR m f2 sc2 (dn.length + 1) rest = RR) := hide (by rw [← Hres.out, litsR, HF6.out, HX2.out])
        clear own9 grow9 nil9 at9 hat9 hC9 hNew c4 a0 a1 a2 a3 kL rowL HC8 Hrow8 HX8 Hat5
        cases rest with
        | cons l2 rest2 =>
          have hct : ((txt t2.g).toList == [44]) = true := by rw [hcm]; simp
          obtain ⟨_, hlit2, hlits2⟩ := Hlits.out
          have Hlit2 := hide hlit2
          have Hlits2 := hide hlits2
          clear hcm hlit2 hlits2
          go_wp2_with fail
          go_roundw
          · exact ⟨LE, dn ++ [l], l2, rest2, f2, sc2, vts2, _, vv2, dd2, _, _, rfl, by rw [List.append_assoc]; exact Hdn.out, Hlit2.out, Hlits2.out, Hfo2.out, Hon2.out, hsl2, Hvn2.out, rfl, HN.out, by rw [List.length_append, List.length_singleton]; exact Hres2.out⟩
          · have := Hgr.out; simp only [intOf]; omega
        | nil =>
          have hcf : ((txt t2.g).toList == [44]) = false := by rw [hcm]; simp
          have HJ : Hid (jj = LE) := hide (by have := Hlits.out; exact this.1)
          have hdn2 : dn ++ [l] = LS := Hdn.out
          have HRf : Hid ((clR m a LS).1 = f2) := hide (by rw [HRc.out, ← Hres2.out]; rfl)
          clear hcm
          go_upto_region 19 with fail
          have HNw := HN
          rw [hdn2] at HNw
          have HC1 := hide HNw.out
          generalize w9.setCell ⟨C, 4, none⟩ (.slice (some ⟨g9, 0, none⟩) (dn.length + 1) cap9) = w10 at *
          generalize lcs ++ [.int .i64 (plInt (m.rel (txt l.atom.name.g))), .slice vb l.atom.terms.length vd, .bool l.no, .int .i64 l.atom.name.line] = lcs2 at *
          clear HN HNw hdn2 e4 f4 q2 Hres2
          have hCt := HC1.out
          have kT := Keeps.alloc [] w10 (.cells #[.int .i64 ρ, .slice va a.terms.length vc, .bool false, .int .i64 a.name.line, (.slice (some ⟨g9, 0, none⟩) (dn.length + 1) cap9), .bool true] 254)
          have p2 := hCt.cells.cell 2
          have p2' := (hCt.cells.keeps kT (by simp)).cell 2
          have y0 := hCt.cl.cell 0
          have y1 := hCt.cl.cell 1
          have y2 := hCt.cl.cell 2
          have y3 := hCt.cl.cell 3
          have y4 := hCt.cl.cell 4
          have y5 := hCt.cl.cell 5
          have hkT := ownsRow_kept Hkv.out (hCt.keep.trans (kT.mono (T' := [P]) (by simp))) (fun j hj => by have := (ownE_lt Hkv.out j hj).1; simp; omega)
          have hsT := hCt.keep.size
          have hPlT := hCt.cells.lt
          clear hCt
          go_wp2_with fail
          go_region_law (first
            | (refine step_append_lies _ (by rfl) _ _ _ (by rfl) mb 254 i4 _ 6 80 Tryz.underlying240 hi4 hu0 hu1 hu2 rfl (by omega) (.slice ka cs.length kc) cs.length kcs (by rfl) (ownsRow_kept hkT (Keeps.drew [] _) (by simp)) ⟨w10.heap.size, 0, none⟩ 1 1 [.int .i64 ρ, .slice va a.terms.length vc, .bool false, .int .i64 a.name.line, (.slice (some ⟨g9, 0, none⟩) (dn.length + 1) cap9), .bool true] (by rfl) (by rfl) (six_cells (W := w10)) (by simp [Value.oneCell']) (by omega) (by unfold maxLen; omega) (by omega) (by show mb ≤ (w10.alloc _).heap.size; rw [sizeE_alloc]; omega) (w10.heap.size + 1) (by show (w10.alloc _).heap.size = _; rw [sizeE_alloc]) ?_
               intro g9 cap9 w9 hown9 hgrow hat hlt9
               obtain ⟨hP9, hTo, hKp⟩ := HC1.out.done HRf.out Hρ.out Hm.out hPm hmb Hkv.out Hcs.out Ht.out Hl.out (kT.trans (Keeps.drew [] _)) hown9 hgrow (by rcases hat with q | q; exact .inl q; exact .inr (by rw [q]; show _ = (w10.alloc _).heap.size; rw [sizeE_alloc]))
               have HTo := hide hTo
               have HKp := hide hKp
               have e2 := hP9.cell 2
               have f2 := hP9.frozen 2
               clear hTo hKp hP9))
          all_goals
            go_wp2_with fail
            go_ret
            exact ⟨by rw [HJ.out]; simp, by rw [HLS.out]; exact HTo.out, HKp.out⟩
      | true =>
        rw [hno] at hbb
        have hai : AI = q + 1 + 1 := by rw [HLA.out, hno]; rfl
        have haiI : (q : Int) + 1 + 1 = (AI : Int) := by rw [hai]; simp
        have Hno := hide hno
        have Hai := hide hai
        have HaiI := hide haiI
        clear hno hai haiI HLA
        go_upto_region 13 with fail
        rw [HaiI.out]
        have hCr := HC.out
        obtain ⟨z0, z1, z2, z3⟩ := HT.out _ hCr.keep AI l.atom.name Hla.out.name
        have c4 := hCr.cl.cell 4
        have hwr := hide (fun (bb : Bool) => wrongG_calls (w := wr.drew) (P := P) Hfi.out (rkind l.atom.name.g) (numOf l.atom.name.g) l.atom.name.line (txt l.atom.name.g) bb 6 (hCr.cells.keeps (Keeps.drew [] _) (by simp)))
        have hdnl : dn.length ≤ 1000000 := by
          have := congrArg List.length Hdn.out
          have h2 := HLSl.out
          simp at this
          omega
        clear hCr tb1 hbb
        refine wp_region_quiet_tail 9 (by kernel_rfl) (by kernel_rfl) ?_
        simp only [List.take_succ_cons, List.take_zero, List.drop_succ_cons, List.drop_zero]
        repeat (go_big_quiet_step (fail))
        refine wpQuiet_nil ?_
        go_wp2_with fail
        refine (hwr.out _).mono ?_
        rintro e w6 ⟨rfl, hC6, k6, _⟩
        generalize hF6 : wrong f ((dn.length : Int) == 4) 6 l.atom.name.line = f6 at hC6
        have Hf6 : Hid (FOk f6) := hide (by rw [← hF6]; exact Hfi.out.wrong _ (by decide))
        have HF6 : Hid (wrong f (decide (dn.length = 4)) 6 l.atom.name.line = f6) := hide (by
          rw [← hF6]
          congr 1
          by_cases h : dn.length = 4
          · simp [h]
          · have h2 : ¬ (dn.length : Int) = 4 := by omega
            simp [h, h2])
        have HC6 := hide ((HC.out.kept (Keeps.drew [] _)).wronged k6 hC6)
        clear hC6 k6 hF6 hwr z0 z1 z2 z3 c4 HC
        go_wp2_with fail
        refine (HAtom.out _ f6 _ _ AI sci vti dsi vvi ddi l.atom (HC6.out.kept (Keeps.alloc [] w6 (.cells #[.int .i64 0, .slice none 0 0, .bool false, .int .i64 0] 251))).keep (HC6.out.kept (Keeps.alloc [] w6 (.cells #[.int .i64 0, .slice none 0 0, .bool false, .int .i64 0] 251))).cells Hf6.out (HC6.out.kept (Keeps.alloc [] w6 (.cells #[.int .i64 0, .slice none 0 0, .bool false, .int .i64 0] 251))).sc Hdi.out Hvi.out Hoi.out (by omega) Hla.out).mono ?_
        rintro e w7 hat
        obtain ⟨vb, vd, vts2, vv2, dd2, rfl, hA2, hvn2, hW⟩ := HC6.out.lit hat
        obtain ⟨hon2, hfo2, hln2⟩ := atomR_all (m := m) (f := f6) (sc := sci) (a := l.atom) Hoi.out Hf6.out
        generalize hX2 : atomR m f6 sci l.atom = X2 at *
        obtain ⟨f2, sc2⟩ := X2
        rw [← HLE.out] at *
        generalize hρ2 : plInt (m.rel (txt l.atom.name.g)) = ρ2 at *
        obtain ⟨b0, b0', b1, b1', b2, b2', b3, b3', hat4, hk4⟩ := res4 hA2 (.int .i64 ρ2) (.slice vb l.atom.terms.length vd) (.bool false) (.int .i64 l.atom.name.line)
        have d2 := hat4.cell 2
        have d2' := hat4.frozen 2
        have hat5 := hat4.setCell 2 (.bool true)
        have hk5 := hk4.trans (Keeps.setCell _ ⟨w6.heap.size, 2, none⟩ (.bool true))
        obtain ⟨hC8, hrow8, hX8⟩ := hW _ hk5
        have HC8 := hide hC8
        have Hrow8 := hide hrow8
        have HX8 := hide hX8
        have Hat5 := hide hat5
        have Hvn2 := hide hvn2
        have Hon2 := hide hon2
        have Hfo2 := hide hfo2
        have HX2 := hide hX2
        have Hρ2 := hide hρ2
        have hsl2 : sc2.length ≤ LE := by have := Hgr.out; have : sc2.length ≤ sci.length + l.atom.terms.length := hln2; omega
        generalize hA2n : w6.heap.size = A2 at *
        clear hC8 hrow8 hX8 hat5 hvn2 hon2 hfo2 hX2 hρ2 hat4 hk4 hk5 hW hA2 hat HC6 Hf6 hln2
        go_upto_region 17 with fail
        generalize ((((w7.setCell ⟨A2, 0, none⟩ (.int .i64 ρ2)).setCell ⟨A2, 1, none⟩ (.slice vb l.atom.terms.length vd)).setCell ⟨A2, 2, none⟩ (.bool false)).setCell ⟨A2, 3, none⟩ (.int .i64 l.atom.name.line)).setCell ⟨A2, 2, none⟩ (.bool true) = w8 at *
        clear b0 b0' b1 b1' b2 b2' b3 b3' d2 d2'
        have c4 := HC8.out.cl.cell 4
        have a0 := Hat5.out.cell 0
        have a1 := Hat5.out.cell 1
        have a2 := Hat5.out.cell 2
        have a3 := Hat5.out.cell 3
        have kL := Keeps.alloc [] w8 (.cells #[.int .i64 ρ2, .slice vb l.atom.terms.length vd, .bool true, .int .i64 l.atom.name.line] 251)
        have rowL := ownsRow_kept HC8.out.lrow kL (by simp)
        have hs8 := HC8.out.keep.size
        go_wp2_with (at_builtin; refine wpList_append_own_at _ rfl _ _ 252 rfl w.heap.size 251 i1 (.agg #[.int .i64 0, .slice none 0 0, .bool false, .int .i64 0]) 4 48 Tryz.underlying252 hi1 hx0 hx1 hx2 rfl (by decide) _ dn.length lcs rfl rowL ⟨w8.heap.size, 0, none⟩ 1 1 [.int .i64 ρ2, .slice vb l.atom.terms.length vd, .bool true, .int .i64 l.atom.name.line] rfl (by simp) four_cells (by simp [Value.oneCell']) (by unfold maxLen; omega) (by omega) (by rw [sizeE_alloc]; omega) ?_)
        intro v9 w9 own9 grow9 nil9 at9
        obtain ⟨g9, cap9, rfl⟩ := ownE_succ own9
        have hat9 : (Value.slice la dn.length lc).ownBlock = some g9 ∨ g9 = (w8.alloc (.cells #[.int .i64 ρ2, .slice vb l.atom.terms.length vd, .bool true, .int .i64 l.atom.name.line] 251)).heap.size := by
          rcases at9 with q | q
          · exact .inl q.symm
          · exact .inr (by simpa [Value.ownBlock] using q)
        obtain ⟨hC9, hNew⟩ := HC8.out.push (l := l) Hrow8.out HX8.out kL (by rw [Hρ2.out, Hno.out]; exact own9) grow9 hat9
        have e4 := hC9.cell 4
        have f4 := hC9.frozen 4
        have HN := hide hNew
        have q2 := (HT.out _ hNew.keep LE t2 Ht2.out).2.1
        have hgt9 : gt < w9.heap.size := by have := hNew.keep.size; simp at this; omega
        have hcm := HCm.out
        have Hres2 : Hid (litsR m f2 sc2 (dn.length + 1) rest = RR) := hide (by rw [← Hres.out, litsR, HF6.out, HX2.out])
        clear own9 grow9 nil9 at9 hat9 hC9 hNew c4 a0 a1 a2 a3 kL rowL HC8 Hrow8 HX8 Hat5
        cases rest with
        | cons l2 rest2 =>
          have hct : ((txt t2.g).toList == [44]) = true := by rw [hcm]; simp
          obtain ⟨_, hlit2, hlits2⟩ := Hlits.out
          have Hlit2 := hide hlit2
          have Hlits2 := hide hlits2
          clear hcm hlit2 hlits2
          go_wp2_with fail
          go_roundw
          · exact ⟨LE, dn ++ [l], l2, rest2, f2, sc2, vts2, _, vv2, dd2, _, _, rfl, by rw [List.append_assoc]; exact Hdn.out, Hlit2.out, Hlits2.out, Hfo2.out, Hon2.out, hsl2, Hvn2.out, rfl, HN.out, by rw [List.length_append, List.length_singleton]; exact Hres2.out⟩
          · have := Hgr.out; simp only [intOf]; omega
        | nil =>
          have hcf : ((txt t2.g).toList == [44]) = false := by rw [hcm]; simp
          have HJ : Hid (jj = LE) := hide (by have := Hlits.out; exact this.1)
          have hdn2 : dn ++ [l] = LS := Hdn.out
          have HRf : Hid ((clR m a LS).1 = f2) := hide (by rw [HRc.out, ← Hres2.out]; rfl)
          clear hcm
          go_upto_region 19 with fail
          have HNw := HN
          rw [hdn2] at HNw
          have HC1 := hide HNw.out
          generalize w9.setCell ⟨C, 4, none⟩ (.slice (some ⟨g9, 0, none⟩) (dn.length + 1) cap9) = w10 at *
          generalize lcs ++ [.int .i64 (plInt (m.rel (txt l.atom.name.g))), .slice vb l.atom.terms.length vd, .bool l.no, .int .i64 l.atom.name.line] = lcs2 at *
          clear HN HNw hdn2 e4 f4 q2 Hres2
          have hCt := HC1.out
          have kT := Keeps.alloc [] w10 (.cells #[.int .i64 ρ, .slice va a.terms.length vc, .bool false, .int .i64 a.name.line, (.slice (some ⟨g9, 0, none⟩) (dn.length + 1) cap9), .bool true] 254)
          have p2 := hCt.cells.cell 2
          have p2' := (hCt.cells.keeps kT (by simp)).cell 2
          have y0 := hCt.cl.cell 0
          have y1 := hCt.cl.cell 1
          have y2 := hCt.cl.cell 2
          have y3 := hCt.cl.cell 3
          have y4 := hCt.cl.cell 4
          have y5 := hCt.cl.cell 5
          have hkT := ownsRow_kept Hkv.out (hCt.keep.trans (kT.mono (T' := [P]) (by simp))) (fun j hj => by have := (ownE_lt Hkv.out j hj).1; simp; omega)
          have hsT := hCt.keep.size
          have hPlT := hCt.cells.lt
          clear hCt
          go_wp2_with fail
          go_region_law (first
            | (refine step_append_lies _ (by rfl) _ _ _ (by rfl) mb 254 i4 _ 6 80 Tryz.underlying240 hi4 hu0 hu1 hu2 rfl (by omega) (.slice ka cs.length kc) cs.length kcs (by rfl) (ownsRow_kept hkT (Keeps.drew [] _) (by simp)) ⟨w10.heap.size, 0, none⟩ 1 1 [.int .i64 ρ, .slice va a.terms.length vc, .bool false, .int .i64 a.name.line, (.slice (some ⟨g9, 0, none⟩) (dn.length + 1) cap9), .bool true] (by rfl) (by rfl) (six_cells (W := w10)) (by simp [Value.oneCell']) (by omega) (by unfold maxLen; omega) (by omega) (by show mb ≤ (w10.alloc _).heap.size; rw [sizeE_alloc]; omega) (w10.heap.size + 1) (by show (w10.alloc _).heap.size = _; rw [sizeE_alloc]) ?_
               intro g9 cap9 w9 hown9 hgrow hat hlt9
               obtain ⟨hP9, hTo, hKp⟩ := HC1.out.done HRf.out Hρ.out Hm.out hPm hmb Hkv.out Hcs.out Ht.out Hl.out (kT.trans (Keeps.drew [] _)) hown9 hgrow (by rcases hat with q | q; exact .inl q; exact .inr (by rw [q]; show _ = (w10.alloc _).heap.size; rw [sizeE_alloc]))
               have HTo := hide hTo
               have HKp := hide hKp
               have e2 := hP9.cell 2
               have f2 := hP9.frozen 2
               clear hTo hKp hP9))
          all_goals
            go_wp2_with fail
            go_ret
            exact ⟨by rw [HJ.out]; simp, by rw [HLS.out]; exact HTo.out, HKp.out⟩

end Go.Proofs.YtgjomknpjigkhaaGreatDoor
