/- Texts: JM JN KA N8. -/
import Derived.Test.YtgjomknpjigkhaaGreatDoorT27
import Derived.Test.YtgjomknpjigkhaaGreatDoorT25
import Derived.Test.YtgjomknpjigkhaaGreatDoorT26
namespace Go.Proofs.YtgjomknpjigkhaaGreatDoor
open Go.RowKit

set_option maxRecDepth 100000 in
set_option maxHeartbeats 16000000 in
theorem clause_walk {w : World} {mb ib B : Nat} {m : Mean} (hm0 : MeanAt w mb B m) (hok : MeanOk m) (hmb : mb ≤ w.heap.size) (a : AtomI) (ls : List LitI) {ah al : Option Addr} {ch cl : Nat} {cs : List Value} {X : List Nat} (hhv : w.ownsRow ib 129 3 (.slice ah a.terms.length ch) a.terms.length (tokCs a.terms)) (hlv : w.ownsRow ib 353 5 (.slice al ls.length cl) ls.length cs) (hls : LitsAre w ib X ls cs) (htl : a.terms.length ≤ 1000000) (htt : ∀ t ∈ a.terms, isTermG t.g = true ∧ WfG t.g) (hll : ls.length ≤ 1000000) (hlt : ∀ l ∈ ls, l.atom.terms.length ≤ 1000000 ∧ ∀ t ∈ l.atom.terms, isTermG t.g = true ∧ WfG t.g) (h52 : ¬ m.clauses.length = 52) : Calls Tryz.prog 338 #[.agg #[.string (kindOf a.name.g), .string (txt a.name.g), .int .i64 a.name.line, .slice ah a.terms.length ch, .slice al ls.length cl], .pointer (some ⟨B, 0, none⟩)] w fun e w' => AddTo mb B (addClause m a ls) e w' ∧ ∃ T, Keeps T w w' ∧ ∀ j ∈ T, mb ≤ j := by
  obtain ⟨i1, hi1, hy0, hy1, hy2⟩ := info_parts info154
  obtain ⟨i2, hi2, hx0, hx1, hx2⟩ := info_parts info279
  obtain ⟨i3, hi3, hw0, hw1, hw2⟩ := info_parts info3E
  have hm1 := hm0
  obtain ⟨tD, mD, sz, tN, mN, co, clv, ln, cvs, kvs, hV⟩ := hm0
  have h52l := hok.clauses
  obtain ⟨aD, cD, hD⟩ := ownE_len hV.cls
  subst hD
  obtain ⟨aL, cL, hL⟩ := ownE_len hV.lines
  subst hL
  have kA := Keeps.alloc [] w (.cells #[.string (kindOf a.name.g), .string (txt a.name.g), .int .i64 a.name.line, .slice ah a.terms.length ch, .slice al ls.length cl] 330)
  have hA := CellsAt.new w #[.string (kindOf a.name.g), .string (txt a.name.g), .int .i64 a.name.line, .slice ah a.terms.length ch, .slice al ls.length cl] 330
  have hBl := hV.cells.lt
  have b6 := hV.cells.cell 6
  have h52I : (((m.clauses.length : Nat) : Int) == 52) = false := by rw [beq_eq_false_iff_ne]; omega
  have hno := hide (fun (w : World) => refuse_no (w := w) a.name 6)
  have Hat := hide (fun (W : World) (k : Keeps [] w W) (S : Nat) (sc : Scope) (X : List Nat) (h : ScopeX W w.heap.size S B sc X) (hX : ∀ j ∈ X, j < W.heap.size) (ho : Once sc) (h4 : sc.length ≤ 4) => atomM_calls hm1 hok k (Nat.le_refl _) k.size h hX ho h4 a hhv htl htt)
  have Hlat := hide (fun (W : World) (k : Keeps [] w W) (S : Nat) (sc : Scope) (X : List Nat) (h : ScopeX W w.heap.size S B sc X) (hX : ∀ j ∈ X, j < W.heap.size) (ho : Once sc) (h4 : sc.length ≤ 4) (l : LitI) (av : Option Addr) (cc : Nat) (hcv : w.ownsRow ib 129 3 (.slice av l.atom.terms.length cc) l.atom.terms.length (tokCs l.atom.terms)) (hl : l ∈ ls) => atomM_calls hm1 hok k (Nat.le_refl _) k.size h hX ho h4 l.atom hcv (hlt l hl).1 (hlt l hl).2)
  have HV := hide hV
  have Hlv := hide hlv
  have Hls := hide hls
  have Hadd : Hid (addClause m a ls = match atomS m [] a with | .error f => .error f | .ok (x, sc) => toMean m x a.name.line (litsS m sc 0 ls)) := hide (by
    unfold addClause
    rw [if_neg h52]
    cases atomS m [] a with
    | error f => rfl
    | ok q =>
      obtain ⟨x, sc⟩ := q
      simp only
      cases litsS m sc 0 ls with
      | error f => rfl
      | ok q => rfl)
  rw [Hadd.out]
  clear Hadd hV hm1 hlv hls hhv htt hlt h52
  cases hr : atomS m [] a with
  | error f =>
    go_enter Tryz.func338, Tryz.ntmps338
    go_upto_region 1 with fail
    go_cut [] (fun wc => Keeps [] w wc ∧ CellsAt wc w.heap.size #[.string (kindOf a.name.g), .string (txt a.name.g), .int .i64 a.name.line, .slice ah a.terms.length ch, .slice al ls.length cl])
    case first =>
      go_region_law (first
        | (refine step_callA rfl 335 _ _ rfl _ Tryz.func335 (by kernel_rfl) (by kernel_rfl) [tokV a.name, .bool false, .int .i64 6] rfl ?_
           refine (hno.out _).mono ?_
           rintro e w1 ⟨rfl, rfl⟩))
      all_goals
        go_wp2_with fail
        go_meet
        exact ⟨(kA.trans (Keeps.drew _ _)).trans (Keeps.alloc [] _ _), (hA.keeps (Keeps.drew [] _) (by simp)).keeps (Keeps.alloc [] _ _) (by simp)⟩
    case rest =>
      obtain ⟨k1, hA1⟩ := hcut
      have kS := Keeps.alloc [] wc (.cells #[.pointer (some ⟨B, 0, none⟩), .slice none 0 0, .map none, .slice none 0 0] 401)
      have hA2 := hA1.keeps kS (by simp)
      have hcall := hide (Hat.out _ (k1.trans kS) wc.heap.size [] [w.heap.size] (scope_new k1 hA1.lt) (fun j hj => by have e : j = w.heap.size := (by simpa using hj); have := hA2.lt; omega) (by intro i j a b h; simp at h) (by simp))
      rw [hr] at hcall
      have c0 := hA2.cell 0
      have c1 := hA2.cell 1
      have c2 := hA2.cell 2
      have c3 := hA2.cell 3
      have kk := k1.trans kS
      clear hA hA1 kS Hat Hlat
      go_wp2_with fail
      refine hcall.out.mono ?_
      rintro e w3 ⟨rfl, T, k3, hT⟩
      exact ⟨rfl, rfl, [], kk.trans_new k3 (fun j hj => .inr (hT j hj).1), by simp⟩
  | ok q =>
    obtain ⟨x, sc1⟩ := q
    have hmt := atomS_match (by intro i j a b h; simp at h) (by simp) hr
    have Hmt := hide hmt
    simp only
    generalize hRR : litsS m sc1 0 ls = RR
    have HRR := hide hRR
    clear hmt hRR
    go_enter Tryz.func338, Tryz.ntmps338
    go_upto_region 1 with fail
    go_cut [] (fun wc => Keeps [] w wc ∧ CellsAt wc w.heap.size #[.string (kindOf a.name.g), .string (txt a.name.g), .int .i64 a.name.line, .slice ah a.terms.length ch, .slice al ls.length cl])
    case first =>
      go_region_law (first
        | (refine step_callA rfl 335 _ _ rfl _ Tryz.func335 (by kernel_rfl) (by kernel_rfl) [tokV a.name, .bool false, .int .i64 6] rfl ?_
           refine (hno.out _).mono ?_
           rintro e w1 ⟨rfl, rfl⟩))
      all_goals
        go_wp2_with fail
        go_meet
        exact ⟨(kA.trans (Keeps.drew _ _)).trans (Keeps.alloc [] _ _), (hA.keeps (Keeps.drew [] _) (by simp)).keeps (Keeps.alloc [] _ _) (by simp)⟩
    case rest =>
      obtain ⟨k1, hA1⟩ := hcut
      have kS := Keeps.alloc [] wc (.cells #[.pointer (some ⟨B, 0, none⟩), .slice none 0 0, .map none, .slice none 0 0] 401)
      have hA2 := hA1.keeps kS (by simp)
      have hcall := hide (Hat.out _ (k1.trans kS) wc.heap.size [] [w.heap.size] (scope_new k1 hA1.lt) (fun j hj => by have e : j = w.heap.size := (by simpa using hj); have := hA2.lt; omega) (by intro i j a b h; simp at h) (by simp))
      rw [hr] at hcall
      have c0 := hA2.cell 0
      have c1 := hA2.cell 1
      have c2 := hA2.cell 2
      have c3 := hA2.cell 3
      have kk := k1.trans kS
      have hA1l := hA1.lt
      clear hA hA1 kS Hat k1 hr kA
      go_wp2_with fail
      refine hcall.out.mono ?_
      rintro e w3 ⟨⟨tv, rfl, hrow, hsx⟩, T, k3, hT⟩
      obtain ⟨ta, tc, rfl⟩ := ownE_len hrow
      have hC0 := ClL.first (lav := .slice al ls.length cl) hA2 kk k3 hT (by rw [sizeE_alloc]; omega) hrow hsx
      have HC0 := hide hC0
      have a4 := hC0.arg.cell 4
      clear hC0 hA2 hcall k3 hT hrow hsx c0 c1 c2 c3 kk hno
      go_wp2_with fail
      generalize hCb : w3.heap.size = C at *
      go_loopw [27] (fun y wr => ∃ (i : Nat) (sci : Scope) (xs : List (AtomM × Bool)) (lv : Value) (lcs : List Value), y = .int .i64 i ∧ i = xs.length ∧ i ≤ ls.length ∧ i ≤ 4 ∧ ClL w wr wc.heap.size B C a.name (.slice ah a.terms.length ch) (.slice al ls.length cl) sci x (.slice ta x.terms.length tc) xs lv lcs ∧ Once sci ∧ sci.length ≤ 4 ∧ aheadQ xs (litsS m sci i (ls.drop i)) = RR) (fun y _ => ls.length - (intOf y).toNat)
      case atStart => exact ⟨0, sc1, [], .slice none 0 0, [], rfl, rfl, by omega, by omega, HC0.out, Hmt.out.2.2.1, Hmt.out.2.2.2, by rw [List.drop_zero, HRR.out]; cases RR <;> rfl⟩
      case round =>
        clear HC0 HRR Hmt a4
        obtain ⟨i, sci, xs, lv, lcs, rfl, hix, hil, hi4, hC, hoi, h4i, hres⟩ := hrel
        obtain ⟨ly, lc, hy⟩ := ownE_len hC.lrow
        subst hy
        have hszr := hC.keep.size
        have HC := hide hC
        have Hix := hide hix
        have hxl : xs.length ≤ 4 := by omega
        clear hC hix
        by_cases hlt : i < ls.length
        · obtain ⟨l, hl⟩ : ∃ l, ls[i]? = some l := ⟨_, List.getElem?_eq_getElem hlt⟩
          have hdl : ls.drop i = l :: ls.drop (i + 1) := by
            rw [List.drop_eq_getElem_cons hlt]
            congr 1
            rw [List.getElem?_eq_getElem hlt] at hl
            exact Option.some.inj hl
          rw [hdl, litsS] at hres
          obtain ⟨v, hv1, hv2⟩ := Hls.out.at hl
          obtain ⟨va, vc, hvv⟩ := ownE_len hv2
          subst hvv
          have hcr := ownsRow_kept Hlv.out HC.out.keep (by simp)
          obtain ⟨gt, hgt⟩ := ownE_pos2 hcr (by omega)
          subst hgt
          have c0 : wr.cell? ⟨gt, i * 5, none⟩ = some (.string (kindOf l.atom.name.g)) := ownE_cells hcr (by have := hv1 0 (by omega); rw [Nat.add_zero] at this; rw [this]; rfl)
          have c1 : wr.cell? ⟨gt, i * 5 + 1, none⟩ = some (.string (txt l.atom.name.g)) := ownE_cells hcr (by rw [hv1 1 (by omega)]; rfl)
          have c2 : wr.cell? ⟨gt, i * 5 + 2, none⟩ = some (.int .i64 l.atom.name.line) := ownE_cells hcr (by rw [hv1 2 (by omega)]; rfl)
          have c3 : wr.cell? ⟨gt, i * 5 + 3, none⟩ = some (.slice va l.atom.terms.length vc) := ownE_cells hcr (by rw [hv1 3 (by omega)]; rfl)
          have c4 : wr.cell? ⟨gt, i * 5 + 4, none⟩ = some (.bool l.no) := ownE_cells hcr (by rw [hv1 4 (by omega)]; rfl)
          have hgl : gt < wr.heap.size := (ownE_lt hcr gt rfl).2
          have kK := Keeps.alloc [] wr (.cells #[.string (kindOf l.atom.name.g), .string (txt l.atom.name.g), .int .i64 l.atom.name.line, .slice va l.atom.terms.length vc, .bool l.no] 353)
          have hK := CellsAt.new wr #[.string (kindOf l.atom.name.g), .string (txt l.atom.name.g), .int .i64 l.atom.name.line, .slice va l.atom.terms.length vc, .bool l.no] 353
          have hiI : (i : Int) < ls.length := by omega
          have Hv2 := hide hv2
          have hlm := List.mem_of_getElem? hl
          clear hv1 hv2 hcr hdl hl
          by_cases h4 : i = 4
          · rw [if_pos h4] at hres
            have Hres := hide hres
            have q4 : ((i : Int) == 4) = true := by rw [h4]; rfl
            have hy := hide (fun (w : World) => refuse_yes (w := w) l.atom.name 6)
            clear hres h4
            go_wp2_with fail
            refine (hy.out _).mono ?_
            rintro e w4 ⟨rfl, rfl⟩
            exact ⟨rfl, by rw [← Hres.out]; rfl, [], (HC.out.keep.trans kK).trans (Keeps.alloc [] _ _), by simp⟩
          · rw [if_neg h4] at hres
            have q4 : ((i : Int) == 4) = false := by rw [beq_eq_false_iff_ne]; omega
            have hn := hide (fun (w : World) => refuse_no (w := w) l.atom.name 6)
            have hi3' : i + 1 ≤ 4 := by omega
            clear h4
            go_wp2_with fail
            refine (hn.out _).mono ?_
            rintro e w4 ⟨rfl, rfl⟩
            have kK2 := kK.trans (Keeps.alloc [] _ (.cells #[.string (kindOf l.atom.name.g), .string (txt l.atom.name.g), .int .i64 l.atom.name.line] 129))
            have hK2 := hK.keeps (Keeps.alloc [] _ (.cells #[.string (kindOf l.atom.name.g), .string (txt l.atom.name.g), .int .i64 l.atom.name.line] 129)) (by simp)
            generalize (wr.alloc (.cells #[.string (kindOf l.atom.name.g), .string (txt l.atom.name.g), .int .i64 l.atom.name.line, .slice va l.atom.terms.length vc, .bool l.no] 353)).alloc (.cells #[.string (kindOf l.atom.name.g), .string (txt l.atom.name.g), .int .i64 l.atom.name.line] 129) = W at *
            have kWd := kK2.trans (Keeps.drew [] W)
            have hKd := hK2.keeps (Keeps.drew [] W) (by simp)
            have hLr : wr.heap.size < W.heap.size := hK2.lt
            have hLt : ∀ j ∈ [w.heap.size, C] ++ (ownL (.slice ta x.terms.length tc) ++ ownL (.slice ly xs.length lc) ++ ownLs lcs) ++ [wr.heap.size], j < W.drew.heap.size := fun j hj => by
              rcases List.mem_append.1 hj with q | q
              · exact Nat.lt_of_lt_of_le (HC.out.lt j q).2 kWd.size
              · have e : j = wr.heap.size := (by simpa using q); rw [e]; exact hLr
            have hscW : ScopeX W.drew w.heap.size wc.heap.size B sci ([w.heap.size, C] ++ (ownL (.slice ta x.terms.length tc) ++ ownL (.slice ly xs.length lc) ++ ownLs lcs) ++ [wr.heap.size]) := (HC.out.sc.mono (fun j _ h2 h3 hx => by
              rcases List.mem_append.1 hx with q | q
              · exact h3 q
              · have e : j = wr.heap.size := (by simpa using q); omega)).keeps kWd (by simp)
            have hcall := hide (Hlat.out W.drew (HC.out.keep.trans kWd) wc.heap.size sci _ hscW hLt hoi h4i l va vc Hv2.out hlm)
            have e0 := hK2.cell 0
            have e1 := hK2.cell 1
            have e2 := hK2.cell 2
            have e3 := hK2.cell 3
            have e4 := hK2.cell 4
            have d2 := (HC.out.cl.keeps kK2 (by simp)).cell 2
            have HLt := hide hLt
            clear hLt hscW c0 c1 c2 c3 c4 kK hK hn
            cases hr3 : atomS m sci l.atom with
            | error f =>
              rw [hr3] at hcall hres
              have Hres := hide hres
              clear hres hr3
              have g2 := (HC.out.cl.keeps (kK2.trans (Keeps.alloc [] _ (.cells #[.int .i64 0, .slice none 0 0, .bool l.no] 279))) (by simp)).cell 2
              have f2 := (HC.out.cl.keeps (kK2.trans (Keeps.alloc [] _ (.cells #[.int .i64 0, .slice none 0 0, .bool l.no] 279))) (by simp)).frozen 2
              go_wp2_with fail
              go_region_law (first
                | (refine step_dies2 rfl 339 _ _ rfl _ Tryz.func339 (by kernel_rfl) (by kernel_rfl) [.pointer (some ⟨wc.heap.size, 0, none⟩), .agg #[.string (kindOf l.atom.name.g), .string (txt l.atom.name.g), .int .i64 l.atom.name.line, .slice va l.atom.terms.length vc]] rfl (.agg #[.int .i64 0, .slice none 0 0]) ?_ ?_
                   · refine hcall.out.mono ?_
                     rintro e w5 ⟨rfl, T4, k4, hT4⟩
                     refine ⟨rfl, ?_, [], (HC.out.keep.trans kWd).trans_new k4 (fun j hj => .inr (hT4 j hj).1), by simp⟩
                     rw [← Hres.out]; rfl
                   intro hf)
                | (refine step_void hf (.slice none 0 0) ?_))
              all_goals exact (hf.out).elim
            | ok q =>
              obtain ⟨y, sc'⟩ := q
              rw [hr3] at hcall hres
              have hmt := atomS_match hoi h4i hr3
              have hah : aheadQ (xs ++ [(y, l.no)]) (litsS m sc' (i + 1) (ls.drop (i + 1))) = RR := by
                rw [← hres]
                show _ = aheadQ xs (match litsS m sc' (i + 1) (ls.drop (i + 1)) with
                  | .error f => Except.error f
                  | .ok (xs, sc'') => .ok ((y, l.no) :: xs, sc''))
                cases litsS m sc' (i + 1) (ls.drop (i + 1)) with
                | error f => rfl
                | ok q => simp [aheadQ]
              have Hah := hide hah
              have Hmt := hide hmt
              clear hres hah hmt hr3 hoi Hlat
              go_wp2_with fail
              go_region_law (first
                | (refine step_callA rfl 339 _ _ rfl _ Tryz.func339 (by kernel_rfl) (by kernel_rfl) [.pointer (some ⟨wc.heap.size, 0, none⟩), .agg #[.string (kindOf l.atom.name.g), .string (txt l.atom.name.g), .int .i64 l.atom.name.line, .slice va l.atom.terms.length vc]] rfl ?_
                   refine hcall.out.mono ?_
                   rintro e w4 ⟨⟨tv, rfl, hrow4, hs4⟩, T4, k4, hT4⟩
                   obtain ⟨tva, tvc, rfl⟩ := ownE_len hrow4
                   have hk4 := (kWd.mono (fun i hi => by cases hi)).trans k4
                   have hC4 := HC.out.kept hk4 (fun j hj => ⟨(hT4 j hj).1, fun hx => (hT4 j hj).2 (List.mem_append_left _ hx)⟩) (hs4.mono (fun j _ _ q hx => q (List.mem_append_left _ (List.mem_append_left _ hx))))
                   have hK4 := hKd.keeps k4 (fun q => (hT4 _ q).2 (by simp))
                   have hs4' : ScopeX w4 w.heap.size wc.heap.size B sc' ([w.heap.size, C] ++ (ownL (.slice ta x.terms.length tc) ++ ownL (.slice ly xs.length lc) ++ ownLs lcs) ++ ownL (.slice tva y.terms.length tvc)) := hs4.mono (fun j _ _ q hx => q (by
                     rcases List.mem_append.1 hx with h | h
                     · exact List.mem_append_left _ (List.mem_append_left _ h)
                     · exact List.mem_append_right _ h))
                   have row4A := ownsRow_kept hC4.lrow (Keeps.alloc [] w4 (.cells #[.int .i64 (y.rel : Int), .slice tva y.terms.length tvc, .bool l.no] 279)) (by simp)
                   have hD4A := hC4.cl.keeps (Keeps.alloc [] w4 (.cells #[.int .i64 (y.rel : Int), .slice tva y.terms.length tvc, .bool l.no] 279)) (by simp)
                   have hs4z : w.heap.size ≤ w4.heap.size := Nat.le_trans hszr hk4.size
                   have f4 := hK4.cell 4
                   have f1 := hC4.cl.cell 2
                   have f2 := hD4A.cell 2
                   have HC4 := hide hC4
                   have hzz : ∀ j ∈ [w.heap.size, C] ++ (ownL (.slice ta x.terms.length tc) ++ ownL (.slice ly xs.length lc) ++ ownLs lcs), j < W.drew.heap.size := fun j hj => HLt.out j (List.mem_append_left _ hj)
                   have Hzz := hide hzz
                   clear hC4 hK4 hzz)
                | (refine step_append_lies _ (by rfl) _ _ _ (by rfl) w.heap.size 279 i2 _ 3 40 Tryz.underlying152 hi2 hx0 hx1 hx2 rfl (by omega) (.slice ly xs.length lc) xs.length lcs (by rfl) row4A ⟨w4.heap.size, 0, none⟩ 1 1 [.int .i64 (y.rel : Int), .slice tva y.terms.length tvc, .bool l.no] (by rfl) (by rfl) (three_cells (W := w4)) (by simp [Value.oneCell']) (by omega) (by unfold maxLen; omega) (by omega) (by rw [sizeE_alloc]; omega) (w4.heap.size + 1) (by rw [sizeE_alloc]) ?_
                   intro gg cap w5 hown5 hgrow hat hlt5
                   have k6 := grownBy_keeps' hgrow (ownL (.slice ly xs.length lc)) (fun r e => .inl (by simp [ownL, e]))
                   have hD5 := hD4A.keeps k6 (fun q => (HC.out.far C (by simp [q])).2 rfl)
                   have d4g := hD5.cell 2
                   have f4g := hD5.frozen 2
                   have hNew := hide (HC4.out.step Hzz.out hrow4 hs4' hgrow hown5 hat)
                   clear hD5 k6))
              all_goals
                go_wp2_with fail
                go_roundw
                · exact ⟨i + 1, sc', xs ++ [(y, l.no)], _, _, by simp, by rw [List.length_append, List.length_singleton, ← Hix.out], by omega, hi3', hNew.out, Hmt.out.2.2.1, Hmt.out.2.2.2, Hah.out⟩
                · simp only [intOf]; omega
        · have hiI : ¬ (i : Int) < ls.length := by omega
          have hdz : ls.drop i = [] := List.drop_eq_nil_of_le (by omega)
          rw [hdz, litsS] at hres
          simp only [aheadQ, List.append_nil] at hres
          have Hres := hide hres
          have hVr := HV.out.keeps HC.out.keep (by simp)
          have hBr := hVr.cells.lt
          have b6r := hVr.cells.cell 6
          have c0 := HC.out.cl.cell 0
          have c1 := HC.out.cl.cell 1
          have c2 := HC.out.cl.cell 2
          have kA4 := Keeps.alloc [] wr (.cells #[.int .i64 (x.rel : Int), .slice ta x.terms.length tc, .slice ly xs.length lc] 154)
          have b6a := (hVr.cells.keeps kA4 (by simp)).cell 6
          have ownA := ownsRow_kept hVr.cls kA4 (by simp)
          have HVr := hide hVr
          clear hres hdz hVr Hlat b6
          go_upto_region 10 with fail
          go_cut [] (fun wd => ∃ gg cap, Grown wr wd mb B m tD mD sz tN mN co (.slice aD m.clauses.length cD) (.slice aL m.clauses.length cL) kvs [.int .i64 (x.rel : Int), .slice ta x.terms.length tc, .slice ly xs.length lc] gg cap)
          case first =>
            go_region_law (first
              | (refine step_append_lies _ (by rfl) _ _ _ (by rfl) mb 154 i1 _ 3 56 Tryz.underlying124 hi1 hy0 hy1 hy2 rfl (by omega) (.slice aD m.clauses.length cD) m.clauses.length kvs (by rfl) (ownsRow_kept ownA (Keeps.drew [] _) (by simp)) ⟨wr.heap.size, 0, none⟩ 1 1 [.int .i64 (x.rel : Int), .slice ta x.terms.length tc, .slice ly xs.length lc] (by rfl) (by rfl) (three_cells (W := wr)) (by simp [Value.oneCell']) (by omega) (by unfold maxLen; omega) (by omega) (by show mb ≤ (wr.alloc _).heap.size; rw [sizeE_alloc]; omega) (wr.heap.size + 1) (by show (wr.alloc _).heap.size = _; rw [sizeE_alloc]) ?_
                 intro gg cap w5 hown5 hgrow hat hlt5
                 obtain ⟨hG, hB5⟩ := Grown.of (kA4.trans (Keeps.drew [] _)) HVr.out hown5 hgrow hat
                 have HG := hide hG
                 have d6 := hB5.cell 6
                 have f6 := hB5.frozen 6
                 clear hG hB5))
            all_goals
              go_wp2_with fail
              go_meet
              exact ⟨_, _, HG.out⟩
          case rest =>
            obtain ⟨gg, cap, hG⟩ := hcut
            have hf := HV.out.foot
            rw [footC] at hf
            have hfl := HV.out.foot_lt
            rw [footC] at hfl
            have hBn : ∀ j ∈ ownL (.slice aD m.clauses.length cD), mb ≤ j ∧ j < w.heap.size := fun j hj => hfl j (by simp [hj])
            have hln : ∀ j ∈ ownL (.slice aL m.clauses.length cL), j ∉ [B] ++ ownL (.slice aD m.clauses.length cD) := fun j hj q => by
              rcases List.mem_append.1 q with q | q
              · have e : j = B := (by simpa using q)
                exact ((mem_apart hf).1 j (by simp [hj])).1 (by rw [e]; simp [headC])
              · have h2 : (headC B tD mD sz tN mN co ++ ownL (.slice aD m.clauses.length cD) ++ ownL (.slice aL m.clauses.length cL)).Nodup := by simpa using hf
                exact ((mem_apart h2).2 j hj).2 q
            have hAc := HC.out.arg.keeps hG.keep (fun q => by
              rcases List.mem_append.1 q with q | q
              · have e : w.heap.size = B := (by simpa using q); omega
              · have := (hBn _ q).2; omega)
            have hlr := ownsRow_kept HVr.out.lines hG.keep (fun j hj => hln j (by simp [ownL, hj]))
            have kA5 := Keeps.alloc [] wc (.cells #[.int .i64 (a.name.line : Int)] 3)
            have b7 := hG.cells.cell 7
            have b7a := (hG.cells.keeps kA5 (by simp)).cell 7
            have a2 := hAc.cell 2
            have a2a := (hAc.keeps kA5 (by simp)).cell 2
            have ownB := ownsRow_kept hlr kA5 (by simp)
            have hsc := hG.keep.size
            have hBc := hG.cells.lt
            have HG := hide hG
            clear hG hf hfl hBn hln hAc hlr b6r c0 c1 c2 kA4 b6a ownA
            go_wp2_with fail
            go_region_law (first
              | (refine step_append_lies _ (by rfl) _ _ _ (by rfl) mb 3 i3 _ 1 8 Tryz.underlying40 hi3 hw0 hw1 hw2 rfl (by omega) (.slice aL m.clauses.length cL) m.clauses.length (natsV (m.clauses.map (·.line))) (by rfl) (ownsRow_kept ownB (Keeps.drew [] _) (by simp)) ⟨wc.heap.size, 0, none⟩ 1 1 [.int .i64 (a.name.line : Int)] (by rfl) (by rfl) (int_one (W := wc)) (by simp [Value.oneCell']) (by omega) (by unfold maxLen; omega) (by omega) (by show mb ≤ (wc.alloc _).heap.size; rw [sizeE_alloc]; omega) (wc.heap.size + 1) (by show (wc.alloc _).heap.size = _; rw [sizeE_alloc]) ?_
                 intro g2 cap2 w5 hown5 hgrow hat hlt5
                 obtain ⟨hB5, hEnd, hKeep⟩ := clause_done (kA5.trans (Keeps.drew [] _)) HV.out hmb HC.out HG.out hown5 hgrow hat
                 have HE := hide hEnd
                 have HK := hide hKeep
                 have d7 := hB5.cell 7
                 have f7 := hB5.frozen 7
                 clear hEnd hKeep hB5))
            all_goals
              go_wp2_with fail
              go_end0
              refine ⟨?_, HK.out⟩
              rw [← Hres.out]
              exact ⟨rfl, HE.out⟩

end Go.Proofs.YtgjomknpjigkhaaGreatDoor

namespace Go.Proofs.YtgjomknpjigkhaaGreatDoor
open Go.RowKit

theorem domM_calls {w : World} {mb B : Nat} {m : Mean} (h : MeanAt w mb B m) (hok : MeanOk m) (hmb : mb ≤ w.heap.size) (n z : Tn) {zs : ByteArray} (hzg : z.g = .int zs) (hzw : WfG z.g) : Calls Tryz.prog 334 #[.agg #[.string (kindOf n.g), .string (txt n.g), .int .i64 n.line, .string (kindOf z.g), .string (txt z.g), .int .i64 z.line], .pointer (some ⟨B, 0, none⟩)] w fun e w' => AddTo mb B (addDom m n z) e w' ∧ ∃ T, Keeps T w w' ∧ ∀ j ∈ T, mb ≤ j := by
  unfold addDom
  by_cases h4 : m.doms.length = 4
  · rw [if_pos h4]
    refine (dom_many h n z h4).mono ?_
    rintro e w' ⟨rfl, k⟩
    exact ⟨rfl, [], k, by simp⟩
  · rw [if_neg h4]
    cases ht : m.taken (txt n.g) with
    | true =>
      rw [if_pos rfl]
      refine (dom_taken h n z h4 ht).mono ?_
      rintro e w' ⟨rfl, k⟩
      exact ⟨rfl, [], k, by simp⟩
    | false =>
      rw [if_neg (by simp)]
      refine (dom_rest h hmb n z hzg hzw h4 hok.doms ht).mono ?_
      rintro e w' ⟨hd, hT⟩
      refine ⟨?_, hT⟩
      unfold DomTo at hd
      by_cases hr : numOf z.g < 1 ∨ 8 < numOf z.g
      · rw [if_pos hr] at hd ⊢; exact hd
      · rw [if_neg hr] at hd ⊢; exact hd

theorem relM_calls {w : World} {mb ib B : Nat} {m : Mean} (h : MeanAt w mb B m) (hok : MeanOk m) (hmb : mb ≤ w.heap.size) (n : Tn) (cs : List Tn) {av : Option Addr} {cc : Nat} (hcv : w.ownsRow ib 129 3 (.slice av cs.length cc) cs.length (tokCs cs)) (hcl : cs.length ≤ 1000000) : Calls Tryz.prog 337 #[.agg #[.string (kindOf n.g), .string (txt n.g), .int .i64 n.line, .slice av cs.length cc], .pointer (some ⟨B, 0, none⟩)] w fun e w' => AddTo mb B (addRel m n cs) e w' ∧ ∃ T, Keeps T w w' ∧ ∀ j ∈ T, mb ≤ j := by
  unfold addRel
  by_cases h4 : m.rels.length = 6
  · rw [if_pos h4]
    refine (rel_many h n _ rfl h4).mono ?_
    rintro e w' ⟨rfl, k⟩
    exact ⟨rfl, [], k, by simp⟩
  · rw [if_neg h4]
    cases ht : m.taken (txt n.g) with
    | true =>
      rw [if_pos rfl]
      refine (rel_taken h n _ rfl h4 ht).mono ?_
      rintro e w' ⟨rfl, k⟩
      exact ⟨rfl, [], k, by simp⟩
    | false =>
      rw [if_neg (by simp)]
      refine (rel_rest h hmb n cs hcv hcl h4 hok.rels ht).mono ?_
      rintro e w' ⟨hd, hT⟩
      refine ⟨?_, hT⟩
      cases hc : colsS m 0 cs with
      | error f => rw [hc] at hd; exact hd
      | ok ds => rw [hc] at hd; exact hd

theorem clauseM_calls {w : World} {mb ib B : Nat} {m : Mean} (h : MeanAt w mb B m) (hok : MeanOk m) (hmb : mb ≤ w.heap.size) (a : AtomI) (ls : List LitI) {ah al : Option Addr} {ch cl : Nat} {cs : List Value} {X : List Nat} (hhv : w.ownsRow ib 129 3 (.slice ah a.terms.length ch) a.terms.length (tokCs a.terms)) (hlv : w.ownsRow ib 353 5 (.slice al ls.length cl) ls.length cs) (hls : LitsAre w ib X ls cs) (htl : a.terms.length ≤ 1000000) (htt : ∀ t ∈ a.terms, isTermG t.g = true ∧ WfG t.g) (hll : ls.length ≤ 1000000) (hlt : ∀ l ∈ ls, l.atom.terms.length ≤ 1000000 ∧ ∀ t ∈ l.atom.terms, isTermG t.g = true ∧ WfG t.g) : Calls Tryz.prog 338 #[.agg #[.string (kindOf a.name.g), .string (txt a.name.g), .int .i64 a.name.line, .slice ah a.terms.length ch, .slice al ls.length cl], .pointer (some ⟨B, 0, none⟩)] w fun e w' => AddTo mb B (addClause m a ls) e w' ∧ ∃ T, Keeps T w w' ∧ ∀ j ∈ T, mb ≤ j := by
  by_cases h52 : m.clauses.length = 52
  · refine (clause_many h a.name ah al a.terms.length ch ls.length cl h52).mono ?_
    rintro e w' ⟨rfl, k⟩
    exact ⟨by unfold addClause; rw [if_pos h52]; rfl, [], k, by simp⟩
  · exact clause_walk h hok hmb a ls hhv hlv hls htl htt hll hlt h52

/-- What the grammar says of an item. -/
def ItemWf : ItemI → Prop
  | .dom _ z => (∃ zs, z.g = .int zs) ∧ WfG z.g
  | .rel _ cs => cs.length ≤ 1000000
  | .clause a ls => (a.terms.length ≤ 1000000 ∧ ∀ t ∈ a.terms, isTermG t.g = true ∧ WfG t.g) ∧ ls.length ≤ 1000000 ∧ ∀ l ∈ ls, l.atom.terms.length ≤ 1000000 ∧ ∀ t ∈ l.atom.terms, isTermG t.g = true ∧ WfG t.g

theorem ItemsAre.at {w : World} {base : Nat} {X : List Nat} {is : List ItemI} {vs : List Value} (h : ItemsAre w base X is vs) {i : Nat} {it : ItemI} (hi : is[i]? = some it) : ∃ v, vs[i]? = some v ∧ ItemV w base X it v := by
  induction is generalizing vs i with
  | nil => simp at hi
  | cons x is ih =>
    obtain ⟨v, rest, h1, h2, h3⟩ := h
    subst h1
    cases i with
    | zero => simp at hi; subst hi; exact ⟨v, rfl, h2⟩
    | succ i => obtain ⟨u, k1, k2⟩ := ih h3 (by simpa using hi); exact ⟨u, by simpa using k1, k2⟩

theorem mean_new (w : World) : MeanAt (w.alloc (.cells #[.slice none 0 0, .map none, .slice none 0 0, .slice none 0 0, .map none, .slice none 0 0, .slice none 0 0, .slice none 0 0] 207)) w.heap.size w.heap.size emptyM := by
  have sv : ∀ {W : World} {b : Nat} {X : List Nat}, SetV W b X (.slice none 0 0) (.map none) [] := ⟨World.ownsRow_nil .., fun j hj => by simp [Value.ownBlock] at hj, .inl ⟨rfl, rfl⟩⟩
  exact ⟨.slice none 0 0, .map none, .slice none 0 0, .slice none 0 0, .map none, .slice none 0 0, .slice none 0 0, .slice none 0 0, [], [], CellsAt.new w _ 207, Nat.le_refl _, by simp [footL, ownL, mapL, Value.ownBlock], sv, World.ownsRow_nil .., sv, World.ownsRow_nil .., rfl, World.ownsRow_nil .., rfl, World.ownsRow_nil ..⟩

def SenseTo (z : Nat) (r : Except Flt Mean) (e : Ending) (w' : World) : Prop := match r with
  | .ok m => e = .returned (.pointer (some ⟨z, 0, none⟩)) ∧ MeanAt w' z z m
  | .error f => e = gaveUp f.1 f.2

set_option maxRecDepth 100000 in
set_option maxHeartbeats 4000000 in
theorem understand_calls {w : World} {ib : Nat} {X : List Nat} (is : List ItemI) {iv : Value} {vs : List Value} (hrow : w.ownsRow ib 273 1 iv is.length vs) (hia : ItemsAre w ib X is vs) (hwf : ∀ i ∈ is, ItemWf i) (hl : is.length ≤ 1000000) : Calls Tryz.prog 134 #[iv] w fun e w' => SenseTo w.heap.size (senseS emptyM is) e w' ∧ Keeps [] w w' := by
  obtain ⟨ai, ci, hy⟩ := ownE_len hrow
  subst hy
  have kA := Keeps.alloc [] w (.cells #[.slice none 0 0, .map none, .slice none 0 0, .slice none 0 0, .map none, .slice none 0 0, .slice none 0 0, .slice none 0 0] 207)
  have Hm0 := hide (mean_new w)
  have Hrow := hide hrow
  have Hia := hide hia
  have Hwf := hide hwf
  generalize hR : senseS emptyM is = R
  have HR := hide hR
  clear hR hrow hia hwf
  go_enter Tryz.func134, Tryz.ntmps134
  go_wp2_with fail
  go_loopw [10] (fun x wr => ∃ (i : Nat) (m : Mean), x = .int .i64 i ∧ i ≤ is.length ∧ MeanAt wr w.heap.size w.heap.size m ∧ MeanOk m ∧ Keeps [] w wr ∧ w.heap.size ≤ wr.heap.size ∧ senseS m (is.drop i) = R) (fun x _ => is.length - (intOf x).toNat)
  case atStart => exact ⟨0, emptyM, rfl, by omega, Hm0.out, MeanOk.empty, kA, kA.size, by rw [List.drop_zero]; exact HR.out⟩
  case round =>
    obtain ⟨i, m, rfl, hil, hm, hok, kr, hsz, hres⟩ := hrel
    have Hm := hide hm
    clear Hm0 HR kA hm
    by_cases hlt : i < is.length
    · obtain ⟨it, hit⟩ : ∃ it, is[i]? = some it := ⟨_, List.getElem?_eq_getElem hlt⟩
      have hdi : is.drop i = it :: is.drop (i + 1) := by
        rw [List.drop_eq_getElem_cons hlt]
        congr 1
        rw [List.getElem?_eq_getElem hlt] at hit
        exact Option.some.inj hit
      rw [hdi, senseS] at hres
      have hrr := ownsRow_kept Hrow.out kr (by simp)
      obtain ⟨gt, hgt⟩ := ownE_pos2 hrr (by omega)
      subst hgt
      obtain ⟨v, hv, hiv⟩ := Hia.out.at hit
      have hcell := ownE_cell hrr hv
      have hw1 := Hwf.out it (List.mem_of_getElem? hit)
      have hiI : (i : Int) < is.length := by omega
      have hiv2 := hiv.keeps kr (by simp)
      have hgl : gt < wr.heap.size := (ownE_lt hrr gt rfl).2
      have Hgo : Hid (∀ m', addItem m it = .ok m' → MeanOk m') := hide (fun m' h => addItem_ok hok h)
      clear hdi hit hiv hrr hv
      cases it with
      | dom n z =>
        obtain ⟨⟨zs, hzg⟩, hzw⟩ := hw1
        have e : v = _ := hiv2
        subst e
        have hcall := hide (domM_calls Hm.out hok hsz n z hzg hzw)
        have hres' : (match addDom m n z with | .error f => Except.error f | .ok m' => senseS m' (is.drop (i + 1))) = R := hres
        clear hiv2 hzg hzw hres
        cases hr : addDom m n z with
        | error f =>
          rw [hr] at hcall hres'
          have Hres := hide hres'
          clear hres' hr
          go_wp2_with fail
          refine hcall.out.mono ?_
          rintro e w1 ⟨rfl, T, k1, hT⟩
          exact ⟨rfl, by rw [← Hres.out]; rfl, kr.trans_new k1 (fun j hj => .inr (hT j hj))⟩
        | ok m' =>
          rw [hr] at hcall hres'
          have Hres := hide hres'
          have Hok := hide (Hgo.out m' hr)
          clear hres' hr
          go_wp2_with fail
          refine hcall.out.mono ?_
          rintro e w1 ⟨⟨rfl, hm1⟩, T, k1, hT⟩
          have Hm1 := hide hm1
          have k2 := kr.trans_new k1 (fun j hj => .inr (hT j hj))
          clear hm1
          go_wp2_with fail
          go_roundw
          · exact ⟨i + 1, m', by simp, by omega, Hm1.out, Hok.out, k2, k2.size, Hres.out⟩
          · simp only [intOf]; omega
      | rel n cs =>
        obtain ⟨cv, hcv, hcr, _⟩ := hiv2
        obtain ⟨ca, cc, hcc⟩ := ownE_len hcr
        subst hcc
        subst hcv
        have hcall := hide (relM_calls Hm.out hok hsz n cs hcr hw1)
        have hres' : (match addRel m n cs with | .error f => Except.error f | .ok m' => senseS m' (is.drop (i + 1))) = R := hres
        clear hcr hw1 hres
        cases hr : addRel m n cs with
        | error f =>
          rw [hr] at hcall hres'
          have Hres := hide hres'
          clear hres' hr
          go_wp2_with fail
          refine hcall.out.mono ?_
          rintro e w1 ⟨rfl, T, k1, hT⟩
          exact ⟨rfl, by rw [← Hres.out]; rfl, kr.trans_new k1 (fun j hj => .inr (hT j hj))⟩
        | ok m' =>
          rw [hr] at hcall hres'
          have Hres := hide hres'
          have Hok := hide (Hgo.out m' hr)
          clear hres' hr
          go_wp2_with fail
          refine hcall.out.mono ?_
          rintro e w1 ⟨⟨rfl, hm1⟩, T, k1, hT⟩
          have Hm1 := hide hm1
          have k2 := kr.trans_new k1 (fun j hj => .inr (hT j hj))
          clear hm1
          go_wp2_with fail
          go_roundw
          · exact ⟨i + 1, m', by simp, by omega, Hm1.out, Hok.out, k2, k2.size, Hres.out⟩
          · simp only [intOf]; omega
      | clause a ls =>
        obtain ⟨hv, lv, cs, hcv, hhr, _, hlr, _, hla⟩ := hiv2
        obtain ⟨ha, hc, hcc⟩ := ownE_len hhr
        subst hcc
        obtain ⟨la, lc, hcc⟩ := ownE_len hlr
        subst hcc
        subst hcv
        have hcall := hide (clauseM_calls Hm.out hok hsz a ls hhr hlr hla hw1.1.1 hw1.1.2 hw1.2.1 hw1.2.2)
        have hres' : (match addClause m a ls with | .error f => Except.error f | .ok m' => senseS m' (is.drop (i + 1))) = R := hres
        clear hhr hlr hla hw1 hres
        cases hr : addClause m a ls with
        | error f =>
          rw [hr] at hcall hres'
          have Hres := hide hres'
          clear hres' hr
          go_wp2_with fail
          refine hcall.out.mono ?_
          rintro e w1 ⟨rfl, T, k1, hT⟩
          exact ⟨rfl, by rw [← Hres.out]; rfl, kr.trans_new k1 (fun j hj => .inr (hT j hj))⟩
        | ok m' =>
          rw [hr] at hcall hres'
          have Hres := hide hres'
          have Hok := hide (Hgo.out m' hr)
          clear hres' hr
          go_wp2_with fail
          refine hcall.out.mono ?_
          rintro e w1 ⟨⟨rfl, hm1⟩, T, k1, hT⟩
          have Hm1 := hide hm1
          have k2 := kr.trans_new k1 (fun j hj => .inr (hT j hj))
          clear hm1
          go_wp2_with fail
          go_roundw
          · exact ⟨i + 1, m', by simp, by omega, Hm1.out, Hok.out, k2, k2.size, Hres.out⟩
          · simp only [intOf]; omega
    · have hiI : ¬ (i : Int) < is.length := by omega
      have hdz : is.drop i = [] := List.drop_eq_nil_of_le (by omega)
      rw [hdz, senseS] at hres
      have Hres := hide hres
      clear hres hdz
      go_wp2_with fail
      go_ret
      refine ⟨?_, kr⟩
      rw [← Hres.out]
      exact ⟨rfl, Hm.out⟩

end Go.Proofs.YtgjomknpjigkhaaGreatDoor

namespace Go.Proofs.YtgjomknpjigkhaaGreatDoor
open Go.RowKit

theorem shr_and {a p : Nat} : ((a >>> p) &&& 1 : Nat) = if a.testBit p then 1 else 0 := by
  rw [Nat.and_one_is_mod, Nat.testBit_eq_decide_div_mod_eq, Nat.shiftRight_eq_div_pow]
  by_cases h : a / 2 ^ p % 2 = 1
  · simp [h]
  · simp only [h, decide_false, Bool.false_eq_true, if_false]
    omega
theorem shr_val (a p : Nat) : (a : Int) / 2 ^ p = ((a >>> p : Nat) : Int) := by
  rw [Nat.shiftRight_eq_div_pow]
  simp

set_option maxRecDepth 100000 in
set_option maxHeartbeats 8000000 in
theorem circles_calls {w : World} {mb B : Nat} {m : Mean} (hm : MeanAt w mb B m) (hok : MeanOk m) : Calls Tryz.prog 137 #[.pointer (some ⟨B, 0, none⟩)] w fun e w' => FirstTo 13 (firstC (circleC m.rels.length (edgesM m.clauses)) m.clauses) e ∧ Keeps [] w w' := by
  obtain ⟨a, cc, la, lc, hBl, hpos, hcl⟩ := mean_clause hm
  have hh := hide (hanging_calls hm hok)
  have hn6 := hok.rels
  have hl52 := hok.clauses
  have Hl4 := hide hok.lits
  have Hrl := hide hok.inR
  have Hcl := hide (fun (W : World) (k : Keeps [] w W) => hcl k)
  have Hpos := hide hpos
  have hgu := hide (fun (w : World) (l : Int) => giveUp_calls (w := w) 13 l)
  generalize hR : firstC (circleC m.rels.length (edgesM m.clauses)) m.clauses = R
  have HR := hide hR
  clear hR hcl hpos hm hok
  go_enter Tryz.func137, Tryz.ntmps137
  go_wp2_with fail
  refine hh.out.mono ?_
  rintro e w1 ⟨⟨vals, rfl, hg, hvl, h64, hbit⟩, k1⟩
  have b6 := (Hcl.out w1 k1).1
  have hgl := hg.lt
  have Hg := hide hg
  have H64 := hide h64
  have Hbit := hide hbit
  clear hh hg h64 hbit
  generalize hnn : m.rels.length = n at *
  go_wp2_with fail
  go_loopw [14] (fun x wr => ∃ i : Nat, x = .int .i64 i ∧ i ≤ m.clauses.length ∧ Keeps [] w1 wr ∧ firstC (circleC n (edgesM m.clauses)) (m.clauses.drop i) = R) (fun x _ => m.clauses.length - (intOf x).toNat)
  case atStart => exact ⟨0, rfl, by omega, Keeps.refl [] w1, by rw [List.drop_zero]; exact HR.out⟩
  case round =>
    obtain ⟨i, rfl, hil, kr, hres⟩ := hrel
    clear b6 HR
    have kw := k1.trans kr
    by_cases hlt : i < m.clauses.length
    · obtain ⟨c, hc⟩ : ∃ c, m.clauses[i]? = some c := ⟨_, List.getElem?_eq_getElem hlt⟩
      have hdi : m.clauses.drop i = c :: m.clauses.drop (i + 1) := by
        rw [List.drop_eq_getElem_cons hlt]
        congr 1
        rw [List.getElem?_eq_getElem hlt] at hc
        exact Option.some.inj hc
      rw [hdi, firstC] at hres
      have hcm := List.mem_of_getElem? hc
      have hl4 := Hl4.out c hcm
      obtain ⟨g, g2, hg, hgl2, hg2, hg2l⟩ := Hpos.out c hcm
      subst hg
      subst hg2
      obtain ⟨_, b7, hlines, hcells⟩ := Hcl.out wr kw
      obtain ⟨ha, hc', va, vc, ls, c0, c1, c2, hrow, hlrow, hlits⟩ := hcells i g c hc rfl
      have hiI : (i : Int) < m.clauses.length := by omega
      have hsz := kw.size
      have kK := Keeps.alloc [] wr (.cells #[.int .i64 (c.head.rel : Int), .slice ha c.head.terms.length hc', .slice va c.lits.length vc] 154)
      have hK := CellsAt.new wr #[.int .i64 (c.head.rel : Int), .slice ha c.head.terms.length hc', .slice va c.lits.length vc] 154
      have e2 := hK.cell 2
      have HK := hide hK
      have Hc := hide hc
      have Hlr := hide hlrow
      have Hlits := hide hlits
      have Hrr := hide (Hrl.out c hcm)
      have kw1 := kr.trans kK
      have hcbl := hK.lt
      clear hdi hrow hlines hcells hK hc b7 hlrow hlits hcm
      generalize hcbn : wr.heap.size = cb at *
      go_wp2_with fail
      go_loopw [22] (fun x ws => ∃ j : Nat, x = .int .i64 j ∧ j ≤ c.lits.length ∧ Keeps [] w1 ws ∧ CellsAt ws cb #[.int .i64 (c.head.rel : Int), .slice ha c.head.terms.length hc', .slice va c.lits.length vc] ∧ (if (c.lits.drop j).any (fun l => l.2 && hangB n (edgesM m.clauses) l.1.rel c.head.rel) then some c.line else firstC (circleC n (edgesM m.clauses)) (m.clauses.drop (i + 1))) = R) (fun x _ => c.lits.length - (intOf x).toNat)
      case atStart => exact ⟨0, rfl, by omega, kw1, HK.out, by rw [List.drop_zero]; exact hres⟩
      case round =>
        obtain ⟨j, rfl, hjl, ks, hcb, hmk⟩ := hrel
        clear e2 HK kw1 kK
        have ksw := k1.trans ks
        have Hcb := hide hcb
        have hcbl2 := hcb.lt
        clear hcb
        by_cases hjlt : j < c.lits.length
        · obtain ⟨l, hl⟩ : ∃ l, c.lits[j]? = some l := ⟨_, List.getElem?_eq_getElem hjlt⟩
          have hdj : c.lits.drop j = l :: c.lits.drop (j + 1) := by
            rw [List.drop_eq_getElem_cons hjlt]
            congr 1
            rw [List.getElem?_eq_getElem hjlt] at hl
            exact Option.some.inj hl
          rw [hdj, List.any_cons] at hmk
          obtain ⟨v, hv1, hv2⟩ := Hlits.out.at hl
          obtain ⟨v1, v2, hvv⟩ := ownE_len hv2
          subst hvv
          have hcr := ownsRow_kept Hlr.out ksw (by simp)
          obtain ⟨gt, hgt⟩ := ownE_pos2 hcr (by omega)
          subst hgt
          have d0 : wr.cell? ⟨gt, j * 3, none⟩ = some (.int .i64 (l.1.rel : Int)) := ownE_cells hcr (by have := hv1 0 (by omega); rw [Nat.add_zero] at this; rw [this]; rfl)
          have d1 : wr.cell? ⟨gt, j * 3 + 1, none⟩ = some (.slice v1 l.1.terms.length v2) := ownE_cells hcr (by rw [hv1 1 (by omega)]; rfl)
          have d2 : wr.cell? ⟨gt, j * 3 + 2, none⟩ = some (.bool l.2) := ownE_cells hcr (by rw [hv1 2 (by omega)]; rfl)
          have hgtl : gt < wr.heap.size := (ownE_lt hcr gt rfl).2
          have hjI : (j : Int) < c.lits.length := by omega
          have kL := Keeps.alloc [] wr (.cells #[.int .i64 (l.1.rel : Int), .slice v1 l.1.terms.length v2, .bool l.2] 279)
          have hLc := CellsAt.new wr #[.int .i64 (l.1.rel : Int), .slice v1 l.1.terms.length v2, .bool l.2] 279
          have hlm := List.mem_of_getElem? hl
          have hlr : l.1.rel < n := Hrr.out.2 l hlm
          have hhr : c.head.rel < n := Hrr.out.1
          have hbit := Hbit.out l.1.rel c.head.rel hlr
          have h64 := H64.out l.1.rel
          have hcb4 := Hcb.out.keeps kL (by simp)
          have hg4 := Hg.out.keeps (ks.trans kL) (by simp)
          have f0 := hcb4.cell 0
          have q0 : (wr.alloc (.cells #[.int .i64 (l.1.rel : Int), .slice v1 l.1.terms.length v2, .bool l.2] 279)).cell? ⟨w.heap.size, l.1.rel, none⟩ = some (.int .i64 ((vals.getD l.1.rel 0 : Nat) : Int)) := by rw [hg4.cell]; exact natC_at (by omega)
          have l0 := hLc.cell 0
          have l2 := hLc.cell 2
          have kall := ks.trans kL
          have HC4 := hide (fun (W : World) (k : Keeps [] (wr.alloc (.cells #[.int .i64 (l.1.rel : Int), .slice v1 l.1.terms.length v2, .bool l.2] 279)) W) => hcb4.keeps k (by simp))
          generalize vals.getD l.1.rel 0 = V at *
          have hshr := shr_val V c.head.rel
          have hand := and_val (a := V >>> c.head.rel) (b := 1) (by rw [Nat.shiftRight_eq_div_pow]; have := Nat.div_le_self V (2 ^ c.head.rel); omega) (by omega)
          rw [shr_and, hbit] at hand
          have hhI : (c.head.rel : Int) < n := by omega
          have hlI : (l.1.rel : Int) < n := by omega
          generalize hangB n (edgesM m.clauses) l.1.rel c.head.rel = hb at *
          clear hdj hl hv1 hv2 hcr hLc hcb4 hg4 hbit
          generalize hSR : V >>> c.head.rel = SR at *
          cases hl2 : l.2 with
          | false =>
            rw [hl2] at hmk d2 kL l0 l2 f0 q0 kall HC4
            rw [Bool.false_and, Bool.false_or] at hmk
            have Hmk := hide hmk
            clear hmk hl2
            go_wp2_with fail
            go_quiet (fail)
            go_wp2_with fail
            go_roundw
            · exact ⟨j + 1, by simp, by omega, kall.trans (Keeps.drewN _ _ _), HC4.out _ (Keeps.drewN _ _ _), Hmk.out⟩
            · simp only [intOf]; omega
          | true =>
            rw [hl2] at hmk d2 kL l0 l2 f0 q0 kall HC4
            rw [Bool.true_and] at hmk
            cases hb with
            | false =>
              rw [Bool.false_or] at hmk
              have Hmk := hide hmk
              have hand2 : bits .and .i64 (SR : Int) 1 = 0 := hand
              clear hand
              clear hmk hl2
              go_wp2_with fail
              go_quiet (fail)
              go_wp2_with fail
              go_roundw
              · exact ⟨j + 1, by simp, by omega, kall.trans (Keeps.drewN _ _ _), HC4.out _ (Keeps.drewN _ _ _), Hmk.out⟩
              · simp only [intOf]; omega
            | true =>
              rw [Bool.true_or, if_pos rfl] at hmk
              have Hmk := hide hmk
              have hand2 : bits .and .i64 (SR : Int) 1 = 1 := hand
              clear hand
              have kd := ((k1.trans kall).trans (Keeps.drewN [] _ 1))
              obtain ⟨_, b7, hlines, _⟩ := Hcl.out _ (k1.trans kall)
              have hl7 := hlines i g2 c Hc.out rfl
              clear hmk hl2 hlines
              go_wp2_with fail
              go_quiet (fail)
              go_wp2_with fail
              refine (hgu.out _ _).mono ?_
              rintro e w3 ⟨rfl, rfl⟩
              exact ⟨rfl, by rw [← Hmk.out]; rfl, (k1.trans kall).trans (Keeps.drewN _ _ _)⟩
        · have hjI : ¬ (j : Int) < c.lits.length := by omega
          have hdz : c.lits.drop j = [] := List.drop_eq_nil_of_le (by omega)
          rw [hdz] at hmk
          have Hmk : Hid (firstC (circleC n (edgesM m.clauses)) (m.clauses.drop (i + 1)) = R) := hide hmk
          clear hmk hdz
          go_wp2_with fail
          go_roundw
          · exact ⟨i + 1, by simp, by omega, ks, Hmk.out⟩
          · simp only [intOf]; omega
    · have hiI : ¬ (i : Int) < m.clauses.length := by omega
      have hdz : m.clauses.drop i = [] := List.drop_eq_nil_of_le (by omega)
      rw [hdz, firstC] at hres
      have Hres := hide hres
      clear hres hdz
      go_wp2_with fail
      go_end0
      exact ⟨by rw [← Hres.out]; rfl, kw⟩

end Go.Proofs.YtgjomknpjigkhaaGreatDoor

namespace Go.Proofs.YtgjomknpjigkhaaGreatDoor
open Go.RowKit

theorem tok_cells (ts : List Tn) (m : Nat) : tcells (ts.map toTk ++ [⟨strEnd, ⟨#[]⟩, m⟩]) = tokCs (withEnd ts m) := by
  have e : ∀ ts : List Tn, tcells (ts.map toTk) = tokCs ts := fun ts => by
    induction ts with
    | nil => rfl
    | cons t ts ih =>
      show _ ++ tcells (ts.map toTk) = _ ++ tokCs ts
      rw [ih]
      rfl
  have h1 : tcells (ts.map toTk ++ [⟨strEnd, ⟨#[]⟩, m⟩]) = tcells (ts.map toTk) ++ tcells [⟨strEnd, ⟨#[]⟩, m⟩] := by simp [tcells]
  rw [h1, e, withEnd, tokCs_append]
  rfl

/-- A program as it lies in memory. -/
structure ProgAt (w : World) (base p : Nat) (toks : List Tn) (m : Mean) (vals : List Nat) (rv cl tv : Value) (rvs kvs : List Value) : Prop where
  cells : CellsAt w p #[rv, cl, tv]
  low : base ≤ p
  rels : w.ownsRow base 144 3 rv m.rels.length rvs
  relsA : RelVs w base [] (relsM m vals) rvs
  cls : w.ownsRow base 154 3 cl m.clauses.length kvs
  clsA : ClauseMs w base [] m.clauses kvs
  toks : w.ownsRow base 129 3 tv toks.length (tokCs toks)
  lay : LayI m.clauses m.rels.length vals
  stable : StableG layG m.clauses vals

def ReadTo (z : Nat) (r : Except Flt (List Tn × Mean)) (e : Ending) (w' : World) : Prop := match r with
  | .error f => e = gaveUp f.1 f.2
  | .ok (toks, m) => ∃ p vals rv cl tv rvs kvs, e = .returned (.pointer (some ⟨p, 0, none⟩)) ∧ ProgAt w' z p toks m vals rv cl tv rvs kvs

theorem RelVs.farN {w : World} {base : Nat} {X : List Nat} {rs : List RelM} {vs : List Value} (h : RelVs w base X rs vs) : RelVs w base [] rs vs := by
  induction rs generalizing vs with
  | nil => exact h
  | cons r rs ih =>
    obtain ⟨v, rest, h1, h2, h3, h4⟩ := h
    exact ⟨v, rest, h1, h2, by simp, ih h4⟩
theorem RelVs.mono {w : World} {base base' : Nat} {X : List Nat} {rs : List RelM} {vs : List Value} (h : RelVs w base X rs vs) (hb : base' ≤ base) : RelVs w base' X rs vs := by
  induction rs generalizing vs with
  | nil => exact h
  | cons r rs ih =>
    obtain ⟨v, rest, h1, h2, h3, h4⟩ := h
    exact ⟨v, rest, h1, ownE_mono h2 hb, h3, ih h4⟩
theorem ClauseMs.farN {w : World} {base base' : Nat} {X : List Nat} {cs : List ClauseM} {vs : List Value} (h : ClauseMs w base X cs vs) (hb : base' ≤ base) : ClauseMs w base' [] cs vs := by
  induction cs generalizing vs with
  | nil => exact h
  | cons r rs ih =>
    obtain ⟨hv, lv, ls, rest, h1, h2, h3, h4, h5, h6, h7⟩ := h
    exact ⟨hv, lv, ls, rest, h1, ownE_mono h2 hb, by simp, ownE_mono h4 hb, by simp, (h6.far (by simp)).mono hb, ih h7⟩

theorem MatchTs.fine {sc : Scope} {ts : List Tn} {xs : List TermM} (h : MatchTs sc ts xs) (h4 : sc.length ≤ 4) : NumOk xs ∧ xs.length = ts.length := by
  induction ts generalizing xs with
  | nil => cases xs with
    | nil => exact ⟨fun x hx => (by cases hx), rfl⟩
    | cons x xs => exact absurd h (by simp [MatchTs])
  | cons t ts ih => cases xs with
    | nil => exact absurd h (by simp [MatchTs])
    | cons x xs =>
      obtain ⟨h1, h2⟩ : MatchT sc t x ∧ MatchTs sc ts xs := h
      obtain ⟨a, b⟩ := ih h2
      refine ⟨fun y hy hv => ?_, by simp [b]⟩
      rcases List.mem_cons.1 hy with rfl | hy
      · obtain ⟨p, d, hp, hs⟩ := h1.2 hv
        refine ⟨p, hp, ?_⟩
        rcases Nat.lt_or_ge p sc.length with q | q
        · omega
        · rw [List.getElem?_eq_none q] at hs; cases hs
      · exact a y hy hv
theorem MatchLs.fine {sc : Scope} {ls : List LitI} {xs : List (AtomM × Bool)} (h : MatchLs sc ls xs) (h4 : sc.length ≤ 4) (hl : ∀ l ∈ ls, l.atom.terms.length ≤ 1000000) : ∀ x ∈ xs, TermsFine x.1.terms := by
  induction ls generalizing xs with
  | nil => cases xs with
    | nil => intro x hx; cases hx
    | cons x xs => exact absurd h (by simp [MatchLs])
  | cons l ls ih => cases xs with
    | nil => exact absurd h (by simp [MatchLs])
    | cons x xs =>
      have h' := h
      simp only [MatchLs] at h'
      intro y hy
      rcases List.mem_cons.1 hy with rfl | hy
      · have hf := h'.1.fine h4
        have := hl l (by simp)
        exact ⟨hf.1, by omega⟩
      · exact ih (by first | exact h'.2.2 | exact h'.2) (fun l hl' => hl l (by simp [hl'])) y hy
theorem MatchCs.fine {cs : List (AtomI × List LitI)} {xs : List ClauseM} (h : MatchCs cs xs) (hc : ∀ c ∈ cs, c.1.terms.length ≤ 1000000 ∧ ∀ l ∈ c.2, l.atom.terms.length ≤ 1000000) : ∀ x ∈ xs, ClauseFine x := by
  induction cs generalizing xs with
  | nil => cases xs with
    | nil => intro x hx; cases hx
    | cons x xs => exact absurd h (by simp [MatchCs])
  | cons c cs ih => cases xs with
    | nil => exact absurd h (by simp [MatchCs])
    | cons x xs =>
      obtain ⟨h1, h2⟩ : MatchC c x ∧ MatchCs cs xs := h
      intro y hy
      rcases List.mem_cons.1 hy with rfl | hy
      · obtain ⟨sc, _, h4, hh, hl, _⟩ := h1
        have hf := hh.fine h4
        have := hc c (by simp)
        exact ⟨⟨hf.1, by omega⟩, hl.fine h4 this.2⟩
      · exact ih h2 (fun c' hc' => hc c' (by simp [hc'])) y hy

theorem firstC_none {p : ClauseM → Bool} {cs : List ClauseM} (h : firstC p cs = none) : ∀ c ∈ cs, p c = false := by
  induction cs with
  | nil => intro c hc; cases hc
  | cons c cs ih =>
    simp only [firstC] at h
    split at h
    · cases h
    · rename_i hp
      intro x hx
      rcases List.mem_cons.1 hx with rfl | hx
      · simpa using hp
      · exact ih h x hx

theorem clausesI_mem {is : List ItemI} {c : AtomI × List LitI} (h : c ∈ clausesI is) : ItemI.clause c.1 c.2 ∈ is := by
  induction is with
  | nil => cases h
  | cons i is ih =>
    cases i with
    | dom n z => simp only [clausesI] at h; exact List.mem_cons_of_mem _ (ih h)
    | rel n cs => simp only [clausesI] at h; exact List.mem_cons_of_mem _ (ih h)
    | clause a ls =>
      simp only [clausesI] at h
      rcases List.mem_cons.1 h with rfl | h
      · simp
      · exact List.mem_cons_of_mem _ (ih h)

end Go.Proofs.YtgjomknpjigkhaaGreatDoor
