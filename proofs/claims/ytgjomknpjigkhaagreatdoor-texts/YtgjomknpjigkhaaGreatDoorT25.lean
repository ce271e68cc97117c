/- Texts: K8 K9 MRange N1 N2. -/
import Derived.Test.YtgjomknpjigkhaaGreatDoorT24
import Derived.Laws.MakeOwn
import Derived.Test.YtgjomknpjigkhaaGreatDoorT02
import Derived.RangeFuncNested
import Derived.RangeFuncBound
import Derived.RangeFuncCalls
import Derived.RangeFuncLeaves
import Derived.Shelf.Abstract
import Derived.Shelf.RegionOpen
import Derived.OwnWalkIn
import Derived.TacticsInMore
import Derived.LoopNIn
import Derived.LoopIn
import Derived.OrdersIn
import Derived.Shelf.LaysM
import Derived.Shelf.Strconv.Clone
namespace Go.Proofs.YtgjomknpjigkhaaGreatDoor
open Go.RowKit

set_option maxRecDepth 100000 in
set_option maxHeartbeats 2000000 in
theorem lay1_calls {w : World} {g C n cc : Nat} {vals : List Nat} (hg : CellsAt w g (natC vals)) (hC : CellsAt w C #[.slice (some ⟨g, 0, none⟩) n cc]) (hn : vals.length = n) (v : Nat) (l : AtomM × Bool) (va : Option Addr) (vn vc : Nat) (hl : l.1.rel < n) (_ : v < 64) (hvl : vals.getD l.1.rel 0 < 64) : Calls Tryz.prog 257 #[.int .i64 (v : Int), .agg #[.int .i64 (l.1.rel : Int), .slice va vn vc, .bool l.2], .pointer (some ⟨C, 0, none⟩)] w fun e w' => e = .returned (.int .i64 ((layG vals v l : Nat) : Int)) ∧ Keeps [] w w' := by
  have hgl := hg.lt
  have hCl := hC.lt
  have c0 := hC.cell 0
  have g0 : w.cell? ⟨g, l.1.rel, none⟩ = some (.int .i64 ((vals.getD l.1.rel 0 : Nat) : Int)) := by rw [hg.cell]; exact natC_at (by omega)
  have hlI : (l.1.rel : Int) < n := by omega
  have hG : layG vals v l = max v (vals.getD l.1.rel 0 + (if l.2 then 1 else 0)) := rfl
  rw [hG]
  generalize vals.getD l.1.rel 0 = M at *
  clear hg hC hG
  cases h2 : l.2 with
  | true =>
    have kA := Keeps.alloc [] w (.cells #[.int .i64 (l.1.rel : Int), .slice va vn vc, .bool true] 279)
    have e : ((max v (M + (if true = true then 1 else 0)) : Nat) : Int) = max (v : Int) ((M : Int) + 1) := by simp; omega
    rw [e]
    clear h2 e
    go_enter Tryz.func257, Tryz.ntmps257
    go_wp2_with fail
    go_ret
    exact ⟨rfl, kA⟩
  | false =>
    have kA := Keeps.alloc [] w (.cells #[.int .i64 (l.1.rel : Int), .slice va vn vc, .bool false] 279)
    have e : ((max v (M + (if false = true then 1 else 0)) : Nat) : Int) = max (v : Int) (M : Int) := by simp; omega
    rw [e]
    clear h2 e
    go_enter Tryz.func257, Tryz.ntmps257
    go_wp2_with fail
    go_ret
    exact ⟨rfl, kA⟩

set_option maxRecDepth 100000 in
set_option maxHeartbeats 16000000 in
theorem spread257_calls {w0 w : World} {mb B g C n cc U : Nat} {m : Mean} {Inv : List Nat → Prop} (hm : MeanAt w0 mb B m) (k0 : Keeps [] w0 w) (hg0 : w0.heap.size ≤ g) (hgC : C ≠ g) (H : GrowOk m.clauses layG U n Inv) (h64 : ∀ vals, Inv vals → ∀ i, vals.getD i 0 < 64) (hl : m.clauses.length ≤ 52) (hl4 : ∀ c ∈ m.clauses, c.lits.length ≤ 4) {vals : List Nat} (h : Spr w w g C n cc Inv vals) : Calls Tryz.prog 255 #[.pointer (some ⟨B, 0, none⟩), .slice (some ⟨g, 0, none⟩) n cc, .func (.func 257) #[] #[.pointer (some ⟨C, 0, none⟩)]] w fun e w' => e = .returned (.tuple #[]) ∧ ∃ vals', Spr w w' g C n cc Inv vals' ∧ StableG layG m.clauses vals' := by
  obtain ⟨a, ccl, la, lc, hBl, hpos, hcl⟩ := mean_clause hm
  have hsz0 := k0.size
  have Hcl := hide (fun (W : World) (k : Keeps [] w0 W) => hcl k)
  have Hpos := hide hpos
  have Hh := hide h
  have HH := hide H
  have H64 := hide h64
  have Hl4 := hide hl4
  have hglt := h.row.lt
  have hClt := h.cap.lt
  clear hcl hpos hm h H h64 hl4
  go_enter Tryz.func255, Tryz.ntmps255
  go_wp2_with fail
  go_loopw [6] (fun y wr => ∃ (b : Bool) (vs : List Nat), y = .bool b ∧ Spr w wr g C n cc Inv vs ∧ (b = false → StableG layG m.clauses vs)) (fun y wr => 2 * (n * U - sumAt wr g) + tv y)
  case atStart => exact ⟨true, vals, rfl, Hh.out, by simp⟩
  case round =>
    obtain ⟨b, vs, rfl, hS, hst⟩ := hrel
    have HS := hide hS
    clear hS Hh
    cases b with
    | false =>
      have Hst := hide (hst rfl)
      clear hst
      go_wp2_with fail
      go_end0
      exact ⟨rfl, vs, HS.out, Hst.out⟩
    | true =>
      clear hst
      have kr := keepsG k0 hg0 HS.out.keep
      obtain ⟨b6, _⟩ := Hcl.out wr kr
      have hszr := HS.out.keep.size
      go_wp2_with fail
      go_loopw [6, 18] (fun y x wr => ∃ (i : Nat) (b : Bool) (v2 : List Nat), y = .bool b ∧ x = .int .i64 i ∧ i ≤ m.clauses.length ∧ Spr w wr g C n cc Inv v2 ∧ PassSt layG vs v2 b (doneC (m.clauses.take i))) (fun _ x _ => m.clauses.length - (intOf x).toNat)
      case atStart => exact ⟨0, false, vs, rfl, rfl, by omega, HS.out, .inr ⟨rfl, rfl, fun h l hd => by obtain ⟨c, hc, _⟩ := hd; simp at hc⟩⟩
      case round =>
        clear b6 kr
        obtain ⟨i, b, v2, rfl, rfl, hil, hS2, hP2⟩ := hrel
        have kr2 := keepsG k0 hg0 hS2.keep
        have hsz2 := hS2.keep.size
        have HS2 := hide hS2
        have HP2 := hide hP2
        clear hS2 hP2
        by_cases hlt : i < m.clauses.length
        · obtain ⟨c, hc⟩ : ∃ c, m.clauses[i]? = some c := ⟨_, List.getElem?_eq_getElem hlt⟩
          have hcm := List.mem_of_getElem? hc
          obtain ⟨gk, g2, hgk, hgl, hg2, hg2l⟩ := Hpos.out c hcm
          subst hgk
          obtain ⟨_, _, _, hcells⟩ := Hcl.out _ kr2
          obtain ⟨ha, hc', va, vc, ls, c0, c1, c2, hrow, hlrow, hlits⟩ := hcells i gk c hc rfl
          have hiI : (i : Int) < m.clauses.length := by omega
          have Hlr := hide hlrow
          have Hlits := hide hlits
          have Htake : Hid (m.clauses.take (i + 1) = m.clauses.take i ++ [c]) := hide (by rw [List.take_add_one, hc]; rfl)
          have h4 := Hl4.out c hcm
          have Hcm := hide hcm
          have Hrl := hide (HH.out.rels c hcm)
          have kK := Keeps.alloc [] wr (.cells #[.int .i64 (c.head.rel : Int), .slice ha c.head.terms.length hc', .slice va c.lits.length vc] 154)
          have hK := CellsAt.new wr #[.int .i64 (c.head.rel : Int), .slice ha c.head.terms.length hc', .slice va c.lits.length vc] 154
          have e2 := hK.cell 2
          have HK := hide hK
          have hcb : ∀ j, j < w.heap.size → j ≠ wr.heap.size := fun j hj => by omega
          have hcbg := hcb g hglt
          have hcbC := hcb C hClt
          clear hcells hrow hlrow hlits hc hcm hK hcb
          generalize hcbn : wr.heap.size = cb at *
          go_wp2_with fail
          go_loopw [6, 25] (fun y x wr => ∃ (j : Nat) (b : Bool) (v3 : List Nat), y = .bool b ∧ x = .int .i64 j ∧ j ≤ c.lits.length ∧ Spr w wr g C n cc Inv v3 ∧ CellsAt wr cb #[.int .i64 (c.head.rel : Int), .slice ha c.head.terms.length hc', .slice va c.lits.length vc] ∧ PassSt layG vs v3 b (doneL (m.clauses.take i) c.head.rel (c.lits.take j))) (fun _ x _ => c.lits.length - (intOf x).toNat)
          case atStart => exact ⟨0, b, v2, rfl, rfl, by omega, HS2.out.go kK, HK.out, HP2.out.mono (fun h l hd => done_start hd)⟩
          case round =>
            clear c0 c1 c2 kK HK e2 HS2 HP2 kr2
            obtain ⟨j, b, v3, rfl, rfl, hjl, hS3, hcl3, hP3⟩ := hrel
            have kr3 := keepsG k0 hg0 hS3.keep
            have hsz3 := hS3.keep.size
            have HS3 := hide hS3
            have HP3 := hide hP3
            have Hcl3 := hide hcl3
            have hcbl := hcl3.lt
            clear hS3 hP3 hcl3
            by_cases hjlt : j < c.lits.length
            · obtain ⟨l, hl⟩ : ∃ l, c.lits[j]? = some l := ⟨_, List.getElem?_eq_getElem hjlt⟩
              have hlm := List.mem_of_getElem? hl
              obtain ⟨v, hv1, hv2⟩ := Hlits.out.at hl
              obtain ⟨x1, x2, hvv⟩ := ownE_len hv2
              subst hvv
              have hcr := ownsRow_kept Hlr.out kr3 (by simp)
              obtain ⟨gt, hgt⟩ := ownE_pos2 hcr (by omega)
              subst hgt
              have d0 : wr.cell? ⟨gt, j * 3, none⟩ = some (.int .i64 (l.1.rel : Int)) := ownE_cells hcr (by have := hv1 0 (by omega); rw [Nat.add_zero] at this; rw [this]; rfl)
              have d1 : wr.cell? ⟨gt, j * 3 + 1, none⟩ = some (.slice x1 l.1.terms.length x2) := ownE_cells hcr (by rw [hv1 1 (by omega)]; rfl)
              have d2 : wr.cell? ⟨gt, j * 3 + 2, none⟩ = some (.bool l.2) := ownE_cells hcr (by rw [hv1 2 (by omega)]; rfl)
              have hgtl : gt < wr.heap.size := (ownE_lt hcr gt rfl).2
              have hjI : (j : Int) < c.lits.length := by omega
              have kL := Keeps.alloc [] wr (.cells #[.int .i64 (l.1.rel : Int), .slice x1 l.1.terms.length x2, .bool l.2] 279)
              have hLc := CellsAt.new wr #[.int .i64 (l.1.rel : Int), .slice x1 l.1.terms.length x2, .bool l.2] 279
              have hlen := HH.out.len HS3.out.inv
              have hhr : c.head.rel < v3.length := by rw [hlen]; exact Hrl.out.1
              have hlr2 : l.1.rel < n := Hrl.out.2 l hlm
              have hv64 := H64.out v3 HS3.out.inv
              have hS4 := HS3.out.go kL
              have hc4 := Hcl3.out.keeps kL (by simp)
              have f0 := hc4.cell 0
              have f1 : (wr.alloc (.cells #[.int .i64 (l.1.rel : Int), .slice x1 l.1.terms.length x2, .bool l.2] 279)).cell? ⟨g, c.head.rel, none⟩ = some (.int .i64 ((v3.getD c.head.rel 0 : Nat) : Int)) := by rw [hS4.row.cell]; exact natC_at hhr
              have l0 := hLc.cell 0
              have l1 := hLc.cell 1
              have l2 := hLc.cell 2
              have kLd := kL.trans (Keeps.drew [] _)
              have hS5 := HS3.out.go kLd
              have hcall := hide (lay1_calls hS5.row hS5.cap hlen (v3.getD c.head.rel 0) l x1 l.1.terms.length x2 hlr2 (hv64 _) (hv64 _))
              have hIn := hide (HH.out.keep HS3.out.inv Hcm.out hlm)
              have hPn := hide (HP3.out.step HH.out HS3.out.inv Hcm.out hlm (done' := doneL (m.clauses.take i) c.head.rel (c.lits.take (j + 1))) (fun h x hd => by
                rcases hd with q | ⟨q1, q2⟩
                · exact .inl (.inl q)
                · rw [List.take_add_one, hl] at q2
                  rcases List.mem_append.1 q2 with q | q
                  · exact .inl (.inr ⟨q1, q⟩)
                  · exact .inr ⟨q1, by simpa using q⟩))
              have hhI : (c.head.rel : Int) < n := by omega
              have HSd := hide (fun (W : World) (k : Keeps [] (wr.alloc (.cells #[.int .i64 (l.1.rel : Int), .slice x1 l.1.terms.length x2, .bool l.2] 279)).drew W) => hS5.go k)
              have Hcd := hide (fun (W : World) (k : Keeps [] (wr.alloc (.cells #[.int .i64 (l.1.rel : Int), .slice x1 l.1.terms.length x2, .bool l.2] 279)).drew W) => (hc4.keeps (Keeps.drew [] _) (by simp)).keeps k (by simp))
              have Hhr := hide hhr
              clear hv1 hv2 hcr hl hLc hS4 hS5 hv64 hlen hc4
              generalize hNew : layG v3 (v3.getD c.head.rel 0) l = NV at *
              generalize hOld : v3.getD c.head.rel 0 = OV at *
              clear hNew
              go_upto_region 10 with fail
              go_cut [] (fun wd => Spr w wd g C n cc Inv (v3.set c.head.rel NV) ∧ CellsAt wd cb #[.int .i64 (c.head.rel : Int), .slice ha c.head.terms.length hc', .slice (some ⟨gt, 0, none⟩) c.lits.length vc])
              case first =>
                go_region_law (first
                  | (refine step_fn rfl 257 _ _ _ rfl [.pointer (some ⟨C, 0, none⟩)] rfl _ Tryz.func257 (by kernel_rfl) (by kernel_rfl) [.int .i64 (OV : Int), .agg #[.int .i64 (l.1.rel : Int), .slice x1 l.1.terms.length x2, .bool l.2], .pointer (some ⟨C, 0, none⟩)] rfl ?_
                     refine hcall.out.mono ?_
                     rintro e w4 ⟨rfl, k4⟩
                     have hS6 := HSd.out _ k4
                     have hc6 := Hcd.out _ k4
                     have p0 := hc6.cell 0
                     have p1 : w4.cell? ⟨g, c.head.rel, none⟩ = some (.int .i64 (OV : Int)) := by rw [hS6.row.cell, ← hOld]; exact natC_at Hhr.out
                     have p2 := hS6.row.frozen c.head.rel
                     have hEnd := hide (hS6.put hgC hIn.out)
                     have hEc := hide (hc6.keeps (Keeps.setCell w4 ⟨g, c.head.rel, none⟩ (.int .i64 (NV : Int))) (by simp; omega))
                     clear hS6 hc6))
                all_goals
                  go_wp2_with fail
                  go_meet
                  exact ⟨hEnd.out, hEc.out⟩
              case rest =>
                obtain ⟨hS7, hc7⟩ := hcut
                have r0 := hc7.cell 0
                have r1 : wc.cell? ⟨g, c.head.rel, none⟩ = some (.int .i64 (NV : Int)) := by
                  rw [hS7.row.cell, natC_at (by rw [List.length_set]; exact Hhr.out), getD_set v3 Hhr.out, if_pos rfl]
                have HS7 := hide hS7
                have Hc7 := hide hc7
                clear hS7 hc7 f0 f1 l0 l1 l2 hcall HSd Hcd hIn HS3 HP3
                cases b with
                | true =>
                  rw [Bool.true_or] at hPn
                  go_wp2_with fail
                  go_roundw
                  · exact ⟨j + 1, true, v3.set c.head.rel NV, rfl, by simp, by omega, HS7.out, Hc7.out, hPn.out⟩
                  · simp only [intOf]; omega
                | false =>
                  rw [Bool.false_or] at hPn
                  generalize hbb : ((NV : Int) != (OV : Int)) = bb at *
                  go_wp2_with fail
                  go_roundw
                  · exact ⟨j + 1, bb, v3.set c.head.rel NV, rfl, by simp, by omega, HS7.out, Hc7.out, hPn.out⟩
                  · simp only [intOf]; omega
            · have hjI : ¬ (j : Int) < c.lits.length := by omega
              have e : j = c.lits.length := by omega
              subst e
              go_wp2_with fail
              go_roundw
              · exact ⟨i + 1, b, v3, rfl, by simp, by omega, HS3.out, by rw [Htake.out]; exact HP3.out.mono (fun h l hd => done_next hd)⟩
              · simp only [intOf]; omega
        · have hiI : ¬ (i : Int) < m.clauses.length := by omega
          have e : i = m.clauses.length := by omega
          subst e
          have hsum := sumAt_of HS2.out.row
          have hsum0 := sumAt_of HS.out.row
          have hle := sum_le (HH.out.le HS2.out.inv)
          rw [HH.out.len HS2.out.inv] at hle
          have Hs : Hid (2 * (n * U - sumAt wr g) + tv (.bool b) < 2 * (n * U - vs.sum) + 1) := hide (by
            rw [hsum]
            generalize n * U = NU at *
            rcases HP2.out with ⟨h1, h2⟩ | ⟨h1, h2, _⟩
            · rw [h1]; simp only [tv]; omega
            · rw [h1, h2]; simp only [tv]; omega)
          clear hsum hle
          go_wp2_with fail
          go_roundw
          · refine ⟨b, v2, rfl, HS2.out, fun hb => ?_⟩
            rcases HP2.out with ⟨h1, _⟩ | ⟨_, _, h3⟩
            · rw [hb] at h1; cases h1
            · intro c hc l hl
              exact h3 c.head.rel l ⟨c, by rw [List.take_length]; exact hc, rfl, hl⟩
          · have := Hs.out
            rw [← hsum0] at this
            exact this

end Go.Proofs.YtgjomknpjigkhaaGreatDoor

namespace Go.Proofs.YtgjomknpjigkhaaGreatDoor
open Go.RowKit

theorem run_makeIntsE (w : World) (n : Nat) (hn : n ≤ 1000) : (Instr.makeSlice 40 (.int .i64 (n : Int)) (.int .i64 (n : Int))).run Tryz.prog w = .ok (.slice (some ⟨w.heap.size, 0, none⟩) n n) (w.alloc (.cells (madeCells #[.int .i64 0] n) 3)) := by
  obtain ⟨i0, hi0, hz0, hz1, hz2⟩ := info_parts info3E
  have := run_make (P := Tryz.prog) w 40 3 i0 (.int .i64 0) Tryz.underlying40 hi0 hz0 .i64 .i64 n n (by omega) (by omega) (by rw [hz2]; omega) (by omega)
  rw [this, hz1]
  simp [Value.cells]
theorem made_nats (n : Nat) : madeCells #[.int .i64 0] n = natC (List.replicate n 0) := by
  apply Array.ext'
  rw [toList_madeCells_one (.int .i64 0) n]
  simp [natC]

def initV (i n : Nat) : List Nat := (List.range n).map fun j => if j < i then 2 ^ j else 0
theorem initV_zero (n : Nat) : initV 0 n = List.replicate n 0 := by
  apply List.ext_getElem?
  intro j
  simp [initV, List.getElem?_replicate]
  split <;> simp_all
theorem initV_len (i n : Nat) : (initV i n).length = n := by simp [initV]
theorem initV_get {i n j : Nat} (h : j < n) : (initV i n).getD j 0 = if j < i then 2 ^ j else 0 := by
  simp [initV, List.getD_eq_getElem?_getD, h]
theorem initV_set {i n : Nat} (h : i < n) : (initV i n).set i (2 ^ i) = initV (i + 1) n := by
  apply List.ext_getElem?
  intro j
  rw [List.getElem?_set]
  by_cases e : i = j
  · subst e
    rw [if_pos rfl]
    simp [h, initV]
  · rw [if_neg e]
    by_cases hj : j < n
    · simp only [initV, List.getElem?_map, List.getElem?_range hj, Option.map_some]
      congr 1
      by_cases h1 : j < i
      · rw [if_pos h1, if_pos (by omega)]
      · rw [if_neg h1, if_neg (by omega)]
    · rw [List.getElem?_eq_none (by rw [initV_len]; omega), List.getElem?_eq_none (by rw [initV_len]; omega)]
theorem initV_hang {E : Edges} {n : Nat} : HangI E n (initV n n) := by
  refine ⟨initV_len _ _, fun i hi => ?_⟩
  rw [initV_get hi, if_pos hi]
  refine ⟨Nat.pow_lt_pow_right (by omega) hi, Nat.testBit_two_pow_self, fun j hj => ?_⟩
  rw [Nat.testBit_two_pow] at hj
  have e : i = j := by simpa using hj
  subst e
  exact .here _

theorem mean_names {w : World} {mb B : Nat} {m : Mean} (h : MeanAt w mb B m) {W : World} (k : Keeps [] w W) : Calls Tryz.prog 254 #[.pointer (some ⟨B, 3, none⟩)] W fun e w' => e = .returned (.int .i64 (m.rels.length : Nat)) ∧ w' = W := by
  obtain ⟨tD, mD, sz, tN, mN, co, cl, ln, cvs, kvs, hV⟩ := h
  obtain ⟨aD, cD, hD⟩ := ownE_len hV.names.row
  have := len_calls (w := W) (B := B) (o := 3) (ns := m.rels.map Prod.fst) (a := aD) (c := cD) (by rw [(hV.cells.keeps k (by simp)).cell, ← hD]; rfl)
  rw [List.length_map] at this
  exact this

set_option maxRecDepth 100000 in
set_option maxHeartbeats 4000000 in
theorem hanging_calls {w : World} {mb B : Nat} {m : Mean} (hm : MeanAt w mb B m) (hok : MeanOk m) : Calls Tryz.prog 201 #[.pointer (some ⟨B, 0, none⟩)] w fun e w' => (∃ vals, e = .returned (.slice (some ⟨w.heap.size, 0, none⟩) m.rels.length m.rels.length) ∧ CellsAt w' w.heap.size (natC vals) ∧ vals.length = m.rels.length ∧ (∀ i, vals.getD i 0 < 64) ∧ ∀ a b, a < m.rels.length → (vals.getD a 0).testBit b = hangB m.rels.length (edgesM m.clauses) a b) ∧ Keeps [] w w' := by
  have hlen := hide (fun (W : World) (k : Keeps [] w W) => mean_names hm k)
  have hn6 := hok.rels
  have hBl := mean_lt hm
  have H := hang_ok (cs := m.clauses) hok.inR
  have h64 : ∀ vals, HangI (edgesM m.clauses) m.rels.length vals → ∀ i, vals.getD i 0 < 64 := fun vals h i => by
    rcases Nat.lt_or_ge i m.rels.length with q | q
    · have h1 := (h.2 i q).1
      have h2 : (2 : Nat) ^ m.rels.length ≤ 2 ^ 6 := Nat.pow_le_pow_right (by omega) hn6
      omega
    · rw [List.getD_eq_getElem?_getD, List.getElem?_eq_none (by rw [h.1]; exact q)]
      decide
  have hspr := hide (fun (W : World) (k : Keeps [] w W) (hS : Spr W W w.heap.size (w.heap.size + 1) m.rels.length m.rels.length (HangI (edgesM m.clauses) m.rels.length) (initV m.rels.length m.rels.length)) => spread256_calls hm k (Nat.le_refl _) (by omega) H h64 hok.clauses hok.lits hS)
  have H64 := hide h64
  have Hrel := hide hok.inR
  have hmk := run_makeIntsE w m.rels.length (by omega)
  rw [made_nats] at hmk
  have kA := Keeps.alloc [] w (.cells (natC (List.replicate m.rels.length 0)) 3)
  have hg0 := CellsAt.new w (natC (List.replicate m.rels.length 0)) 3
  have kC := Keeps.alloc [] (w.alloc (.cells (natC (List.replicate m.rels.length 0)) 3)) (.cells #[.slice (some ⟨w.heap.size, 0, none⟩) m.rels.length m.rels.length] 40)
  have hC0 := CellsAt.new (w.alloc (.cells (natC (List.replicate m.rels.length 0)) 3)) #[.slice (some ⟨w.heap.size, 0, none⟩) m.rels.length m.rels.length] 40
  rw [sizeE_alloc] at hC0
  have hg1 := hg0.keeps kC (by simp)
  have Hz := hide (initV_zero m.rels.length)
  have Hg1 := hide hg1
  have HC0 := hide hC0
  have kAC := kA.trans kC
  clear hm hok H h64 hg0 hg1 hC0 kA kC
  generalize hnn : m.rels.length = n at *
  clear hnn
  generalize hO : Obj.cells (natC (List.replicate n 0)) 3 = ob at *
  go_enter Tryz.func201, Tryz.ntmps201
  go_wp2_with fail
  refine (hlen.out _ (Keeps.refl [] w)).mono ?_
  rintro e w1 ⟨rfl, rfl⟩
  go_wp2_with fail
  go_loopw [12] (fun x wr => ∃ i : Nat, x = .int .i64 i ∧ i ≤ n ∧ CellsAt wr w1.heap.size (natC (initV i n)) ∧ CellsAt wr (w1.heap.size + 1) #[.slice (some ⟨w1.heap.size, 0, none⟩) n n] ∧ Keeps [] w1 wr) (fun x _ => n - (intOf x).toNat)
  case atStart => exact ⟨0, rfl, by omega, by rw [Hz.out]; exact Hg1.out, HC0.out, kAC⟩
  case round =>
    clear hmk hlen kAC Hg1 HC0
    obtain ⟨i, rfl, hil, hg, hC, kr⟩ := hrel
    have c0 := hC.cell 0
    have hCl := hC.lt
    by_cases hlt : i < n
    · have hiI : (i : Int) < n := by omega
      have g0 : wr.cell? ⟨w1.heap.size, i, none⟩ = some (.int .i64 (((initV i n).getD i 0 : Nat) : Int)) := by rw [hg.cell]; exact natC_at (by rw [initV_len]; exact hlt)
      have f0 := hg.frozen i
      have hsh := shl_val (p := i) (by omega)
      have hgN := hg.setCell i (.int .i64 ((2 ^ i : Nat) : Int))
      rw [natC_set, initV_set hlt] at hgN
      have hCN := hC.keeps (Keeps.setCell wr ⟨w1.heap.size, i, none⟩ (.int .i64 ((2 ^ i : Nat) : Int))) (by simp)
      have kN : Keeps [] w1 (wr.setCell ⟨w1.heap.size, i, none⟩ (.int .i64 ((2 ^ i : Nat) : Int))) := kr.trans_new (Keeps.setCell wr ⟨w1.heap.size, i, none⟩ _) (by simp)
      generalize hP2 : (2 : Nat) ^ i = P2 at *
      have Hg := hide (hgN.keeps (Keeps.drew [] _) (by simp))
      have HC := hide (hCN.keeps (Keeps.drew [] _) (by simp))
      have Hk := hide (kN.trans (Keeps.drew [] _))
      clear hgN hCN kN hg hC
      go_wp2_with fail
      go_region_law (fail)
      all_goals
        go_wp2_with fail
        go_roundw
        · exact ⟨i + 1, by simp, by omega, Hg.out, HC.out, Hk.out⟩
        · simp only [intOf]; omega
    · have hiI : ¬ (i : Int) < n := by omega
      have e : i = n := by omega
      subst e
      have hS : Spr wr wr w1.heap.size (w1.heap.size + 1) i i (HangI (edgesM m.clauses) i) (initV i i) := ⟨hg, hC, initV_hang, Keeps.refl _ _⟩
      have hcall := hide (hspr.out wr kr hS)
      clear hspr hS hg
      go_wp2_with fail
      refine hcall.out.mono ?_
      rintro e w2 ⟨rfl, vals, hS2, hst⟩
      have c2 := hS2.cap.cell 0
      have k2 : Keeps [] w1 w2 := kr.trans_new hS2.keep (by simp)
      have HS2 := hide hS2
      have Hst := hide hst
      clear hS2 hst
      go_wp2_with fail
      go_ret
      exact ⟨⟨vals, rfl, HS2.out.row, HS2.out.inv.1, H64.out vals HS2.out.inv, fun a b ha => hang_done Hrel.out HS2.out.inv Hst.out ha⟩, k2⟩

end Go.Proofs.YtgjomknpjigkhaaGreatDoor

namespace Go.Proofs.YtgjomknpjigkhaaGreatDoor
open Go.RowKit

theorem Keeps.putObj (w : World) (l : Nat) (o : Obj) : Keeps [l] w (w.putObj l o) := ⟨rfl, rfl, rfl, by simp, fun i _ hn => World.putObj_heap_other (by simpa using hn)⟩

theorem Keeps.below {T : List Nat} {w w' : World} {B : Nat} (h : Keeps T w w') (hB : B ≤ w.heap.size) (hT : ∀ t ∈ T, B ≤ t) : Go.RowKit.Below B w w' :=
  ⟨h.os, h.tape, h.output, h.size, fun k hk => h.block k (by omega) (fun x => by have := hT _ x; omega)⟩

/-- What an iterator's value does, whatever the loop's body does to the blocks of T. -/
def Iter {α : Type} (gf : FuncId) (lb : Array Value) (encs : α → Array Value) (cond : List α → α → Prop) (Good : List α → Prop) (T : List Nat) (w : World) : Prop :=
  ∀ (n l : Nat) (J : List α → World → Prop) (W : World), w.heap.size ≤ l → l < W.heap.size → Go.RowKit.Below w.heap.size w W →
    (∀ pre W1 W2, J pre W1 → Go.RowKit.Below W.heap.size W1 W2 → J pre W2) →
    (∀ pre x W1, J pre W1 → cond pre x → YieldAt Fence.wide (n - 1) Tryz.prog l (encs x) W1 fun e W' => e = .returned (.bool true) ∧ J (pre ++ [x]) W' ∧ Keeps (l :: T) W1 W') →
    J [] W →
    CallsIn Fence.wide n Tryz.prog gf (#[.func (.yield l) #[] #[]] ++ lb) W fun e W' => (∃ v, e = .returned v) ∧ ∃ xs, Good xs ∧ J xs W' ∧ Keeps (l :: T) W W'

/-- How the body of a round is left. -/
def bodyPostJ (I : World → Prop) (T : List Nat) (W : World) : Exit → Act → World → Prop
  | .normal, _, W' => I W' ∧ Keeps T W W'
  | _, _, _ => False

theorem range_law {α : Type} {n : Nat} {g : Operand} {ps : Array Tmp} {assign body : Code} {Q : Exit → Act → World → Prop} {a : Act} {w : World} {gf : Nat} {lb : Array Value} (hg : a.eval g = .func (.func gf) #[] lb)
    (eg : ∀ args w, (callFunc gf args).run Tryz.prog w = .ok (.enter gf args) w) {encs : α → Array Value} {cond : List α → α → Prop} {Good : List α → Prop} {T : List Nat} (hT : ∀ t ∈ T, t < w.heap.size) (hseq : Iter gf lb encs cond Good T w) (hps : ∀ x, (encs x).size = ps.size)
    (I : List α → World → Prop) (hI : ∀ pre W1 W2, I pre W1 → Go.RowKit.Below w.heap.size W1 W2 → I pre W2) (h0 : I [] w) (Ax : α → Act → World → Prop) (hAx : ∀ x a' W1 W2, Ax x a' W1 → Keeps [w.heap.size + 1] W1 W2 → Ax x a' W2)
    (hassign : ∀ (l : Nat) (pre : List α) (x : α) (W : World) (K : Act → World → Prop), w.heap.size + 1 < W.heap.size → I pre W → cond pre x → (∀ a' W', Ax x a' W' → Keeps [] W W' → K a' W') →
      assign.wpIn (Fence.wide.inRound l) (n - 1 - 1) Tryz.prog (Exit.then K (fun _ _ _ => False)) { tmps := (ps.zip (encs x)).foldl (fun t (p, v) => t.setIfInBounds p v) a.tmps, defers := [] } W)
    (hbody : ∀ (l : Nat) (pre : List α) (x : α) (a' : Act) (W : World), w.heap.size + 1 < W.heap.size → I pre W → cond pre x → Ax x a' W → body.wpIn (Fence.wide.inRound l) (n - 1 - 1) Tryz.prog (bodyPostJ (I (pre ++ [x])) T W) a' W)
    (hdone : ∀ (xs : List α) (W : World), Good xs → I xs W → Keeps T w W → w.heap.size < W.heap.size → W.heap[w.heap.size]? = some (.deferred (some [])) → Q .normal { a with defers := { target := .collected w.heap.size, args := #[] } :: a.defers } W) :
    (Code.rangeFunc g ps assign body).wpIn Fence.wide n Tryz.prog Q a w := by
  refine wpIn_rangeFunc ?_
  intro fn hfn
  show ∃ l mark w₁ d w₁' f args w₂, (Instr.enterLoop fn a.tmps ps assign body none).run Tryz.prog w = _ ∧ _
  let rec1 : LoopState → Loop := fun st => { state := st, pending := none, fn, tmps := a.tmps, params := ps, assign, body, defers := w.heap.size }
  obtain ⟨W1, hW1⟩ : ∃ W1, (w.alloc (.deferred (some []))).alloc (.loop (rec1 .ready)) = W1 := ⟨_, rfl⟩
  have k1 : Keeps [] w W1 := by rw [← hW1]; exact (Keeps.alloc _ _ _).trans (Keeps.alloc _ _ _)
  have hD1 : W1.heap[w.heap.size]? = some (.deferred (some [])) := by
    rw [← hW1]; exact (Go.RowKit.Below.heap_alloc _ _ _ (by simp)).trans (World.alloc_heap_new w _)
  have hL1 : W1.heap[w.heap.size + 1]? = some (.loop (rec1 .ready)) := by
    rw [← hW1]; have := World.alloc_heap_new (w.alloc (.deferred (some []))) (.loop (rec1 .ready)); rwa [World.size_alloc] at this
  have hs1 : W1.heap.size = w.heap.size + 1 + 1 := by rw [← hW1]; simp
  refine ⟨w.heap.size + 1, [{ target := .collected w.heap.size, args := #[] }], W1, { target := .fn (.func gf) lb, args := #[.func (.yield (w.heap.size + 1)) #[] #[]] }, W1, gf,
    #[.func (.yield (w.heap.size + 1)) #[] #[]] ++ lb, W1, ?_, ?_, fun _ _ => trivial, ?_, fun h => (nomatch h), ?_⟩
  · rw [← hW1]; exact run_enterLoop_outer _ _ _ _ _
  · simp only [resolve, hg]
    simp [go_sem]
  · simp [invoke, go_sem, eg]
  · refine (hseq (n - 1) (w.heap.size + 1) (fun pre W => I pre W ∧ W.heap[w.heap.size + 1]? = some (.loop (rec1 .ready)) ∧ W.heap[w.heap.size]? = some (.deferred (some []))) W1 (by omega) (by omega)
      (k1.below (Nat.le_refl _) (by simp)) ?_ ?_ ⟨hI _ _ _ h0 (k1.below (Nat.le_refl _) (by simp)), hL1, hD1⟩).mono ?_
    · rintro pre A B ⟨i, l, d⟩ hb
      exact ⟨hI _ _ _ i (hb.mono (by omega)), (hb.block _ (by omega)).trans l, (hb.block _ (by omega)).trans d⟩
    · rintro pre x W ⟨hi, hl, hd⟩ hc
      have hlt : w.heap.size + 1 < W.heap.size := (Array.getElem?_eq_some_iff.1 hl).1
      refine ⟨fn, _, assign, body, run_yield (P := Tryz.prog) (args := encs x) hl (hps x), roundIn_of_wpIn trivial (hassign _ pre x W _ hlt hi hc ?_)⟩
      intro a' W' hax hk
      have hl' : W'.heap[w.heap.size + 1]? = some (.loop (rec1 .ready)) := (hk.block _ hlt (by simp)).trans hl
      have hd' : W'.heap[w.heap.size]? = some (.deferred (some [])) := (hk.block _ (by omega) (by simp)).trans hd
      have hlt' : w.heap.size + 1 < W'.heap.size := (Array.getElem?_eq_some_iff.1 hl').1
      have hwl : w.heap.size ≤ W.heap.size := by omega
      have hi' : I pre W' := hI _ _ _ hi (hk.below hwl (by simp))
      have k2 := Keeps.putObj W' (w.heap.size + 1) (.loop (rec1 .busy))
      have hl2 : (W'.putObj (w.heap.size + 1) (.loop (rec1 .busy))).heap[w.heap.size + 1]? = some (.loop (rec1 .busy)) := World.putObj_heap_same hlt'
      have hd2 : (W'.putObj (w.heap.size + 1) (.loop (rec1 .busy))).heap[w.heap.size]? = some (.deferred (some [])) := (World.putObj_heap_other (by omega)).trans hd'
      refine ⟨_, run_beginRound hl' rfl, ?_⟩
      refine wpIn_mono (hbody _ pre x a' (W'.putObj (w.heap.size + 1) (.loop (rec1 .busy))) (Array.getElem?_eq_some_iff.1 hl2).1 (hI _ _ _ hi' (k2.below (by omega) (by simp))) hc (hAx _ _ _ _ hax k2)) ?_
      rintro e a3 W3 hp
      cases e with
      | normal =>
        obtain ⟨hi3, k3⟩ := hp
        have hl3 : W3.heap[w.heap.size + 1]? = some (.loop (rec1 .busy)) := (k3.block _ (Array.getElem?_eq_some_iff.1 hl2).1 (fun x => by have := hT _ x; omega)).trans hl2
        have hd3 : W3.heap[w.heap.size]? = some (.deferred (some [])) := (k3.block _ (Array.getElem?_eq_some_iff.1 hd2).1 (fun x => by have := hT _ x; omega)).trans hd2
        have hlt3 := (Array.getElem?_eq_some_iff.1 hl3).1
        have k4 := Keeps.putObj W3 (w.heap.size + 1) (.loop (rec1 .ready))
        refine ⟨_, _, run_endRound none hl3, rfl, ⟨hI _ _ _ hi3 (k4.below (by omega) (by simp)), World.putObj_heap_same hlt3, (World.putObj_heap_other (by omega)).trans hd3⟩, ?_⟩
        exact (((hk.mono (by simp)).trans (k2.mono (by simp))).trans (k3.mono (fun i hi => List.mem_cons_of_mem _ hi))).trans (k4.mono (by simp))
      | ret => exact hp.elim
      | exit id => exact hp.elim
      | goto t => exact hp.elim
      | panic c => exact hp.elim
      | outgrown => exact hp.elim
    · rintro e W2 ⟨⟨v, rfl⟩, xs, hG, ⟨hi, hl, hd⟩, k2⟩
      have k5 := Keeps.putObj W2 (w.heap.size + 1) (.loop (rec1 .exhausted))
      have hlt2 := (Array.getElem?_eq_some_iff.1 hl).1
      refine ⟨none, _, run_endLoop hl (by simp [rec1]), ?_⟩
      refine hdone xs _ hG (hI _ _ _ hi (k5.below (by omega) (by simp))) ?_ (by simp; omega) ((World.putObj_heap_other (by omega)).trans hd)
      refine (k1.mono (by simp)).trans_new (k2.trans (k5.mono (by simp))) ?_
      intro i hi
      rcases List.mem_cons.1 hi with e | x
      · exact .inr (by omega)
      · exact .inl x

end Go.Proofs.YtgjomknpjigkhaaGreatDoor

namespace Go.Proofs.YtgjomknpjigkhaaGreatDoor
open Go.RowKit

/-- Of what was there nothing has turned but the blocks of T and rows of cells from b on. -/
structure Grows (b : Nat) (T : List Nat) (w w' : World) : Prop where
  os : w'.os = w.os
  tape : w'.tape = w.tape
  output : w'.output = w.output
  size : w.heap.size ≤ w'.heap.size
  block : ∀ i, i < w.heap.size → i ∉ T → (i < b ∨ ∀ cs t f, w.heap[i]? ≠ some (.cells cs t f)) → w'.heap[i]? = w.heap[i]?

theorem Grows.trans {b : Nat} {T : List Nat} {x y z : World} (h : Grows b T x y) (k : Grows b T y z) : Grows b T x z :=
  ⟨k.os.trans h.os, k.tape.trans h.tape, k.output.trans h.output, Nat.le_trans h.size k.size, fun i hi hT hc => by
    have e := h.block i hi hT hc
    refine (k.block i (Nat.lt_of_lt_of_le hi h.size) hT ?_).trans e
    rcases hc with hc | hc
    · exact .inl hc
    · rw [e]; exact .inr hc⟩
theorem Grows.mono {b : Nat} {T T' : List Nat} {w w' : World} (h : Grows b T w w') (hT : ∀ i ∈ T, i ∈ T') : Grows b T' w w' :=
  ⟨h.os, h.tape, h.output, h.size, fun i hi hn hc => h.block i hi (fun x => hn (hT i x)) hc⟩
theorem Keeps.grows {b : Nat} {T T' : List Nat} {w w' : World} (h : Keeps T w w') (hT : ∀ i ∈ T, i ∈ T') : Grows b T' w w' :=
  ⟨h.os, h.tape, h.output, h.size, fun i hi hn _ => h.block i hi (fun x => hn (hT i x))⟩
/-- A row of cells turned. -/
theorem Keeps.growsRow {b : Nat} {T T' : List Nat} {w w' : World} (h : Keeps T w w') (hT : ∀ i ∈ T, i ∈ T' ∨ (b ≤ i ∧ ∃ cs t f, w.heap[i]? = some (.cells cs t f))) : Grows b T' w w' :=
  ⟨h.os, h.tape, h.output, h.size, fun i hi hn hc => h.block i hi (fun x => by
    rcases hT i x with h1 | ⟨h1, cs, t, f, h2⟩
    · exact hn h1
    · rcases hc with hc | hc
      · omega
      · exact hc _ _ _ h2)⟩
theorem Keeps.trans_grows {T T' : List Nat} {a b c : World} (h : Keeps T a b) (k : Grows a.heap.size T' b c) (hT : ∀ i ∈ T', i ∈ T ∨ a.heap.size ≤ i) : Keeps T a c :=
  ⟨k.os.trans h.os, k.tape.trans h.tape, k.output.trans h.output, Nat.le_trans h.size k.size, fun i hi hn => (k.block i (Nat.lt_of_lt_of_le hi h.size) (fun x => by
    rcases hT i x with h1 | h1
    · exact hn h1
    · omega) (.inl hi)).trans (h.block i hi hn)⟩

/-- Of what was there nothing has turned but what is no row of cells, from b on. -/
structure Still (b : Nat) (w w' : World) : Prop where
  os : w'.os = w.os
  tape : w'.tape = w.tape
  output : w'.output = w.output
  size : w.heap.size ≤ w'.heap.size
  block : ∀ i, i < w.heap.size → (i < b ∨ ∃ cs t f, w.heap[i]? = some (.cells cs t f)) → w'.heap[i]? = w.heap[i]?

theorem Still.mono {b b' : Nat} {w w' : World} (h : Still b w w') (hb : b' ≤ b) : Still b' w w' :=
  ⟨h.os, h.tape, h.output, h.size, fun i hi hc => h.block i hi (hc.imp (fun x => by omega) id)⟩
theorem Keeps.still {b : Nat} {T : List Nat} {w w' : World} (h : Keeps T w w') (hT : ∀ i ∈ T, b ≤ i ∧ ∀ cs t f, w.heap[i]? ≠ some (.cells cs t f)) : Still b w w' :=
  ⟨h.os, h.tape, h.output, h.size, fun i hi hc => h.block i hi (fun x => by
    obtain ⟨h1, h2⟩ := hT i x
    rcases hc with hc | ⟨cs, t, f, hc⟩
    · omega
    · exact h2 _ _ _ hc)⟩

/-- What an iterator's value does, whatever the loop's body does to the blocks of T. -/
def IterG {α : Type} (gf : FuncId) (lb : Array Value) (encs : α → Array Value) (cond : List α → α → Prop) (Good : List α → Prop) (T : List Nat) (w : World) : Prop :=
  ∀ (n l : Nat) (J : List α → World → Prop) (W : World), w.heap.size ≤ l → l < W.heap.size → Go.RowKit.Below w.heap.size w W →
    (∀ pre W1 W2, J pre W1 → Still W.heap.size W1 W2 → J pre W2) →
    (∀ pre x W1, J pre W1 → cond pre x → YieldAt Fence.wide (n - 1) Tryz.prog l (encs x) W1 fun e W' => e = .returned (.bool true) ∧ J (pre ++ [x]) W' ∧ Grows w.heap.size (l :: T) W1 W') →
    J [] W →
    CallsIn Fence.wide n Tryz.prog gf (#[.func (.yield l) #[] #[]] ++ lb) W fun e W' => (∃ v, e = .returned v) ∧ ∃ xs, Good xs ∧ J xs W' ∧ Grows w.heap.size (l :: T) W W'

/-- How the body of a round is left. -/
def bodyPostG (I : World → Prop) (b : Nat) (T : List Nat) (W : World) : Exit → Act → World → Prop
  | .normal, _, W' => I W' ∧ Grows b T W W'
  | _, _, _ => False

theorem range_lawG {α : Type} {n : Nat} {g : Operand} {ps : Array Tmp} {assign body : Code} {Q : Exit → Act → World → Prop} {a : Act} {w : World} {gf : Nat} {lb : Array Value} (hg : a.eval g = .func (.func gf) #[] lb)
    (eg : ∀ args w, (callFunc gf args).run Tryz.prog w = .ok (.enter gf args) w) {encs : α → Array Value} {cond : List α → α → Prop} {Good : List α → Prop} {T : List Nat} (hT : ∀ t ∈ T, t < w.heap.size) (hseq : IterG gf lb encs cond Good T w) (hps : ∀ x, (encs x).size = ps.size)
    (I : List α → World → Prop) (hI : ∀ pre W1 W2, I pre W1 → Still w.heap.size W1 W2 → I pre W2) (h0 : I [] w) (Ax : α → Act → World → Prop) (hAx : ∀ x a' W1 W2, Ax x a' W1 → Keeps [w.heap.size + 1] W1 W2 → Ax x a' W2)
    (hassign : ∀ (l : Nat) (pre : List α) (x : α) (W : World) (K : Act → World → Prop), w.heap.size + 1 < W.heap.size → I pre W → cond pre x → (∀ a' W', Ax x a' W' → Keeps [] W W' → K a' W') →
      assign.wpIn (Fence.wide.inRound l) (n - 1 - 1) Tryz.prog (Exit.then K (fun _ _ _ => False)) { tmps := (ps.zip (encs x)).foldl (fun t (p, v) => t.setIfInBounds p v) a.tmps, defers := [] } W)
    (hbody : ∀ (l : Nat) (pre : List α) (x : α) (a' : Act) (W : World), w.heap.size + 1 < W.heap.size → I pre W → cond pre x → Ax x a' W → body.wpIn (Fence.wide.inRound l) (n - 1 - 1) Tryz.prog (bodyPostG (I (pre ++ [x])) w.heap.size T W) a' W)
    (hdone : ∀ (xs : List α) (W : World), Good xs → I xs W → Keeps T w W → w.heap.size < W.heap.size → W.heap[w.heap.size]? = some (.deferred (some [])) → Q .normal { a with defers := { target := .collected w.heap.size, args := #[] } :: a.defers } W) :
    (Code.rangeFunc g ps assign body).wpIn Fence.wide n Tryz.prog Q a w := by
  refine wpIn_rangeFunc ?_
  intro fn hfn
  show ∃ l mark w₁ d w₁' f args w₂, (Instr.enterLoop fn a.tmps ps assign body none).run Tryz.prog w = _ ∧ _
  let rec1 : LoopState → Loop := fun st => { state := st, pending := none, fn, tmps := a.tmps, params := ps, assign, body, defers := w.heap.size }
  obtain ⟨W1, hW1⟩ : ∃ W1, (w.alloc (.deferred (some []))).alloc (.loop (rec1 .ready)) = W1 := ⟨_, rfl⟩
  have k1 : Keeps [] w W1 := by rw [← hW1]; exact (Keeps.alloc _ _ _).trans (Keeps.alloc _ _ _)
  have hD1 : W1.heap[w.heap.size]? = some (.deferred (some [])) := by
    rw [← hW1]; exact (Go.RowKit.Below.heap_alloc _ _ _ (by simp)).trans (World.alloc_heap_new w _)
  have hL1 : W1.heap[w.heap.size + 1]? = some (.loop (rec1 .ready)) := by
    rw [← hW1]; have := World.alloc_heap_new (w.alloc (.deferred (some []))) (.loop (rec1 .ready)); rwa [World.size_alloc] at this
  have hs1 : W1.heap.size = w.heap.size + 1 + 1 := by rw [← hW1]; simp
  refine ⟨w.heap.size + 1, [{ target := .collected w.heap.size, args := #[] }], W1, { target := .fn (.func gf) lb, args := #[.func (.yield (w.heap.size + 1)) #[] #[]] }, W1, gf,
    #[.func (.yield (w.heap.size + 1)) #[] #[]] ++ lb, W1, ?_, ?_, fun _ _ => trivial, ?_, fun h => (nomatch h), ?_⟩
  · rw [← hW1]; exact run_enterLoop_outer _ _ _ _ _
  · simp only [resolve, hg]
    simp [go_sem]
  · simp [invoke, go_sem, eg]
  · refine (hseq (n - 1) (w.heap.size + 1) (fun pre W => I pre W ∧ W.heap[w.heap.size + 1]? = some (.loop (rec1 .ready)) ∧ W.heap[w.heap.size]? = some (.deferred (some []))) W1 (by omega) (by omega)
      (k1.below (Nat.le_refl _) (by simp)) ?_ ?_ ⟨hI _ _ _ h0 (k1.still (by simp)), hL1, hD1⟩).mono ?_
    · rintro pre A B ⟨i, l, d⟩ hb
      exact ⟨hI _ _ _ i (hb.mono (by omega)), (hb.block _ (Array.getElem?_eq_some_iff.1 l).1 (.inl (by omega))).trans l, (hb.block _ (Array.getElem?_eq_some_iff.1 d).1 (.inl (by omega))).trans d⟩
    · rintro pre x W ⟨hi, hl, hd⟩ hc
      have hlt : w.heap.size + 1 < W.heap.size := (Array.getElem?_eq_some_iff.1 hl).1
      refine ⟨fn, _, assign, body, run_yield (P := Tryz.prog) (args := encs x) hl (hps x), roundIn_of_wpIn trivial (hassign _ pre x W _ hlt hi hc ?_)⟩
      intro a' W' hax hk
      have hl' : W'.heap[w.heap.size + 1]? = some (.loop (rec1 .ready)) := (hk.block _ hlt (by simp)).trans hl
      have hd' : W'.heap[w.heap.size]? = some (.deferred (some [])) := (hk.block _ (by omega) (by simp)).trans hd
      have hlt' : w.heap.size + 1 < W'.heap.size := (Array.getElem?_eq_some_iff.1 hl').1
      have hi' : I pre W' := hI _ _ _ hi (hk.still (by simp))
      have k2 := Keeps.putObj W' (w.heap.size + 1) (.loop (rec1 .busy))
      have hl2 : (W'.putObj (w.heap.size + 1) (.loop (rec1 .busy))).heap[w.heap.size + 1]? = some (.loop (rec1 .busy)) := World.putObj_heap_same hlt'
      have hd2 : (W'.putObj (w.heap.size + 1) (.loop (rec1 .busy))).heap[w.heap.size]? = some (.deferred (some [])) := (World.putObj_heap_other (by omega)).trans hd'
      refine ⟨_, run_beginRound hl' rfl, ?_⟩
      refine wpIn_mono (hbody _ pre x a' (W'.putObj (w.heap.size + 1) (.loop (rec1 .busy))) (Array.getElem?_eq_some_iff.1 hl2).1 (hI _ _ _ hi' (k2.still (by simp only [List.mem_singleton]; rintro i rfl; exact ⟨by omega, by rw [hl']; intro _ _ _ e; cases e⟩))) hc (hAx _ _ _ _ hax k2)) ?_
      rintro e a3 W3 hp
      cases e with
      | normal =>
        obtain ⟨hi3, k3⟩ := hp
        have hl3 : W3.heap[w.heap.size + 1]? = some (.loop (rec1 .busy)) := (k3.block _ (Array.getElem?_eq_some_iff.1 hl2).1 (fun x => by have := hT _ x; omega) (.inr (by rw [hl2]; intro _ _ _ e; cases e))).trans hl2
        have hd3 : W3.heap[w.heap.size]? = some (.deferred (some [])) := (k3.block _ (Array.getElem?_eq_some_iff.1 hd2).1 (fun x => by have := hT _ x; omega) (.inr (by rw [hd2]; intro _ _ _ e; cases e))).trans hd2
        have hlt3 := (Array.getElem?_eq_some_iff.1 hl3).1
        have k4 := Keeps.putObj W3 (w.heap.size + 1) (.loop (rec1 .ready))
        refine ⟨_, _, run_endRound none hl3, rfl, ⟨hI _ _ _ hi3 (k4.still (by simp only [List.mem_singleton]; rintro i rfl; exact ⟨by omega, by rw [hl3]; intro _ _ _ e; cases e⟩)), World.putObj_heap_same hlt3, (World.putObj_heap_other (by omega)).trans hd3⟩, ?_⟩
        exact (((hk.grows (by simp)).trans (k2.grows (by simp))).trans (k3.mono (fun i hi => List.mem_cons_of_mem _ hi))).trans (k4.grows (by simp))
      | ret => exact hp.elim
      | exit id => exact hp.elim
      | goto t => exact hp.elim
      | panic c => exact hp.elim
      | outgrown => exact hp.elim
    · rintro e W2 ⟨⟨v, rfl⟩, xs, hG, ⟨hi, hl, hd⟩, k2⟩
      have k5 := Keeps.putObj W2 (w.heap.size + 1) (.loop (rec1 .exhausted))
      have hlt2 := (Array.getElem?_eq_some_iff.1 hl).1
      refine ⟨none, _, run_endLoop hl (by simp [rec1]), ?_⟩
      refine hdone xs _ hG (hI _ _ _ hi (k5.still (by simp only [List.mem_singleton]; rintro i rfl; exact ⟨by omega, by rw [hl]; intro _ _ _ e; cases e⟩))) ?_ (by simp; omega) ((World.putObj_heap_other (by omega)).trans hd)
      refine (k1.mono (T' := T) (by simp)).trans_grows (k2.trans (k5.grows (by simp))) ?_
      intro i hi
      rcases List.mem_cons.1 hi with e | x
      · exact .inr (by omega)
      · exact .inl x

end Go.Proofs.YtgjomknpjigkhaaGreatDoor

namespace Go.Proofs.YtgjomknpjigkhaaGreatDoor
open Go.RowKit

def openCnt (listed : Array Bool) : Nat := (listed.toList.filter (fun b => !b)).length
theorem openCnt_set {listed : Array Bool} {i : Nat} (h : listed.getD i true = false) : openCnt (listed.setIfInBounds i true) + 1 = openCnt listed := by
  have hi : i < listed.size := by
    rcases Nat.lt_or_ge i listed.size with q | q
    · exact q
    · simp [Array.getD, Nat.not_lt.2 q] at h
  have hv : listed.toList[i]? = some false := by
    simp [Array.getD, hi] at h
    simp [hi, h]
  unfold openCnt
  rw [Array.toList_setIfInBounds]
  generalize listed.toList = l at *
  clear h hi
  induction l generalizing i with
  | nil => simp at hv
  | cons b l ih =>
    cases i with
    | zero => simp at hv; subst hv; simp
    | succ i =>
      have := ih (i := i) (by simpa using hv)
      simp only [List.set_cons_succ, List.filter_cons]
      split
      · simp only [List.length_cons]; omega
      · exact this
theorem ready_spec {md : Region.Mode} {ops : Array Oper} {listed : Array Bool} {i : Nat} (h : i ∈ Region.ready md ops listed) : i < ops.size ∧ listed.getD i true = false ∧ ∀ o, ops[i]? = some o → ∀ e ∈ o.after, Region.binds md e = true → listed.getD e.on false = true := by
  simp only [Region.ready, List.mem_filter, List.mem_range, Bool.and_eq_true, Bool.not_eq_true'] at h
  refine ⟨h.1, h.2.1, fun o ho e he hb => ?_⟩
  have h2 := h.2.2
  rw [ho] at h2
  simp only [Option.map_some, Option.getD_some, Array.all_eq_true_iff_forall_mem] at h2
  have := h2 e he
  rw [hb] at this
  simpa using this

section
variable {n l : Nat} {P : Program} {ops : Array Oper} {Q : Exit → Act → World → Prop} {md : Region.Mode}

theorem wpAnyIn_inv {F : Fence} {S : Array Bool → Act → World → Prop} (hstep : ∀ listed a w i, S listed a w → i ∈ Region.ready md ops listed → wpOpIn F n P ops Q i (S (listed.setIfInBounds i true)) a w) (hend : ∀ listed a w, S listed a w → Region.ready md ops listed = [] → Q .normal a w) : ∀ fuel listed a w, openCnt listed ≤ fuel → S listed a w → wpAnyIn F n P md ops Q fuel listed a w := by
  intro fuel
  induction fuel with
  | zero =>
    intro listed a w h hS
    have hr : Region.ready md ops listed = [] := by
      rw [List.eq_nil_iff_forall_not_mem]
      intro i hi
      have := openCnt_set (ready_spec hi).2.1
      omega
    exact ⟨hr, hend _ _ _ hS hr⟩
  | succ fuel ih =>
    intro listed a w h hS
    refine ⟨fun hr => hend _ _ _ hS hr, fun i hi => wpOpIn_mono (fun a w => ih _ a w ?_) (hstep _ _ _ _ hS hi)⟩
    have := openCnt_set (ready_spec hi).2.1
    omega

theorem wpIn_region_inv {F : Fence} {id : Nat} {a : Act} {w : World} {S : Array Bool → Act → World → Prop} (hm : P.follows .mixedOrders = true) (h0 : S (Array.replicate ops.size false) a w.drew) (hstep : ∀ listed a w i, S listed a w → i ∈ Region.ready .any ops listed → wpOpIn F n P ops Q i (S (listed.setIfInBounds i true)) a w) (hend : ∀ listed a w, S listed a w → Region.ready .any ops listed = [] → Q .normal a w) : (Code.region id ops true).wpIn F n P Q a w :=
  wpIn_region_any hm (wpAnyIn_inv hstep hend _ _ _ _ (by simp [openCnt]) h0)

/-- One operation within a round. -/
theorem opIn {i : Nat} {o : Oper} {K : Act → World → Prop} {a : Act} {w : World} (ho : ops[i]? = some o) (hg : o.guard = none) (hd : ∀ c, o.op ≠ .defer c) (h : o.uponIn (Fence.wide.inRound l) n P a K Q ((execOp a.eval o).run P w)) : wpOpIn (Fence.wide.inRound l) n P ops Q i K a w := by
  unfold wpOpIn
  simp only [ho]
  have hw : Region.wanted o (yielded ops a.tmps) = true := by simp [Region.wanted, hg]
  rw [if_pos hw]
  refine ⟨fun _ _ => trivial, ?_⟩
  rw [Oper.semAt_eq _ _ _ hd]
  exact h
theorem opIn_val {i : Nat} {o : Oper} {K : Act → World → Prop} {a : Act} {w w' : World} {v : Value} (ho : ops[i]? = some o) (hg : o.guard = none) (hd : ∀ c, o.op ≠ .defer c) (hr : (execOp a.eval o).run P w = .ok (.value v) w') (h : K (a.put o.dst v) w') : wpOpIn (Fence.wide.inRound l) n P ops Q i K a w := by
  refine opIn ho hg hd ?_
  rw [hr]
  exact h
theorem opIn_skip {i : Nat} {o : Oper} {K : Act → World → Prop} {a : Act} {w w' : World} (ho : ops[i]? = some o) (hg : o.guard = none) (hd : ∀ c, o.op ≠ .defer c) (hr : (execOp a.eval o).run P w = .ok .skip w') (h : K (a.put o.dst undef) w') : wpOpIn (Fence.wide.inRound l) n P ops Q i K a w := by
  refine opIn ho hg hd ?_
  rw [hr]
  exact h
theorem opIn_call {i : Nat} {o : Oper} {K : Act → World → Prop} {a : Act} {w w' : World} {f : Nat} {args : Array Value} {R : Ending → World → Prop} (ho : ops[i]? = some o) (hg : o.guard = none) (hd : ∀ c, o.op ≠ .defer c) (hr : (execOp a.eval o).run P w = .ok (.enter f args) w') (hc : Calls P f args w' R) (h : ∀ e w'', R e w'' → ∃ v, e = .returned v ∧ K (a.put o.dst v) w'') : wpOpIn (Fence.wide.inRound l) n P ops Q i K a w := by
  refine opIn ho hg hd ?_
  rw [hr]
  refine ⟨fun h => (nomatch h), CallsIn.inRound l ((callsIn_wide.2 hc).mono ?_)⟩
  intro e w'' he
  obtain ⟨v, rfl, hk⟩ := h e w'' he
  exact hk
end

theorem put_eval {a : Act} {d j : Nat} {v : Value} (h : j ≠ d) : (a.put (some d) v).eval (.tmp j) = a.eval (.tmp j) := by
  simp only [Act.put, Act.eval, Array.getD_eq_getD_getElem?, Array.getElem?_setIfInBounds]
  rw [if_neg (fun e => h e.symm)]
theorem put_eval_same {a : Act} {d : Nat} {v : Value} (h : d < a.tmps.size) : (a.put (some d) v).eval (.tmp d) = v := by
  simp [Act.put, Act.eval, Array.getD_eq_getD_getElem?, h]
theorem put_size {a : Act} {d : Option Nat} {v : Value} : (a.put d v).tmps.size = a.tmps.size := by
  cases d <;> simp [Act.put]
theorem put_defers {a : Act} {d : Option Nat} {v : Value} : (a.put d v).defers = a.defers := by
  cases d <;> simp [Act.put]

end Go.Proofs.YtgjomknpjigkhaaGreatDoor

namespace Go.Proofs.YtgjomknpjigkhaaGreatDoor
open Go.RowKit

def laysM316_ren : Go.Shelf.Ren := ⟨fun | 316 => 258 | n => n, fun | 9 => 9 | 3 => 3 | 4 => 4 | 37 => 120 | 0 => 0 | 127 => 208 | 5 => 5 | n => n, fun | n => n⟩
theorem laysM316 : Go.Proofs.LaysM.n316 Tryz.prog laysM316_ren := {
  mixed := by kernel_rfl
  f316 := Tryz.func258.trans (congrArg some (by kernel_rfl))
  t0 := Tryz.underlying0
  a0 := Tryz.isAgg0
  z0 := Tryz.sizeOf0
  v0 := Tryz.zeroValue0
  t3 := Tryz.underlying3
  a3 := Tryz.isAgg3
  z3 := Tryz.sizeOf3
  v3 := Tryz.zeroValue3
  t4 := Tryz.underlying4
  a4 := Tryz.isAgg4
  z4 := Tryz.sizeOf4
  v4 := Tryz.zeroValue4
  t9 := Tryz.underlying9
  a9 := Tryz.isAgg9
  z9 := Tryz.sizeOf9
  v9 := Tryz.zeroValue9
  t37 := Tryz.underlying120
  a37 := Tryz.isAgg120
  z37 := Tryz.sizeOf120
  v37 := Tryz.zeroValue120
  t127 := Tryz.underlying208
  a127 := Tryz.isAgg208
  z127 := Tryz.sizeOf208
  v127 := Tryz.zeroValue208
  t5 := Tryz.underlying5
  a5 := Tryz.isAgg5
  z5 := Tryz.sizeOf5
  v5 := Tryz.zeroValue5
  i0 := by kernel_rfl
  i3 := by kernel_rfl
  i4 := by kernel_rfl
  i5 := by kernel_rfl
  i9 := by kernel_rfl
  i37 := by kernel_rfl
  i127 := by kernel_rfl }
open Go.RowKit in
/-- internal/stringslite.Clone (what strings.Clone calls): "Clone returns a fresh copy of s.": THE SAME BYTES. Of what was there nothing has turned (a new row is laid, and frozen, where s is not empty). (LAID: no walk: one application.) -/
theorem slClone (s : ByteArray) (w : World) (hlim : s.size ≤ 281474976710656) :
    Calls Tryz.prog 258 #[.string s] w fun e w' => e = .returned (.string s) ∧ Go.RowKit.Below w.heap.size w w' := Any.stringslite_Clone laysM316 s w hlim

theorem below_keeps {w w' : World} (h : Go.RowKit.Below w.heap.size w w') : Keeps [] w w' := ⟨h.os, h.tape, h.output, h.size, fun i hi _ => h.block i hi⟩

set_option maxRecDepth 100000 in
set_option maxHeartbeats 1000000 in
theorem clone203_calls {w : World} (s : ByteArray) (hs : s.size ≤ 1000000) : Calls Tryz.prog 203 #[.string s] w fun e w' => e = .returned (.string s) ∧ Keeps [] w w' := by
  have hc := hide (fun (w : World) => slClone s w (by omega))
  go_enter Tryz.func203, Tryz.ntmps203
  go_wp2_with fail
  refine (hc.out _).mono ?_
  rintro e w' ⟨rfl, hb⟩
  have k := below_keeps hb
  clear hb
  go_wp2_with fail
  go_ret
  exact ⟨rfl, k⟩

set_option maxRecDepth 100000 in
set_option maxHeartbeats 4000000 in
theorem layers_calls {w : World} {mb B : Nat} {m : Mean} (hm : MeanAt w mb B m) (hok : MeanOk m) (hnc : ∀ c ∈ m.clauses, circleC m.rels.length (edgesM m.clauses) c = false) : Calls Tryz.prog 202 #[.pointer (some ⟨B, 0, none⟩)] w fun e w' => (∃ vals, e = .returned (.slice (some ⟨w.heap.size, 0, none⟩) m.rels.length m.rels.length) ∧ CellsAt w' w.heap.size (natC vals) ∧ LayI m.clauses m.rels.length vals ∧ StableG layG m.clauses vals) ∧ Keeps [] w w' := by
  have hlen := hide (fun (W : World) (k : Keeps [] w W) => mean_names hm k)
  have hn6 := hok.rels
  have hBl := mean_lt hm
  have H := lay_ok (cs := m.clauses) hok.inR hnc
  have h64 : ∀ vals, LayI m.clauses m.rels.length vals → ∀ i, vals.getD i 0 < 64 := fun vals h i => by
    rcases Nat.lt_or_ge i m.rels.length with q | q
    · have h1 := h.2 i q
      have h2 := cnt_le m.rels.length (hangB m.rels.length (edgesM m.clauses) i)
      unfold reachCnt at h1
      omega
    · rw [List.getD_eq_getElem?_getD, List.getElem?_eq_none (by rw [h.1]; exact q)]
      decide
  have hspr := hide (fun (W : World) (k : Keeps [] w W) (hS : Spr W W w.heap.size (w.heap.size + 1) m.rels.length m.rels.length (LayI m.clauses m.rels.length) (List.replicate m.rels.length 0)) => spread257_calls hm k (Nat.le_refl _) (by omega) H h64 hok.clauses hok.lits hS)
  have Hl0 := hide (lay_first (cs := m.clauses) hok.inR)
  have hmk := run_makeIntsE w m.rels.length (by omega)
  rw [made_nats] at hmk
  have kA := Keeps.alloc [] w (.cells (natC (List.replicate m.rels.length 0)) 3)
  have hg0 := CellsAt.new w (natC (List.replicate m.rels.length 0)) 3
  have kC := Keeps.alloc [] (w.alloc (.cells (natC (List.replicate m.rels.length 0)) 3)) (.cells #[.slice (some ⟨w.heap.size, 0, none⟩) m.rels.length m.rels.length] 40)
  have hC0 := CellsAt.new (w.alloc (.cells (natC (List.replicate m.rels.length 0)) 3)) #[.slice (some ⟨w.heap.size, 0, none⟩) m.rels.length m.rels.length] 40
  rw [sizeE_alloc] at hC0
  have hg1 := hg0.keeps kC (by simp)
  have c0 := hC0.cell 0
  have kAC := kA.trans kC
  have hcall := hide (hspr.out _ kAC ⟨hg1, hC0, Hl0.out, Keeps.refl _ _⟩)
  clear hm hok H h64 hg0 hg1 hC0 kA kC hspr hnc
  generalize hnn : m.rels.length = n at *
  clear hnn
  generalize hO : Obj.cells (natC (List.replicate n 0)) 3 = ob at *
  go_enter Tryz.func202, Tryz.ntmps202
  go_wp2_with fail
  refine (hlen.out _ (Keeps.refl [] w)).mono ?_
  rintro e w1 ⟨rfl, rfl⟩
  go_wp2_with fail
  refine hcall.out.mono ?_
  rintro e w2 ⟨rfl, vals, hS2, hst⟩
  have c2 := hS2.cap.cell 0
  have k2 : Keeps [] w1 w2 := kAC.trans_new hS2.keep (by simp)
  have HS2 := hide hS2
  have Hst := hide hst
  clear hS2 hst
  go_wp2_with fail
  go_ret
  exact ⟨⟨vals, rfl, HS2.out.row, HS2.out.inv, Hst.out⟩, k2⟩

set_option maxRecDepth 100000 in
set_option maxHeartbeats 4000000 in
theorem sizesOf_calls {w : World} {mb B : Nat} {m : Mean} (hm : MeanAt w mb B m) (hok : MeanOk m) {r : Nat} {s : ByteArray} {ds : List Nat} (hrs : m.rels[r]? = some (s, ds)) : Calls Tryz.prog 204 #[.pointer (some ⟨B, 0, none⟩), .int .i64 (r : Int)] w fun e w' => (∃ v, e = .returned v ∧ w'.ownsRow w.heap.size 3 1 v ds.length (intsV (ds.map m.size))) ∧ Keeps [] w w' := by
  obtain ⟨i0, hi0, hz0, hz1, hz2⟩ := info_parts info3E
  have hBl := mean_lt hm
  obtain ⟨gc, cc, av, cv, hgl, hdg, hcols⟩ := mean_col hm hrs
  have hrl : r < m.rels.length := by
    rcases Nat.lt_or_ge r m.rels.length with h | h
    · exact h
    · rw [List.getElem?_eq_none h] at hrs; cases hrs
  have hcl := hok.cols _ (List.mem_of_getElem? hrs)
  have hds := hcl.2
  have hl3 : ds.length ≤ 3 := hcl.1
  have hrI : (r : Int) < m.rels.length := by omega
  obtain ⟨c5, cr, _⟩ := hcols (Keeps.refl [] w)
  have Hcols := hide (fun (W : World) (k : Keeps [] w W) => (hcols k).2.2)
  have Hdg := hide hdg
  have Hds := hide hds
  have Hsz := hide (fun (d : Nat) (hd : d < m.doms.length) => mean_size hm hd)
  have hd4 := hok.doms
  clear hm hcols hdg hds hcl hok
  go_enter Tryz.func204, Tryz.ntmps204
  go_wp2_with fail
  go_loopw [5, 16] (fun y x wr => ∃ i : Nat, x = .int .i64 i ∧ i ≤ ds.length ∧ wr.ownsRow w.heap.size 3 1 y i (intsV ((ds.map m.size).take i)) ∧ Keeps [] w wr ∧ w.heap.size ≤ wr.heap.size) (fun _ x _ => ds.length - (intOf x).toNat)
  case atStart => exact ⟨0, rfl, by omega, World.ownsRow_nil .., Keeps.refl [] w, Nat.le_refl _⟩
  case round =>
    clear c5 cr
    obtain ⟨i, rfl, hil, own, kr, hsz⟩ := hrel
    obtain ⟨ay, cy, rfl⟩ := ownE_len own
    by_cases hlt : i < ds.length
    · obtain ⟨d, hd⟩ : ∃ d, ds[i]? = some d := ⟨_, List.getElem?_eq_getElem hlt⟩
      obtain ⟨gd, hgd, hgdl⟩ := Hdg.out d (List.mem_of_getElem? hd)
      subst hgd
      have q0 := Hcols.out wr kr i d gd hd rfl
      have hdl := Hds.out d (List.mem_of_getElem? hd)
      obtain ⟨gk, ck, hgk, _, hsc⟩ := Hsz.out d hdl
      obtain ⟨b2, n2⟩ := hsc kr
      have hiI : (i : Int) < ds.length := by omega
      have hdI : (d : Int) < m.doms.length := by omega
      have hsr := kr.size
      have kB := Keeps.alloc [] wr (.cells #[.int .i64 (m.size d)] 3)
      have ownB := ownsRow_kept own kB (by simp)
      have Htake : Hid ((ds.map m.size).take (i + 1) = (ds.map m.size).take i ++ [m.size d]) := hide (by rw [List.take_add_one, List.getElem?_map, hd]; rfl)
      clear hsc hd
      go_wp2_with (at_builtin; refine wpList_append_own_at _ rfl _ _ 40 rfl w.heap.size 3 i0 (.int .i64 0) 1 8 Tryz.underlying40 hi0 hz0 hz1 hz2 rfl (by decide) _ i (intsV ((ds.map m.size).take i)) rfl ownB ⟨wr.heap.size, 0, none⟩ 1 1 [.int .i64 (m.size d)] rfl (by simp) int_one (by simp [Value.oneCell']) (by unfold maxLen; omega) (by omega) (by rw [sizeE_alloc]; omega) ?_)
      intro v' W2 own4 grow4 nil4 at4
      have k4 := grownBy_keeps' grow4 (Value.slice ay i cy).ownBlock.toList (fun r e => .inl (by simp [e]))
      have kf : Keeps [] w W2 := (kr.trans kB).trans_new k4 fun j hj => .inr (ownE_base own j (by simpa using hj)).1
      have Hown := hide own4
      clear own4 grow4 nil4 at4 ownB own
      go_wp2_with fail
      go_roundw
      · exact ⟨i + 1, by simp, by omega, by rw [Htake.out, intsV, List.map_append]; exact Hown.out, kf, kf.size⟩
      · simp only [intOf]; omega
    · have hiI : ¬ (i : Int) < ds.length := by omega
      have e : i = ds.length := by omega
      subst e
      rw [List.take_of_length_le (by rw [List.length_map]; omega)] at own
      have Hown := hide own
      clear own
      go_wp2_with fail
      go_ret
      exact ⟨⟨_, rfl, Hown.out⟩, kr⟩

end Go.Proofs.YtgjomknpjigkhaaGreatDoor
