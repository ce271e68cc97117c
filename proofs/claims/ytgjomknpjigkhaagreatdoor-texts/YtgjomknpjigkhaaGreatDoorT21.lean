/- Texts: P3. -/
import Derived.Test.YtgjomknpjigkhaaGreatDoorT16
import Derived.Test.YtgjomknpjigkhaaGreatDoorT04
import Derived.Laws.MakeOwn
namespace Go.Proofs.YtgjomknpjigkhaaGreatDoor
open Go.RowKit

def boolC (T : Nat → Bool) (n : Nat) : Array Value := ((List.range n).map fun j => Value.bool (T j)).toArray
theorem boolC_at {T : Nat → Bool} {n j : Nat} (h : j < n) : (boolC T n)[j]? = some (.bool (T j)) := by simp [boolC, h]
theorem boolC_set {T : Nat → Bool} {n i : Nat} : (boolC T n).setIfInBounds i (.bool true) = boolC (fun j => T j || decide (j = i)) n := by
  apply Array.ext'
  simp only [boolC, List.setIfInBounds_toArray]
  apply List.ext_getElem?
  intro j
  rw [List.getElem?_set]
  by_cases e : i = j
  · subst e
    rw [if_pos rfl]
    by_cases hi : i < n
    · simp [hi]
    · simp [hi]
  · rw [if_neg e]
    by_cases hj : j < n
    · simp [hj, Ne.symm e]
    · simp [hj]
theorem info4B : (Tryz.prog.info? 4).map (fun i => (i.zero, i.size, i.bytes)) = some (some (.bool false), 1, 1) := by kernel_rfl
theorem run_makeBoolsE (w : World) (n : Nat) (hn : n ≤ 1000) : (Instr.makeSlice 249 (.int .i64 (n : Int)) (.int .i64 (n : Int))).run Tryz.prog w = .ok (.slice (some ⟨w.heap.size, 0, none⟩) n n) (w.alloc (.cells (boolC (fun _ => false) n) 4)) := by
  obtain ⟨i0, hi0, hz0, hz1, hz2⟩ := info_parts info4B
  have := run_make (P := Tryz.prog) w 249 4 i0 (.bool false) Tryz.underlying249 hi0 hz0 .i64 .i64 n n (by omega) (by omega) (by rw [hz2]; omega) (by omega)
  rw [this, hz1]
  have e : madeCells (Value.bool false).cells (n * 1) = boolC (fun _ => false) n := by
    apply Array.ext'
    rw [Nat.mul_one]
    show (madeCells #[.bool false] n).toList = _
    rw [toList_madeCells_one (.bool false) n]
    simp only [boolC]
    apply List.ext_getElem?
    intro j
    by_cases hj : j < n
    · simp [hj]
    · simp [hj]
  first
    | rw [e]
    | (simp [Value.cells] at e ⊢; rw [e])

/-- A document's program in memory, as far as its clauses go. -/
structure RP (w : World) (base P : Nat) (n : Nat) (X : List Nat) (cs : List (AtomI × List LitI)) (xs : List ClauseM) (dv rv kv tv c l : Value) (kcs : List Value) : Prop where
  cells : CellsAt w P #[dv, rv, kv, tv, c, l]
  rels : ∃ a k, rv = .slice a n k
  row : w.ownsRow base 254 6 kv cs.length kcs
  rcs : RCs w base X cs xs kcs

theorem edgesM_cons (c : ClauseM) (cs : List ClauseM) : edgesM (c :: cs) = edgesC c ++ edgesM cs := by simp [edgesM]
theorem roundR_append (A B : Edges) (T : Nat → Bool) : roundR (A ++ B) T = roundR B (roundR A T) := by simp [roundR]

set_option maxRecDepth 100000 in
set_option maxHeartbeats 8000000 in
theorem hangs_calls {w : World} {base P n : Nat} {X : List Nat} {cs : List (AtomI × List LitI)} {xs : List ClauseM} {dv rv kv tv c l : Value} {kcs : List Value} (h : RP w base P n X cs xs dv rv kv tv c l kcs) (hn : n ≤ 1000) (hl : cs.length ≤ 1000000) (hll : ∀ q ∈ cs, q.2.length ≤ 1000000) (hr : ∀ x ∈ xs, RelsOk n x) {a b : Nat} (ha : a < n) (hb : b < n) : Calls Tryz.prog 276 #[.pointer (some ⟨P, 0, none⟩), .int .i64 a, .int .i64 b] w fun e w' => e = .returned (.bool (hangB n (edgesM xs) a b)) ∧ Keeps [] w w' := by
  obtain ⟨ra, rc, rfl⟩ := h.rels
  obtain ⟨ka, kc, rfl⟩ := ownE_len h.row
  have hPl := h.cells.lt
  have Hrow := hide h.row
  have Hrcs := hide h.rcs
  have Hlen := hide h.rcs.len
  have Hc1 := hide (fun (W : World) (k : Keeps [] w W) => (h.cells.keeps k (by simp)).cell 1)
  have Hc2 := hide (fun (W : World) (k : Keeps [] w W) => (h.cells.keeps k (by simp)).cell 2)
  have c1 := h.cells.cell 1
  have hmk := run_makeBoolsE w n hn
  have Hll := hide hll
  have Hr := hide hr
  have kA := Keeps.alloc [] w (.cells (boolC (fun _ => false) n) 4)
  have hG := CellsAt.new w (boolC (fun _ => false) n) 4
  have hG1 := hG.setCell a (.bool true)
  rw [boolC_set] at hG1
  have g0 : (w.alloc (.cells (boolC (fun _ => false) n) 4)).cell? ⟨w.heap.size, a, none⟩ = some (.bool false) := by rw [hG.cell]; exact boolC_at ha
  have f0 := hG.frozen a
  have HG := hide hG1
  have HK := hide (kA.trans_new (Keeps.setCell _ ⟨w.heap.size, a, none⟩ (.bool true)) (by simp))
  have haI : (a : Int) < n := by omega
  have hbI : (b : Int) < n := by omega
  have hini : (fun j => false || decide (j = a)) = fun j => decide (j = a) := by funext j; simp
  generalize hR : hangB n (edgesM xs) a b = R
  have HR : Hid (roundsR (edgesM xs) n (fun j => false || decide (j = a)) b = R) := hide (by rw [hini]; exact hR)
  clear hR h hll hr hG hG1 kA hini
  generalize hO : Obj.cells (boolC (fun _ => false) n) 4 = ob at *
  clear hO
  go_enter Tryz.func276, Tryz.ntmps276
  go_wp2_with fail
  go_loopw [8] (fun x wr => ∃ (r : Nat) (T : Nat → Bool), x = .int .i64 r ∧ r ≤ n ∧ CellsAt wr w.heap.size (boolC T n) ∧ Keeps [] w wr ∧ roundsR (edgesM xs) (n - r) T b = R) (fun x _ => n - (intOf x).toNat)
  case atStart => exact ⟨0, _, rfl, by omega, HG.out, HK.out, HR.out⟩
  case round =>
    clear HG HK HR g0 f0 c1 hmk
    obtain ⟨r, T, rfl, hrn, hG, kr, hres⟩ := hrel
    have c1 := Hc1.out wr kr
    have c2 := Hc2.out wr kr
    by_cases hrl : r < n
    · have hrI : (r : Int) < n := by omega
      have hres' : roundsR (edgesM xs) (n - (r + 1)) (roundR (edgesM (xs.drop 0)) T) b = R := by
        rw [← hres, List.drop_zero]
        rw [show n - r = (n - (r + 1)) + 1 by omega]
        rfl
      have Hres := hide hres'
      have HG := hide hG
      clear hres hres' hG
      go_wp2_with fail
      go_loopw [9] (fun x wr => ∃ (q : Nat) (T : Nat → Bool), x = .int .i64 q ∧ q ≤ cs.length ∧ CellsAt wr w.heap.size (boolC T n) ∧ Keeps [] w wr ∧ roundsR (edgesM xs) (n - (r + 1)) (roundR (edgesM (xs.drop q)) T) b = R) (fun x _ => cs.length - (intOf x).toNat)
      case atStart => exact ⟨0, T, rfl, by omega, HG.out, kr, Hres.out⟩
      case round =>
        clear HG Hres c1 c2 kr T
        obtain ⟨q, T, rfl, hqn, hG, kr, hres⟩ := hrel
        have c1 := Hc1.out wr kr
        have c2 := Hc2.out wr kr
        by_cases hql : q < cs.length
        · have hqI : (q : Int) < cs.length := by omega
          obtain ⟨ci, hci⟩ : ∃ ci, cs[q]? = some ci := ⟨_, List.getElem?_eq_getElem hql⟩
          obtain ⟨x, hv, lv, ls, ru, hx, hcells, hhv, hlv, hls⟩ := Hrcs.out.at hci
          have hxl : q < xs.length := by rw [Hlen.out]; exact hql
          have hdi : xs.drop q = x :: xs.drop (q + 1) := by
            rw [List.drop_eq_getElem_cons hxl]
            congr 1
            rw [List.getElem?_eq_getElem hxl] at hx
            exact Option.some.inj hx
          have hro := Hr.out x (List.mem_of_getElem? hx)
          obtain ⟨ha1, hc1', rfl⟩ := ownE_len hhv
          obtain ⟨la, lc, rfl⟩ := ownE_len hlv
          have hrr := ownsRow_kept Hrow.out kr (by simp)
          obtain ⟨gk, hgk⟩ := ownE_pos2 hrr (by omega)
          subst hgk
          have d0 : wr.cell? ⟨gk, q * 6, none⟩ = some (.int .i64 (x.head.rel : Int)) := ownE_cells hrr (by have := hcells 0 (by omega); rw [Nat.add_zero] at this; rw [this]; rfl)
          have d1 : wr.cell? ⟨gk, q * 6 + 1, none⟩ = some (.slice ha1 ci.1.terms.length hc1') := ownE_cells hrr (by rw [hcells 1 (by omega)]; rfl)
          have d2 : wr.cell? ⟨gk, q * 6 + 2, none⟩ = some (.bool false) := ownE_cells hrr (by rw [hcells 2 (by omega)]; rfl)
          have d3 : wr.cell? ⟨gk, q * 6 + 3, none⟩ = some (.int .i64 ci.1.name.line) := ownE_cells hrr (by rw [hcells 3 (by omega)]; rfl)
          have d4 : wr.cell? ⟨gk, q * 6 + 4, none⟩ = some (.slice la ci.2.length lc) := ownE_cells hrr (by rw [hcells 4 (by omega)]; rfl)
          have d5 : wr.cell? ⟨gk, q * 6 + 5, none⟩ = some (.bool ru) := ownE_cells hrr (by rw [hcells 5 (by omega)]; rfl)
          have hgkl : gk < wr.heap.size := (ownE_lt hrr gk rfl).2
          have kC := Keeps.alloc [] wr (.cells #[.int .i64 (x.head.rel : Int), .slice ha1 ci.1.terms.length hc1', .bool false, .int .i64 ci.1.name.line, .slice la ci.2.length lc, .bool ru] 254)
          have hC := CellsAt.new wr #[.int .i64 (x.head.rel : Int), .slice ha1 ci.1.terms.length hc1', .bool false, .int .i64 ci.1.name.line, .slice la ci.2.length lc, .bool ru] 254
          have hGl := hG.lt
          have hG1 := hG.keeps kC (by simp)
          have kr1 := kr.trans kC
          have hres' : roundsR (edgesM xs) (n - (r + 1)) (roundR (edgesM (xs.drop (q + 1))) (roundR ((x.lits.drop 0).map fun l => (x.head.rel, l.1.rel)) T)) b = R := by
            rw [← hres, hdi, edgesM_cons, roundR_append, List.drop_zero]
            rfl
          have Hres := hide hres'
          have HG := hide hG1
          have HC := hide hC
          have Hlv := hide hlv
          have Hls := hide hls
          have hll := Hll.out ci (List.mem_of_getElem? hci)
          have hCn : wr.heap.size ≠ w.heap.size := by omega
          have hHI : (x.head.rel : Int) < n := by have := hro.1; omega
          have HrL := hide hro.2
          have hHN := hro.1
          clear hres hres' hG hG1 hC hlv hls hdi hci hx hcells hhv hrr hro hxl
          rename World => wo
          go_wp2_with fail
          go_loopw [11] (fun x' wr => ∃ (i : Nat) (T : Nat → Bool), x' = .int .i64 i ∧ i ≤ ci.2.length ∧ CellsAt wr w.heap.size (boolC T n) ∧ CellsAt wr wo.heap.size #[.int .i64 (x.head.rel : Int), .slice ha1 ci.1.terms.length hc1', .bool false, .int .i64 ci.1.name.line, .slice la ci.2.length lc, .bool ru] ∧ Keeps [] w wr ∧ roundsR (edgesM xs) (n - (r + 1)) (roundR (edgesM (xs.drop (q + 1))) (roundR ((x.lits.drop i).map fun l => (x.head.rel, l.1.rel)) T)) b = R) (fun x' _ => ci.2.length - (intOf x').toNat)
          case atStart => exact ⟨0, T, rfl, by omega, HG.out, HC.out, kr1, Hres.out⟩
          case round =>
            clear HG Hres c1 c2 kr1 d0 d1 d2 d3 d4 d5 HC kC kr T
            obtain ⟨i, T, rfl, hil, hG, hC, kr, hres⟩ := hrel
            have e0 := hC.cell 0
            have e4 := hC.cell 4
            have hCl := hC.lt
            by_cases hi : i < ci.2.length
            · have hiI : (i : Int) < ci.2.length := by omega
              obtain ⟨li, hli⟩ : ∃ li, ci.2[i]? = some li := ⟨_, List.getElem?_eq_getElem hi⟩
              obtain ⟨xi, v, hxi, hcs, hv⟩ := Hls.out.at hli
              have hxl : i < x.lits.length := by rw [Hls.out.len]; exact hi
              have hdi : x.lits.drop i = xi :: x.lits.drop (i + 1) := by
                rw [List.drop_eq_getElem_cons hxl]
                congr 1
                rw [List.getElem?_eq_getElem hxl] at hxi
                exact Option.some.inj hxi
              rw [hdi] at hres
              have hrel := HrL.out xi (List.mem_of_getElem? hxi)
              have hlr := ownsRow_kept Hlv.out kr (by simp)
              obtain ⟨gl, hgl⟩ := ownE_pos2 hlr (by omega)
              subst hgl
              have l0 : wr.cell? ⟨gl, i * 4, none⟩ = some (.int .i64 (xi.1.rel : Int)) := ownE_cells hlr (by have := hcs 0 (by omega); rw [Nat.add_zero] at this; rw [this]; rfl)
              have g1 : wr.cell? ⟨w.heap.size, x.head.rel, none⟩ = some (.bool (T x.head.rel)) := by rw [hG.cell]; exact boolC_at hHN
              have hLI : (xi.1.rel : Int) < n := by omega
              have HC := hide hC
              cases hT : T x.head.rel with
              | false =>
                rw [hT] at g1
                have eT : stepR T (x.head.rel, xi.1.rel) = T := by funext j; simp [stepR, hT]
                have Hres : Hid (roundsR (edgesM xs) (n - (r + 1)) (roundR (edgesM (xs.drop (q + 1))) (roundR ((x.lits.drop (i + 1)).map fun l => (x.head.rel, l.1.rel)) T)) b = R) := hide (by rw [← hres]; simp only [List.map_cons, roundR, List.foldl_cons, eT])
                have HG := hide hG
                clear hres hG hC hdi hli hxi hcs hv hlr hT eT
                go_wp2_with fail
                go_roundw
                · exact ⟨i + 1, T, by simp, by omega, HG.out, HC.out, kr, Hres.out⟩
                · simp only [intOf]; omega
              | true =>
                rw [hT] at g1
                have eT : stepR T (x.head.rel, xi.1.rel) = fun j => T j || decide (j = xi.1.rel) := by funext j; simp [stepR, hT]
                have Hres : Hid (roundsR (edgesM xs) (n - (r + 1)) (roundR (edgesM (xs.drop (q + 1))) (roundR ((x.lits.drop (i + 1)).map fun l => (x.head.rel, l.1.rel)) (fun j => T j || decide (j = xi.1.rel)))) b = R) := hide (by rw [← hres]; simp only [List.map_cons, roundR, List.foldl_cons, eT])
                have g2 : wr.cell? ⟨w.heap.size, xi.1.rel, none⟩ = some (.bool (T xi.1.rel)) := by rw [hG.cell]; exact boolC_at hrel
                have f2 := hG.frozen xi.1.rel
                have hG2 := hG.setCell xi.1.rel (.bool true)
                rw [boolC_set] at hG2
                have kS := Keeps.setCell wr ⟨w.heap.size, xi.1.rel, none⟩ (.bool true)
                have HG := hide hG2
                have HC2 := hide (HC.out.keeps kS (by simp; omega))
                have HK := hide (kr.trans_new kS (by simp))
                clear hres hG hG2 hC hdi hli hxi hcs hv hlr hT eT kS HC
                go_wp2_with fail
                go_roundw
                · exact ⟨i + 1, _, by simp, by omega, HG.out, HC2.out, HK.out, Hres.out⟩
                · simp only [intOf]; omega
            · have hiI : ¬ (i : Int) < ci.2.length := by omega
              have hdz : x.lits.drop i = [] := List.drop_eq_nil_of_le (by rw [Hls.out.len]; omega)
              rw [hdz] at hres
              have Hres : Hid (roundsR (edgesM xs) (n - (r + 1)) (roundR (edgesM (xs.drop (q + 1))) T) b = R) := hide hres
              have HG := hide hG
              clear hres hdz hG hC
              go_wp2_with fail
              go_roundw
              · exact ⟨q + 1, T, by simp, by omega, HG.out, kr, Hres.out⟩
              · simp only [intOf]; omega
        · have hqI : ¬ (q : Int) < cs.length := by omega
          have hdz : xs.drop q = [] := List.drop_eq_nil_of_le (by rw [Hlen.out]; omega)
          rw [hdz] at hres
          have Hres : Hid (roundsR (edgesM xs) (n - (r + 1)) T b = R) := hide hres
          have HG := hide hG
          clear hres hdz hG
          go_wp2_with fail
          go_roundw
          · exact ⟨r + 1, T, by simp, by omega, HG.out, kr, Hres.out⟩
          · simp only [intOf]; omega
    · have hrI : ¬ (r : Int) < n := by omega
      have g1 : wr.cell? ⟨w.heap.size, b, none⟩ = some (.bool (T b)) := by rw [hG.cell]; exact boolC_at hb
      have Hres : Hid (T b = R) := hide (by rw [← hres, show n - r = 0 by omega]; rfl)
      clear hres hG
      go_wp2_with fail
      go_ret
      exact ⟨by rw [← Hres.out]; rfl, kr⟩

end Go.Proofs.YtgjomknpjigkhaaGreatDoor
