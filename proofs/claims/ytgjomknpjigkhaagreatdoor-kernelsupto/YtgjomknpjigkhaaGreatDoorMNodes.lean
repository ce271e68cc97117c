/- R3, R4. -/
import Derived.Test.YtgjomknpjigkhaaGreatDoorMRange
import Derived.Test.YtgjomknpjigkhaaGreatDoorW12
import Derived.Test.YtgjomknpjigkhaaGreatDoorMStore
import Derived.Test.YtgjomknpjigkhaaGreatDoorMBdd
namespace Go.Proofs.YtgjomknpjigkhaaGreatDoor
open Go.RowKit Go.Shelf
attribute [local go_sem] Oper.semAt_some

def sliceLen : Value → Nat
  | .slice _ n _ => n
  | _ => 0
def mapSize (w : World) (r : Nat) : Nat := match w.heap[r]? with
  | some (.map es _) => es.size
  | _ => 0

theorem mapSize_is {α β : Type} {ek : α → Value} {ev : β → Value} {w : World} {r : Nat} {L : List (α × β)} (h : MapIs ek ev w r L) : mapSize w r = L.length := by
  obtain ⟨es, clock, h1, h2, _⟩ := h
  have := congrArg List.length h2
  simp only [List.length_map, Array.length_toList] at this
  simp [mapSize, h1, this]

def eN (x : Int × Tri) : Array Value := #[.int .i64 x.1, .agg #[.int .i64 x.2.1, .int .i64 x.2.2.1, .int .i64 x.2.2.2]]

theorem below_keeps {B : Nat} {w w' : World} (h : Below B w w') (T : List Nat) (hT : ∀ i, B ≤ i → i < w.heap.size → i ∈ T) : Keeps T w w' :=
  ⟨h.os, h.tape, h.output, h.size, fun i hi hn => h.block i (by
    rcases Nat.lt_or_ge i B with x | x
    · exact x
    · exact absurd (hT i x hi) hn)⟩

set_option maxRecDepth 100000 in
set_option maxHeartbeats 2000000 in
theorem nodes_iter {w : World} {B : SB} {S : ST} (hS0 : StoreAt w B S) (hw : WF S) (pr ps g0 c0 : Nat) (roots : List Int) (hpr0 : CellsAt w pr #[.slice (some ⟨g0, 0, none⟩) roots.length c0]) (hps0 : CellsAt w ps #[.pointer (some ⟨B.b, 0, none⟩)]) (hrow0 : RowIs w g0 roots) (hr : RootsOk S roots)
    (hlen : roots.length ≤ 1000) (hN : S.N.length ≤ 100000000) (T : List Nat) (hT : ∀ t ∈ T, t < w.heap.size ∧ t ∉ B.own ∧ t ≠ ps) :
    Iter 280 #[.pointer (some ⟨pr, 0, none⟩), .pointer (some ⟨ps, 0, none⟩)] eN (fun pre x => get S.N x.1 = some x.2 ∧ pre.length < S.N.length) (GoodNodes S roots) T w := by
  obtain ⟨i0, hi0, hz0, hz1, hz2⟩ := info_parts info3
  intro n l J W hl hlW hb hJ hY h0
  have hS := hS0.of_heap (w' := W) (fun i hi => hb.block i (hS0.lt i hi))
  have hpr := hpr0.of_heap (w' := W) (hb.block pr hpr0.lt)
  have hps := hps0.of_heap (w' := W) (hb.block ps hps0.lt)
  have hrow := hrow0.of_heap (w' := W) (hb.block g0 hrow0.lt)
  have hmm := @run_makeMap Tryz.prog
  have k1 := Keeps.alloc [] W (.map #[] 0)
  have hpr1 := hpr.keeps k1 (by simp)
  have hps1 := hps.keeps k1 (by simp)
  have hrow1 := hrow.kept k1 (by simp)
  have hS1 := hS.keeps k1 (by simp)
  have hM1 : MapIs eI eU (W.alloc (.map #[] 0)) W.heap.size ([] : List (Int × Unit)) := MapIs.new W 0
  have p0 := hpr1.cell 0
  simp at p0
  have HY := hide hY
  have HJ := hide hJ
  clear hY hJ
  have hc := hide (clone_calls (cap := c0) hrow1 (by omega))
  refine callsIn_of_wp Tryz.func280 rfl trivial ?_ rfl
  simp only [Tryz.ntmps280, List.size_toArray, List.length_cons, List.length_nil, Nat.reduceAdd, Nat.reduceSub, Array.replicate_succ, Array.replicate_zero, List.push_toArray, List.append_toArray, List.nil_append, List.cons_append]
  gi_wp2_with fail
  refine ⟨trivial, fun h => (nomatch h), ?_⟩
  refine (callsIn_wide.2 hc.out).mono ?_
  rintro e W2 ⟨v, rfl, hv, k2, hvn⟩
  have hex : ∃ g cap, v = .slice (some ⟨g, 0, none⟩) roots.length cap := by
    rcases hv.2 with ⟨e, _⟩ | ⟨g, cap, cur, e, _⟩
    · exact absurd e hvn
    · exact ⟨g, cap, e⟩
  obtain ⟨g1, cap1, hv1⟩ := hex
  subst hv1
  have hM2 := hM1.kept k2 (by simp)
  have kk2 : Keeps (l :: T) W W2 := ((k1.trans k2).mono (by simp))
  have hv2 : W2.ownsRow W.heap.size 3 1 (.slice (some ⟨g1, 0, none⟩) roots.length cap1) roots.length (ints roots) := ownsRow_base hv (by simp)
  have hJ2 : J [] W2 := HJ.out _ _ _ h0 ((k1.trans k2).below (Nat.le_refl _) (by simp))
  clear hv hvn hc p0 hrow1 hpr1 hpr hrow hM1
  gi_wp2_with fail
  gi_loopw [5] (fun t wr => ∃ (g cap : Nat) (ws : List Int) (xs : List (Int × Tri)), t = .slice (some ⟨g, 0, none⟩) ws.length cap ∧ wr.ownsRow W.heap.size 3 1 t ws.length (ints ws) ∧ MapIs eI eU wr W.heap.size (xs.map fun x => (x.1, ())) ∧ NInv S roots ws xs ∧ J xs wr ∧ Keeps (l :: T) W wr ∧ ws.length ≤ roots.length + 2 * xs.length)
    (fun t wr => sliceLen t + 3 * (S.N.length - mapSize wr W.heap.size))
  case atStart => exact ⟨g1, cap1, roots, [], rfl, hv2, hM2, NInv.start hr, hJ2, kk2, by simp⟩
  case round =>
    obtain ⟨g, cap, ws, xs, rfl, hrow, hmap, hinv, hJs, hkp, hwl⟩ := hrel
    clear hv2 hM2 hJ2 kk2 k2 hS1 hps1
    have hSr := hS.keeps hkp (fun i hi x => by
      rcases List.mem_cons.1 x with e | x
      · have := hS0.lt i hi; omega
      · exact (hT _ x).2.1 hi)
    have hpsr := hps.keeps hkp (fun x => by
      rcases List.mem_cons.1 x with e | x
      · have := hps0.lt; omega
      · exact (hT _ x).2.2 rfl)
    have hms := mapSize_is hmap
    rw [List.length_map] at hms
    have hxl := hinv.length
    have Hms := hide hms
    clear hms
    rcases List.eq_nil_or_concat ws with rfl | ⟨ws', f, rfl⟩
    · simp only [List.length_nil] at hrow ⊢
      gi_wp2
      go_end0
      exact ⟨⟨_, rfl⟩, xs, hinv.done, hJs, hkp⟩
    · rw [List.concat_eq_append] at *
      simp only [List.length_append, List.length_cons, List.length_nil, Nat.zero_add] at hrow hwl ⊢
      have hcell : wr.cell? ⟨g, ws'.length, none⟩ = some (.int .i64 f) := ownsRow_cell hrow (by simp)
      have hat := ownsRow_at hrow
      have hrow' : wr.ownsRow W.heap.size 3 1 (.slice (some ⟨g, 0, none⟩) ws'.length cap) ws'.length (ints ws') :=
        ownsRow_pop (xs := ints ws') (last := [.int .i64 f]) (by simp [ints]) (by simpa [ints] using hrow)
      have hk63 : (ws'.length : Int) ≤ 9223372036854775806 := by omega
      have Hrow := hide hrow
      clear hrow
      cases hsn : get (xs.map fun x => (x.1, ())) f with
      | some u =>
        have hlk := run_look (P := Tryz.prog) Tryz.underlying338 key3 (z := .agg #[]) zero339 hmap f true
        simp only [hsn, Option.map_some, Option.getD_some, eI, eU, Option.isSome_some, if_true] at hlk
        have hfm : f ∈ xs.map Prod.fst := by
          have := get_some_mem hsn
          obtain ⟨x, hx, e⟩ := List.mem_map.1 this
          simp only [Prod.mk.injEq] at e
          exact List.mem_map.2 ⟨x, hx, e.1⟩
        clear hsn
        have kA := Keeps.alloc [] wr (.cells #[] 339)
        have hmA := hmap.kept kA (by simp)
        have hmsA := mapSize_is hmA
        rw [List.length_map] at hmsA
        have HmsA := hide hmsA
        clear hmsA
        gi_wp2_with fail
        refine ⟨⟨g, cap, ws', xs, rfl, ownsRow_kept hrow' kA (by simp), hmA, hinv.skip (.inl hfm), HJ.out _ _ _ hJs (kA.below hkp.size (by simp)), hkp.trans (kA.mono (by simp)), by omega⟩, ?_⟩
        rw [Hms.out, HmsA.out]
        simp only [sliceLen]
        omega
      | none =>
        have hlk := run_look (P := Tryz.prog) Tryz.underlying338 key3 (z := .agg #[]) zero339 hmap f true
        simp only [hsn, Option.map_none, Option.getD_none, eI, Option.isSome_none, if_true] at hlk
        have hfm : f ∉ xs.map Prod.fst := by
          intro hx
          obtain ⟨x, hx, e⟩ := List.mem_map.1 hx
          exact get_none_iff.1 hsn (x.1, ()) (List.mem_map.2 ⟨x, hx, rfl⟩) e
        have Hsn := hide hsn
        clear hsn
        have kA := Keeps.alloc [] wr (.cells #[] 339)
        have hmA := hmap.kept kA (by simp)
        by_cases f1 : f ≤ 1
        · have hmsA := mapSize_is hmA
          rw [List.length_map] at hmsA
          have HmsA := hide hmsA
          clear hmsA
          gi_wp2_with fail
          refine ⟨⟨g, cap, ws', xs, rfl, ownsRow_kept hrow' kA (by simp), hmA, hinv.skip (.inr f1), HJ.out _ _ _ hJs (kA.below hkp.size (by simp)), hkp.trans (kA.mono (by simp)), by omega⟩, ?_⟩
          rw [Hms.out, HmsA.out]
          simp only [sliceLen]
          omega
        · have f2 : 2 ≤ f := by omega
          have hd1 : decide (f ≤ 1) = false := by simp; omega
          obtain ⟨v, lo, hi, ht⟩ : ∃ v lo hi, get S.N f = some (v, lo, hi) := by
            rcases (hinv.wok f (by simp)).1 with e | e | ⟨_, ⟨a, b, c⟩, ht⟩
            · omega
            · omega
            · exact ⟨a, b, c, ht⟩
          have hinv' := hinv.take hw hfm f2 ht
          have hxl' := hinv'.length
          simp only [List.length_append, List.length_cons, List.length_nil] at hxl'
          obtain ⟨o, hrun, hmB⟩ := run_upd (P := Tryz.prog) Tryz.underlying338 key3 hmA f ()
          simp only [eI, eU] at hrun
          have kB : Keeps [W.heap.size] (wr.alloc (.cells #[] 339)) (blk (wr.alloc (.cells #[] 339)) W.heap.size o) := Keeps.blk _ _ _
          have hWr : W.heap.size < wr.heap.size := hmap.lt
          have kAB : Keeps [W.heap.size] wr (blk (wr.alloc (.cells #[] 339)) W.heap.size o) := (kA.mono (by simp)).trans kB
          have hSB := hSr.keeps kAB (fun i hi x => by have := hS0.lt i hi; have := hb.size; simp at x; omega)
          have hpsB := hpsr.keeps kAB (by have := hps0.lt; have := hb.size; simp; omega)
          have hsB : (blk (wr.alloc (.cells #[] 339)) W.heap.size o).heap.size = wr.heap.size + 1 := by simp [blk]
          have cps := hpsB.cell 0
          have c2 := hSB.head.cell 2
          simp at cps c2
          have hl71 := look71' hSB ht
          have kC := Keeps.alloc [] (blk (wr.alloc (.cells #[] 339)) W.heap.size o) (.cells #[.int .i64 v, .int .i64 lo, .int .i64 hi] 228)
          have hNC := CellsAt.new (blk (wr.alloc (.cells #[] 339)) W.heap.size o) #[.int .i64 v, .int .i64 lo, .int .i64 hi] 228
          have kABC := kAB.trans (kC.mono (by simp))
          have hJC : J xs _ := HJ.out _ _ _ hJs (kABC.below hkp.size (by simp))
          have hmC := hmB.kept kC (by simp)
          have hrowC := ownsRow_kept hrow' kABC (fun i e => by
            simp only [Value.ownBlock, Option.some.injEq] at e
            subst e
            intro x
            simp only [List.mem_singleton] at x
            obtain ⟨es, ck, h1, _⟩ := hmap
            rcases hrow'.2 with ⟨h2, _⟩ | ⟨_, _, _, e2, _, hh, _⟩
            · cases h2
            · cases e2; rw [x, h1] at hh; cases hh)
          obtain ⟨fn, tmps, assign, body, hy, hR⟩ := HY.out xs (f, (v, lo, hi)) _ hJC ⟨ht, by omega⟩
          simp only [eN] at hy
          gi_wp2_with fail
          refine ⟨fun h => (nomatch h), ?_⟩
          refine hR.mono ?_
          rintro e W3 ⟨rfl, hJ3, k3⟩
          have hlT : ∀ i, W.heap.size ≤ i → i ∉ l :: T := fun i hi x => by
            rcases List.mem_cons.1 x with e | x
            · omega
            · have := (hT _ x).1; have := hb.size; omega
          rw [hsB] at hNC
          have hN3 := hNC.keeps k3 (hlT _ (by omega))
          have hrow3 := ownsRow_kept hrowC k3 (fun i e => by
            simp only [Value.ownBlock, Option.some.injEq] at e
            exact hlT _ (by omega))
          have hm3 := hmC.kept k3 (hlT _ (Nat.le_refl _))
          have k4 := Keeps.alloc [] W3 (.cells #[.int .i64 hi, .int .i64 lo] 3)
          have hrow4 := ownsRow_kept hrow3 k4 (by simp)
          have hcell4 : ∀ (j : Nat) (u : Value), (ints [hi, lo])[j]? = some u → (W3.alloc (.cells #[.int .i64 hi, .int .i64 lo] 3)).cell? ((⟨W3.heap.size, 0, none⟩ : Addr).add j) = some u := by
            intro j u hu
            rw [Addr.add_lit, Nat.zero_add, (CellsAt.new W3 #[.int .i64 hi, .int .i64 lo] 3).cell j]
            rw [← hu, ← List.getElem?_toArray]
            rfl
          have hsz3 : W.heap.size ≤ W3.heap.size := by have := k3.size; have := kABC.size; omega
          have n1 := hN3.cell 1
          have n2 := hN3.cell 2
          simp at n1 n2
          clear hR hy hl71 cps c2 hrun hlk hcell
          gi_wp2_with (gi_at_builtin; refine wpListIn_append_own _ rfl _ _ 40 rfl W.heap.size 3 i0 (.int .i64 0) 1 8 Tryz.underlying40 hi0 hz0 hz1 hz2 rfl (by decide) _ ws'.length (ints ws') rfl hrow4 ⟨W3.heap.size, 0, none⟩ 2 2 (ints [hi, lo]) rfl (by simp [ints]) hcell4 (ints_one _) (by unfold maxLen; omega) (by omega) (by simp; omega) ?_)
          intro v' W5 hown' hgrow hnil
          have hex : ∃ g' cap', v' = .slice (some ⟨g', 0, none⟩) (ws'.length + 2) cap' := by
            rcases hown'.2 with ⟨e, e2⟩ | ⟨g', cap', cur, e, _⟩
            · omega
            · exact ⟨g', cap', e⟩
          obtain ⟨g', cap', hv'⟩ := hex
          subst hv'
          have k5 : Keeps [g] (W3.alloc (.cells #[.int .i64 hi, .int .i64 lo] 3)) W5 := grownBy_keeps' hgrow [g] (fun r e => by
            simp only [Value.ownBlock, Option.some.injEq] at e
            exact .inl (by simp [e]))
          have hgm : W.heap.size ≠ g := fun e => by
            obtain ⟨es, ck, h1, _⟩ := hm3
            rcases hrow3.2 with ⟨h2, _⟩ | ⟨_, _, _, e2, _, hh, _⟩
            · cases h2
            · cases e2; rw [← e, h1] at hh; cases hh
          have hm5 := (hm3.kept k4 (by simp)).kept k5 (by simpa using hgm)
          have hms5 := mapSize_is hm5
          have Hms5 := hide hms5
          clear hms5 hnil
          have hput : put (xs.map fun x => (x.1, ())) f () = (xs ++ [(f, (v, lo, hi))]).map fun x => (x.1, ()) := by
            unfold put
            rw [Hsn.out]
            simp
          have Hput := hide hput
          clear hput
          gi_wp2_with fail
          refine ⟨⟨g', cap', ws' ++ [hi, lo], xs ++ [(f, (v, lo, hi))], by simp, ?_, ?_, hinv', ?_, ?_, ?_⟩, ?_⟩
          · have : ints (ws' ++ [hi, lo]) = ints ws' ++ ints [hi, lo] := by simp [ints]
            rw [this]
            simpa using hown'
          · rw [← Hput.out]; exact hm5
          · exact HJ.out _ _ _ hJ3 ((k4.mono (T' := [g]) (by simp)).trans k5 |>.below hsz3 (by simp; exact hat.1))
          · refine ((hkp.trans_new kABC (by simp)).trans k3).trans_new ((k4.mono (T' := [g]) (by simp)).trans k5) ?_
            intro i hi
            simp only [List.mem_singleton] at hi
            exact .inr (by omega)
          · simp only [List.length_append, List.length_cons, List.length_nil]; omega
          · rw [Hms.out, Hms5.out, Hput.out]
            simp only [sliceLen, List.length_map, List.length_append, List.length_cons, List.length_nil]
            omega

end Go.Proofs.YtgjomknpjigkhaaGreatDoor

namespace Go.Proofs.YtgjomknpjigkhaaGreatDoor
open Go.RowKit Go.Shelf

set_option maxHeartbeats 400000 in
theorem nodes_calls (w : World) (p : Addr) (s : Option Addr) (n c : Nat) :
    Calls Tryz.prog 236 #[.pointer (some p), .slice s n c] w fun e w' => e = .returned (.func (.func 280) #[] #[.pointer (some ⟨w.heap.size + 1, 0, none⟩), .pointer (some ⟨w.heap.size, 0, none⟩)]) ∧
      w' = (w.alloc (.cells #[.pointer (some p)] 135)).alloc (.cells #[.slice s n c] 40) := by
  go_enter Tryz.func236, Tryz.ntmps236
  go_wp2
  go_ret
  exact ⟨rfl, rfl⟩

theorem size_alloc' (w : World) (o : Obj) : (w.alloc o).heap.size = w.heap.size + 1 := by simp
theorem StoreAt.fresh' {w : World} {B : SB} {S : ST} (h : StoreAt w B S) {i : Nat} (hi : w.heap.size ≤ i) : i ∉ B.own := fun x => by have := h.lt _ x; omega

attribute [local go_sem] Oper.semAt_some

set_option maxRecDepth 100000 in
set_option maxHeartbeats 1000000 in
theorem size_in (n : Nat) {w : World} {B : SB} {S : ST} (hS : StoreAt w B S) (hw : WF S) (f : Int) (okf : S.ok f) (hN : S.N.length ≤ 100000000) :
    CallsIn Fence.wide n Tryz.prog 182 #[.pointer (some ⟨B.b, 0, none⟩), .int .i64 f] w fun e w' => (∃ xs, e = .returned (.int .i64 (xs.length : Nat)) ∧ GoodNodes S [f] xs) ∧ Keeps [] w w' := by
  refine callsIn_of_wp_marks Tryz.func182 rfl trivial ?_ rfl
  simp only [Tryz.ntmps182, List.size_toArray, List.length_cons, List.length_nil, Nat.reduceAdd, Nat.reduceSub, Array.replicate_succ, Array.replicate_zero, List.push_toArray, List.append_toArray, List.nil_append, List.cons_append]
  gi_wp2_with fail
  refine ⟨trivial, fun h => (nomatch h), ?_⟩
  refine (callsIn_wide.2 (nodes_calls _ _ _ _ _)).mono ?_
  rintro e W ⟨rfl, rfl⟩
  gi_wp2_with fail
  have z1 := size_alloc' w (.cells #[.int .i64 0] 3)
  have z2 := size_alloc' (w.alloc (.cells #[.int .i64 0] 3)) (.cells #[.int .i64 f] 3)
  have z3 := size_alloc' ((w.alloc (.cells #[.int .i64 0] 3)).alloc (.cells #[.int .i64 f] 3)) (.cells #[.pointer (some ⟨B.b, 0, none⟩)] 135)
  have a1 := CellsAt.new w #[.int .i64 0] 3
  have a2 := CellsAt.new (w.alloc (.cells #[.int .i64 0] 3)) #[.int .i64 f] 3
  have a3 := CellsAt.new ((w.alloc (.cells #[.int .i64 0] 3)).alloc (.cells #[.int .i64 f] 3)) #[.pointer (some ⟨B.b, 0, none⟩)] 135
  have a4 := CellsAt.new (((w.alloc (.cells #[.int .i64 0] 3)).alloc (.cells #[.int .i64 f] 3)).alloc (.cells #[.pointer (some ⟨B.b, 0, none⟩)] 135)) #[.slice (some ⟨w.heap.size + 1, 0, none⟩) 1 1] 40
  have k1 := Keeps.alloc [] w (.cells #[.int .i64 0] 3)
  have k2 := Keeps.alloc [] (w.alloc (.cells #[.int .i64 0] 3)) (.cells #[.int .i64 f] 3)
  have k3 := Keeps.alloc [] ((w.alloc (.cells #[.int .i64 0] 3)).alloc (.cells #[.int .i64 f] 3)) (.cells #[.pointer (some ⟨B.b, 0, none⟩)] 135)
  have k4 := Keeps.alloc [] (((w.alloc (.cells #[.int .i64 0] 3)).alloc (.cells #[.int .i64 f] 3)).alloc (.cells #[.pointer (some ⟨B.b, 0, none⟩)] 135)) (.cells #[.slice (some ⟨w.heap.size + 1, 0, none⟩) 1 1] 40)
  have z4 := size_alloc' (((w.alloc (.cells #[.int .i64 0] 3)).alloc (.cells #[.int .i64 f] 3)).alloc (.cells #[.pointer (some ⟨B.b, 0, none⟩)] 135)) (.cells #[.slice (some ⟨w.heap.size + 1, 0, none⟩) 1 1] 40)
  rw [z1] at z2 a2
  rw [z2] at z3 a3
  rw [z3] at z4 a4
  have b1 := ((a1.keeps k2 (by simp)).keeps k3 (by simp)).keeps k4 (by simp)
  have b2 := (a2.keeps k3 (by simp)).keeps k4 (by simp)
  have b3 := a3.keeps k4 (by simp)
  have kk := ((k1.trans k2).trans k3).trans k4
  have hS4 := hS.keeps kk (by simp)
  clear k1 k2 k3 k4 a1 a2 a3 z1 z2 z3
  generalize (((w.alloc (.cells #[.int .i64 0] 3)).alloc (.cells #[.int .i64 f] 3)).alloc (.cells #[.pointer (some ⟨B.b, 0, none⟩)] 135)).alloc (.cells #[.slice (some ⟨w.heap.size + 1, 0, none⟩) 1 1] 40) = W0 at z4 a4 b1 b2 b3 kk hS4 ⊢
  have hrow : RowIs W0 (w.heap.size + 1) [f] := ⟨_, b2, fun i x hx => by
    cases i with
    | zero => simp only [List.getElem?_cons_zero, Option.some.injEq] at hx; subst hx; rfl
    | succ i => simp at hx⟩
  have hit := nodes_iter hS4 hw (w.heap.size + 1 + 1 + 1) (w.heap.size + 1 + 1) (w.heap.size + 1) 1 [f] a4 b3 hrow (by intro r hr; simp only [List.mem_singleton] at hr; subst hr; exact okf) (by simp) hN [w.heap.size] (by
    intro t ht
    simp only [List.mem_singleton] at ht
    subst ht
    exact ⟨by omega, hS.fresh' (Nat.le_refl _), by omega⟩)
  refine range_law (gf := 280) (lb := #[.pointer (some ⟨w.heap.size + 1 + 1 + 1, 0, none⟩), .pointer (some ⟨w.heap.size + 1 + 1, 0, none⟩)]) rfl (enters_of Tryz.func280 (by kernel_rfl) rfl) (T := [w.heap.size]) (by simp; omega) hit (fun _ => rfl)
    (fun pre W => CellsAt W w.heap.size #[.int .i64 (pre.length : Nat)]) (fun pre W1 W2 h hb => h.of_heap (hb.block _ (by omega))) b1
    (fun x a' W => a' = { tmps := #[.pointer (some ⟨B.b, 0, none⟩), .int .i64 f, undef, undef, .int .i64 0, .pointer (some ⟨w.heap.size, 0, none⟩), .pointer (some ⟨B.b, 0, none⟩), .int .i64 f, .slice (some ⟨w.heap.size + 1, 0, none⟩) 1 1,
      .func (.func 280) #[] #[.pointer (some ⟨w.heap.size + 1 + 1 + 1, 0, none⟩), .pointer (some ⟨w.heap.size + 1 + 1, 0, none⟩)], .int .i64 x.1, .agg #[.int .i64 x.2.1, .int .i64 x.2.2.1, .int .i64 x.2.2.2], undef, undef, undef], defers := [] })
    (fun x a' W1 W2 h _ => h) ?assign ?body ?done
  case assign =>
    intro l pre x W K hlt hi hc hK
    gi_wp2
    exact hK _ _ (by simp [eN]) (Keeps.refl _ _)
  case body =>
    rintro l pre x a' W hlt hi hc rfl
    have c0 := hi.cell 0
    have f0 := hi.frozen 0
    simp at c0
    have hp := hc.2
    have hp2 : (pre.length : Int) < 100000000 := by omega
    gi_wp2
    refine ⟨?_, Keeps.setCell W ⟨w.heap.size, 0, none⟩ _⟩
    have := hi.setCell 0 (.int .i64 ((pre.length : Nat) + 1))
    simpa using this
  case done =>
    intro xs W hG hi hk hlt hD
    have c0 := hi.cell 0
    simp at c0
    gi_wp2
    refine ⟨by simp, .inl ⟨_, _, rfl, run_takeDeferred hD, ?_⟩⟩
    refine ⟨_, results_tmp rfl _ _ _, ⟨xs, rfl, hG⟩, ?_⟩
    refine ((kk.trans_new hk ?_).trans_new (Keeps.putObj W W0.heap.size _) ?_)
    · intro i hi; simp only [List.mem_singleton] at hi; exact .inr (by omega)
    · intro i hi; simp only [List.mem_singleton] at hi; exact .inr (by omega)

theorem size_calls {w : World} {B : SB} {S : ST} (hS : StoreAt w B S) (hw : WF S) (f : Int) (okf : S.ok f) (hN : S.N.length ≤ 100000000) :
    Calls Tryz.prog 182 #[.pointer (some ⟨B.b, 0, none⟩), .int .i64 f] w fun e w' => (∃ xs, e = .returned (.int .i64 (xs.length : Nat)) ∧ GoodNodes S [f] xs) ∧ Keeps [] w w' :=
  callsIn_wide.1 (size_in 0 hS hw f okf hN)

end Go.Proofs.YtgjomknpjigkhaaGreatDoor
