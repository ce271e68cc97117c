/- R8. -/
import Derived.Test.YtgjomknpjigkhaaGreatDoorMRange
import Derived.Test.YtgjomknpjigkhaaGreatDoorR6
import Derived.Test.YtgjomknpjigkhaaGreatDoorMSwap
namespace Go.Proofs.YtgjomknpjigkhaaGreatDoor
open Go.RowKit Go.Shelf
attribute [local go_sem] Oper.semAt_some

/-- What has been told of a map. -/
structure VInv (L : List (Int × Int)) (pre : List (Int × Int)) (left : List Int) : Prop where
  mem : ∀ a v, (a, v) ∈ pre ↔ get L a = some v ∧ a ∉ left
  len : pre.length + left.length ≤ L.length

theorem VInv.start (L : List (Int × Int)) : VInv L [] (L.map Prod.fst) :=
  ⟨fun a v => ⟨fun h => (by simp at h), fun ⟨h, hn⟩ => absurd (List.mem_map.2 ⟨_, get_some_mem h, rfl⟩) hn⟩, by simp⟩

theorem VInv.step {L pre : List (Int × Int)} {left : List Int} (h : VInv L pre left) {a v : Int} (ha : a ∈ left) (hg : get L a = some v) : VInv L (pre ++ [(a, v)]) (left.filter (fun b => decide (b ≠ a))) := by
  refine ⟨fun b u => ?_, by have := filter_less ha; have := h.len; simp only [List.length_append, List.length_cons, List.length_nil]; omega⟩
  rw [List.mem_append, h.mem]
  simp only [List.mem_filter, decide_eq_true_eq, not_and, Classical.not_not, List.mem_singleton, Prod.mk.injEq]
  constructor
  · rintro (⟨x, y⟩ | ⟨rfl, rfl⟩)
    · exact ⟨x, fun c => absurd c y⟩
    · exact ⟨hg, fun _ => rfl⟩
  · rintro ⟨x, y⟩
    by_cases c : b ∈ left
    · have e := y c
      subst e
      rw [hg] at x
      exact .inr ⟨rfl, (Option.some.inj x).symm⟩
    · exact .inl ⟨x, c⟩

def eV (x : Int × Int) : Array Value := #[.int .i64 x.2]

def AllOf (L xs : List (Int × Int)) : Prop := (∀ a v, (a, v) ∈ xs ↔ get L a = some v) ∧ xs.length ≤ L.length

theorem Grows.trans_keeps {b : Nat} {T T' : List Nat} {x y z : World} (h : Grows b T x y) (k : Keeps T' y z) (hT : ∀ i ∈ T', i ∈ T ∨ x.heap.size ≤ i) : Grows b T x z :=
  ⟨k.os.trans h.os, k.tape.trans h.tape, k.output.trans h.output, Nat.le_trans h.size k.size, fun i hi hn hc => (k.block i (Nat.lt_of_lt_of_le hi h.size) (fun x => by
    rcases hT i x with h1 | h1
    · exact hn h1
    · omega)).trans (h.block i hi hn hc)⟩

theorem MapRange.no_cells {α β : Type} {ek : α → Value} {ev : β → Value} {w : World} {rm it : Nat} {L : List (α × β)} {left : List α} (h : MapRange ek ev w rm it L left) : ∀ cs t f, w.heap[it]? ≠ some (.cells cs t f) := by
  intro cs t f x
  obtain ⟨es, clock, since, seen, c0, h1, h2, h3, h4, h5, h6, _⟩ := h
  rw [h6] at x
  cases x

set_option maxRecDepth 100000 in
set_option maxHeartbeats 2000000 in
theorem values_iter {w : World} {r p : Nat} {L : List (Int × Int)} (hp0 : CellsAt w p #[.map (some r)]) (hm0 : MapIs eI eI w r L) (T : List Nat) (hT : ∀ t ∈ T, t < w.heap.size ∧ t ≠ r) :
    IterG 285 #[.pointer (some ⟨p, 0, none⟩)] eV (fun pre x => get L x.1 = some x.2 ∧ pre.length < L.length) (AllOf L) T w := by
  intro n l J W hl hlW hb hJ hY h0
  have hp := hp0.of_heap (w' := W) (hb.block p hp0.lt)
  have hm := hm0.of_heap (w' := W) (hb.block r hm0.lt)
  obtain ⟨o3, hrun3, hmr⟩ := run_maprange (P := Tryz.prog) (K := 3) (E := 3) Tryz.underlying146 hm
  have c0 := hp.cell 0
  simp at c0
  have kR := Keeps.alloc [] W o3
  have hJ1 := hJ _ _ _ h0 (kR.still (by simp))
  have gR : Grows w.heap.size (l :: T) W (W.alloc o3) := kR.grows (by simp)
  have HY := hide hY
  have HJ := hide hJ
  clear hY hJ
  refine callsIn_of_wp Tryz.func285 rfl trivial ?_ rfl
  simp only [Tryz.ntmps285, List.size_toArray, List.length_cons, List.length_nil, Nat.reduceAdd, Nat.reduceSub, Array.replicate_succ, Array.replicate_zero, List.push_toArray, List.append_toArray, List.nil_append, List.cons_append]
  gi_wp2_with fail
  have hmr' : MapRange eI eI (W.alloc o3) r W.heap.size L (L.map Prod.fst) := hmr
  clear hrun3 hmr c0
  gi_loopw [4] (fun _ wr => ∃ (xs : List (Int × Int)) (left : List Int), MapRange eI eI wr r W.heap.size L left ∧ VInv L xs left ∧ J xs wr ∧ Grows w.heap.size (l :: T) W wr)
    (fun _ wr => leftCount wr W.heap.size)
  case atStart => exact ⟨[], L.map Prod.fst, hmr', VInv.start L, hJ1, gR⟩
  case round =>
    obtain ⟨xs, left, hmr, hinv, hJs, hgr⟩ := hrel
    clear hmr' hJ1 gR
    have Hcnt := hide (leftCount_is hmr)
    rcases hmr.next (P := Tryz.prog) eI_inj 0 with ⟨hle, hrun⟩ | ⟨f, t, W1, hf, ht, hrun, hen, hmr1, k1, hs1⟩
    · have hrun' := fun (ty : TypeId) => (show (Instr.next (.pointer (some ⟨W.heap.size, 0, none⟩)) false ty).run Tryz.prog wr = _ from hrun)
      clear hrun
      subst hle
      gi_wp2_with fail
      go_end0
      exact ⟨⟨_, rfl⟩, xs, ⟨fun a v => by rw [hinv.mem]; simp, by have := hinv.len; omega⟩, hJs, hgr⟩
    · have hrun' := fun (ty : TypeId) => (show (Instr.next (.pointer (some ⟨W.heap.size, 0, none⟩)) false ty).run Tryz.prog wr = _ from hrun)
      simp only [eI] at hrun' hen
      clear hrun hs1
      have hJ1 := HJ.out _ _ _ hJs (k1.still (by simp only [List.mem_singleton]; rintro i rfl; exact ⟨Nat.le_refl _, hmr.no_cells⟩))
      have hlen := hinv.len
      have hlp : 0 < left.length := List.length_pos_of_mem hf
      obtain ⟨fn, tmps, assign, body, hy, hR⟩ := HY.out xs (f, t) _ hJ1 ⟨ht, by omega⟩
      simp only [eV] at hy
      gi_wp2_with fail
      refine ⟨fun h => (nomatch h), ?_⟩
      refine hR.mono ?_
      rintro e W3 ⟨rfl, hJ3, g3⟩
      have hrl : r < w.heap.size := hm0.lt
      have hmr3 := hmr1.of_heap (w' := W3) (g3.block _ hmr1.is.lt (fun x => by
          rcases List.mem_cons.1 x with e | x
          · omega
          · exact (hT _ x).2 rfl) (.inl hrl)) (g3.block _ hmr1.it_lt (fun x => by
          rcases List.mem_cons.1 x with e | x
          · omega
          · have := (hT _ x).1; have := hb.size; omega) (.inr hmr1.no_cells))
      have hg3 : Grows w.heap.size (l :: T) W W3 := (hgr.trans_keeps k1 (by simp)).trans g3
      have hc3 := hide (leftCount_is hmr3)
      have Hless := hide (filter_less hf)
      gi_wp2_with fail
      refine ⟨⟨xs ++ [(f, t)], _, hmr3, hinv.step hf ht, hJ3, hg3⟩, ?_⟩
      rw [Hcnt.out, hc3.out]
      exact Hless.out

set_option maxHeartbeats 400000 in
theorem values_calls (w : World) (r : Option Nat) :
    Calls Tryz.prog 241 #[.map r] w fun e w' => e = .returned (.func (.func 285) #[] #[.pointer (some ⟨w.heap.size, 0, none⟩)]) ∧ w' = w.alloc (.cells #[.map r] 146) := by
  go_enter Tryz.func241, Tryz.ntmps241
  go_wp2
  go_ret
  exact ⟨rfl, rfl⟩

set_option maxRecDepth 100000 in
set_option maxHeartbeats 2000000 in
theorem appendSeq_in (n : Nat) {w : World} {r p : Nat} {L : List (Int × Int)} (hp : CellsAt w p #[.map (some r)]) (hm : MapIs eI eI w r L) (hL : L.length ≤ 1000000) :
    CallsIn Fence.wide n Tryz.prog 294 #[.slice none 0 0, .func (.func 285) #[] #[.pointer (some ⟨p, 0, none⟩)]] w fun e w' => ∃ v xs, e = .returned v ∧ w'.ownsRow w.heap.size 3 1 v xs.length (ints (xs.map Prod.snd)) ∧ AllOf L xs ∧ Keeps [] w w' := by
  obtain ⟨i0, hi0, hz0, hz1, hz2⟩ := info_parts info3
  refine callsIn_of_wp_marks Tryz.func294 rfl trivial ?_ rfl
  simp only [Tryz.ntmps294, List.size_toArray, List.length_cons, List.length_nil, Nat.reduceAdd, Nat.reduceSub, Array.replicate_succ, Array.replicate_zero, List.push_toArray, List.append_toArray, List.nil_append, List.cons_append]
  gi_wp2_with fail
  have k1 := Keeps.alloc [] w (.cells #[.slice none 0 0] 40)
  have a1 := CellsAt.new w #[.slice none 0 0] 40
  have z1 := size_alloc' w (.cells #[.slice none 0 0] 40)
  have hp1 := hp.keeps k1 (by simp)
  have hm1 := hm.kept k1 (by simp)
  generalize w.alloc (.cells #[.slice none 0 0] 40) = W0 at k1 a1 z1 hp1 hm1 ⊢
  have hit := values_iter hp1 hm1 [w.heap.size] (by
    intro t ht
    simp only [List.mem_singleton] at ht
    subst ht
    have := hm.lt
    exact ⟨by omega, by omega⟩)
  have hAll : ∀ {V : World} {v : Value} {m : Nat} {xs : List Value}, V.ownsRow (w.heap.size + 1) 3 1 v m xs → ∀ i, v.ownBlock = some i → i ≠ w.heap.size := fun h i hi => by have := (own_base h i hi).1; omega
  refine range_lawG (gf := 285) (lb := #[.pointer (some ⟨p, 0, none⟩)]) rfl (enters_of Tryz.func285 (by kernel_rfl) rfl) (T := [w.heap.size]) (by simp; omega) hit (fun _ => rfl)
    (fun pre W => ∃ v, CellsAt W w.heap.size #[v] ∧ W.ownsRow (w.heap.size + 1) 3 1 v pre.length (ints (pre.map Prod.snd)))
    (fun pre W1 W2 ⟨v, h1, h2⟩ hb => ⟨v, h1.of_heap (hb.block _ h1.lt (.inl (by omega))), by
      obtain ⟨e0, ⟨e1, e2⟩ | ⟨g, cap, cur, e1, e2, e3, e4⟩⟩ := h2
      · exact ⟨e0, .inl ⟨e1, e2⟩⟩
      · exact ⟨e0, .inr ⟨g, cap, cur, e1, e2, (hb.block _ (Array.getElem?_eq_some_iff.1 e3).1 (.inr ⟨_, _, _, e3⟩)).trans e3, e4⟩⟩⟩) ⟨_, a1, ⟨rfl, .inl ⟨rfl, rfl⟩⟩⟩
    (fun x a' W => a' = { tmps := #[.slice none 0 0, .func (.func 285) #[] #[.pointer (some ⟨p, 0, none⟩)], .pointer (some ⟨w.heap.size, 0, none⟩), undef, .slice none 0 0, .int .i64 x.2, .func (.func 285) #[] #[.pointer (some ⟨p, 0, none⟩)], .int .i64 x.2, undef, undef, undef, undef, undef], defers := [] })
    (fun x a' W1 W2 h _ => h) ?assign ?body ?done
  case assign =>
    intro l pre x W K hlt hi hc hK
    simp only [eV, List.zip_toArray, List.zip_cons_cons, List.zip_nil_right, List.foldl_toArray', List.size_toArray, List.length_cons, List.length_nil, List.foldl_cons, List.foldl_nil, List.setIfInBounds_toArray, List.set_cons_succ, List.set_cons_zero]
    gi_wp2
    exact hK _ _ rfl (Keeps.refl _ _)
  case body =>
    rintro l pre ⟨k, y⟩ a' W hlt ⟨v, hi, hown⟩ ⟨hc, hpl⟩ rfl
    dsimp only at hc hpl
    have c0 := hi.cell 0
    simp at c0
    have kB := Keeps.alloc [] W (.cells #[.int .i64 y] 3)
    have hFB := CellsAt.new W #[.int .i64 y] 3
    have hownB := ownsRow_kept hown kB (by simp)
    have hiB := hi.keeps kB (by simp)
    have hcellB : ∀ (j : Nat) (x : Value), (ints [y])[j]? = some x → (W.alloc (.cells #[.int .i64 y] 3)).cell? ((⟨W.heap.size, 0, none⟩ : Addr).add j) = some x := by
      intro j x hx
      obtain ⟨y', hy, rfl⟩ := ints_get [y] j x hx
      rw [Addr.add_lit, Nat.zero_add, hFB.cell]
      cases j with
      | zero => simp at hy; subst hy; rfl
      | succ j => simp at hy
    have hszB : w.heap.size + 1 ≤ (W.alloc (.cells #[.int .i64 y] 3)).heap.size := by rw [size_alloc']; omega
    have Hown := hide hown
    clear hFB hown
    gi_wp2_with (gi_at_builtin; refine wpListIn_append_own _ rfl _ _ 40 rfl (w.heap.size + 1) 3 i0 (.int .i64 0) 1 8 Tryz.underlying40 hi0 hz0 hz1 hz2 rfl (by decide) _ pre.length (ints (pre.map Prod.snd)) rfl hownB ⟨W.heap.size, 0, none⟩ 1 1 (ints [y]) rfl (by simp [ints]) hcellB (ints_one _) (by unfold maxLen; omega) (by omega) hszB ?_)
    intro v' W5 hown' hgrow hnil
    have hex : ∃ g' cap', v' = .slice (some ⟨g', 0, none⟩) (pre.length + 1) cap' := by
      rcases hown'.2 with ⟨e, e2⟩ | ⟨g', cap', cur, e, _⟩
      · omega
      · exact ⟨g', cap', e⟩
    obtain ⟨g', cap', hv'⟩ := hex
    subst hv'
    have k5 := grownBy_keeps' hgrow v.ownBlock.toList (fun r e => .inl (by rw [e]; simp))
    have hi5 := hiB.keeps k5 (fun x => hAll hownB _ (by simpa using x) rfl)
    have g5 : Grows (w.heap.size + 1) [w.heap.size] W W5 := (kB.grows (by simp)).trans (k5.growsRow (fun i hi => .inr (by
      obtain ⟨b1, cs, t, b2⟩ := own_base hownB i (by simpa using hi)
      exact ⟨by omega, cs, t, _, b2⟩)))
    have c5 := hi5.cell 0
    have f5 := hi5.frozen 0
    simp at c5
    have hs5 := hi5.setCell 0 (.slice (some ⟨g', 0, none⟩) (pre.length + 1) cap')
    have k6 := Keeps.setCell W5 ⟨w.heap.size, 0, none⟩ (.slice (some ⟨g', 0, none⟩) (pre.length + 1) cap')
    have hown6 := hide (ownsRow_kept hown' k6 (fun i hi x => by simp only [List.mem_singleton] at x; exact hAll hown' i hi x))
    clear hown' hgrow hnil hownB
    gi_wp2_with fail
    exact ⟨⟨_, by simpa using hs5, by simpa [ints] using hown6.out⟩, g5.trans (k6.grows (by simp))⟩
  case done =>
    rintro xs W hG ⟨v, hi, hown⟩ hk hlt hD
    have c0 := hi.cell 0
    simp at c0
    have Hown := hide hown
    clear hown
    gi_wp2_with fail
    refine ⟨by simp, .inl ⟨_, _, rfl, run_takeDeferred hD, ?_⟩⟩
    refine ⟨_, results_tmp rfl _ _ _, v, xs, rfl, ?_, hG, ?_⟩
    · refine ownsRow_base (ownsRow_kept Hown.out (Keeps.putObj W W0.heap.size _) ?_) (by omega : w.heap.size ≤ w.heap.size + 1)
      intro i hi' x
      simp only [List.mem_singleton] at x
      obtain ⟨b1, cs, t, b2⟩ := own_base Hown.out i hi'
      rw [x, hD] at b2
      cases b2
    · refine ((k1.trans_new hk ?_).trans_new (Keeps.putObj W W0.heap.size _) ?_)
      · intro i hi; simp only [List.mem_singleton] at hi; exact .inr (by omega)
      · intro i hi; simp only [List.mem_singleton] at hi; exact .inr (by omega)

theorem appendSeq_calls {w : World} {r p : Nat} {L : List (Int × Int)} (hp : CellsAt w p #[.map (some r)]) (hm : MapIs eI eI w r L) (hL : L.length ≤ 1000000) :
    Calls Tryz.prog 294 #[.slice none 0 0, .func (.func 285) #[] #[.pointer (some ⟨p, 0, none⟩)]] w fun e w' => ∃ v xs, e = .returned v ∧ w'.ownsRow w.heap.size 3 1 v xs.length (ints (xs.map Prod.snd)) ∧ AllOf L xs ∧ Keeps [] w w' :=
  callsIn_wide.1 (appendSeq_in 0 hp hm hL)

set_option maxHeartbeats 400000 in
theorem collect_calls {w : World} {r p : Nat} {L : List (Int × Int)} (hp : CellsAt w p #[.map (some r)]) (hm : MapIs eI eI w r L) (hL : L.length ≤ 1000000) :
    Calls Tryz.prog 283 #[.func (.func 285) #[] #[.pointer (some ⟨p, 0, none⟩)]] w fun e w' => ∃ v xs, e = .returned v ∧ w'.ownsRow w.heap.size 3 1 v xs.length (ints (xs.map Prod.snd)) ∧ AllOf L xs ∧ Keeps [] w w' := by
  have h := hide (appendSeq_calls hp hm hL)
  go_enter Tryz.func283, Tryz.ntmps283
  go_wp2_with fail
  refine h.out.mono ?_
  rintro e w' ⟨v, xs, rfl, h1, h2, h3⟩
  have H1 := hide h1
  clear h1
  go_wp2_with fail
  go_ret
  exact ⟨v, xs, rfl, H1.out, h2, h3⟩

/-- The values of a map, in order. -/
def ValuesOf (L : List (Int × Int)) (ys : List Int) : Prop := (∀ y, y ∈ ys ↔ ∃ a, get L a = some y) ∧ ys.length ≤ L.length ∧ ys.Pairwise (· ≤ ·)

set_option maxHeartbeats 400000 in
theorem sorted_calls {w : World} {r p : Nat} {L : List (Int × Int)} (hp : CellsAt w p #[.map (some r)]) (hm : MapIs eI eI w r L) (hL : L.length ≤ 1000000) :
    Calls Tryz.prog 240 #[.func (.func 285) #[] #[.pointer (some ⟨p, 0, none⟩)]] w fun e w' => ∃ v ys, e = .returned v ∧ w'.ownsRow w.heap.size 3 1 v ys.length (ints ys) ∧ ValuesOf L ys ∧ Keeps [] w w' := by
  have h := hide (collect_calls hp hm hL)
  go_enter Tryz.func240, Tryz.ntmps240
  go_wp2_with fail
  refine h.out.mono ?_
  rintro e w' ⟨v, xs, rfl, h1, h2, h3⟩
  have h1' : w'.ownsRow w.heap.size 3 1 v (xs.map Prod.snd).length (ints (xs.map Prod.snd)) := by rw [List.length_map]; exact h1
  have hs := hide (sort_own h1' (by rw [List.length_map]; have := h2.2; omega))
  clear h1 h1'
  go_wp2_with fail
  refine hs.out.mono ?_
  rintro e w2 ⟨rfl, h4, T, h5, h6⟩
  have H4 := hide h4
  clear h4
  go_wp2_with fail
  go_ret
  refine ⟨v, sorted (xs.map Prod.snd), rfl, by rw [sorted_length]; exact H4.out, ⟨fun y => ?_, by rw [sorted_length, List.length_map]; exact h2.2, sorted_pairwise _⟩, h3.trans_new h6 (fun i hi => .inr (h5 i hi))⟩
  rw [mem_sorted, List.mem_map]
  constructor
  · rintro ⟨⟨a, v⟩, hx, rfl⟩; exact ⟨a, (h2.1 a v).1 hx⟩
  · rintro ⟨a, hx⟩; exact ⟨(a, y), (h2.1 a y).2 hx, rfl⟩

end Go.Proofs.YtgjomknpjigkhaaGreatDoor
