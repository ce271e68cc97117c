/- T3, T4. -/
import Derived.Test.YtgjomknpjigkhaaGreatDoorT1
import Derived.Test.YtgjomknpjigkhaaGreatDoorT2
import Derived.Test.YtgjomknpjigkhaaGreatDoorR6
namespace Go.Proofs.YtgjomknpjigkhaaGreatDoor
open Go.RowKit Go.Shelf

theorem starts_calls {w : World} {B : SB} {S : ST} (h : StoreAt w B S) (f u : Int) (okf : S.ok f) :
    Calls Tryz.prog 259 #[.pointer (some ⟨B.b, 0, none⟩), .int .i64 f, .int .i64 u] w fun e w' => e = .returned (.bool (S.sts f u)) ∧ w' = w := by
  rcases okf with rfl | rfl | ⟨h2, ⟨v, l, r⟩, ht⟩
  · have e : S.sts 0 u = false := by
      unfold ST.sts
      cases get S.N 0 with
      | none => rfl
      | some t => simp
    rw [e]; exact starts_low _ _ _ (by omega)
  · have e : S.sts 1 u = false := by
      unfold ST.sts
      cases get S.N 1 with
      | none => rfl
      | some t => simp
    rw [e]; exact starts_low _ _ _ (by omega)
  · have e : S.sts f u = (v == u) := by
      have : 1 < f := by omega
      simp only [ST.sts, ht, this, decide_true, Bool.true_and]
      by_cases e : v = u
      · simp [e]
      · simp [e]
    rw [e]; exact starts_high h f u (by omega) v l r ht

theorem sts_iff {S : ST} (hw : WF S) {f u : Int} : S.sts f u = true ↔ Sts S f u := by
  unfold ST.sts Sts
  cases hg : get S.N f with
  | none => simp
  | some t =>
    obtain ⟨a, b, c⟩ := t
    have := (hw.node f a b c hg).1
    simp only [Bool.and_eq_true, decide_eq_true_eq, Option.some.injEq, Prod.mk.injEq]
    constructor
    · rintro ⟨_, rfl⟩; exact ⟨b, c, rfl, rfl, rfl⟩
    · rintro ⟨l, h, rfl, _⟩; exact ⟨by omega, rfl⟩

/-- The list under way. -/
structure JInv (S : ST) (u d : Int) (xs left : List Int) : Prop where
  nodup : xs.Nodup
  mem : ∀ f, f ∈ xs ↔ Joint S u d f ∧ f ∉ left
  len : xs.length + left.length ≤ S.N.length

theorem JInv.start (S : ST) (u d : Int) : JInv S u d [] (S.N.map Prod.fst) := by
  refine ⟨by simp, fun f => ⟨fun h => (by simp at h), fun ⟨⟨l, h, hg, _⟩, hn⟩ => absurd (List.mem_map.2 ⟨_, get_some_mem hg, rfl⟩) hn⟩, by simp⟩

theorem filter_less {left : List Int} {f : Int} (hf : f ∈ left) : (left.filter (fun b => decide (b ≠ f))).length < left.length := by
  have h1 := List.length_filter_lt_length_iff_exists (l := left) (p := fun b => decide (b ≠ f))
  exact h1.2 ⟨f, hf, by simp⟩

theorem JInv.no {S : ST} {u d : Int} {xs left : List Int} (h : JInv S u d xs left) {f : Int} (hf : f ∈ left) (hj : ¬ Joint S u d f) : JInv S u d xs (left.filter (fun b => decide (b ≠ f))) := by
  refine ⟨h.nodup, fun g => ?_, by have := filter_less hf; have := h.len; omega⟩
  rw [h.mem]
  simp only [List.mem_filter, decide_eq_true_eq, not_and, Classical.not_not]
  constructor
  · rintro ⟨a, b⟩; exact ⟨a, fun c => absurd c b⟩
  · rintro ⟨a, b⟩; exact ⟨a, fun c => hj (b c ▸ a)⟩

theorem JInv.yes {S : ST} {u d : Int} {xs left : List Int} (h : JInv S u d xs left) {f : Int} (hf : f ∈ left) (hj : Joint S u d f) : JInv S u d (xs ++ [f]) (left.filter (fun b => decide (b ≠ f))) := by
  refine ⟨?_, fun g => ?_, by have := filter_less hf; have := h.len; simp only [List.length_append, List.length_cons, List.length_nil]; omega⟩
  · refine List.nodup_append.2 ⟨h.nodup, by simp, ?_⟩
    intro a ha b hb
    simp only [List.mem_singleton] at hb
    subst hb
    rintro rfl
    exact ((h.mem _).1 ha).2 hf
  · rw [List.mem_append, h.mem]
    simp only [List.mem_filter, decide_eq_true_eq, not_and, Classical.not_not, List.mem_singleton]
    constructor
    · rintro (⟨a, b⟩ | rfl)
      · exact ⟨a, fun c => absurd c b⟩
      · exact ⟨hj, fun _ => rfl⟩
    · rintro ⟨a, b⟩
      by_cases c : g ∈ left
      · exact .inr (b c)
      · exact .inl ⟨a, c⟩

theorem own_base {w : World} {base : Nat} {e : TypeId} {size n : Nat} {v : Value} {xs : List Value} (h : w.ownsRow base e size v n xs) : ∀ i, v.ownBlock = some i → base ≤ i ∧ ∃ cs t, w.heap[i]? = some (.cells cs t (0, 0)) := by
  intro i hi
  obtain ⟨_, ⟨rfl, _⟩ | ⟨g, cap, cur, rfl, hb, hg, _⟩⟩ := h
  · simp [Value.ownBlock] at hi
  · simp only [Value.ownBlock, Option.some.injEq] at hi
    subst hi
    exact ⟨hb, _, _, hg⟩

theorem own_ne_it {α β : Type} {ek : α → Value} {ev : β → Value} {w : World} {rm it : Nat} {L : List (α × β)} {left : List α} (h : MapRange ek ev w rm it L left) {base : Nat} {e : TypeId} {size n : Nat} {v : Value} {xs : List Value} (ho : w.ownsRow base e size v n xs) : ∀ i, v.ownBlock = some i → i ≠ it := by
  intro i hi x
  obtain ⟨_, cs, t, hg⟩ := own_base ho i hi
  obtain ⟨es, clock, since, seen, c0, h1, h2, h3, h4, h5, h6, _⟩ := h
  rw [x, h6] at hg
  cases hg

attribute [local go_sem] Oper.semAt_some fld80_0 fld80_1 fld80_2

set_option maxRecDepth 100000 in
set_option maxHeartbeats 4000000 in
theorem joints_calls {w : World} {B : SB} {S : ST} (hS : StoreAt w B S) (hw : WF S) (u d : Int) (hN : S.N.length ≤ 100000000) :
    Calls Tryz.prog 281 #[.pointer (some ⟨B.b, 0, none⟩), .int .i64 u, .int .i64 d] w fun e w' => ∃ v xs, e = .returned v ∧ w'.ownsRow w.heap.size 3 1 v xs.length (ints xs) ∧ xs.Nodup ∧ (∀ f, f ∈ xs ↔ Joint S u d f) ∧ xs.length ≤ S.N.length ∧ Keeps [] w w' := by
  obtain ⟨i0, hi0, hz0, hz1, hz2⟩ := info_parts info3
  obtain ⟨o3, hrun3, hmr⟩ := run_maprange (P := Tryz.prog) (K := 3) (E := 228) Tryz.underlying209 hS.nodes
  have c2 := hS.head.cell 2
  simp at c2
  have kR := Keeps.alloc [] w o3
  have hS1 := hS.keeps kR (by simp)
  go_enter Tryz.func281, Tryz.ntmps281
  go_wp2_with fail
  clear c2 hrun3
  have hmr' : MapRange eI eT (w.alloc o3) B.rn w.heap.size S.N (S.N.map Prod.fst) := hmr
  clear hmr
  go_loopw [7] (fun t wr => ∃ (xs left : List Int), wr.ownsRow w.heap.size 3 1 t xs.length (ints xs) ∧ (∀ i, t.ownBlock = some i → i ≠ w.heap.size) ∧ MapRange eI eT wr B.rn w.heap.size S.N left ∧ JInv S u d xs left ∧ StoreAt wr B S ∧ Keeps [] w wr)
      (fun _ wr => leftCount wr w.heap.size)
  case atStart => exact ⟨[], S.N.map Prod.fst, ⟨rfl, .inl ⟨rfl, rfl⟩⟩, by simp [Value.ownBlock], hmr', JInv.start S u d, hS1, kR⟩
  case round =>
    obtain ⟨xs, left, hown, hob, hmr, hinv, hSr, hkr⟩ := hrel
    clear hmr' hS1 kR
    have Hcnt := hide (leftCount_is hmr)
    have Hown := hide hown
    clear hown
    rcases hmr.next (P := Tryz.prog) eI_inj 0 with ⟨hl, hrun⟩ | ⟨f, t, W1, hf, ht, hrun, hen, hmr1, k1, hs1⟩
    · have hrun' := fun (ty : TypeId) => (show (Instr.next (.pointer (some ⟨w.heap.size, 0, none⟩)) false ty).run Tryz.prog wr = _ from hrun)
      clear hrun
      go_wp2_with fail
      refine (sort_own Hown.out (by have := hinv.len; omega)).mono ?_
      rintro e W2 ⟨rfl, hown2, T, hT, k2⟩
      have Hown2 := hide hown2
      clear hown2
      go_wp2_with fail
      go_ret
      subst hl
      refine ⟨_, sorted xs, rfl, by rw [sorted_length]; exact Hown2.out, nodup_sorted hinv.nodup, fun f => by rw [mem_sorted, hinv.mem]; simp, by rw [sorted_length]; have := hinv.len; omega, hkr.trans_new k2 (fun i hi => .inr (hT i hi))⟩
    · have hrun' := fun (ty : TypeId) => (show (Instr.next (.pointer (some ⟨w.heap.size, 0, none⟩)) false ty).run Tryz.prog wr = _ from hrun)
      obtain ⟨v, lo, hi⟩ := t
      simp only [eI, eT] at hrun' hen
      clear hrun hs1
      have hitown : ∀ i ∈ B.own, i ∉ [w.heap.size] := fun i hi x => by simp only [List.mem_singleton] at x; have := hS.lt i hi; omega
      have hS1 := hSr.keeps k1 hitown
      have hown1 := ownsRow_kept Hown.out k1 (fun i hi => by simpa using hob i hi)
      have hk1 : Keeps [] w W1 := hkr.trans_new k1 (fun i hi => by simp only [List.mem_singleton] at hi; exact .inr (by omega))
      have kA := Keeps.alloc [] W1 (.cells #[.int .i64 v, .int .i64 lo, .int .i64 hi] 228)
      have hNA := CellsAt.new W1 #[.int .i64 v, .int .i64 lo, .int .i64 hi] 228
      have hSA := hS1.keeps kA (by simp)
      have hownA := ownsRow_kept hown1 kA (by simp)
      have hmrA := hmr1.of_heap (w' := W1.alloc (.cells #[.int .i64 v, .int .i64 lo, .int .i64 hi] 228)) (kA.block _ hmr1.is.lt (by simp)) (kA.block _ hmr1.it_lt (by simp))
      have hkA := hk1.trans kA
      have HownA := hide hownA
      have Hless := hide (filter_less hf)
      clear hownA hown1 Hown
      obtain ⟨_, _, _, _, _, okl, okh, _, _⟩ := hw.node f v lo hi ht
      have n0 := hNA.cell 0
      have n1 := hNA.cell 1
      have n2 := hNA.cell 2
      simp at n0 n1 n2
      have hfin : ∀ j : Bool, (j = true ↔ Joint S u d f) → True := fun _ _ => trivial
      clear hfin
      by_cases hv : v = u
      · subst hv
        go_wp2_with fail
        refine (starts_calls hSA lo d okl).mono ?_
        rintro e W2 ⟨rfl, rfl⟩
        cases h1 : S.sts lo d with
        | true =>
          have hj : Joint S v d f := ⟨lo, hi, ht, .inl ((sts_iff hw).1 h1)⟩
          have kB := Keeps.alloc [] (W1.alloc (.cells #[.int .i64 v, .int .i64 lo, .int .i64 hi] 228)) (.cells #[.int .i64 f] 3)
          have hFB := CellsAt.new (W1.alloc (.cells #[.int .i64 v, .int .i64 lo, .int .i64 hi] 228)) #[.int .i64 f] 3
          have hownB := ownsRow_kept HownA.out kB (by simp)
          have hmrB := hmrA.of_heap (w' := (W1.alloc (.cells #[.int .i64 v, .int .i64 lo, .int .i64 hi] 228)).alloc (.cells #[.int .i64 f] 3)) (kB.block _ hmrA.is.lt (by simp)) (kB.block _ hmrA.it_lt (by simp))
          have hSB := hSA.keeps kB (by simp)
          have hkB := hkA.trans kB
          have hcellB : ∀ (j : Nat) (x : Value), (ints [f])[j]? = some x → ((W1.alloc (.cells #[.int .i64 v, .int .i64 lo, .int .i64 hi] 228)).alloc (.cells #[.int .i64 f] 3)).cell? ((⟨(W1.alloc (.cells #[.int .i64 v, .int .i64 lo, .int .i64 hi] 228)).heap.size, 0, none⟩ : Addr).add j) = some x := by
            intro j x hx
            obtain ⟨y, hy, rfl⟩ := ints_get [f] j x hx
            rw [Addr.add_lit, Nat.zero_add, hFB.cell]
            cases j with
            | zero => simp at hy; subst hy; rfl
            | succ j => simp at hy
          have hlen := hinv.len
          have hszB := hkB.size
          have HmrB := hide hmrB
          have HSB := hide hSB
          rw [size_alloc'] at hcellB
          clear hFB
          go_wp2_with (at_builtin; refine wpList_append_own _ rfl _ _ 40 rfl w.heap.size 3 i0 (.int .i64 0) 1 8 Tryz.underlying40 hi0 hz0 hz1 hz2 rfl (by decide) _ xs.length (ints xs) rfl hownB ⟨W1.heap.size + 1, 0, none⟩ 1 1 (ints [f]) rfl (by simp [ints]) hcellB (ints_one _) (by unfold maxLen; omega) (by omega) hszB ?_)
          intro v' W5 hown' hgrow hnil
          have k5 := grownBy_keeps' hgrow u7.ownBlock.toList (fun r e => .inl (by rw [e]; simp))
          have hmr5 := hmrB.of_heap (w' := W5) (k5.block _ hmrB.is.lt (fun x => by have := own_base hownB _ (by simpa using x); have := hS.lt B.rn (by simp [SB.own]); omega)) (k5.block _ hmrB.it_lt (fun x => own_ne_it hmrB hownB _ (by simpa using x) rfl))
          have hS5 := hSB.keeps k5 (fun i hi x => by have := own_base hownB _ (by simpa using x); have := hS.lt i hi; omega)
          have hk5 := hkB.trans_new k5 (fun i hi => .inr (own_base hownB _ (by simpa using hi)).1)
          have hc5 := hide (leftCount_is hmr5)
          have hob5 := own_ne_it hmr5 hown'
          have Hown' := hide hown'
          clear hown' hnil hgrow
          go_wp2_with fail
          go_roundw
          · exact ⟨xs ++ [f], _, by simpa [ints] using Hown'.out, hob5, hmr5, hinv.yes hf hj, hS5, hk5⟩
          · rw [Hcnt.out, hc5.out]
            exact Hless.out

        | false =>
          go_wp2_with fail
          refine (starts_calls hSA hi d okh).mono ?_
          rintro e W2 ⟨rfl, rfl⟩
          cases h2 : S.sts hi d with
          | true =>
            have hj : Joint S v d f := ⟨lo, hi, ht, .inr ((sts_iff hw).1 h2)⟩
            have kB := Keeps.alloc [] (W1.alloc (.cells #[.int .i64 v, .int .i64 lo, .int .i64 hi] 228)) (.cells #[.int .i64 f] 3)
            have hFB := CellsAt.new (W1.alloc (.cells #[.int .i64 v, .int .i64 lo, .int .i64 hi] 228)) #[.int .i64 f] 3
            have hownB := ownsRow_kept HownA.out kB (by simp)
            have hmrB := hmrA.of_heap (w' := (W1.alloc (.cells #[.int .i64 v, .int .i64 lo, .int .i64 hi] 228)).alloc (.cells #[.int .i64 f] 3)) (kB.block _ hmrA.is.lt (by simp)) (kB.block _ hmrA.it_lt (by simp))
            have hSB := hSA.keeps kB (by simp)
            have hkB := hkA.trans kB
            have hcellB : ∀ (j : Nat) (x : Value), (ints [f])[j]? = some x → ((W1.alloc (.cells #[.int .i64 v, .int .i64 lo, .int .i64 hi] 228)).alloc (.cells #[.int .i64 f] 3)).cell? ((⟨(W1.alloc (.cells #[.int .i64 v, .int .i64 lo, .int .i64 hi] 228)).heap.size, 0, none⟩ : Addr).add j) = some x := by
              intro j x hx
              obtain ⟨y, hy, rfl⟩ := ints_get [f] j x hx
              rw [Addr.add_lit, Nat.zero_add, hFB.cell]
              cases j with
              | zero => simp at hy; subst hy; rfl
              | succ j => simp at hy
            have hlen := hinv.len
            have hszB := hkB.size
            have HmrB := hide hmrB
            have HSB := hide hSB
            rw [size_alloc'] at hcellB
            clear hFB
            go_wp2_with (at_builtin; refine wpList_append_own _ rfl _ _ 40 rfl w.heap.size 3 i0 (.int .i64 0) 1 8 Tryz.underlying40 hi0 hz0 hz1 hz2 rfl (by decide) _ xs.length (ints xs) rfl hownB ⟨W1.heap.size + 1, 0, none⟩ 1 1 (ints [f]) rfl (by simp [ints]) hcellB (ints_one _) (by unfold maxLen; omega) (by omega) hszB ?_)
            intro v' W5 hown' hgrow hnil
            have k5 := grownBy_keeps' hgrow u7.ownBlock.toList (fun r e => .inl (by rw [e]; simp))
            have hmr5 := hmrB.of_heap (w' := W5) (k5.block _ hmrB.is.lt (fun x => by have := own_base hownB _ (by simpa using x); have := hS.lt B.rn (by simp [SB.own]); omega)) (k5.block _ hmrB.it_lt (fun x => own_ne_it hmrB hownB _ (by simpa using x) rfl))
            have hS5 := hSB.keeps k5 (fun i hi x => by have := own_base hownB _ (by simpa using x); have := hS.lt i hi; omega)
            have hk5 := hkB.trans_new k5 (fun i hi => .inr (own_base hownB _ (by simpa using hi)).1)
            have hc5 := hide (leftCount_is hmr5)
            have hob5 := own_ne_it hmr5 hown'
            have Hown' := hide hown'
            clear hown' hnil hgrow
            go_wp2_with fail
            go_roundw
            · exact ⟨xs ++ [f], _, by simpa [ints] using Hown'.out, hob5, hmr5, hinv.yes hf hj, hS5, hk5⟩
            · rw [Hcnt.out, hc5.out]
              exact Hless.out

          | false =>
            have hnj : ¬ Joint S v d f := by
              rintro ⟨l', h', hj, hs⟩
              rw [ht] at hj
              simp only [Option.some.injEq, Prod.mk.injEq, true_and] at hj
              obtain ⟨rfl, rfl⟩ := hj
              rcases hs with hs | hs
              · rw [(sts_iff hw).2 hs] at h1; cases h1
              · rw [(sts_iff hw).2 hs] at h2; cases h2
            have hcA := hide (leftCount_is hmrA)
            go_wp2_with fail
            go_roundw
            · exact ⟨xs, _, HownA.out, hob, hmrA, hinv.no hf hnj, hSA, hkA⟩
            · rw [Hcnt.out, hcA.out]
              exact Hless.out
      · have hvb : (v == u) = false := by simpa using hv
        have hnj : ¬ Joint S u d f := by
          rintro ⟨l', h', hj, _⟩
          rw [ht] at hj
          simp only [Option.some.injEq, Prod.mk.injEq] at hj
          exact hv hj.1
        have hcA := hide (leftCount_is hmrA)
        go_wp2_with fail
        go_roundw
        · exact ⟨xs, _, HownA.out, hob, hmrA, hinv.no hf hnj, hSA, hkA⟩
        · rw [Hcnt.out, hcA.out]
          exact Hless.out

end Go.Proofs.YtgjomknpjigkhaaGreatDoor

namespace Go.Proofs.YtgjomknpjigkhaaGreatDoor
open Go.RowKit Go.Shelf

theorem RowIs.set {w : World} {b : Nat} {xs : List Int} (h : RowIs w b xs) (i : Nat) (x : Int) : RowIs (w.setCell ⟨b, i, none⟩ (.int .i64 x)) b (xs.set i x) := by
  obtain ⟨cs, h1, h2⟩ := h
  refine ⟨_, h1.setCell i _, fun j y hy => ?_⟩
  rw [List.getElem?_set] at hy
  by_cases e : i = j
  · subst e
    by_cases hi : i < xs.length
    · simp only [if_true, hi, Option.some.injEq] at hy
      subst hy
      have := h2 i _ (List.getElem?_eq_getElem hi)
      have hs : i < cs.size := (Array.getElem?_eq_some_iff.1 this).1
      simp [hs]
    · simp [hi] at hy
  · rw [if_neg e] at hy
    have := h2 j y hy
    rw [Array.getElem?_setIfInBounds, if_neg e]
    exact this

theorem RowIs.frozen {w : World} {b : Nat} {xs : List Int} (h : RowIs w b xs) (i : Nat) : w.frozen? ⟨b, i, none⟩ = false := by
  obtain ⟨cs, h1, _⟩ := h
  exact h1.frozen i

theorem StoreAt.setOrder {w : World} {B : SB} {S : ST} (h : StoreAt w B S) (i : Nat) (x : Int) : StoreAt (w.setCell ⟨B.bo, i, none⟩ (.int .i64 x)) B { S with order := S.order.set i x } := by
  obtain ⟨h1, h2, h3, h4, h5, h6, h7, h8, h9, h10, h11, h12, h13, h14, h15⟩ := SB.own_ne h.apart
  have e : ∀ j, j ≠ B.bo → (w.setCell ⟨B.bo, i, none⟩ (.int .i64 x)).heap[j]? = w.heap[j]? := fun j hj => Below.heap_setCell w _ _ j hj
  exact ⟨by simpa using h.head.of_heap (e _ h1), h.order.set i x, h.place.of_heap (e _ h6.symm), h.nodes.of_heap (e _ h7.symm), h.numbers.of_heap (e _ h8.symm), h.known.of_heap (e _ h9.symm), h.apart⟩

theorem StoreAt.setPlace {w : World} {B : SB} {S : ST} (h : StoreAt w B S) (i : Nat) (x : Int) : StoreAt (w.setCell ⟨B.bp, i, none⟩ (.int .i64 x)) B { S with place := S.place.set i x } := by
  obtain ⟨h1, h2, h3, h4, h5, h6, h7, h8, h9, h10, h11, h12, h13, h14, h15⟩ := SB.own_ne h.apart
  have e : ∀ j, j ≠ B.bp → (w.setCell ⟨B.bp, i, none⟩ (.int .i64 x)).heap[j]? = w.heap[j]? := fun j hj => Below.heap_setCell w _ _ j hj
  exact ⟨by simpa using h.head.of_heap (e _ h2), h.order.of_heap (e _ h6), h.place.set i x, h.nodes.of_heap (e _ h10.symm), h.numbers.of_heap (e _ h11.symm), h.known.of_heap (e _ h12.symm), h.apart⟩

def swapO (o : List Int) (m : Nat) (u d : Int) : List Int := (o.set m d).set (m + 1) u
def swapP (p : List Int) (m : Nat) (u d : Int) : List Int := (p.set u.toNat ((m : Int) + 1)).set d.toNat m

structure SwapPost (S C : ST) (m : Nat) (u d : Int) : Prop where
  wf : WF C
  ok : ∀ f, S.ok f → C.ok f
  den : ∀ f, S.ok f → ∀ σ, C.den f σ = S.den f σ
  order : C.order = swapO S.order m u d
  K : C.K = S.K
  next : C.next ≤ S.next + 2 * S.N.length
  len : C.N.length ≤ 3 * S.N.length

set_option maxRecDepth 100000 in
set_option maxHeartbeats 4000000 in
theorem swap_calls {w : World} {B : SB} {S : ST} (hS : StoreAt w B S) (hw : WF S) (lv : Int) (l0 : 0 ≤ lv) (l1 : lv + 1 < S.order.length) (n8 : S.order.length ≤ 1000) (u d : Int) (hu : S.order[lv.toNat]? = some u) (hd : S.order[lv.toNat + 1]? = some d) (hN : S.N.length ≤ 100000000) (hnx : S.next + 2 * S.N.length + 2 < 9223372036854775807) :
    Calls Tryz.prog 238 #[.pointer (some ⟨B.b, 0, none⟩), .int .i64 lv] w fun e w' => e = .returned (.tuple #[]) ∧ ∃ C, StoreAt w' B C ∧ SwapPost S C lv.toNat u d ∧ Keeps B.own w w' := by
  have hne := SB.own_ne hS.apart
  have hl1 : (lv + 1).toNat = lv.toNat + 1 := by omega
  have l2 : lv < S.order.length := by omega
  have l3 : 0 ≤ lv + 1 := by omega
  have l4 : lv < 9223372036854775807 := by omega
  have hwr : IntKind.i64.wrap (lv + 1) = lv + 1 := by
    rw [IntKind.wrap_i64]
    omega
  have c0 := hS.head.cell 0
  simp at c0
  have r0 := hS.order.cell hu
  have r1 := hS.order.cell hd
  obtain ⟨u0, u1, pu⟩ := hw.ord.op _ _ hu
  obtain ⟨d0, d1, pd⟩ := hw.ord.op _ _ hd
  have Hpu := hide pu
  have Hpd := hide pd
  have Hhu := hide hu
  have Hhd := hide hd
  clear pu pd hu hd
  go_enter Tryz.func238, Tryz.ntmps238
  go_wp2_with fail
  go_quiet (fail)
  clear c0 r0 r1
  have hS1 := hS.drewN nq
  have k1 := Keeps.drewN B.own w nq
  have hz1 : (w.drewN nq).heap.size = w.heap.size := rfl
  have Hz1 := hide hz1
  clear hz1
  generalize w.drewN nq = W1 at hS1 k1 Hz1 ⊢
  go_wp2_with fail
  refine (joints_calls hS1 hw u d hN).mono ?_
  rintro e W2 ⟨v, xs, rfl, hown, hnd, hmem, hxl, k2⟩
  have hS2 := hS1.keeps k2 (by simp)
  have hk2 := k1.trans (k2.mono (by simp))
  have Hown := hide hown
  clear hown
  have c0 := hS2.head.cell 0
  simp at c0
  have f0 := hS2.order.frozen lv.toNat
  have f1 := hS2.order.frozen (lv.toNat + 1)
  have r0 := hS2.order.cell Hhu.out
  have r1 := hS2.order.cell Hhd.out
  go_wp2_with fail
  go_region
  have hS3 := ((hS2.setOrder lv.toNat d).setOrder (lv.toNat + 1) u).drew
  have k3 : Keeps [B.bo] W2 ((W2.setCell ⟨B.bo, lv.toNat, none⟩ (.int .i64 d)).setCell ⟨B.bo, lv.toNat + 1, none⟩ (.int .i64 u)).drew := ((Keeps.setCell W2 ⟨B.bo, lv.toNat, none⟩ (.int .i64 d)).trans (Keeps.setCell _ ⟨B.bo, lv.toNat + 1, none⟩ (.int .i64 u))).trans (Keeps.drew _ _)
  have hlow : ∀ i ∈ B.own, i < w.heap.size := hS.lt
  have hown3 := hide (ownsRow_kept Hown.out k3 (fun i hi x => by simp only [List.mem_singleton] at x; have := (own_base Hown.out i hi).1; have := hlow B.bo (by simp [SB.own]); have := Hz1.out; omega))
  have hk3 := hk2.trans (k3.mono (by simp [SB.own]))
  clear c0 f0 f1 r0 r1 k3 Hown
  generalize ((W2.setCell ⟨B.bo, lv.toNat, none⟩ (.int .i64 d)).setCell ⟨B.bo, lv.toNat + 1, none⟩ (.int .i64 u)).drew = W3 at hS3 hown3 hk3 ⊢
  have c1 := hS3.head.cell 1
  simp at c1
  have f0 := hS3.place.frozen u.toNat
  have f1 := hS3.place.frozen d.toNat
  have r0 := hS3.place.cell Hpu.out
  have r1 := hS3.place.cell Hpd.out
  have hPair : Pair S u d lv.toNat := ⟨u0, u1, d0, d1, by unfold ST.pl; rw [Hpu.out]; rfl, by unfold ST.pl; rw [Hpd.out]; simp⟩
  have hnt : u.toNat ≠ d.toNat := by have := hPair.ne; omega
  have r2 := (hS3.setPlace u.toNat (lv + 1)).place.cell (i := d.toNat) (x := ((lv.toNat + 1 : Nat) : Int)) (by show (S.place.set u.toNat (lv + 1))[d.toNat]? = _; rw [List.getElem?_set, if_neg hnt]; exact Hpd.out)
  have f2 := (hS3.setPlace u.toNat (lv + 1)).place.frozen d.toNat
  have u2 : u < S.place.length := by rw [hw.ord.len]; exact u1
  have d2 : d < S.place.length := by rw [hw.ord.len]; exact d1
  go_wp2_with fail
  go_region
  have hS4 := ((hS3.setPlace u.toNat (lv + 1)).setPlace d.toNat lv).drew
  have k4 : Keeps [B.bp] W3 ((W3.setCell ⟨B.bp, u.toNat, none⟩ (.int .i64 (lv + 1))).setCell ⟨B.bp, d.toNat, none⟩ (.int .i64 lv)).drew := ((Keeps.setCell W3 ⟨B.bp, u.toNat, none⟩ (.int .i64 (lv + 1))).trans (Keeps.setCell _ ⟨B.bp, d.toNat, none⟩ (.int .i64 lv))).trans (Keeps.drew _ _)
  have hown4 := hide (ownsRow_kept hown3.out k4 (fun i hi x => by simp only [List.mem_singleton] at x; have := (own_base hown3.out i hi).1; have := hlow B.bp (by simp [SB.own]); have := Hz1.out; omega))
  have hk4 := hk3.trans (k4.mono (by simp [SB.own]))
  clear c1 f0 f1 r0 r1 k4 hown3 r2 f2
  generalize ((W3.setCell ⟨B.bp, u.toNat, none⟩ (.int .i64 (lv + 1))).setCell ⟨B.bp, d.toNat, none⟩ (.int .i64 lv)).drew = W4 at hS4 hown4 hk4 ⊢
  obtain ⟨o', ho'⟩ : ∃ o', o' = swapO S.order lv.toNat u d := ⟨_, rfl⟩
  obtain ⟨p', hp'⟩ : ∃ p', p' = swapP S.place lv.toNat u d := ⟨_, rfl⟩
  have hS5 : StoreAt W4 B { S with order := o', place := p' } := by
    rw [ho', hp']
    have e : ((lv.toNat : Nat) : Int) = lv := by omega
    unfold swapO swapP
    rw [e]
    exact hS4
  clear hS4
  have hM : Mid S { S with order := o', place := p' } u d lv.toNat xs none := Mid.start hw o' p' (by rw [ho']; simp [swapO]) xs (fun f hf => (hmem f).2 hf)
  have hOrd : Ordered o' p' := by rw [ho', hp']; exact ordered_swap hw.ord Hhu.out Hhd.out
  have hdone : ∀ C, Mid S C u d lv.toNat [] none → C.order = o' → C.place = p' → C.K = S.K → C.next ≤ S.next + 2 * xs.length → C.N.length ≤ S.N.length + 2 * xs.length → SwapPost S C lv.toNat u d := by
    intro C M h1 h2 h3 h4 h5
    have hut : u.toNat < S.place.length := by omega
    have hdt : d.toNat < S.place.length := by omega
    have ep : ∀ v : Nat, p'[v]? = if v = d.toNat then some (lv.toNat : Int) else if v = u.toNat then some ((lv.toNat : Int) + 1) else S.place[v]? := by
      intro v
      rw [hp']
      unfold swapP
      rw [List.getElem?_set, List.getElem?_set]
      by_cases e1 : d.toNat = v
      · subst e1; simp [hdt]
      · have e1' : ¬ v = d.toNat := fun e => e1 e.symm
        rw [if_neg e1, if_neg e1']
        by_cases e2 : u.toNat = v
        · subst e2; simp [hut]
        · have e2' : ¬ v = u.toNat := fun e => e2 e.symm
          rw [if_neg e2, if_neg e2']
    have plC : ∀ v, C.pl v = (p'[v.toNat]?).getD 0 := fun v => by unfold ST.pl; rw [h2]
    obtain ⟨a1, a2, a3⟩ := M.done hw hPair (by rw [h1, h2]; exact hOrd) (by rw [plC, ep, if_neg hnt, if_pos rfl]; rfl) (by rw [plC, ep, if_pos rfl]; rfl) (fun v v0 v1 n1 n2 => by rw [plC, ep, if_neg (by omega), if_neg (by omega)]; rfl)
    exact ⟨a1, a2, a3, by rw [h1, ho'], h3, by omega, by omega⟩
  obtain ⟨hl0, ⟨rfl, hn⟩ | ⟨g, cap, cur, rfl, hb, hg, g1, g2, g3, g4⟩⟩ := id hown4.out
  · have hx : xs = [] := by simpa using hn
    subst hx
    go_wp2_with fail
    refine wp_loop_rounds 1 ?_
    rw [rounds_succ]
    go_wp2_with fail
    go_end0
    exact ⟨rfl, _, hS5, hdone _ hM rfl rfl rfl (by simp) (by simp), hk4⟩
  · have hxb : xs.length ≤ 100000000 := by omega
    have hmj : ∀ f ∈ xs, Joint S u d f := fun f hf => (hmem f).1 hf
    have hgl : g ∉ B.own := fun x => by have := hlow g x; have := Hz1.out; omega
    clear hg g3 g4
    go_wp2_with fail
    go_loopw [60] (fun t wr => ∃ (i : Nat) (C : ST), t = .int .i64 i ∧ i ≤ xs.length ∧ Mid S C u d lv.toNat (xs.drop i) none ∧ StoreAt wr B C ∧ C.order = o' ∧ C.place = p' ∧ C.K = S.K ∧ C.next ≤ S.next + 2 * i ∧ C.N.length ≤ S.N.length + 2 * i ∧ Keeps B.own W4 wr)
      (fun t _ => ((xs.length : Int) - intOf t).toNat)
    case atStart => exact ⟨0, _, rfl, Nat.zero_le _, hM, hS5, rfl, rfl, rfl, by simp, by simp, Keeps.refl _ _⟩
    case round =>
      obtain ⟨i, C, rfl, hi, M, hC, e1, e2, e3, e4, e5, hkr⟩ := hrel
      clear hM hS5
      by_cases hix : i < xs.length
      · have hcell := ownsRow_cell (ownsRow_kept hown4.out hkr (fun j hj x => by simp only [Value.ownBlock, Option.some.injEq] at hj; subst hj; exact hgl x)) (i := i) (x := xs[i]) (List.getElem?_eq_getElem hix)
        have hdr : xs.drop i = xs[i] :: xs.drop (i + 1) := List.drop_eq_getElem_cons hix
        have hlt : (i : Int) < xs.length := by omega
        have hd : decide ((i : Int) < xs.length) = true := by simpa using hix
        have hjx := hmj _ (List.getElem_mem hix)
        rw [hdr] at M
        have hnot : xs[i] ∉ xs.drop (i + 1) := by
          have := (List.drop_sublist i xs).nodup hnd
          rw [hdr] at this
          exact (List.nodup_cons.1 this).1
        clear hdr
        generalize xs[i] = f at hcell M hjx hnot
        have i63 : (i : Int) < 9223372036854775807 := by omega
        have ht := hide (turn_calls hC hw hPair M hjx hnot (by omega))
        go_wp2_with fail
        refine ht.out.mono ?_
        rintro e W6 ⟨rfl, C', hC', M', P', k6⟩
        go_wp2_with fail
        go_roundw
        · exact ⟨i + 1, C', by simp, by omega, M', hC', P'.order.trans e1, P'.place.trans e2, P'.K.trans e3, by have := P'.next; omega, by have := P'.len; omega, hkr.trans k6⟩
        · simp only [intOf]
          omega
      · have hie : i = xs.length := by omega
        subst hie
        rw [List.drop_length] at M
        go_wp2_with fail
        go_end0
        exact ⟨rfl, C, hC, hdone _ M e1 e2 e3 e4 e5, hk4.trans hkr⟩

end Go.Proofs.YtgjomknpjigkhaaGreatDoor
