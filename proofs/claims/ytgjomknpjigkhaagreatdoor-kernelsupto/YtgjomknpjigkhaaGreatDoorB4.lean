/- The document's kernel: Sift. -/
import Derived.Test.YtgjomknpjigkhaaGreatDoorB3
namespace Go.Proofs.YtgjomknpjigkhaaGreatDoor
open Go.RowKit Go.Shelf

/-- The order with a variable at a place. -/
def ordAt (r : List Int) (v : Int) (p : Nat) : List Int := r.take p ++ [v] ++ r.drop p

theorem rest_take {o : List Int} {v : Int} {j : Nat} {x : Int} (hx : o[j]? = some x) : rest (o.take (j + 1)) v = rest (o.take j) v ++ (if x = v then [] else [x]) := by
  rw [List.take_add_one, hx]
  unfold rest
  rw [List.filter_append]
  congr 1
  by_cases e : x = v <;> simp [e]

/-- How many nodes all handles have by an order. -/
def RS.tot (R : RS) (ord : List Int) : Nat := (nodesT R.n ord (R.hs.map Prod.snd)).length

/-- The first of the least, so far. -/
structure Least (N : Nat → Nat) (a p : Nat) : Prop where
  lt : p < a
  le : ∀ q, q < a → N p < N q ∨ (N p = N q ∧ p ≤ q)

theorem Least.first (N : Nat → Nat) : Least N 1 0 := ⟨by omega, fun q hq => .inr ⟨by rw [show q = 0 by omega], by omega⟩⟩
theorem Least.old {N : Nat → Nat} {a p : Nat} (h : Least N a p) (hn : ¬ N a < N p) : Least N (a + 1) p := ⟨by have := h.lt; omega, fun q hq => by
  by_cases e : q = a
  · subst e
    have := h.lt
    omega
  · exact h.le q (by omega)⟩
theorem Least.new {N : Nat → Nat} {a p : Nat} (h : Least N a p) (hn : N a < N p) : Least N (a + 1) a := ⟨by omega, fun q hq => by
  by_cases e : q = a
  · subst e; omega
  · have := h.le q (by omega)
    omega⟩

set_option maxRecDepth 100000 in
set_option maxHeartbeats 1000000 in
theorem rsift_bad {w : World} {b : RB} {R : RS} (h : RefAt w b R) (i : Int) (hi : i < 0 ∨ (R.n : Int) ≤ i) : Calls Tryz.prog 123 #[.pointer (some ⟨b.r, 0, none⟩), .int .i64 i] w fun e w' => e = .returned (.int .i64 1) ∧ w' = w := by
  have c0 := h.head.cell 0
  simp at c0
  by_cases i0 : i < 0
  · go_enter Tryz.func123, Tryz.ntmps123
    go_wp2_with fail
    go_ret
    exact ⟨rfl, rfl⟩
  · have i1 : (R.n : Int) ≤ i := by omega
    go_enter Tryz.func123, Tryz.ntmps123
    go_wp2_with fail
    go_ret
    exact ⟨rfl, rfl⟩

set_option maxRecDepth 100000 in
set_option maxHeartbeats 2000000 in
theorem rsift_calls {w : World} {b : RB} {R : RS} (h : RefAt w b R) (hk : R.Ok) (i : Int) (i0 : 0 ≤ i) (i1 : i < R.n) (hm : (rest R.ord i).length + 1 = R.n) : Calls Tryz.prog 123 #[.pointer (some ⟨b.r, 0, none⟩), .int .i64 i] w fun e w' => e = .returned (.int .i64 0) ∧ ∃ b' p, Least (fun p => R.tot (ordAt (rest R.ord i) i p)) R.n p ∧ RefAt w' b' { R with ord := ordAt (rest R.ord i) i p } ∧ b.to b' w ∧ Keeps b.own w w' := by
  obtain ⟨j0, hi0, hz0, hz1, hz2⟩ := info_parts info3
  have hb := h.head.lt
  have hn8 := h.n8
  have hcap := h.cap
  have c0 : ∀ wr : World, Keeps [] w wr → wr.cell? ⟨b.r, 0, none⟩ = some (.int .i64 (R.n : Int)) := fun _ k => (h.keeps0 k).head.cell 0
  have c2 : ∀ wr : World, Keeps [] w wr → wr.cell? ⟨b.r, 2, none⟩ = some (.slice (some ⟨b.go, 0, none⟩) R.n b.co) := fun _ k => (h.keeps0 k).head.cell 2
  have cO : ∀ (wr : World), Keeps [] w wr → ∀ (k : Nat) (x : Int), R.ord[k]? = some x → wr.cell? ⟨b.go, k, none⟩ = some (.int .i64 x) := fun wr kk k x hx => (h.keeps0 kk).ordCell k x hx
  have hrr : ∀ x ∈ rest R.ord i, 0 ≤ x ∧ x < R.n := fun x hx => hk.ord x ((List.mem_filter.1 hx).1)
  obtain ⟨N, hN⟩ : ∃ N : Nat → Nat, N = fun p => R.tot (ordAt (rest R.ord i) i p) := ⟨_, rfl⟩
  have htot' : ∀ (wr : World) (g c p : Nat), Keeps [] w wr → p < R.n → wr.ownsRow w.heap.size 3 1 (.slice (some ⟨g, 0, none⟩) R.n c) R.n (ints (ordAt (rest R.ord i) i p)) → Calls Tryz.prog 185 #[.pointer (some ⟨b.r, 0, none⟩), .slice (some ⟨g, 0, none⟩) R.n c] wr fun e w' => e = .returned (.int .i64 (N p : Nat)) ∧ Keeps [] wr w' := fun wr g c p k hp o => by
    rw [hN]
    exact rtotalOf_calls (h.keeps0 k) hk g c (ordAt (rest R.ord i) i p) (own_lt o g rfl) (own_cap o) (fun j x hx => ownsRow_cell o hx) (by simp [ordAt]; omega) (fun x hx => by
      simp only [ordAt, List.mem_append, List.mem_singleton] at hx
      rcases hx with (hx | hx) | hx
      · exact hrr x (List.mem_of_mem_take hx)
      · subst hx; exact ⟨i0, i1⟩
      · exact hrr x (List.mem_of_mem_drop hx))
  rw [← hN]
  have htot := hide htot'
  have HN := hide hN
  clear htot' hN
  have C0 := hide c0
  have C2 := hide c2
  have CO := hide cO
  have Hk := hide hrr
  have hlenO := h.len
  have HlO := hide hlenO
  have d0 := c0 _ (Keeps.refl _ w)
  have i2 : ¬ i < 0 := by omega
  have i3 : ¬ (R.n : Int) ≤ i := by omega
  clear c0 c2 cO hrr hlenO
  go_enter Tryz.func123, Tryz.ntmps123
  go_wp2_with fail
  go_loopw [5, 6] (fun v5 y wr => ∃ j : Nat, y = .int .i64 j ∧ j ≤ R.n ∧ wr.ownsRow w.heap.size 3 1 v5 (rest (R.ord.take j) i).length (ints (rest (R.ord.take j) i)) ∧ Keeps [] w wr) (fun _ y _ => ((R.n : Int) - intOf y).toNat)
  case atStart => exact ⟨0, rfl, by omega, ⟨rfl, .inl ⟨rfl, rfl⟩⟩, Keeps.refl _ _⟩
  case round =>
    obtain ⟨j, rfl, hj, own, kr⟩ := hrel
    have e0 := C0.out _ kr
    by_cases hjn : j < R.n
    · have hjI : (j : Int) < R.n := by omega
      have hjc : (R.n : Int) ≤ b.co := by omega
      have e2 := C2.out _ kr
      obtain ⟨x, hx⟩ : ∃ x, R.ord[j]? = some x := ⟨_, List.getElem?_eq_getElem (by rw [HlO.out]; exact hjn)⟩
      have ex := CO.out _ kr j x hx
      have hrt := rest_take (v := i) hx
      have hrl : (rest (R.ord.take j) i).length ≤ 8 := Nat.le_trans (List.length_filter_le _ _) (by rw [List.length_take]; omega)
      by_cases hxi : x = i
      · have hq : (x != i) = false := by simp [hxi]
        rw [if_pos hxi, List.append_nil] at hrt
        have Hrt := hide hrt
        clear hrt hx hxi
        go_wp2_with fail
        go_roundw
        · exact ⟨j + 1, by simp, by omega, by rw [Hrt.out]; exact own, kr⟩
        · simp only [intOf]; omega
      · have hq : (x != i) = true := by simp [hxi]
        rw [if_neg hxi] at hrt
        have Hrt := hide hrt
        clear hrt hx hxi
        generalize rest (R.ord.take j) i = D at own hrl Hrt
        have kB := Keeps.alloc [] wr (.cells #[.int .i64 x] 3)
        have ownB := ownsRow_kept own kB (by simp)
        have hone := str_cell (W := wr) (v := .int .i64 x) (ty := 3)
        have hszB : w.heap.size ≤ (wr.alloc (.cells #[.int .i64 x] 3)).heap.size := by rw [size_alloc']; have := kr.size; omega
        go_wp2_with (at_builtin; refine wpList_append_own_at _ rfl _ _ 40 rfl w.heap.size 3 j0 (.int .i64 0) 1 8 Tryz.underlying40 hi0 hz0 hz1 hz2 rfl (by decide) _ D.length (ints D) rfl ownB ⟨wr.heap.size, 0, none⟩ 1 1 (ints [x]) rfl (by simp [ints]) hone (ints_one _) (by unfold maxLen; omega) (by omega) hszB ?_)
        intro v' W2 own2 grow2 nil2 at2
        have k2 := grownBy_keeps' grow2 u5.ownBlock.toList (fun r e => .inl (by simp [e]))
        go_wp2_with fail
        go_roundw
        · refine ⟨j + 1, by simp, by omega, ?_, (kr.trans kB).trans_new k2 fun j hj => .inr (own_base own j (by simpa using hj)).1⟩
          rw [Hrt.out, List.length_append]
          simpa [ints] using own2
        · simp only [intOf]; omega
    · have hjI : ¬ (j : Int) < R.n := by omega
      have ej : j = R.n := by omega
      rw [ej, List.take_of_length_le (by rw [HlO.out]; exact Nat.le_refl _)] at own
      clear ej
      have HgoalR := hide (fun (w1 : World) (g c p : Nat) (k : Keeps [] w w1) (hp : p < R.n) (o : w1.ownsRow w.heap.size 3 1 (.slice (some ⟨g, 0, none⟩) R.n c) R.n (ints (ordAt (rest R.ord i) i p))) => h.reorder (c := c) k (Row3.of_own o) (own_base o g rfl).1 (by simp [ordAt]; omega) (own_cap o))
      have hfz := hide (fun (w1 : World) (k : Keeps [] w w1) => (h.keeps0 k).head.frozen 2)
      have Hm := hide hm
      generalize hT : rest R.ord i = to at own htot HgoalR Hm Hk hm ⊢
      have HT := hide hT
      clear hT
      obtain ⟨m, em⟩ : ∃ m, to.length = m := ⟨_, rfl⟩
      rw [em] at own hm
      have Hem := hide em
      clear em
      go_wp2_with fail
      go_loopw [7, 8, 9] (fun v7 v8 y wr' => ∃ a : Nat, y = .int .i64 a ∧ a ≤ R.n ∧ wr'.ownsRow w.heap.size 3 1 u5 m (ints to) ∧ (a = 0 → v8 = .int .i64 (-1)) ∧ (0 < a → ∃ p, v8 = .int .i64 (N p : Nat) ∧ Least N a p ∧ wr'.ownsRow w.heap.size 3 1 v7 R.n (ints (ordAt to i p))) ∧ Keeps [] w wr') (fun _ _ y _ => ((R.n : Int) - intOf y).toNat)
      case atStart => exact ⟨0, rfl, by omega, own, fun _ => rfl, fun h => by omega, kr⟩
      case round =>
        clear own kr e0
        obtain ⟨a, rfl, ha, own, hz, hbest, kr⟩ := hrel
        have e0 := C0.out _ kr
        by_cases han : a < R.n
        · have haI : (a : Int) < R.n := by omega
          rcases own.2 with ⟨hnil, hm0⟩ | ⟨g, c, cur, hblk, _⟩
          · subst hnil
            have ea : a = 0 := by omega
            have et : to = [] := List.eq_nil_of_length_eq_zero (by rw [Hem.out, hm0])
            subst ea
            subst et
            go_wp2_with (at_builtin; refine wpList_append_own_at _ rfl _ _ 40 rfl w.heap.size 3 j0 (.int .i64 0) 1 8 Tryz.underlying40 hi0 hz0 hz1 hz2 rfl (by decide) _ 0 [] rfl ⟨rfl, .inl ⟨rfl, rfl⟩⟩ ⟨wr.heap.size, 0, none⟩ 1 1 (ints [i]) rfl (by simp [ints]) one_cell (ints_one _) (by unfold maxLen; omega) (by omega) (by rw [size_alloc']; have := kr.size; omega) ?_)
            intro v2 W4 own4 grow4 nil4 at4
            have k2 := grownBy_keeps' grow4 [] (fun r e => by simp [Value.ownBlock] at e)
            have kk : Keeps [wr.heap.size, wr.heap.size] wr W4 := ((Keeps.alloc [] wr _).trans k2).mono (by simp)
            have hR1 : R.n = 1 := by omega
            obtain ⟨g4, c4, rfl⟩ := own_form own4 (by omega)
            have hcB := own_cap own4
            have hn3 := fun ty : TypeId => run_append_owned_none (P := Tryz.prog) W4 w.heap.size 40 ty 3 j0 1 Tryz.underlying40 hi0 _ _ _ own4
            have own4' : W4.ownsRow w.heap.size 3 1 (.slice (some ⟨g4, 0, none⟩) R.n c4) R.n (ints (ordAt [] i 0)) := by
              rw [hR1]
              simpa [ints, ordAt] using own4
            have kw4 := kr.trans_new kk (fun q hq => by have := kr.size; simp only [List.mem_cons, List.not_mem_nil, or_false] at hq; exact .inr (by omega))
            have ownR := hide (ownsRow_kept own kk (by simp [Value.ownBlock]))
            have ht := hide (htot.out W4 g4 c4 0 kw4 han own4')
            have Own4 := hide own4'
            rw [hR1] at ht
            have h8 := hz trivial
            subst h8
            have HR1 := hide hR1
            clear own4 own4' grow4 nil4 at4 hbest own hR1
            go_wp2_with fail
            refine ht.out.mono ?_
            rintro e w5 ⟨rfl, k5⟩
            have kw5 := kw4.trans k5
            have ownR5 := hide (ownsRow_kept ownR.out k5 (by simp))
            have Own5 := hide (ownsRow_kept Own4.out k5 (by simp))
            go_wp2_with fail
            go_roundw
            · refine ⟨1, by simp, by omega, ownR5.out, fun h => by omega, fun _ => ⟨0, rfl, Least.first N, ?_⟩, kw5⟩
              have := Own5.out
              rw [HR1.out] at this ⊢
              exact this
            · simp only [intOf]; omega
          · subst hblk
            have hc := own_cap own
            have hg := own_lt own g rfl
            have aM : a ≤ m := by omega
            have aI : (a : Int) ≤ m := by omega
            have cI : (m : Int) ≤ c := by omega
            have lt1 : (ints (to.take a)).length = a * 1 := by have := Hem.out; rw [ints, List.length_map, List.length_take]; omega
            have lt2 : (ints (to.drop a)).length = (m - a) * 1 := by have := Hem.out; rw [ints, List.length_map, List.length_drop]; omega
            have src1 := hide (own_part own 0 (ints (to.take a)) (by
              intro k u hu
              unfold ints at hu ⊢
              rw [List.map_take, List.getElem?_take] at hu
              split at hu
              · rw [Nat.zero_add]; exact hu
              · cases hu))
            have Lt := hide (And.intro lt1 lt2)
            have Hg := hide hg
            clear lt1 lt2 hg
            go_wp2_with (at_builtin; refine wpList_append_own_at _ rfl _ _ 40 rfl w.heap.size 3 j0 (.int .i64 0) 1 8 Tryz.underlying40 hi0 hz0 hz1 hz2 rfl (by decide) _ 0 [] rfl ⟨rfl, .inl ⟨rfl, rfl⟩⟩ ⟨g, 0, none⟩ a c (ints (to.take a)) rfl Lt.out.1 src1.out (ints_one _) (by unfold maxLen; omega) (by omega) kr.size ?_)
            intro vA w2 own2 grow2 nil2 at2
            have k2 := grownBy_keeps' grow2 [] (fun r e => by simp [Value.ownBlock] at e)
            have vA1 : Hid (∀ r, vA.ownBlock = some r → r = wr.heap.size) := hide (fun r e => by
              rcases at2 with h | h
              · rw [e] at h
                cases h
              · rw [e] at h
                exact Option.some.inj h)
            have kB := Keeps.alloc [] w2 (.cells #[.int .i64 i] 3)
            have own2B := hide (ownsRow_kept own2 kB (by simp))
            have zB := size_alloc' w2 (.cells #[.int .i64 i] 3)
            have Hz2 : Hid (w.heap.size ≤ (w2.alloc (.cells #[.int .i64 i] 3)).heap.size) := hide (by rw [zB]; have := kr.size; have := k2.size; omega)
            clear own2 grow2 nil2 at2 zB src1
            go_wp2_with (at_builtin; refine wpList_append_own_at _ rfl _ _ 40 rfl w.heap.size 3 j0 (.int .i64 0) 1 8 Tryz.underlying40 hi0 hz0 hz1 hz2 rfl (by decide) _ a (ints (to.take a)) rfl own2B.out ⟨w2.heap.size, 0, none⟩ 1 1 (ints [i]) rfl (by simp [ints]) one_cell (ints_one _) (by unfold maxLen; omega) (by omega) Hz2.out ?_)
            intro vB W3 own3 grow3 nil3 at3
            have k3' := grownBy_keeps' grow3 [wr.heap.size] (fun r e => .inl (by rw [vA1.out r e]; simp))
            have k3 : Keeps [wr.heap.size] w2 W3 := (kB.mono (by simp)).trans k3'
            have ownG := ownsRow_kept (ownsRow_kept own k2 (by simp)) k3 (fun i hi x => by
              simp only [Value.ownBlock, Option.some.injEq] at hi
              simp only [List.mem_singleton] at x
              have := Hg.out
              omega)
            obtain ⟨gB, cB, rfl⟩ := own_form own3 (by omega)
            have e2 : (Value.slice (some ⟨gB, 0, none⟩) (a + 1) cB).ownBlock = vA.ownBlock ∨ (Value.slice (some ⟨gB, 0, none⟩) (a + 1) cB).ownBlock = some (w2.heap.size + 1) := at3
            have Hz3 : Hid (w.heap.size ≤ W3.heap.size) := hide (by have := kr.size; have := k2.size; have := k3.size; omega)
            have Own3 := hide own3
            clear own3 grow3 nil3 at3 own2B
            have hk2s := k2.size
            by_cases hct : c = a
            · have hct2 := hct.symm
              clear hct
              subst hct2
              have hma : a = m := by omega
              subst hma
              have src3 : ∀ (k : Nat) (u : Value), ([] : List Value)[k]? = some u → W3.cell? ((⟨g, 0, none⟩ : Addr).add k) = some u := fun k u hu => by simp at hu
              go_wp2_with (at_builtin; refine wpList_append_own_at _ rfl _ _ 40 rfl w.heap.size 3 j0 (.int .i64 0) 1 8 Tryz.underlying40 hi0 hz0 hz1 hz2 rfl (by decide) _ (a + 1) (ints (to.take a) ++ ints [i]) rfl Own3.out ⟨g, 0, none⟩ 0 _ [] rfl rfl src3 (by simp) (by unfold maxLen; omega) (by omega) Hz3.out ?_)
              intro vC W4 own4 grow4 nil4 at4
              have k4 := grownBy_keeps' grow4 [wr.heap.size, w2.heap.size + 1] (fun r e => by
                rcases e2 with h | h
                · have := vA1.out r (h.symm.trans e)
                  simp [this]
                · have := Option.some.inj (h.symm.trans e)
                  simp [this])
              have kk : Keeps [wr.heap.size, w2.heap.size + 1] wr W4 := ((k2.mono (by simp)).trans (k3.mono (by simp))).trans k4
              obtain ⟨g4, c4, rfl⟩ := own_form own4 (by omega)
              have own4' : W4.ownsRow w.heap.size 3 1 (.slice (some ⟨g4, 0, none⟩) R.n c4) R.n (ints (ordAt to i a)) := by
                have := own4
                simpa [ints, ordAt, List.drop_eq_nil_of_le (show to.length ≤ a by rw [Hem.out]; omega)] using this
              have kw4 := kr.trans_new kk (fun q hq => by have := kr.size; simp only [List.mem_cons, List.not_mem_nil, or_false] at hq; exact .inr (by omega))
              have ownR := hide (ownsRow_kept own kk (fun q hq x => by have := own_lt own q hq; simp only [List.mem_cons, List.not_mem_nil, or_false] at x; omega))
              have hbest' : 0 < a → ∃ p, u8 = .int .i64 (N p : Nat) ∧ Least N a p ∧ W4.ownsRow w.heap.size 3 1 u7 R.n (ints (ordAt to i p)) := fun h0 => by
                obtain ⟨p, h1, h2, h3⟩ := hbest h0
                exact ⟨p, h1, h2, ownsRow_kept h3 kk (fun q hq x => by have := own_lt h3 q hq; simp only [List.mem_cons, List.not_mem_nil, or_false] at x; omega)⟩
              have ht := hide (htot.out W4 g4 c4 a kw4 han own4')
              have Own4 := hide own4'
              have Hb := hide hbest'
              clear own4 own4' grow4 nil4 at4 hbest' hbest own
              go_wp2_with fail
              refine ht.out.mono ?_
              rintro e w5 ⟨rfl, k5⟩
              have kw5 := kw4.trans k5
              have ownR5 := hide (ownsRow_kept ownR.out k5 (by simp))
              have Own5 := hide (ownsRow_kept Own4.out k5 (by simp))
              by_cases ha0 : a = 0
              · have h8 := hz ha0
                subst h8
                have Ha0 := hide ha0
                clear ha0
                go_wp2_with fail
                go_roundw
                · exact ⟨a + 1, by simp, by omega, ownR5.out, fun h => by omega, fun _ => ⟨a, rfl, by rw [Ha0.out]; exact Least.first N, Own5.out⟩, kw5⟩
                · simp only [intOf]; omega
              · obtain ⟨p, h1, h2, h3⟩ := Hb.out (by omega)
                subst h1
                have h3' := hide (ownsRow_kept h3 k5 (by simp))
                have H2 := hide h2
                clear h2 h3
                by_cases hlt : N a < N p
                · have hltI : (N a : Int) < N p := by omega
                  go_wp2_with fail
                  go_roundw
                  · exact ⟨a + 1, by simp, by omega, ownR5.out, fun h => by omega, fun _ => ⟨a, rfl, H2.out.new hlt, Own5.out⟩, kw5⟩
                  · simp only [intOf]; omega
                · have hltI : ¬ (N a : Int) < N p := by omega
                  go_wp2_with fail
                  go_roundw
                  · exact ⟨a + 1, by simp, by omega, ownR5.out, fun h => by omega, fun _ => ⟨p, rfl, H2.out.old hlt, h3'.out⟩, kw5⟩
                  · simp only [intOf]; omega
            · have src3 := hide (own_part ownG a (ints (to.drop a)) (by
                intro k u hu
                unfold ints at hu ⊢
                rw [List.map_drop, List.getElem?_drop] at hu
                exact hu))
              go_wp2_with (at_builtin; refine wpList_append_own_at _ rfl _ _ 40 rfl w.heap.size 3 j0 (.int .i64 0) 1 8 Tryz.underlying40 hi0 hz0 hz1 hz2 rfl (by decide) _ (a + 1) (ints (to.take a) ++ ints [i]) rfl Own3.out ⟨g, a, none⟩ (m - a) _ (ints (to.drop a)) rfl Lt.out.2 src3.out (ints_one _) (by unfold maxLen; omega) (by omega) Hz3.out ?_)
              intro vC W4 own4 grow4 nil4 at4
              have k4 := grownBy_keeps' grow4 [wr.heap.size, w2.heap.size + 1] (fun r e => by
                rcases e2 with h | h
                · rw [h] at e
                  have := vA1.out r e
                  simp [this]
                · rw [h] at e
                  cases e
                  simp)
              have kk : Keeps [wr.heap.size, w2.heap.size + 1] wr W4 := ((k2.mono (by simp)).trans (k3.mono (by simp))).trans k4
              obtain ⟨g4, c4, rfl⟩ := own_form own4 (by omega)
              have own4' : W4.ownsRow w.heap.size 3 1 (.slice (some ⟨g4, 0, none⟩) R.n c4) R.n (ints (ordAt to i a)) := by
                have := own4
                rw [show a + 1 + (m - a) = R.n by omega] at this
                simpa [ints, ordAt] using this
              have kw4 := kr.trans_new kk (fun q hq => by have := kr.size; simp only [List.mem_cons, List.not_mem_nil, or_false] at hq; exact .inr (by omega))
              have ownR := hide (ownsRow_kept own kk (fun q hq x => by have := own_lt own q hq; simp only [List.mem_cons, List.not_mem_nil, or_false] at x; omega))
              have hbest' : 0 < a → ∃ p, u8 = .int .i64 (N p : Nat) ∧ Least N a p ∧ W4.ownsRow w.heap.size 3 1 u7 R.n (ints (ordAt to i p)) := fun h0 => by
                obtain ⟨p, h1, h2, h3⟩ := hbest h0
                exact ⟨p, h1, h2, ownsRow_kept h3 kk (fun q hq x => by have := own_lt h3 q hq; simp only [List.mem_cons, List.not_mem_nil, or_false] at x; omega)⟩
              have ht := hide (htot.out W4 g4 c4 a kw4 han own4')
              have Own4 := hide own4'
              have Hb := hide hbest'
              rw [show a + 1 + (m - a) = R.n by omega]
              clear own4 own4' grow4 nil4 at4 hbest' hbest own
              go_wp2_with fail
              refine ht.out.mono ?_
              rintro e w5 ⟨rfl, k5⟩
              have kw5 := kw4.trans k5
              have ownR5 := hide (ownsRow_kept ownR.out k5 (by simp))
              have Own5 := hide (ownsRow_kept Own4.out k5 (by simp))
              by_cases ha0 : a = 0
              · have h8 := hz ha0
                subst h8
                have Ha0 := hide ha0
                clear ha0
                go_wp2_with fail
                go_roundw
                · exact ⟨a + 1, by simp, by omega, ownR5.out, fun h => by omega, fun _ => ⟨a, rfl, by rw [Ha0.out]; exact Least.first N, Own5.out⟩, kw5⟩
                · simp only [intOf]; omega
              · obtain ⟨p, h1, h2, h3⟩ := Hb.out (by omega)
                subst h1
                have h3' := hide (ownsRow_kept h3 k5 (by simp))
                have H2 := hide h2
                clear h2 h3
                by_cases hlt : N a < N p
                · have hltI : (N a : Int) < N p := by omega
                  go_wp2_with fail
                  go_roundw
                  · exact ⟨a + 1, by simp, by omega, ownR5.out, fun h => by omega, fun _ => ⟨a, rfl, H2.out.new hlt, Own5.out⟩, kw5⟩
                  · simp only [intOf]; omega
                · have hltI : ¬ (N a : Int) < N p := by omega
                  go_wp2_with fail
                  go_roundw
                  · exact ⟨a + 1, by simp, by omega, ownR5.out, fun h => by omega, fun _ => ⟨p, rfl, H2.out.old hlt, h3'.out⟩, kw5⟩
                  · simp only [intOf]; omega
        · have haI : ¬ (a : Int) < R.n := by omega
          have ea : a = R.n := by omega
          obtain ⟨p, rfl, hL, ob⟩ := hbest (by omega)
          obtain ⟨g, c, rfl⟩ := own_form ob (by omega)
          have e2 := C2.out _ kr
          have fz := hfz.out _ kr
          have fin := HgoalR.out wr g c p kr (by have := hL.lt; omega) ob
          rw [ea] at hL
          have HL := hide hL
          clear hL ea
          go_wp2_with fail
          go_ret
          exact ⟨rfl, { b with go := g, co := c }, p, HL.out, by rw [HT.out]; exact fin⟩

end Go.Proofs.YtgjomknpjigkhaaGreatDoor
