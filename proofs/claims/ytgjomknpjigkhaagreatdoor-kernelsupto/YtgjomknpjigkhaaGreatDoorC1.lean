/- The law's own: num, mark, sameInts, lent, back. -/
import Derived.Test.YtgjomknpjigkhaaGreatDoorB9
import Derived.Laws.CopyOwn
namespace Go.Proofs.YtgjomknpjigkhaaGreatDoor
open Go.RowKit Go.Shelf

set_option maxHeartbeats 400000 in
theorem num_calls {w : World} (x : Int) : Calls Tryz.prog 56 #[.int .i64 x] w fun e w' => e = .returned (.int .i64 x) ∧ w' = w := by
  go_enter Tryz.func56, Tryz.ntmps56
  go_wp2
  go_ret
  exact ⟨rfl, rfl⟩

/-- A mark. -/
def mk (k : Nat) : Int := -1000 - ((k / 4 : Nat) : Int)

set_option maxHeartbeats 400000 in
theorem mark_calls {w : World} (k : Nat) (hk : k ≤ 100000000) : Calls Tryz.prog 63 #[.int .i64 (k : Int)] w fun e w' => e = .returned (.int .i64 (mk k)) ∧ w' = w := by
  obtain ⟨q, hq⟩ : ∃ q, k / 4 = q := ⟨_, rfl⟩
  have hq2 : q ≤ 100000000 := by omega
  have hd : (k : Int) / 4 = q := by omega
  have hm : mk k = -1000 - (q : Int) := by unfold mk; rw [hq]
  rw [hm]
  clear hq hm
  go_enter Tryz.func63, Tryz.ntmps63
  go_wp2
  go_ret
  exact ⟨rfl, rfl⟩

set_option maxRecDepth 100000 in
set_option maxHeartbeats 400000 in
theorem sameInts_calls {w : World} (L : List Int) (g g' c c' : Nat) (hl : L.length ≤ 1000) (h1 : RowIs w g L) (h2 : RowIs w g' L) :
    Calls Tryz.prog 118 #[.slice (some ⟨g, 0, none⟩) L.length c, .slice (some ⟨g', 0, none⟩) L.length c'] w fun e w' => e = .returned (.bool true) ∧ Keeps [] w w' := by
  have hq0 : ((L.length : Int) != L.length) = false := by simp
  go_enter Tryz.func118, Tryz.ntmps118
  go_wp2_with fail
  go_loopw [5] (fun y wr => ∃ i : Nat, y = .int .i64 i ∧ i ≤ L.length ∧ Keeps [] w wr) (fun y _ => ((L.length : Int) - intOf y).toNat)
  case atStart => exact ⟨0, rfl, by omega, Keeps.refl _ _⟩
  case round =>
    obtain ⟨i, rfl, hi, kr⟩ := hrel
    by_cases hil : i < L.length
    · have hiI : (i : Int) < L.length := by omega
      obtain ⟨x, hx⟩ : ∃ x, L[i]? = some x := ⟨_, List.getElem?_eq_getElem hil⟩
      have e1 := (h1.kept kr (by simp)).cell hx
      have e2 := (h2.kept kr (by simp)).cell hx
      have hxx : (x != x) = false := by simp
      clear hx
      go_wp2_with fail
      go_quiet (fail)
      go_wp2_with fail
      go_roundw
      · exact ⟨i + 1, by simp, by omega, kr.trans (Keeps.drewN [] wr _)⟩
      · simp only [intOf]; omega
    · have hiI : ¬ (i : Int) < L.length := by omega
      go_wp2_with fail
      go_ret
      exact ⟨rfl, kr⟩

/-- A list lent out, with something behind its end. -/
def Lent (w : World) (v : Value) (L : List Int) (bt : Nat) : Prop := v = .slice (some ⟨bt, 0, none⟩) L.length (L.length + 1) ∧ RowIs w bt (L ++ [77])

theorem Lent.row {w : World} {v : Value} {L : List Int} {bt : Nat} (h : Lent w v L bt) : RowIs w bt L := by
  obtain ⟨_, cs, h1, h2⟩ := h
  exact ⟨cs, h1, fun i x hx => h2 i x (by rw [List.getElem?_append_left (List.getElem?_eq_some_iff.1 hx).1]; exact hx)⟩

set_option maxRecDepth 100000 in
set_option maxHeartbeats 800000 in
theorem lent_calls {w : World} (g o : Nat) (sp : Option Nat) (c : Nat) (L : List Int) (hsp : 0 < L.length → sp = none) (hl : L.length ≤ 10000000) (hL : ∀ (i : Nat) (x : Int), L[i]? = some x → w.cell? ⟨g, o + i, none⟩ = some (.int .i64 x)) :
    Calls Tryz.prog 103 #[.slice (some ⟨g, o, sp⟩) L.length c] w fun e w' => ∃ v, e = .returned v ∧ Lent w' v L w.heap.size ∧ Keeps [] w w' := by
  have Hsp := hide hsp
  clear hsp
  obtain ⟨i0, hi0, hz0, hz1, hz2⟩ := info_parts info3
  obtain ⟨n, hn⟩ : ∃ n, L.length = n := ⟨_, rfl⟩
  rw [hn] at hl ⊢
  have hmk := run_make (P := Tryz.prog) w 40 3 i0 (.int .i64 0) Tryz.underlying40 hi0 hz0 .i64 .i64 ((n + 1 : Nat) : Int) ((n + 1 : Nat) : Int) (by omega) (by omega) (by rw [hz2]; omega) (by omega)
  rw [hz1] at hmk
  simp only [Int.toNat_natCast, Nat.mul_one, Value.cells] at hmk
  rw [show ((n + 1 : Nat) : Int) = (n : Int) + 1 by push_cast; rfl] at hmk
  have hblk : (w.alloc (.cells (madeCells #[.int .i64 0] (n + 1)) 3)).heap[w.heap.size]? = some (.cells (List.replicate (n + 1) (Value.int .i64 0)).toArray 3 (0, 0)) := by
    rw [(MapKept.heap_alloc w _).1]
    have := toList_madeCells_one (.int .i64 0) (n + 1)
    rw [← this]
  have kx := Keeps.alloc [] w (.cells (madeCells #[.int .i64 0] (n + 1)) 3)
  have hbel : Below w.heap.size w (w.alloc (.cells (madeCells #[.int .i64 0] (n + 1)) 3)) := kx.below (Nat.le_refl _) (by simp)
  have hsz : (Tryz.prog.info? 3).map (·.size) = some 1 := by rw [hi0]; simp [hz1]
  have hsrc : ∀ j v, (ints L)[j]? = some v → (w.alloc (.cells (madeCells #[.int .i64 0] (n + 1)) 3)).cell? ((⟨g, o, sp⟩ : Addr).add j) = some v := by
    intro j v hv
    unfold ints at hv
    rw [List.getElem?_map] at hv
    cases hx : L[j]? with
    | none => rw [hx] at hv; cases hv
    | some x =>
      rw [hx] at hv
      cases hv
      have h1 := hL j x hx
      have hg := World.block_lt_of_cell? w _ h1
      obtain rfl := Hsp.out (by have := (List.getElem?_eq_some_iff.1 hx).1; omega)
      rw [Addr.add_lit]
      rw [← h1]
      simp [World.cell?, kx.block g hg (by simp)]
  have hnil := fun (w : World) => Lib.run_eql_slice_nil (P := Tryz.prog) w 40 3 (some ⟨g, o, sp⟩) n c 0 0 Tryz.underlying40
  go_enter Tryz.func103, Tryz.ntmps103
  have hmin : (ints L).length = Nat.min n (n + 1) := by rw [ints, List.length_map, hn]; exact (Nat.min_eq_left (by omega)).symm
  have hfit : 0 + (ints L).length ≤ (List.replicate (n + 1) (Value.int .i64 0)).length := by rw [ints, List.length_map, hn, List.length_replicate]; omega
  have Hall := hide (And.intro hmin hfit)
  clear hmin hfit
  go_wp2_with (refine wpList_copy_splice rfl _ _ 40 40 rfl 3 Tryz.underlying40 hsz (some ⟨w.heap.size, 0, none⟩) (some ⟨g, o, sp⟩) (n + 1) (n + 1) n c rfl rfl w.heap.size 0 (List.replicate (n + 1) (Value.int .i64 0)) 3 hblk (ints L) Hall.out.1 (fun _ => ⟨rfl, _, rfl, hsrc⟩) Hall.out.2 (ints_one _) w.heap.size w hbel (Nat.le_refl _) ?_)
  intro w2 hrow2 hbel2
  have hcs : splice (List.replicate (n + 1) (Value.int .i64 0)) 0 (ints L) = ints L ++ [.int .i64 0] := by
    unfold splice
    simp [ints, hn]
  rw [hcs] at hrow2
  have hr2 : RowIs w2 w.heap.size (L ++ [0]) := ⟨_, ⟨_, hrow2.out⟩, fun i x hx => by
    rw [List.getElem?_toArray, show ints L ++ [Value.int .i64 0] = ints (L ++ [0]) by simp [ints]]
    unfold ints
    rw [List.getElem?_map, hx]
    rfl⟩
  have hcl := hr2.cell (i := n) (x := 0) (by rw [List.getElem?_append_right (by omega), hn]; simp)
  have hfz := hr2.frozen n
  have hr3 := hr2.set n 77
  have k2 : Keeps [] w w2 := ⟨hbel2.1, hbel2.2, hbel2.3, hbel2.4, fun i hi _ => hbel2.5 i hi⟩
  clear hrow2 hbel2 hsrc hbel hblk hmk kx
  go_wp2_with fail
  go_ret
  refine ⟨_, rfl, ⟨by rw [hn]; rfl, ?_⟩, k2.trans_new (Keeps.setCell _ _ _) (by simp)⟩
  have hset : (L ++ [0]).set n 77 = L ++ [77] := by
    rw [List.set_append_right _ _ (by omega), hn]
    simp
  rw [hset] at hr3
  exact hr3

set_option maxHeartbeats 400000 in
theorem lent_nil {w : World} : Calls Tryz.prog 103 #[.slice none 0 0] w fun e w' => e = .returned (.slice none 0 0) ∧ w' = w := by
  have hnil := fun (w : World) => Lib.run_eql_slice_nil (P := Tryz.prog) w 40 3 none 0 0 0 0 Tryz.underlying40
  go_enter Tryz.func103, Tryz.ntmps103
  go_wp2_with fail
  go_ret
  exact ⟨rfl, rfl⟩

set_option maxHeartbeats 400000 in
theorem back_nil {w : World} (v : Value) : Calls Tryz.prog 105 #[v, .slice none 0 0] w fun e w' => e = .returned (.bool true) ∧ w' = w := by
  have hnil := fun (w : World) => Lib.run_eql_slice_nil (P := Tryz.prog) w 40 3 none 0 0 0 0 Tryz.underlying40
  go_enter Tryz.func105, Tryz.ntmps105
  go_wp2_with fail
  go_ret
  exact ⟨rfl, rfl⟩

set_option maxRecDepth 100000 in
set_option maxHeartbeats 1000000 in
theorem back_calls {w : World} (g o : Nat) (sp : Option Nat) (c bt : Nat) (v : Value) (L : List Int) (hsp : 0 < L.length → sp = none) (hl : L.length ≤ 10000000) (hL : ∀ (i : Nat) (x : Int), L[i]? = some x → w.cell? ⟨g, o + i, none⟩ = some (.int .i64 x)) (hv : Lent w v L bt) :
    Calls Tryz.prog 105 #[v, .slice (some ⟨g, o, sp⟩) L.length c] w fun e w' => e = .returned (.bool true) ∧ Keeps [bt] w w' := by
  have Hsp := hide hsp
  clear hsp
  obtain ⟨rfl, hrow⟩ := hv
  have hbt := hrow.lt
  obtain ⟨n, hn⟩ : ∃ n, L.length = n := ⟨_, rfl⟩
  rw [hn] at hl ⊢
  have hnil := fun (w : World) => Lib.run_eql_slice_nil (P := Tryz.prog) w 40 3 (some ⟨g, o, sp⟩) n c 0 0 Tryz.underlying40
  have e77 := hrow.cell (i := n) (x := 77) (by rw [List.getElem?_append_right (by omega), hn]; simp)
  have hn1 : (n : Int) < n + 1 := by omega
  have Hn := hide hn
  clear hn
  go_enter Tryz.func105, Tryz.ntmps105
  go_wp2_with fail
  go_loopw [6, 7] (fun x y wr => ∃ i : Nat, x = .bool true ∧ y = .int .i64 i ∧ i ≤ n ∧ Keeps [] w wr) (fun _ y _ => ((n : Int) - intOf y).toNat)
  case atStart => exact ⟨0, rfl, rfl, by omega, Keeps.refl _ _⟩
  case round =>
    obtain ⟨i, rfl, rfl, hi, kr⟩ := hrel
    by_cases hil : i < n
    · have hiI : (i : Int) < n := by omega
      have hiI1 : (i : Int) < n + 1 := by omega
      obtain ⟨x, hx⟩ : ∃ x, L[i]? = some x := ⟨_, List.getElem?_eq_getElem (by rw [Hn.out]; exact hil)⟩
      have e1 := (hrow.kept kr (by simp)).cell (i := i) (x := x) (by rw [List.getElem?_append_left (by rw [Hn.out]; exact hil)]; exact hx)
      have hg := World.block_lt_of_cell? w _ (hL i x hx)
      obtain rfl := Hsp.out (by have := Hn.out; omega)
      have e2 : wr.cell? ⟨g, o + i, none⟩ = some (.int .i64 x) := by
        rw [← hL i x hx]
        simp [World.cell?, kr.block g hg (by simp)]
      have hxx : (x == x) = true := by simp
      clear hx
      go_wp2_with fail
      go_quiet (fail)
      go_wp2_with fail
      go_roundw
      · exact ⟨i + 1, by simp, by simp, by omega, kr.trans (Keeps.drewN [] wr _)⟩
      · simp only [intOf]; omega
    · have hiI : ¬ (i : Int) < n := by omega
      have hrow' := hrow.kept kr (by simp)
      have Hn1 := hide hn1
      clear e77
      go_wp2_with fail
      go_loopw [8] (fun y wr' => ∃ (j : Nat) (xs : List Int), y = .int .i64 j ∧ j ≤ n + 1 ∧ xs.length = n + 1 ∧ RowIs wr' bt xs ∧ Keeps [bt] w wr') (fun y _ => ((n : Int) + 1 - intOf y).toNat)
      case atStart => exact ⟨0, L ++ [77], rfl, by omega, by simp [Hn.out], hrow', kr.mono (by simp)⟩
      case round =>
        obtain ⟨j, xs, rfl, hj, hxl, hr, ks⟩ := hrel
        by_cases hjl : j < n + 1
        · have hjI : (j : Int) < n + 1 := by omega
          have hcl := hr.cell (List.getElem?_eq_getElem (show j < xs.length by omega))
          have hfz := hr.frozen j
          have hr2 := hr.set j (-9)
          have kS := Keeps.setCell wr ⟨bt, j, none⟩ (.int .i64 (-9))
          go_wp2_with fail
          go_roundw
          · exact ⟨j + 1, xs.set j (-9), by simp, by omega, by simp [hxl], hr2, ks.trans kS⟩
          · simp only [intOf]; omega
        · have hjI : ¬ (j : Int) < n + 1 := by omega
          go_wp2_with fail
          go_ret
          exact ⟨rfl, ks⟩

set_option maxRecDepth 100000 in
set_option maxHeartbeats 1000000 in
theorem yreplace_at {w : World} {rb : RB} {R : RS} {K : KS} (h : RefAt w rb R) (T : Twin K R) (hr : Room K) (f : Int) (g o : Nat) (sp : Option Nat) (c : Nat) (to : List Int) (hsp : 0 < to.length → sp = none) (hc : to.length ≤ c) (hL : ∀ (i : Nat) (x : Int), to[i]? = some x → w.cell? ⟨g, o + i, none⟩ = some (.int .i64 x)) :
    Calls Tryz.prog 106 #[.pointer (some ⟨rb.r, 0, none⟩), .int .i64 f, .slice (some ⟨g, o, sp⟩) to.length c] w (YGives rb w (R.reps f to)) := by
  cases sp with
  | none => exact yreplace h T hr f _ to (.inr ⟨g, o, c, rfl, hc, hL⟩)
  | some s =>
    have h0 : to = [] := by
      cases to with
      | nil => rfl
      | cons x l => have := hsp (by simp); cases this
    subst h0
    have hn1 := h.n1
    have he : ¬ ([] : List Int).length = R.n := by simp; omega
    unfold RS.reps
    rw [if_neg fun e : Each R.n [] => he e.len]
    have hx : Calls Tryz.prog 106 #[.pointer (some ⟨rb.r, 0, none⟩), .int .i64 f, .slice (some ⟨g, o, some s⟩) 0 c] w (RErr w 1) := by
      have c0 := h.head.cell 0
      simp at c0
      have hb := h.head.lt
      have hne2 : ((0 : Int) != R.n) = true := by
        simp only [bne_iff_ne, ne_eq]
        omega
      go_enter Tryz.func106, Tryz.ntmps106
      go_wp2_with fail
      go_ret2
      exact ⟨rfl, Keeps.refl _ _⟩
    exact hx.mono fun e w' g => YGives.err h g

end Go.Proofs.YtgjomknpjigkhaaGreatDoor
