/- Kernels: its reading, its row, its card. -/
import Derived.Test.YtgjomknpjigkhaaGreatDoorCards
import Derived.Test.YtgjomknpjigkhaaGreatDoorTie
import Derived.Test.YtgjomknpjigkhaaGreatDoorD2
import Derived.WalkKit
import Derived.ProofKit
import Derived.OpenShut
import Derived.Deep.DeepHandedRow
import Derived.Lib.LaidTab
import Derived.WideKeyArgs
import Derived.Deep.Slices
namespace Go.Proofs.YtgjomknpjigkhaaGreatDoor
open Go.ChangeShapes Go.WideShapes Go.ChangeAt Go.RowKit

theorem Tryz.own : ownKnob Tryz.prog.godebug = none := by kernel_rfl
theorem Tryz.laidOut : laidOutB Tryz.prog = true := by kernel_rfl
theorem cellsOf80 : Tryz.prog.cellsOf 80 = 7 := by kernel_rfl
theorem cellsOf3 : Tryz.prog.cellsOf 3 = 1 := by kernel_rfl
theorem cellsOf9 : Tryz.prog.cellsOf 9 = 1 := by kernel_rfl
theorem cellsOf40 : Tryz.prog.cellsOf 40 = 1 := by kernel_rfl
theorem slice_read22 : Tryz.prog.readableRec 22 = true := by kernel_rfl
theorem slice_row22 : 22 < Tryz.prog.types.size := of_decide_eq_true (by kernel_rfl)

theorem bulk_one {H : Type} (d : DataW H) : 1 ≤ Rows.uptoBulk d := by
  cases d with
  | lit l => cases l <;> simp [Rows.uptoBulk]
  | nil => simp [Rows.uptoBulk]
  | ptr d => simp [Rows.uptoBulk]
  | slice elems spare => simp [Rows.uptoBulk]
  | agg parts => simp [Rows.uptoBulk]
  | iface t d => simp [Rows.uptoBulk]
  | map entries => simp [Rows.uptoBulk]
  | held h => simp [Rows.uptoBulk]

theorem bulk_part {H : Type} {d : DataW H} {l : List (DataW H)} (h : d ∈ l) : Rows.uptoBulk d ≤ Rows.uptoBulkAll l := by
  induction l with
  | nil => cases h
  | cons x r ih =>
    simp only [Rows.uptoBulkAll]
    rcases List.mem_cons.1 h with e | e
    · subst e; omega
    · have := ih e; omega

theorem bulk_length {H : Type} (l : List (DataW H)) : l.length ≤ Rows.uptoBulkAll l := by
  induction l with
  | nil => simp
  | cons x r ih => have := bulk_one x; simp only [Rows.uptoBulkAll, List.length_cons]; omega

theorem fits_lit {x : Int} (h : (Lit.int .i64 x).wf = true) : -9223372036854775808 ≤ x ∧ x ≤ 9223372036854775807 := by
  simp [Lit.wf, IntKind.min, IntKind.max, IntKind.signed, IntKind.bits] at h
  exact h

theorem spot_none {w : World} {a : Addr} {x : Value} (h : w.cell? a = some x) : a.spot = none := by
  unfold World.cell? at h
  split at h
  · split at h
    · cases h
    · rename_i hs; simpa using hs
  · cases h

section
variable {H : Type} {enc : TypeId × Value → H}

/-- A slice of numbers, as it is read. -/
theorem ints_read {w : World} {fuel : Nat} {v : Value} {x : DataW H × List MemPlace} (h : DataW.trod enc Tryz.prog w 0 (fun _ => true) true fuel 40 [v] = some x) (hb : Rows.uptoBulk x.1 ≤ 1048576) : LS w.heap.size w.heap.size w v := by
  rcases Deep.open_slice1 Tryz.underlying40 cellsOf3 h with ⟨hc, _⟩ | ⟨a, len, cap, m, n, V, Dd, Pl, hc, _, hl, hm, hmm, hx, hel⟩
  · simp only [List.cons.injEq, and_true] at hc
    exact .inl hc
  · simp only [List.cons.injEq, and_true] at hc
    have hlm : len ≤ m := by rw [hmm]; simp; omega
    subst hx
    simp only [Rows.uptoBulk] at hb
    have hbl := bulk_length ((List.range len).map Dd)
    rw [List.length_map, List.length_range] at hbl
    have hval : ∀ i, i < len → ∃ z : Int, V i = .int .i64 z := fun i hi => by
      obtain ⟨z, e, _⟩ := DataW.trod_int Tryz.underlying3 (hel i (by omega)).2
      simp only [List.cons.injEq, and_true] at e
      exact ⟨z, e⟩
    have hV : ∀ i, i < len → V i = .int .i64 (intOf (V i)) := fun i hi => by
      obtain ⟨z, e⟩ := hval i hi
      rw [e]; rfl
    obtain ⟨g, o, sp⟩ := a
    have hsp : 0 < len → sp = none := fun h0 => by
      have := spot_none (hel 0 (by omega)).1
      simpa [Addr.add] using this
    have hll : ((List.range len).map fun i => intOf (V i)).length = len := by simp
    refine .inr ⟨g, o, sp, cap, (List.range len).map fun i => intOf (V i), by rw [hll]; exact hc, by rw [hll]; exact hsp, by rw [hll]; exact hl, by rw [hll]; omega, fun h0 => ?_, fun i y hy => ?_⟩
    · rw [hll] at h0
      have h1 := World.block_lt_of_cell? w _ (hel 0 (by omega)).1
      have h2 : (Addr.add ⟨g, o, sp⟩ 0).block = g := by simp [Addr.add]
      rw [h2] at h1
      exact ⟨h1, by omega⟩
    · have hi : i < len := by have := (List.getElem?_eq_some_iff.1 hy).1; rw [hll] at this; exact this
      rw [List.getElem?_map, List.getElem?_range hi] at hy
      simp only [Option.map_some, Option.some.injEq] at hy
      have h1 := (hel i (by omega)).1
      rw [hV i hi, hy] at h1
      obtain rfl := hsp (by omega)
      rw [Addr.add_lit] at h1
      exact h1

set_option maxRecDepth 100000 in
/-- A step, as it is read. -/
theorem op_read {w : World} {n : Nat} {a : Addr} {cs : List Value} {x : DataW H × List MemPlace} (h1 : w.cells? 0 a 7 = some cs) (h2 : DataW.trod enc Tryz.prog w 0 (fun _ => true) true n 80 cs = some x) (hb : Rows.uptoBulk x.1 ≤ 1048576) :
    ∃ o : OpR, OpOk w o ∧ ∀ f u, o.cells[f]? = some u → w.cell? (a.add f) = some u := by
  obtain ⟨_, hlen, hcell⟩ := World.cells?_some h1
  obtain ⟨xs, k, hk, hxy, _, hxl, hf⟩ := DataW.trod_struct Tryz.underlying80 h2
  match xs, hxl, cs, hlen with
  | [y0, y1, y2, y3, y4, y5, y6], _, [v0, v1, v2, v3, v4, v5, v6], _ =>
    have g0 := hf 0 _ rfl
    have g1 := hf 1 _ rfl
    have g2 := hf 2 _ rfl
    have g3 := hf 3 _ rfl
    have g4 := hf 4 _ rfl
    have g5 := hf 5 _ rfl
    have g6 := hf 6 _ rfl
    simp [cellsOf3, cellsOf9, cellsOf40] at g0 g1 g2 g3 g4 g5 g6
    obtain ⟨z0, e0, _, _⟩ := DataW.trod_int Tryz.underlying3 g0
    obtain ⟨z1, e1, _, w1⟩ := DataW.trod_int Tryz.underlying3 g1
    obtain ⟨z2, e2, _, _⟩ := DataW.trod_int Tryz.underlying3 g2
    obtain ⟨z3, e3, _, _⟩ := DataW.trod_int Tryz.underlying3 g3
    obtain ⟨z4, e4, _, _⟩ := DataW.trod_int Tryz.underlying3 g4
    obtain ⟨s5, e5, _, _⟩ := DataW.trod_string Tryz.underlying9 g5
    simp only [List.cons.injEq, and_true] at e0 e1 e2 e3 e4 e5
    subst e0 e1 e2 e3 e4 e5
    have hb6 : Rows.uptoBulk y6.1 ≤ 1048576 := by
      rw [hxy] at hb
      have := bulk_part (d := y6.1) (l := [y0, y1, y2, y3, y4, y5, y6].map (·.1)) (by simp)
      simp only [Rows.uptoBulk] at hb
      omega
    have hL := ints_read g6 hb6
    have hw := fits_lit w1
    refine ⟨⟨z0, z1, z2, z3, z4, s5, v6⟩, ⟨hw.1, hw.2, hL⟩, fun f u hu => ?_⟩
    have hfl : f < 7 := by have := (List.getElem?_eq_some_iff.1 hu).1; simpa [OpR.cells] using this
    have hc := hcell f (by simpa using hfl)
    rw [hc]
    exact hu

theorem cells_of {w : World} {a : Addr} (L : Nat → OpR) (len : Nat) (hc : ∀ i, i < len → ∀ f u, (L i).cells[f]? = some u → w.cell? ((a.add (i * 7)).add f) = some u) (j : Nat) (u : Value) (hu : (ocells ((List.range len).map L))[j]? = some u) : w.cell? (a.add j) = some u := by
  have hj : j < len * 7 := by
    have := (List.getElem?_eq_some_iff.1 hu).1
    rw [ocells_length, List.length_map, List.length_range] at this
    exact this
  have hi : j / 7 < len := by omega
  have hm : j % 7 < 7 := Nat.mod_lt _ (by decide)
  have hd : j = j / 7 * 7 + j % 7 := by omega
  have hget : ((List.range len).map L)[j / 7]? = some (L (j / 7)) := by rw [List.getElem?_map, List.getElem?_range hi]; rfl
  rw [hd, ocells_get hget _ hm] at hu
  have := hc _ hi _ u hu
  rw [Addr.add_add, ← hd] at this
  exact this

theorem choose_ops {p : Nat → OpR → Prop} {len : Nat} (h : ∀ i, i < len → ∃ o, p i o) : ∃ L : Nat → OpR, ∀ i, i < len → p i (L i) :=
  ⟨fun i => if hi : i < len then Classical.choose (h i hi) else ⟨0, 0, 0, 0, 0, ⟨#[]⟩, .slice none 0 0⟩, fun i hi => by
    simp only [dif_pos hi]
    exact Classical.choose_spec (h i hi)⟩

set_option maxRecDepth 100000 in
theorem script_read {w : World} {v : Value} {d : DataW H} {ps : List MemPlace} {r : Go.Reach} {b0 : Nat} (hval : Value.okWide Tryz.prog w r b0 22 v) (h : DataW.Trod enc Tryz.prog w 0 (fun _ => true) true 22 v d ps) (hb : Rows.uptoBulk d ≤ 1048576) : ∃ os, Script w v os := by
  obtain ⟨sa, sl, sc, rfl⟩ := okWide_slice Tryz.underlying22 hval
  obtain ⟨fuel, hn⟩ := h
  have hn' : DataW.trod enc Tryz.prog w 0 (fun _ => true) true fuel 22 [.slice sa sl sc] = some (d, ps) := hn
  rcases Deep.open_slice Tryz.underlying22 hn' with ⟨hc, _⟩ | ⟨a, len, cap, m, n, Dd, Pl, hc, _, hl, hm, hmm, hx, hel⟩
  · simp only [List.cons.injEq, and_true] at hc
    exact ⟨[], by simp, .inl ⟨hc, rfl⟩, by simp⟩
  · simp only [List.cons.injEq, and_true] at hc
    simp only [Prod.mk.injEq] at hx
    have hlm : len ≤ m := by rw [hmm]; simp; omega
    rw [hx.1] at hb
    simp only [Rows.uptoBulk] at hb
    have hbl := bulk_length ((List.range len).map Dd)
    rw [List.length_map, List.length_range] at hbl
    obtain ⟨L, hL⟩ := choose_ops (p := fun i o => OpOk w o ∧ ∀ f u, o.cells[f]? = some u → w.cell? ((a.add (i * 7)).add f) = some u) (len := len) (fun i hi => by
      obtain ⟨cs', h1, h2⟩ := hel i (by omega)
      rw [cellsOf80] at h1
      refine op_read h1 h2 ?_
      have := bulk_part (d := Dd i) (l := (List.range len).map Dd) (List.mem_map.2 ⟨i, List.mem_range.2 hi, rfl⟩)
      show Rows.uptoBulk (Dd i) ≤ _
      omega)
    refine ⟨(List.range len).map L, by simp; omega, .inr ⟨a, cap, by rw [List.length_map, List.length_range]; exact hc, fun j u hu => cells_of L len (fun i hi => (hL i hi).2) j u hu⟩, fun o ho => ?_⟩
    obtain ⟨i, hi, rfl⟩ := List.mem_map.1 ho
    exact (hL i (List.mem_range.1 hi)).1

end

set_option maxRecDepth 100000 in
theorem kernels_calls {w : World} {v : Value} {os : List OpR} (h : Script w v os) : Calls Tryz.prog 3 #[v] w fun e w' => e = .returned (.bool true) ∧ Keeps [] w w' := by
  have hp := hide (plays_calls h)
  go_enter Tryz.func3, Tryz.ntmps3
  go_wp2_with fail
  refine hp.out.mono ?_
  rintro e W ⟨rfl, k⟩
  go_wp2_with fail
  go_ret
  exact ⟨rfl, k⟩

end Go.Proofs.YtgjomknpjigkhaaGreatDoor
