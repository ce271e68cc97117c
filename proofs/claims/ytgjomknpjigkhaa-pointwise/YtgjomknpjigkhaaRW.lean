/- RW. -/
import Derived.Test.YtgjomknpjigkhaaRows
import Derived.Test.YtgjomknpjigkhaaP1
import Derived.ProofKit
import Derived.SizedLaws
import Derived.WideKeyArgs
import Derived.Deep.Slices
namespace Go.Proofs.Ytgjomknpjigkhaa
open Go.ChangeShapes Go.WideShapes Go.ChangeAt Go.RowKit

theorem Try.own : ownKnob Try.prog.godebug = none := by kernel_rfl
theorem Try.laidOut : laidOutB Try.prog = true := by kernel_rfl
theorem cells27 : Try.prog.cellsOf 27 = 4 := by kernel_rfl
theorem cellsI : Try.prog.cellsOf 3 = 1 := by kernel_rfl
theorem bytes27 : Try.prog.bytesOf 27 = 32 := by kernel_rfl

theorem fits_of {x : Int} (h : (Lit.int .i64 x).wf = true) : Fits x := by
  simp [Lit.wf, IntKind.min, IntKind.max, IntKind.signed, IntKind.bits] at h
  exact h

section
variable {H : Type} {enc : TypeId × Value → H}


set_option maxRecDepth 100000 in
theorem step_cells {w : World} {n : Nat} {a : Addr} {cs : List Value} {x : DataW H × List MemPlace} (h1 : w.cells? 0 a 4 = some cs) (h2 : DataW.trod enc Try.prog w 0 (fun _ => true) true n 27 cs = some x) :
    ∃ k p q r : Int, Fits p ∧ Fits q ∧ Fits r ∧ w.cell? a = some (.int .i64 k) ∧ w.cell? (a.add 1) = some (.int .i64 p) ∧ w.cell? (a.add 2) = some (.int .i64 q) ∧ w.cell? (a.add 3) = some (.int .i64 r) := by
  obtain ⟨_, hlen, hcell⟩ := World.cells?_some h1
  obtain ⟨xs, k, hk, hxy, _, hxl, hf⟩ := DataW.trod_struct Try.underlying27 h2
  match xs, hxl, cs, hlen with
  | [y0, y1, y2, y3], _, [v0, v1, v2, v3], _ =>
    have g0 := hf 0 _ rfl
    have g1 := hf 1 _ rfl
    have g2 := hf 2 _ rfl
    have g3 := hf 3 _ rfl
    simp [cellsI] at g0 g1 g2 g3
    obtain ⟨z0, e0, _, _⟩ := DataW.trod_int Try.underlying3 g0
    obtain ⟨z1, e1, _, w1⟩ := DataW.trod_int Try.underlying3 g1
    obtain ⟨z2, e2, _, w2⟩ := DataW.trod_int Try.underlying3 g2
    obtain ⟨z3, e3, _, w3⟩ := DataW.trod_int Try.underlying3 g3
    simp only [List.cons.injEq, and_true] at e0 e1 e2 e3
    subst e0 e1 e2 e3
    have c0 := hcell 0 (by omega)
    have c1 := hcell 1 (by omega)
    have c2 := hcell 2 (by omega)
    have c3 := hcell 3 (by omega)
    exact ⟨z0, z1, z2, z3, fits_of w1, fits_of w2, fits_of w3, by simpa using (show w.cell? a = _ from c0), by simpa using c1, by simpa using c2, by simpa using c3⟩


set_option maxRecDepth 100000 in
theorem script_of {w : World} {v : Value} {d : DataW H} {ps : List MemPlace} {r : Go.Reach} {b0 : Nat} (hval : Value.okWide Try.prog w r b0 22 v) (h : DataW.Trod enc Try.prog w 0 (fun _ => true) true 22 v d ps)
    (hsz : ∀ elems spare, d = .slice elems spare → (elems.length + spare.length) * 32 ≤ 140737488351232) : ∃ n, Script w v n := by
  obtain ⟨sa, sl, sc, rfl⟩ := okWide_slice Try.underlying22 hval
  obtain ⟨fuel, hn⟩ := h
  have hn' : DataW.trod enc Try.prog w 0 (fun _ => true) true fuel 22 [.slice sa sl sc] = some (d, ps) := hn
  rcases Deep.open_slice Try.underlying22 hn' with ⟨hc, _⟩ | ⟨a, len, cap, m, n, D, Pl, hc, hb, hl, hm, hmm, hx, hel⟩
  · simp only [List.cons.injEq, and_true] at hc
    exact ⟨0, by omega, .inl ⟨hc, rfl⟩⟩
  · simp only [List.cons.injEq, and_true] at hc
    simp only [Prod.mk.injEq] at hx
    have hlm : len ≤ m := by rw [hmm]; simp; omega
    have := hsz _ _ hx.1
    simp only [List.length_map, List.length_range] at this
    refine ⟨len, by omega, .inr ⟨a, cap, hc, fun i hi => ?_⟩⟩
    obtain ⟨cs', h1, h2⟩ := hel i (by omega)
    rw [cells27] at h1
    exact step_cells h1 h2

end

end Go.Proofs.Ytgjomknpjigkhaa
