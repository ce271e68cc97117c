/- The law's step: the calls. -/
import Derived.Test.YtgjomknpjigkhaaGreatDoorC6
namespace Go.Proofs.YtgjomknpjigkhaaGreatDoor
open Go.RowKit Go.Shelf

/-- A step's list of numbers. -/
def LS (B wb : Nat) (w : World) (vL : Value) : Prop := vL = .slice none 0 0 ∨ ∃ (g o : Nat) (sp : Option Nat) (c : Nat) (L : List Int), vL = .slice (some ⟨g, o, sp⟩) L.length c ∧ (0 < L.length → sp = none) ∧ L.length ≤ c ∧ L.length ≤ 10000000 ∧ (0 < L.length → g < B ∧ g ≠ wb) ∧ ∀ (i : Nat) (x : Int), L[i]? = some x → w.cell? ⟨g, o + i, none⟩ = some (.int .i64 x)

theorem LS.form {B wb : Nat} {w : World} {vL : Value} (h : LS B wb w vL) : ∃ a n c, vL = .slice a n c := by
  rcases h with rfl | ⟨g, o, sp, c, L, rfl, _⟩
  · exact ⟨_, _, _, rfl⟩
  · exact ⟨_, _, _, rfl⟩

theorem LS.keeps {B wb : Nat} {w w' : World} {vL : Value} {T : List Nat} (h : LS B wb w vL) (k : Keeps T w w') (hB : B ≤ w.heap.size) (hT : ∀ i ∈ T, i = wb ∨ B ≤ i) : LS B wb w' vL := by
  rcases h with rfl | ⟨g, o, sp, c, L, rfl, hs, h1, h2, h3, h4⟩
  · exact .inl rfl
  · refine .inr ⟨g, o, sp, c, L, rfl, hs, h1, h2, h3, fun i x hx => ?_⟩
    have hi : 0 < L.length := by have := (List.getElem?_eq_some_iff.1 hx).1; omega
    have := h3 hi
    rw [← h4 i x hx]
    exact cell_same (k.block g (by omega) (fun hm => by rcases hT g hm with e | e <;> omega)) (o + i)

theorem answered_any {B wb : Nat} {w : World} {p : Pr} (h : PairAt w p) (hr : Room p.K) (hB : B ≤ w.heap.size) (hlow : ∀ i ∈ p.own, B ≤ i) (Kd On A B' C : Int) (h2 : 2 ≤ Kd) (h7 : Kd ≤ 7) (S : ByteArray) {vL : Value} (hL : LS B wb w vL) : Calls Tryz.prog 60 #[prV p, opV Kd On A B' C S vL] w (Answers p w) := by
  obtain rfl | rfl | rfl | rfl | rfl | rfl : Kd = 2 ∨ Kd = 3 ∨ Kd = 4 ∨ Kd = 5 ∨ Kd = 6 ∨ Kd = 7 := by omega
  · obtain ⟨a, n, c, rfl⟩ := hL.form; exact answered_var h hr On A B' C S a n c
  · obtain ⟨a, n, c, rfl⟩ := hL.form; exact answered_not h hr On A B' C S a n c
  · obtain ⟨a, n, c, rfl⟩ := hL.form; exact answered_apply h hr On A B' C S a n c
  · obtain ⟨a, n, c, rfl⟩ := hL.form; exact answered_ite h hr On A B' C S a n c
  · obtain ⟨a, n, c, rfl⟩ := hL.form; exact answered_exists h hr On A B' C S a n c
  · rcases hL with rfl | ⟨g, o, sp, c, L, rfl, hs, h1, h2, h3, h4⟩
    · exact answered_replace0 h hr On A B' C S
    · exact answered_replace h hr On A B' C S g o sp c L hs h1 h2 (fun hl => by have := h3 hl; omega) (fun hl hm => by have := h3 hl; have := hlow g hm; omega) h4

theorem told_any {w : World} {p : Pr} (h : PairAt w p) (hr : Room p.K) (wb : Nat) (Kd On A B' C : Int) (h8 : 8 ≤ Kd) (h16 : Kd ≤ 16) (h13 : Kd ≠ 13) (S : ByteArray) (a : Option Addr) (n c : Nat) : Calls Tryz.prog 61 #[.pointer (some ⟨wb, 0, none⟩), prV p, opV Kd On A B' C S (.slice a n c)] w (Answers p w) := by
  obtain rfl | rfl | rfl | rfl | rfl | rfl | rfl | rfl : Kd = 8 ∨ Kd = 9 ∨ Kd = 10 ∨ Kd = 11 ∨ Kd = 12 ∨ Kd = 14 ∨ Kd = 15 ∨ Kd = 16 := by omega
  · exact told_eval h wb On A B' C S a n c
  · exact told_count h hr wb On A B' C S a n c
  · exact told_support h wb On A B' C S a n c
  · exact told_size h wb On A B' C S a n c
  · exact told_total h wb On A B' C S a n c
  · exact told_swap h hr wb On A B' C S a n c
  · exact told_sift h hr wb On A B' C S a n c
  · exact told_drop h wb On A B' C S a n c

def StepsTo (B : Nat) (w : World) (wb : Nat) (m N : Nat) (e : Ending) (w' : World) : Prop :=
  e = .returned (.bool true) ∧ ∃ vk' vi' ps' es' T, WA B w' wb vk' vi' ps' es' (N + 1) ∧ m ≤ ps'.length ∧ Keeps T w w' ∧ ∀ i ∈ T, i = wb ∨ B ≤ i

section
variable {B : Nat} {w w' : World} {wb : Nat} {vk vi : Value} {ps : List Pr} {es : List (Nat × Nat × Nat)} {N : Nat}

theorem WA.steps (h : WA B w wb vk vi ps es N) {j : Nat} {p : Pr} (hj : ps[j]? = some p) {W : World} (k0 : Keeps [] w W) {e : Ending} (g : Answers p W e w') : StepsTo B w wb ps.length N e w' := by
  obtain ⟨rfl, p', g⟩ := g
  have hW := h.keeps0 k0
  refine ⟨rfl, vk, vi, _, es, p.own, hW.goes hj g, by rw [List.length_set]; exact Nat.le_refl _, (k0.mono (by simp)).trans g.k, fun i hi => .inr (h.low p (List.mem_of_getElem? hj) i hi)⟩

theorem WA.lists (h : WA B w wb vk vi ps es N) {p : Pr} {W : World} (k0 : Keeps [] w W) {e : Ending} (g : e = .returned (.bool true) ∧ ∃ vi' es4, Ordered' B W w' wb p vk vi vi' es es4) : StepsTo B w wb ps.length N e w' := by
  obtain ⟨rfl, vi', es4, g⟩ := g
  have hW := h.keeps0 k0
  refine ⟨rfl, vk, vi', ps, _, wb :: vi.ownBlock.toList, hW.listed g, Nat.le_refl _, (k0.mono (by simp)).trans g.k, fun i hi => ?_⟩
  rcases List.mem_cons.1 hi with e | e
  · exact .inl e
  · exact .inr (own_base h.mw.is i (by simpa using e)).1

theorem WA.told (h : WA B w wb vk vi ps es N) (hN : N ≤ 10000000) {j : Nat} {p : Pr} (hj : ps[j]? = some p) {W : World} (k0 : Keeps [] w W) (Kd On A B' C : Int) (h8 : 8 ≤ Kd) (h16 : Kd ≤ 16) (S : ByteArray) {vL : Value} (hL : LS B wb w vL) :
    Calls Tryz.prog 61 #[.pointer (some ⟨wb, 0, none⟩), prV p, opV Kd On A B' C S vL] W (StepsTo B w wb ps.length N) := by
  have hp := List.mem_of_getElem? hj
  have hW := h.keeps0 k0
  obtain ⟨a, n, c, rfl⟩ := hL.form
  by_cases h13 : Kd = 13
  · subst h13
    exact (told_order (hW.pairs p hp) hW.mw h.e4 (by have := h.elen; omega) hW.size (h.wbp hp) (fun i hi hm => (h.dk p hp i hm).2.1 hi) On A B' C S a n c).mono fun e w' g => h.lists k0 g
  · exact (told_any (hW.pairs p hp) (h.room hN hp) wb Kd On A B' C h8 h16 h13 S a n c).mono fun e w' g => h.steps hj k0 g

theorem WA.answered (h : WA B w wb vk vi ps es N) (hN : N ≤ 10000000) {j : Nat} {p : Pr} (hj : ps[j]? = some p) {W : World} (k0 : Keeps [] w W) (Kd On A B' C : Int) (h2 : 2 ≤ Kd) (h7 : Kd ≤ 7) (S : ByteArray) {vL : Value} (hL : LS B wb w vL) :
    Calls Tryz.prog 60 #[prV p, opV Kd On A B' C S vL] W (StepsTo B w wb ps.length N) := by
  have hp := List.mem_of_getElem? hj
  have hW := h.keeps0 k0
  exact (answered_any (hW.pairs p hp) (h.room hN hp) hW.size (h.low p hp) Kd On A B' C h2 h7 S (hL.keeps k0 h.size (by simp))).mono fun e w' g => h.steps hj k0 g

end
end Go.Proofs.YtgjomknpjigkhaaGreatDoor
