/- K1. -/
import Derived.Test.YtgjomknpjigkhaaGreatDoorR8
import Derived.Test.YtgjomknpjigkhaaGreatDoorMSwap
import Derived.Test.YtgjomknpjigkhaaGreatDoorMFold
import Derived.Test.YtgjomknpjigkhaaGreatDoorW10
import Derived.Test.YtgjomknpjigkhaaGreatDoorR5
import Derived.Deep.RegionHeld3
namespace Go.Proofs.YtgjomknpjigkhaaGreatDoor
open Go.RowKit Go.Shelf

/-- A kernel's state. -/
structure KS where
  S : ST
  R : List (Int × Int)
  H : List (Int × Int)
  nx : Int

/-- Where a kernel's blocks lie. -/
structure KB where
  k : Nat
  rr : Nat
  rh : Nat
  B : SB

def KB.own (b : KB) : List Nat := b.k :: b.rr :: b.rh :: b.B.own

structure KernelAt (w : World) (b : KB) (K : KS) : Prop where
  head : CellsAt w b.k #[.pointer (some ⟨b.B.b, 0, none⟩), .map (some b.rr), .map (some b.rh), .int .i64 K.nx]
  store : StoreAt w b.B K.S
  roots : MapIs eI eI w b.rr K.R
  handles : MapIs eI eI w b.rh K.H
  apart : b.own.Nodup

theorem KernelAt.of_heap {w w' : World} {b : KB} {K : KS} (h : KernelAt w b K) (e : ∀ i ∈ b.own, w'.heap[i]? = w.heap[i]?) : KernelAt w' b K :=
  ⟨h.head.of_heap (e _ (by simp [KB.own])), h.store.of_heap (fun i hi => e i (by simp [KB.own, hi])), h.roots.of_heap (e _ (by simp [KB.own])), h.handles.of_heap (e _ (by simp [KB.own])), h.apart⟩

theorem KernelAt.lt {w : World} {b : KB} {K : KS} (h : KernelAt w b K) : ∀ i ∈ b.own, i < w.heap.size := by
  intro i hi
  simp only [KB.own, List.mem_cons] at hi
  rcases hi with rfl | rfl | rfl | hi
  · exact h.head.lt
  · exact h.roots.lt
  · exact h.handles.lt
  · exact h.store.lt i hi

theorem KernelAt.keeps {w w' : World} {b : KB} {K : KS} {T : List Nat} (h : KernelAt w b K) (k : Keeps T w w') (hT : ∀ i ∈ b.own, i ∉ T) : KernelAt w' b K :=
  h.of_heap fun i hi => k.block i (h.lt i hi) (hT i hi)
theorem KernelAt.drew {w : World} {b : KB} {K : KS} (h : KernelAt w b K) : KernelAt w.drew b K := h.of_heap fun _ _ => rfl
theorem KernelAt.drewN {w : World} {b : KB} {K : KS} (h : KernelAt w b K) (n : Nat) : KernelAt (w.drewN n) b K := h.of_heap fun _ _ => rfl

theorem KB.own_ne {b : KB} (h : b.own.Nodup) : b.k ≠ b.rr ∧ b.k ≠ b.rh ∧ b.k ∉ b.B.own ∧ b.rr ≠ b.rh ∧ b.rr ∉ b.B.own ∧ b.rh ∉ b.B.own ∧ b.B.own.Nodup := by
  simp only [KB.own, List.nodup_cons, List.mem_cons, not_or] at h
  exact ⟨h.1.1, h.1.2.1, h.1.2.2, h.2.1.1, h.2.1.2, h.2.2.1, h.2.2.2⟩

theorem KernelAt.inStore {w w' : World} {b : KB} {K : KS} {S' : ST} (h : KernelAt w b K) (hS : StoreAt w' b.B S') (k : Keeps b.B.own w w') : KernelAt w' b { K with S := S' } := by
  obtain ⟨_, _, h3, _, h5, h6, _⟩ := KB.own_ne h.apart
  exact ⟨h.head.keeps k h3, hS, h.roots.kept k h5, h.handles.kept k h6, h.apart⟩

theorem KB.own_sub (b : KB) : ∀ i ∈ b.B.own, i ∈ b.own := fun i hi => by simp [KB.own, hi]

/-- What holds of a kernel also amid a call. -/
structure KW (K : KS) : Prop where
  wf : WF K.S
  n1 : 1 ≤ K.S.n
  n8 : K.S.n ≤ 8
  zero : get K.R 0 = some 0
  one : get K.R 1 = some 1
  inv : ∀ r h, get K.H r = some h ↔ get K.R h = some r
  ok : ∀ h r, get K.R h = some r → K.S.ok r
  key : ∀ h r, get K.R h = some r → 0 ≤ h ∧ h < K.nx
  nx2 : 2 ≤ K.nx
  hundred : K.R.length ≤ 102

/-- What holds of a kernel between calls. -/
structure KI (K : KS) : Prop extends KW K where
  known : K.S.K = []
  reach : ∀ f t, get K.S.N f = some t → Reach K.S (K.R.map Prod.snd) f
  len : (K.S.N.length : Int) ≤ 102 * cst K.S.n

theorem KI.kok {K : KS} (h : KI K) : KOK K.S := by
  intro f g k r hg
  rw [h.known] at hg
  cases hg

theorem cst8 : cst 8 = 255 := by decide
theorem cst_le {n : Nat} (h : n ≤ 8) : cst n ≤ 255 := by have := cst_mono h; rw [cst8] at this; exact this

theorem KI.few {K : KS} (h : KI K) : K.S.N.length ≤ 26010 := by
  have := h.len
  have := cst_le h.n8
  omega

theorem KW.ext {K : KS} {S' : ST} (h : KW K) (x : Ext K.S S') (hw : WF S') : KW { K with S := S' } :=
  ⟨hw, by show 1 ≤ S'.n; rw [x.n]; exact h.n1, by show S'.n ≤ 8; rw [x.n]; exact h.n8, h.zero, h.one, h.inv, fun a r hr => x.ok (h.ok a r hr), h.key, h.nx2, h.hundred⟩

theorem get_mem_map {L : List (Int × Int)} (hn : (L.map Prod.fst).Nodup) (y : Int) : y ∈ L.map Prod.snd ↔ ∃ a, get L a = some y := by
  rw [List.mem_map]
  constructor
  · rintro ⟨⟨a, v⟩, hx, rfl⟩; exact ⟨a, get_of_mem hn hx⟩
  · rintro ⟨a, ha⟩; exact ⟨(a, y), get_some_mem ha, rfl⟩

theorem Reach.sub {S S' : ST} {roots roots' : List Int} (hr : ∀ r ∈ roots, r ∈ roots') (hN : ∀ f t, get S.N f = some t → Reach S roots f → get S'.N f = some t) {f : Int} (h : Reach S roots f) : Reach S' roots' f := by
  have : Reach S roots f ∧ Reach S' roots' f := h (fun g => Reach S roots g ∧ Reach S' roots' g) (fun r hm h2 => ⟨Reach.root hm h2, Reach.root (hr r hm) h2⟩)
    (fun g v l hh ⟨a, b⟩ ht => ⟨fun h2 => ⟨a.low ht h2, b.low (hN _ _ ht a) h2⟩, fun h2 => ⟨a.high ht h2, b.high (hN _ _ ht a) h2⟩⟩)
  exact this.2

theorem KW.swept {K : KS} {S' : ST} {ys : List Int} (h : KW K) (hn : (K.R.map Prod.fst).Nodup) (hy : ValuesOf K.R ys) (hs : Swept K.S S' ys) (hN : (S'.N.map Prod.fst).Nodup) : KI { K with S := S' } := by
  have hro : RootsOk K.S ys := fun r hr => by
    obtain ⟨a, ha⟩ := (hy.1 r).1 hr
    exact h.ok a r ha
  have hnn : S'.n = K.S.n := by unfold ST.n; rw [hs.order]
  refine { wf := hs.wf h.wf, n1 := by show 1 ≤ S'.n; rw [hnn]; exact h.n1, n8 := by show S'.n ≤ 8; rw [hnn]; exact h.n8, zero := h.zero, one := h.one, inv := h.inv, ok := fun a r hr => hs.ok_root hro ((hy.1 r).2 ⟨a, hr⟩), key := h.key, nx2 := h.nx2, hundred := h.hundred, known := hs.known, reach := ?_, len := ?_ }
  · intro f t ht
    obtain ⟨h1, h2⟩ := (hs.node f t).1 ht
    exact h2.sub (fun r hr => (get_mem_map hn r).2 ((hy.1 r).1 hr)) (fun g u hu hr => (hs.node g u).2 ⟨hu, hr⟩)
  · show (S'.N.length : Int) ≤ 102 * cst S'.n
    rw [hnn]
    have h1 := swept_length h.wf hro hs hN
    have h2 := hy.2.1
    have h3 := h.hundred
    have h4 := cst_nonneg K.S.n
    have h5 : (ys.length : Int) * cst K.S.n ≤ 102 * cst K.S.n := Int.mul_le_mul_of_nonneg_right (by omega) h4
    omega

theorem own_row {w : World} {base : Nat} {v : Value} {xs : List Int} (h : w.ownsRow base 3 1 v xs.length (ints xs)) (h0 : 0 < xs.length) : ∃ g cap, v = .slice (some ⟨g, 0, none⟩) xs.length cap ∧ base ≤ g ∧ RowIs w g xs := by
  obtain ⟨e0, ⟨rfl, e2⟩ | ⟨g, cap, cur, rfl, e2, e3, e4, e5, e6, e7⟩⟩ := id h
  · omega
  · refine ⟨g, cap, rfl, e2, cur, ⟨_, e3⟩, fun i x hx => ?_⟩
    have := ownsRow_cell h hx
    rw [CellsAt.cell ⟨_, e3⟩] at this
    exact this

theorem ValuesOf.roots {K : KS} (h : KW K) {ys : List Int} (hy : ValuesOf K.R ys) : RootsOk K.S ys := fun r hr => by
  obtain ⟨a, ha⟩ := (hy.1 r).1 hr
  exact h.ok a r ha

theorem ValuesOf.pos {K : KS} (h : KW K) {ys : List Int} (hy : ValuesOf K.R ys) : 0 < ys.length := List.length_pos_of_mem ((hy.1 0).2 ⟨0, h.zero⟩)

set_option maxRecDepth 100000 in
set_option maxHeartbeats 1000000 in
theorem ksweep_calls {w : World} {b : KB} {K : KS} (hK : KernelAt w b K) (h : KW K) (hN : K.S.N.length ≤ 100000000) :
    Calls Tryz.prog 190 #[.pointer (some ⟨b.k, 0, none⟩)] w fun e w' => e = .returned (.tuple #[]) ∧ ∃ S' ys, KernelAt w' b { K with S := S' } ∧ ValuesOf K.R ys ∧ Swept K.S S' ys ∧ KI { K with S := S' } ∧ Keeps b.B.own w w' := by
  have hK2 := hK.drew
  have g0 : w.cell? ⟨b.k, 0, none⟩ = some (.pointer (some ⟨b.B.b, 0, none⟩)) ∧ w.cell? ⟨b.k, 1, none⟩ = some (.map (some b.rr)) := ⟨hK.head.cell 0, hK.head.cell 1⟩
  go_enter Tryz.func190, Tryz.ntmps190
  go_wp2_with fail
  go_region_held3 (fun w' => w'.cell? ⟨b.k, 0, none⟩ = some (.pointer (some ⟨b.B.b, 0, none⟩)) ∧ w'.cell? ⟨b.k, 1, none⟩ = some (.map (some b.rr))) (first | exact ⟨hK2.head.cell 0, hK2.head.cell 1⟩ | exact ⟨hK3.head.cell 0, hK3.head.cell 1⟩ | exact ⟨hK4.head.cell 0, hK4.head.cell 1⟩ | exact ⟨hK5.head.cell 0, hK5.head.cell 1⟩)
    (first
      | (go_at_call 241
         refine (values_calls _ _).mono ?_
         rintro e W3 ⟨rfl, hW3⟩
         have k3 : Keeps [] w.drew W3 := by rw [hW3]; exact Keeps.alloc _ _ _
         have hp3 : CellsAt W3 w.drew.heap.size #[.map (some b.rr)] := by rw [hW3]; exact CellsAt.new _ _ _
         have hK3 := hK2.keeps k3 (by simp)
         clear hW3)
      | (go_at_call 240
         refine (sorted_calls hp3 hK3.roots (by have := h.hundred; omega)).mono ?_
         rintro e W4 ⟨v, ys, rfl, hown, hys, k4⟩
         have hK4 := hK3.keeps k4 (by simp)
         obtain ⟨g, cap, hv, hgb, hrow⟩ := own_row hown (hys.pos h)
         subst hv
         clear hown)
      | (go_at_call 221
         refine (sweep_calls hK4.store h.wf g cap ys hrow (fun x => by have := hK3.lt g (KB.own_sub b g x); omega) (hys.roots h) (by have := hys.2.1; have := h.hundred; omega) hN).mono ?_
         rintro e W5 ⟨rfl, S', hS5, hsw, k5⟩
         have hK5 := hK4.inStore hS5 k5
         have hfin := h.swept hK.roots.nodup hys hsw hS5.nodes.nodup
         have kk5 : Keeps b.B.own w W5 := ((Keeps.drew _ w).trans ((k3.mono (by simp)).trans (k4.mono (by simp)))).trans k5))
  all_goals
    go_wp2_with fail
    go_end0
    exact ⟨rfl, S', ys, hK5, hys, hsw, hfin, kk5⟩

end Go.Proofs.YtgjomknpjigkhaaGreatDoor
