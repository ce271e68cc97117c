/- K2, K3, K4, K5, K6, K7, K8, K9, K10, N1, N2, K11, M1. -/
import Derived.Test.YtgjomknpjigkhaaGreatDoorK1
import Derived.Defers
import Derived.Test.YtgjomknpjigkhaaGreatDoorMBdd
import Derived.Maps.AppendAt
namespace Go.Proofs.YtgjomknpjigkhaaGreatDoor
open Go.RowKit Go.Shelf

set_option maxRecDepth 100000 in
set_option maxHeartbeats 1000000 in
theorem ksweep_deferred (u : FrameMode) {w : World} {b : KB} {K : KS} (hK : KernelAt w b K) (h : KW K) (hN : K.S.N.length ≤ 100000000) :
    CallsD Tryz.prog 190 #[.pointer (some ⟨b.k, 0, none⟩)] u w fun e u' w' => u' = u ∧ (e = .returned (.tuple #[]) ∧ ∃ S' ys, KernelAt w' b { K with S := S' } ∧ ValuesOf K.R ys ∧ Swept K.S S' ys ∧ KI { K with S := S' } ∧ Keeps b.B.own w w') := by
  have hK2 := hK.drew
  have g0 : w.cell? ⟨b.k, 0, none⟩ = some (.pointer (some ⟨b.B.b, 0, none⟩)) ∧ w.cell? ⟨b.k, 1, none⟩ = some (.map (some b.rr)) := ⟨hK.head.cell 0, hK.head.cell 1⟩
  go_enter_d Tryz.func190, Tryz.ntmps190
  go_wp2_with fail
  go_region_held3 (fun w' => w'.cell? ⟨b.k, 0, none⟩ = some (.pointer (some ⟨b.B.b, 0, none⟩)) ∧ w'.cell? ⟨b.k, 1, none⟩ = some (.map (some b.rr))) (first | exact ⟨hK2.head.cell 0, hK2.head.cell 1⟩ | exact ⟨hK3.head.cell 0, hK3.head.cell 1⟩ | exact ⟨hK4.head.cell 0, hK4.head.cell 1⟩ | exact ⟨hK5.head.cell 0, hK5.head.cell 1⟩)
    (first
      | (go_at_call 241
         refine (values_calls _ _).mono ?_
         rintro e W3 ⟨rfl, hW3⟩
         have k3 : Keeps [] w.drew W3 := by rw [hW3]; exact Keeps.alloc _ _ _
         have hp3 : CellsAt W3 w.drew.heap.size #[.map (some b.rr)] := by rw [hW3]; exact CellsAt.new _ _ _
         have hK3 := hK2.keeps k3 (by simp)
         clear hW3)
      | (go_at_call 240
         refine (sorted_calls hp3 hK3.roots (by have := h.hundred; omega)).mono ?_
         rintro e W4 ⟨v, ys, rfl, hown, hys, k4⟩
         have hK4 := hK3.keeps k4 (by simp)
         obtain ⟨g, cap, hv, hgb, hrow⟩ := own_row hown (hys.pos h)
         subst hv
         clear hown)
      | (go_at_call 221
         refine (sweep_calls hK4.store h.wf g cap ys hrow (fun x => by have := hK3.lt g (KB.own_sub b g x); omega) (hys.roots h) (by have := hys.2.1; have := h.hundred; omega) hN).mono ?_
         rintro e W5 ⟨rfl, S', hS5, hsw, k5⟩
         have hK5 := hK4.inStore hS5 k5
         have hfin := h.swept hK.roots.nodup hys hsw hS5.nodes.nodup
         have kk5 : Keeps b.B.own w W5 := ((Keeps.drew _ w).trans ((k3.mono (by simp)).trans (k4.mono (by simp)))).trans k5))
  all_goals
    go_wp2_with fail
    go_end0
    exact ⟨rfl, S', ys, hK5, hys, hsw, hfin, kk5⟩

theorem KernelAt.rootsBlk {w : World} {b : KB} {K : KS} (h : KernelAt w b K) {o : Obj} {R : List (Int × Int)} (hm : MapIs eI eI (blk w b.rr o) b.rr R) : KernelAt (blk w b.rr o) b { K with R := R } := by
  obtain ⟨h1, h2, h3, h4, h5, h6, _⟩ := KB.own_ne h.apart
  exact ⟨h.head.of_heap (blk_other o h1), h.store.of_heap (fun i hi => blk_other o (fun e => h5 (e ▸ hi))), hm, h.handles.of_heap (blk_other o h4.symm), h.apart⟩
theorem KernelAt.handlesBlk {w : World} {b : KB} {K : KS} (h : KernelAt w b K) {o : Obj} {H : List (Int × Int)} (hm : MapIs eI eI (blk w b.rh o) b.rh H) : KernelAt (blk w b.rh o) b { K with H := H } := by
  obtain ⟨h1, h2, h3, h4, h5, h6, _⟩ := KB.own_ne h.apart
  exact ⟨h.head.of_heap (blk_other o h2), h.store.of_heap (fun i hi => blk_other o (fun e => h6 (e ▸ hi))), h.roots.of_heap (blk_other o h4), hm, h.apart⟩
theorem KernelAt.nextCell {w : World} {b : KB} {K : KS} (h : KernelAt w b K) (n : Int) : KernelAt (w.setCell ⟨b.k, 3, none⟩ (.int .i64 n)) b { K with nx := n } := by
  obtain ⟨h1, h2, h3, h4, h5, h6, _⟩ := KB.own_ne h.apart
  have e : ∀ i, i ≠ b.k → (w.setCell ⟨b.k, 3, none⟩ (.int .i64 n)).heap[i]? = w.heap[i]? := fun i hi => Below.heap_setCell w _ _ i hi
  have hd := h.head.setCell 3 (.int .i64 n)
  exact ⟨by simpa using hd, h.store.of_heap (fun i hi => e i (fun x => h3 (x ▸ hi))), h.roots.of_heap (e _ h1.symm), h.handles.of_heap (e _ h2.symm), h.apart⟩

/-- A handle more. -/
def KS.more (K : KS) (r : Int) : KS := { K with R := put K.R K.nx r, H := put K.H r K.nx, nx := K.nx + 1 }

theorem KW.more {K : KS} (h : KW K) {r : Int} (hr : K.S.ok r) (hn : get K.H r = none) (hl : K.R.length ≠ 102) : KW (K.more r) := by
  have hfr : get K.R K.nx = none := by
    cases hg : get K.R K.nx with
    | none => rfl
    | some x => have := h.key _ _ hg; omega
  have hnr : ∀ a, get K.R a ≠ some r := fun a ha => by
    have := (h.inv r a).2 ha
    rw [hn] at this
    cases this
  have h2 := h.nx2
  have eR : ∀ a, get (K.more r).R a = if a = K.nx then some r else get K.R a := fun a => get_put _ _ _ _
  have eH : ∀ a, get (K.more r).H a = if a = r then some K.nx else get K.H a := fun a => get_put _ _ _ _
  refine ⟨h.wf, h.n1, h.n8, ?_, ?_, ?_, ?_, ?_, ?_, ?_⟩
  · rw [eR, if_neg (by omega)]; exact h.zero
  · rw [eR, if_neg (by omega)]; exact h.one
  · intro x a
    rw [eR, eH]
    by_cases e1 : x = r
    · subst e1
      simp only [if_true, Option.some.injEq]
      by_cases e2 : a = K.nx
      · simp [e2]
      · rw [if_neg e2]
        exact ⟨fun e => absurd e.symm e2, fun e => absurd e (hnr a)⟩
    · rw [if_neg e1]
      by_cases e2 : a = K.nx
      · subst e2
        simp only [if_true, Option.some.injEq]
        constructor
        · intro e; have := (h.inv _ _).1 e; rw [hfr] at this; cases this
        · intro e; exact absurd e.symm e1
      · rw [if_neg e2]; exact h.inv x a
  · intro a x ha
    rw [eR] at ha
    by_cases e2 : a = K.nx
    · rw [if_pos e2] at ha; rw [← Option.some.inj ha]; exact hr
    · rw [if_neg e2] at ha; exact h.ok a x ha
  · intro a x ha
    rw [eR] at ha
    show 0 ≤ a ∧ a < K.nx + 1
    by_cases e2 : a = K.nx
    · omega
    · rw [if_neg e2] at ha; have := h.key a x ha; omega
  · show 2 ≤ K.nx + 1; omega
  · show (put K.R K.nx r).length ≤ 102
    have := length_put_le K.R K.nx r
    have := h.hundred
    omega

/-- What 'answer' makes of a root. -/
def AnsOf (K : KS) (r : Int) (h e : Int) (K1 : KS) : Prop :=
  (∃ a, get K.H r = some a ∧ h = a ∧ e = 0 ∧ K1 = K) ∨ (get K.H r = none ∧ K.R.length = 102 ∧ h = 0 ∧ e = 3 ∧ K1 = K) ∨ (get K.H r = none ∧ K.R.length ≠ 102 ∧ h = K.nx ∧ e = 0 ∧ K1 = K.more r)

/-- Swept behind it. -/
structure AnsPost (K : KS) (r : Int) (h e : Int) (K' : KS) : Prop where
  inv : KI K'
  out : ∃ K1, AnsOf K r h e K1 ∧ K'.R = K1.R ∧ K'.H = K1.H ∧ K'.nx = K1.nx
  order : K'.S.order = K.S.order
  next : K'.S.next = K.S.next
  den : ∀ f, K'.S.ok f → ∀ σ, K'.S.den f σ = K.S.den f σ

set_option maxRecDepth 100000 in
set_option maxHeartbeats 2000000 in
theorem answer_calls {w : World} {b : KB} {K : KS} (hK : KernelAt w b K) (h : KW K) (hN : K.S.N.length ≤ 100000000) (r : Int) (hr : K.S.ok r) (hx : K.nx < 9223372036854775807) :
    Calls Tryz.prog 166 #[.pointer (some ⟨b.k, 0, none⟩), .int .i64 r] w fun e w' => ∃ a x K', e = .returned (.tuple #[.int .i64 a, .int .i64 x]) ∧ KernelAt w' b K' ∧ AnsPost K r a x K' ∧ Keeps b.own w w' := by
  have hdoor : ∀ {W : World} {K1 : KS} {a x : Int}, KernelAt W b K1 → KW K1 → K1.S = K.S → AnsOf K r a x K1 → Keeps b.own w W → CallsD Tryz.prog 190 #[.pointer (some ⟨b.k, 0, none⟩)] .returning W fun e u' w' => u' = .returning ∧ e = .returned (.tuple #[]) ∧ ∃ K', KernelAt w' b K' ∧ AnsPost K r a x K' ∧ Keeps b.own w w' := by
    intro W K1 a x hK1 hW hS hA hk
    refine (ksweep_deferred .returning hK1 hW (by rw [hS]; exact hN)).mono ?_
    rintro e u' w' ⟨rfl, rfl, S', ys, h1, h2, h3, h4, h5⟩
    refine ⟨rfl, rfl, _, h1, ⟨h4, ⟨K1, hA, rfl, rfl, rfl⟩, by show S'.order = _; rw [h3.order, hS], by show S'.next = _; rw [h3.next, hS], fun f hf σ => ?_⟩, hk.trans (h5.mono (KB.own_sub b))⟩
    have := h3.den hW.wf hf σ
    rw [hS] at this
    exact this
  have c2 := hK.head.cell 2
  simp at c2
  have hl := run_look (P := Tryz.prog) Tryz.underlying146 key3 (z := .int .i64 0) zero3 hK.handles r true
  cases hg : get K.H r with
  | some a =>
    simp only [hg, Option.map_some, Option.getD_some, Option.isSome_some, eI, if_true] at hl
    have hd := hide (hdoor hK h rfl (.inl ⟨a, hg, rfl, rfl, rfl⟩) (Keeps.refl _ _))
    clear hdoor
    go_enter_defers Tryz.func166, Tryz.ntmps166
    go_wp2_with fail
    refine leaves_cons (f := 190) (args := #[.pointer (some ⟨b.k, 0, none⟩)]) (by simp) (by simp [go_sem]) ?_
    refine hd.out.mono ?_
    rintro e u' w' ⟨rfl, rfl, K', h1, h2, h3⟩
    exact ⟨_, results_tmp2 rfl _ _ _, a, 0, K', rfl, h1, h2, h3⟩
  | none =>
    simp only [hg, Option.map_none, Option.getD_none, Option.isSome_none, eI, if_true] at hl
    have c1 := hK.head.cell 1
    simp at c1
    have hlen := run_maplen (P := Tryz.prog) (K := 3) (E := 3) Tryz.underlying146 hK.roots
    by_cases h102 : K.R.length = 102
    · have hd := hide (hdoor hK h rfl (.inr (.inl ⟨hg, h102, rfl, rfl, rfl⟩)) (Keeps.refl _ _))
      clear hdoor
      rw [h102] at hlen
      go_enter_defers Tryz.func166, Tryz.ntmps166
      go_wp2_with fail
      refine leaves_cons (f := 190) (args := #[.pointer (some ⟨b.k, 0, none⟩)]) (by simp) (by simp [go_sem]) ?_
      refine hd.out.mono ?_
      rintro e u' w' ⟨rfl, rfl, K', h1, h2, h3⟩
      exact ⟨_, results_tmp2 rfl _ _ _, 0, 3, K', rfl, h1, h2, h3⟩
    · have hd := fun {W : World} (h1 : KernelAt W b (K.more r)) (h2 : Keeps b.own w W) => hide (hdoor h1 (h.more hr hg h102) rfl (.inr (.inr ⟨hg, h102, rfl, rfl, rfl⟩)) h2)
      clear hdoor
      have hne : ((K.R.length : Int) == 102) = false := by simp; omega
      have h2 := h.nx2
      have n0 : 0 ≤ K.nx := by omega
      have c3 := hK.head.cell 3
      have f3 := hK.head.frozen 3
      simp at c3
      have hK1 := hK.nextCell (K.nx + 1)
      have k1 : Keeps b.own w (w.setCell ⟨b.k, 3, none⟩ (.int .i64 (K.nx + 1))) := (Keeps.setCell _ _ _).mono (by simp [KB.own])
      have d1 := hK1.head.cell 1
      have d2 := hK1.head.cell 2
      simp at d1 d2
      obtain ⟨o, hrun, hm⟩ := run_upd (P := Tryz.prog) Tryz.underlying146 key3 hK1.roots K.nx r
      simp only [eI] at hrun
      have hK2 := hK1.rootsBlk hm
      have k2 : Keeps b.own (w.setCell ⟨b.k, 3, none⟩ (.int .i64 (K.nx + 1))) (blk (w.setCell ⟨b.k, 3, none⟩ (.int .i64 (K.nx + 1))) b.rr o) := (Keeps.blk _ _ _).mono (by simp [KB.own])
      have e2 := hK2.head.cell 2
      simp at e2
      obtain ⟨o2, hrun2, hm2⟩ := run_upd (P := Tryz.prog) Tryz.underlying146 key3 hK2.handles r K.nx
      simp only [eI] at hrun2
      have hK3 : KernelAt _ b (K.more r) := hK2.handlesBlk hm2
      have k3 : Keeps b.own (blk (w.setCell ⟨b.k, 3, none⟩ (.int .i64 (K.nx + 1))) b.rr o) (blk (blk (w.setCell ⟨b.k, 3, none⟩ (.int .i64 (K.nx + 1))) b.rr o) b.rh o2) := (Keeps.blk _ _ _).mono (by simp [KB.own])
      have hd3 := hd hK3 ((k1.trans k2).trans k3)
      clear hd
      go_enter_defers Tryz.func166, Tryz.ntmps166
      go_wp2_with fail
      refine leaves_cons (f := 190) (args := #[.pointer (some ⟨b.k, 0, none⟩)]) (by simp) (by simp [go_sem]) ?_
      refine hd3.out.mono ?_
      rintro e u' w' ⟨rfl, rfl, K', h1, h2, h3⟩
      exact ⟨_, results_tmp2 rfl _ _ _, K.nx, 0, rfl, K', h1, h2, h3⟩

end Go.Proofs.YtgjomknpjigkhaaGreatDoor

namespace Go.Proofs.YtgjomknpjigkhaaGreatDoor
open Go.RowKit Go.Shelf

/-- A function is answered by its handle, an old one or a new one. -/
structure Ans (K K' : KS) (F : (Int → Bool) → Bool) (h e c : Int) : Prop where
  inv : KI K'
  order : K'.S.order = K.S.order
  next : K'.S.next ≤ K.S.next + c
  den : ∀ a r, get K.R a = some r → ∀ σ, K'.S.den r σ = K.S.den r σ
  src : ∃ S f, WF S ∧ S.ok f ∧ S.n = K.S.n ∧ ∀ σ, S.den f σ = F σ
  out : (∃ r, get K.R h = some r ∧ (∀ σ, K.S.den r σ = F σ) ∧ e = 0 ∧ K'.R = K.R ∧ K'.nx = K.nx) ∨
    ((∀ a r, get K.R a = some r → ¬ ∀ σ, K.S.den r σ = F σ) ∧
      ((K.R.length = 102 ∧ h = 0 ∧ e = 3 ∧ K'.R = K.R ∧ K'.nx = K.nx) ∨
       (K.R.length ≠ 102 ∧ h = K.nx ∧ e = 0 ∧ K'.nx = K.nx + 1 ∧ ∃ r, K'.R = put K.R K.nx r ∧ ∀ σ, K'.S.den r σ = F σ)))

theorem ans_of_fun {w w1 : World} {b : KB} {K : KS} {S1 : ST} (hK : KernelAt w b K) (h : KI K) (hS1 : StoreAt w1 b.B S1) (k1 : Keeps b.B.own w w1) {r : Int} {F : (Int → Bool) → Bool} {c : Int} (x : Ext K.S S1) (hw : WF S1) (hr : S1.ok r) (hd : ∀ σ, S1.den r σ = F σ) (hc : S1.next ≤ K.S.next + c) (c8 : c ≤ 90000000) (hx : K.nx < 9223372036854775807) :
    Calls Tryz.prog 166 #[.pointer (some ⟨b.k, 0, none⟩), .int .i64 r] w1 fun e w' => ∃ a y K', e = .returned (.tuple #[.int .i64 a, .int .i64 y]) ∧ KernelAt w' b K' ∧ Ans K K' F a y c ∧ Keeps b.own w w' := by
  have hK1 := hK.inStore hS1 k1
  have hW1 := h.toKW.ext x hw
  have hfew := h.few
  have hlen := x.len
  refine (answer_calls hK1 hW1 (by show S1.N.length ≤ _; omega) r hr hx).mono ?_
  rintro e w' ⟨a, y, K', rfl, hK', p, k2⟩
  refine ⟨a, y, K', rfl, hK', ?_, (k1.mono (KB.own_sub b)).trans k2⟩
  obtain ⟨K1, hA, eR, eH, en⟩ := p.out
  have old : ∀ a r', get K.R a = some r' → get K'.R a = some r' := by
    intro a r' ha
    rw [eR]
    rcases hA with ⟨_, _, _, _, rfl⟩ | ⟨_, _, _, _, rfl⟩ | ⟨_, _, _, _, rfl⟩
    · exact ha
    · exact ha
    · show get (put K.R K.nx r) a = some r'
      rw [get_put, if_neg (by have := h.key a r' ha; omega)]
      exact ha
  have dd : ∀ a r', get K.R a = some r' → ∀ σ, S1.den r' σ = K.S.den r' σ := fun a r' ha σ => x.den h.wf hw (h.ok a r' ha) σ
  refine ⟨p.inv, p.order.trans x.order, by have e1 : K'.S.next = S1.next := p.next; omega, fun a r' ha σ => ?_, ⟨S1, r, hw, hr, x.n, hd⟩, ?_⟩
  · have := p.den r' (p.inv.ok a r' (old a r' ha)) σ
    exact this.trans (dd a r' ha σ)
  · rcases hA with ⟨a0, hg, rfl, rfl, rfl⟩ | ⟨hg, hl, rfl, rfl, rfl⟩ | ⟨hg, hl, rfl, rfl, rfl⟩
    · have hg' := (h.inv r _).1 hg
      exact .inl ⟨r, hg', fun σ => by rw [← dd _ _ hg', hd], rfl, eR, en⟩
    all_goals
      have hno : ∀ a r', get K.R a = some r' → ¬ ∀ σ, K.S.den r' σ = F σ := by
        intro a r' ha hF
        have e1 : r' = r := den_inj hw (x.ok (h.ok a r' ha)) hr fun σ => by rw [dd a r' ha, hF, hd]
        subst e1
        have := (h.inv _ _).2 ha
        have hg' : get K.H r' = none := hg
        rw [hg'] at this
        cases this
    · exact .inr ⟨hno, .inl ⟨hl, rfl, rfl, eR, en⟩⟩
    · refine .inr ⟨hno, .inr ⟨hl, rfl, rfl, en, r, eR, fun σ => ?_⟩⟩
      have hr' : get K'.R K.nx = some r := by rw [eR]; show get (put K.R K.nx r) K.nx = some r; rw [get_put, if_pos rfl]
      rw [p.den r (p.inv.ok _ r hr') σ]
      exact hd σ

/-- What a call of the kernel that answers a function leaves. -/
def KGives (b : KB) (w : World) (K : KS) (F : (Int → Bool) → Bool) (c : Int) (e : Ending) (w' : World) : Prop :=
  ∃ a y K', e = .returned (.tuple #[.int .i64 a, .int .i64 y]) ∧ KernelAt w' b K' ∧ Ans K K' F a y c ∧ Keeps b.own w w'

theorem klook {w : World} {b : KB} {K : KS} (hK : KernelAt w b K) {f r : Int} (hf : get K.R f = some r) : (Instr.lookup 146 (.map (some b.rr)) (.int .i64 f) true).run Tryz.prog w = .ok (.tuple #[.int .i64 r, .bool true]) w := by
  have := run_look (P := Tryz.prog) Tryz.underlying146 key3 (z := .int .i64 0) zero3 hK.roots f true
  rw [hf] at this
  exact this

set_option maxHeartbeats 400000 in
theorem isVariable_yes {w : World} {b : KB} {K : KS} (hK : KernelAt w b K) (i : Int) (i0 : 0 ≤ i) (i1 : i < K.S.n) :
    Calls Tryz.prog 165 #[.pointer (some ⟨b.k, 0, none⟩), .int .i64 i] w fun e w' => e = .returned (.bool true) ∧ w' = w := by
  have c0 := hK.head.cell 0
  simp at c0
  have hv := hide (vars_calls hK.store)
  have i2 : i < (K.S.order.length : Int) := i1
  go_enter Tryz.func165, Tryz.ntmps165
  go_wp2_with fail
  refine hv.out.mono ?_
  rintro e w' ⟨rfl, rfl⟩
  go_wp2_with fail
  go_ret
  exact ⟨rfl, rfl⟩

set_option maxHeartbeats 400000 in
theorem kvar_calls {w : World} {b : KB} {K : KS} (hK : KernelAt w b K) (h : KI K) (i : Int) (i0 : 0 ≤ i) (i1 : i < K.S.n) (hlim : K.S.next + 1 < lim) (hx : K.nx < 9223372036854775807) :
    Calls Tryz.prog 93 #[.pointer (some ⟨b.k, 0, none⟩), .int .i64 i] w (KGives b w K (fun σ => σ i) 1) := by
  have c0 := hK.head.cell 0
  simp at c0
  have hv := hide (isVariable_yes hK i i0 i1)
  have hc := hide (var_calls i hK.store h.wf h.kok i0 i1 hlim)
  have Hlim := hide hlim
  clear hlim
  go_enter Tryz.func93, Tryz.ntmps93
  go_wp2_with fail
  refine hv.out.mono ?_
  rintro e w' ⟨rfl, rfl⟩
  go_wp2_with fail
  refine hc.out.mono ?_
  rintro e w1 ⟨r, S1, rfl, hS1, k1, p⟩
  go_wp2_with fail
  refine (ans_of_fun hK h hS1 k1 p.ext p.wf p.ok p.den p.next (by decide) hx).mono ?_
  rintro e w2 ⟨a, y, K', rfl, g1, g2, g3⟩
  go_wp2_with fail
  go_ret2
  exact ⟨a, y, K', rfl, g1, g2, g3⟩

end Go.Proofs.YtgjomknpjigkhaaGreatDoor

namespace Go.Proofs.YtgjomknpjigkhaaGreatDoor
open Go.RowKit Go.Shelf

theorem KI.fits {K : KS} (h : KI K) : cst K.S.n ≤ 255 := cst_le h.n8

set_option maxHeartbeats 400000 in
theorem knot_calls {w : World} {b : KB} {K : KS} (hK : KernelAt w b K) (h : KI K) (f r : Int) (hf : get K.R f = some r) (hlim : K.S.next + cst K.S.n < lim) (hx : K.nx < 9223372036854775807) :
    Calls Tryz.prog 95 #[.pointer (some ⟨b.k, 0, none⟩), .int .i64 f] w (KGives b w K (fun σ => !K.S.den r σ) (cst K.S.n)) := by
  have c0 := hK.head.cell 0
  have c1 := hK.head.cell 1
  simp at c0 c1
  have hl := klook hK hf
  have hc := hide (not_calls r hK.store h.wf h.kok (h.ok f r hf) hlim)
  have Hf := hide h.fits
  clear hlim
  go_enter Tryz.func95, Tryz.ntmps95
  go_wp2_with fail
  refine hc.out.mono ?_
  rintro e w1 ⟨r1, S1, rfl, hS1, k1, p⟩
  go_wp2_with fail
  refine (ans_of_fun hK h hS1 k1 p.ext p.wf p.ok p.den p.next (by have := Hf.out; omega) hx).mono ?_
  rintro e w2 ⟨a, y, K', rfl, g1, g2, g3⟩
  go_wp2_with fail
  go_ret2
  exact ⟨a, y, K', rfl, g1, g2, g3⟩

set_option maxHeartbeats 800000 in
theorem kite_calls {w : World} {b : KB} {K : KS} (hK : KernelAt w b K) (h : KI K) (f g k rf rg rk : Int) (hf : get K.R f = some rf) (hg : get K.R g = some rg) (hk : get K.R k = some rk) (hlim : K.S.next + cst K.S.n < lim) (hx : K.nx < 9223372036854775807) :
    Calls Tryz.prog 99 #[.pointer (some ⟨b.k, 0, none⟩), .int .i64 f, .int .i64 g, .int .i64 k] w (KGives b w K (fun σ => if K.S.den rf σ then K.S.den rg σ else K.S.den rk σ) (cst K.S.n)) := by
  have c0 := hK.head.cell 0
  have c1 := hK.head.cell 1
  simp at c0 c1
  have hlf := klook hK hf
  have hlg := klook hK hg
  have hlk := klook hK hk
  have hc := hide (ite_calls rf rg rk hK.store h.wf h.kok (h.ok f rf hf) (h.ok g rg hg) (h.ok k rk hk) hlim)
  have Hf := hide h.fits
  clear hlim
  go_enter Tryz.func99, Tryz.ntmps99
  go_wp2_with fail
  refine hc.out.mono ?_
  rintro e w1 ⟨r1, S1, rfl, hS1, k1, p⟩
  go_wp2_with fail
  refine (ans_of_fun hK h hS1 k1 p.ext p.wf p.ok p.den p.next (by have := Hf.out; omega) hx).mono ?_
  rintro e w2 ⟨a, y, K', rfl, g1, g2, g3⟩
  go_wp2_with fail
  go_ret2
  exact ⟨a, y, K', rfl, g1, g2, g3⟩

/-- The operations of two functions. -/
def opB (op : Int) (x y : Bool) : Bool := if op = 0 then x && y else if op = 1 then x || y else if op = 2 then x != y else x && !y

theorem join_calls {w : World} {b : KB} {K : KS} (hK : KernelAt w b K) (h : KI K) (op f g : Int) (o0 : 0 ≤ op) (o1 : op ≤ 3) (okf : K.S.ok f) (okg : K.S.ok g) (hlim : K.S.next + 2 * cst K.S.n < lim) :
    Calls Tryz.prog 171 #[.pointer (some ⟨b.k, 0, none⟩), .int .i64 op, .int .i64 f, .int .i64 g] w (Gives b.B w K.S (fun σ => opB op (K.S.den f σ) (K.S.den g σ)) (2 * cst K.S.n) 0) := by
  have c0 := hK.head.cell 0
  simp at c0
  have hc0 := cst_nonneg K.S.n
  have wide : ∀ {F : (Int → Bool) → Bool} {m : Int} {e : Ending} {w' : World}, Gives b.B w K.S F (cst K.S.n) m e w' → Gives b.B w K.S F (2 * cst K.S.n) 0 e w' := by
    rintro F m e w' ⟨r, S1, h1, h2, h3, p⟩
    exact ⟨r, S1, h1, h2, h3, p.ext, p.wf, p.known, p.ok, p.den, by have := p.next; omega, (lev_range p.wf p.ok).1⟩
  have hlim1 : K.S.next + cst K.S.n < lim := by omega
  have cases : op = 0 ∨ op = 1 ∨ op = 2 ∨ op = 3 := by omega
  rcases cases with rfl | rfl | rfl | rfl
  · have hc := hide (and_calls f g hK.store h.wf h.kok okf okg hlim1)
    clear hlim hlim1 hc0
    go_enter Tryz.func171, Tryz.ntmps171
    go_wp2_with fail
    refine hc.out.mono ?_
    rintro e w1 hgv
    obtain ⟨r1, S1, rfl, hS1, k1, p⟩ := wide hgv
    go_wp2_with fail
    go_ret
    exact ⟨r1, S1, rfl, hS1, k1, p⟩
  · have hc := hide (or_calls f g hK.store h.wf h.kok okf okg hlim1)
    clear hlim hlim1 hc0
    go_enter Tryz.func171, Tryz.ntmps171
    go_wp2_with fail
    refine hc.out.mono ?_
    rintro e w1 hgv
    obtain ⟨r1, S1, rfl, hS1, k1, p⟩ := wide hgv
    go_wp2_with fail
    go_ret
    exact ⟨r1, S1, rfl, hS1, k1, p⟩
  · have hc := hide (xor_calls f g hK.store h.wf h.kok okf okg hlim)
    clear hlim hlim1 hc0
    go_enter Tryz.func171, Tryz.ntmps171
    go_wp2_with fail
    refine hc.out.mono ?_
    rintro e w1 ⟨r1, S1, rfl, hS1, k1, p⟩
    go_wp2_with fail
    go_ret
    exact ⟨r1, S1, rfl, hS1, k1, p⟩
  · have hc := hide (diff_calls f g hK.store h.wf h.kok okf okg hlim1)
    clear hlim hlim1 hc0
    go_enter Tryz.func171, Tryz.ntmps171
    go_wp2_with fail
    refine hc.out.mono ?_
    rintro e w1 hgv
    obtain ⟨r1, S1, rfl, hS1, k1, p⟩ := wide hgv
    go_wp2_with fail
    go_ret
    exact ⟨r1, S1, rfl, hS1, k1, p⟩

set_option maxHeartbeats 800000 in
theorem kapply_calls {w : World} {b : KB} {K : KS} (hK : KernelAt w b K) (h : KI K) (op f g rf rg : Int) (o0 : 0 ≤ op) (o1 : op ≤ 3) (hf : get K.R f = some rf) (hg : get K.R g = some rg) (hlim : K.S.next + 2 * cst K.S.n < lim) (hx : K.nx < 9223372036854775807) :
    Calls Tryz.prog 97 #[.pointer (some ⟨b.k, 0, none⟩), .int .i64 op, .int .i64 f, .int .i64 g] w (KGives b w K (fun σ => opB op (K.S.den rf σ) (K.S.den rg σ)) (2 * cst K.S.n)) := by
  have c0 := hK.head.cell 0
  have c1 := hK.head.cell 1
  simp at c0 c1
  have hlf := klook hK hf
  have hlg := klook hK hg
  have hc := hide (join_calls hK h op rf rg o0 o1 (h.ok f rf hf) (h.ok g rg hg) hlim)
  have Hf := hide h.fits
  have o2 : ¬ op < 0 := by omega
  have o3 : ¬ 3 < op := by omega
  clear hlim o0 o1
  go_enter Tryz.func97, Tryz.ntmps97
  go_wp2_with fail
  refine hc.out.mono ?_
  rintro e w1 ⟨r1, S1, rfl, hS1, k1, p⟩
  go_wp2_with fail
  refine (ans_of_fun hK h hS1 k1 p.ext p.wf p.ok p.den p.next (by have := Hf.out; omega) hx).mono ?_
  rintro e w2 ⟨a, y, K', rfl, g1, g2, g3⟩
  go_wp2_with fail
  go_ret2
  exact ⟨a, y, K', rfl, g1, g2, g3⟩

end Go.Proofs.YtgjomknpjigkhaaGreatDoor

namespace Go.Proofs.YtgjomknpjigkhaaGreatDoor
open Go.RowKit Go.Shelf

theorem wrap_pow {v : Int} (_v0 : 0 ≤ v) (v8 : v ≤ 8) : IntKind.i64.wrap ((2 : Int) ^ v.toNat) = 2 ^ v.toNat := by
  have hp : 2 ^ v.toNat ≤ 2 ^ 8 := Nat.pow_le_pow_right (by decide) (by omega)
  have e1 : ((2 : Int) ^ v.toNat) = ((2 ^ v.toNat : Nat) : Int) := by push_cast; rfl
  rw [e1, IntKind.wrap_i64]
  generalize 2 ^ v.toNat = m at hp
  omega

set_option maxHeartbeats 400000 in
theorem isAssignment_yes {w : World} {b : KB} {K : KS} (hK : KernelAt w b K) (n8 : K.S.n ≤ 8) (a : Int) (a0 : 0 ≤ a) (a1 : a < ((2 ^ K.S.n : Nat) : Int)) :
    Calls Tryz.prog 173 #[.pointer (some ⟨b.k, 0, none⟩), .int .i64 a] w fun e w' => e = .returned (.bool true) ∧ w' = w := by
  have c0 := hK.head.cell 0
  simp at c0
  have hv := hide (vars_calls hK.store)
  generalize K.S.n = n at hv n8 a1
  have n0 : (0 : Int) ≤ n := by omega
  have n63 : (n : Int) < 63 := by omega
  have hwr := wrap_pow n0 (by omega : (n : Int) ≤ 8)
  rw [Int.toNat_natCast] at hwr
  have hwr' : wrap64 ((2 : Int) ^ n) = 2 ^ n := by
    have := hwr
    rw [IntKind.wrap_i64] at this
    unfold wrap64
    exact this
  have a2 : a < (2 : Int) ^ n := by have e1 : ((2 : Int) ^ n) = ((2 ^ n : Nat) : Int) := by push_cast; rfl
                                    rw [e1]; exact a1
  clear a1
  go_enter Tryz.func173, Tryz.ntmps173
  go_wp2_with fail
  refine hv.out.mono ?_
  rintro e w' ⟨rfl, rfl⟩
  go_wp2_with fail
  go_ret
  exact ⟨rfl, rfl⟩

set_option maxHeartbeats 400000 in
theorem keval_calls {w : World} {b : KB} {K : KS} (hK : KernelAt w b K) (h : KI K) (f r a : Int) (hf : get K.R f = some r) (a0 : 0 ≤ a) (a1 : a < ((2 ^ K.S.n : Nat) : Int)) :
    Calls Tryz.prog 107 #[.pointer (some ⟨b.k, 0, none⟩), .int .i64 f, .int .i64 a] w fun e w' => e = .returned (.tuple #[.bool (K.S.den r (asg a)), .int .i64 0]) ∧ KernelAt w' b K ∧ Keeps [] w w' := by
  have c0 := hK.head.cell 0
  have c1 := hK.head.cell 1
  simp at c0 c1
  have hl := klook hK hf
  have hv := hide (isAssignment_yes hK h.n8 a a0 a1)
  have hp := pow_le_256 h.n8
  have hc := hide (eval_calls r a hK.store h.wf (h.ok f r hf) h.n8 a0 (by omega))
  clear a0 a1 hp
  go_enter Tryz.func107, Tryz.ntmps107
  go_wp2_with fail
  refine hv.out.mono ?_
  rintro e w' ⟨rfl, rfl⟩
  go_wp2_with fail
  refine hc.out.mono ?_
  rintro e w1 ⟨rfl, k1⟩
  go_wp2_with fail
  go_ret2
  exact ⟨rfl, hK.keeps k1 (by simp), k1⟩

set_option maxHeartbeats 400000 in
theorem kexists_calls {w : World} {b : KB} {K : KS} (hK : KernelAt w b K) (h : KI K) (f r X : Int) (hf : get K.R f = some r) (x0 : 0 ≤ X) (x1 : X < ((2 ^ K.S.n : Nat) : Int)) (hlim : K.S.next + fc (cst K.S.n + 1) K.S.n < lim) (hfc : fc (cst K.S.n + 1) K.S.n ≤ 90000000) (hx : K.nx < 9223372036854775807) :
    Calls Tryz.prog 101 #[.pointer (some ⟨b.k, 0, none⟩), .int .i64 f, .int .i64 X] w fun e w' => ∃ F, (∀ σ, F σ = true ↔ ∃ τ : Int → Bool, (∀ v : Int, 0 ≤ v → v < K.S.n → bitB X v = false → τ v = σ v) ∧ K.S.den r τ = true) ∧ KGives b w K F (fc (cst K.S.n + 1) K.S.n) e w' := by
  have c0 := hK.head.cell 0
  have c1 := hK.head.cell 1
  simp at c0 c1
  have hl := klook hK hf
  have hv := hide (isAssignment_yes hK h.n8 X x0 x1)
  have hp := pow_le_256 h.n8
  have okr := h.ok f r hf
  have hc := hide (exists_calls r X hK.store h.wf h.kok okr h.n8 x0 (by omega) hlim)
  clear x0 x1 hp hlim
  have Hfc := hide hfc
  clear hfc
  go_enter Tryz.func101, Tryz.ntmps101
  go_wp2_with fail
  refine hv.out.mono ?_
  rintro e w' ⟨rfl, rfl⟩
  go_wp2_with fail
  refine hc.out.mono ?_
  rintro e w1 ⟨r1, S1, rfl, hS1, k1, p⟩
  have hF : ∀ σ, S1.den r1 σ = true ↔ ∃ τ : Int → Bool, (∀ v : Int, 0 ≤ v → v < K.S.n → bitB X v = false → τ v = σ v) ∧ K.S.den r τ = true := by
    intro σ
    rw [p.rel.2.2 σ, p.ext.n]
    constructor
    · rintro ⟨τ, h1, h2⟩; exact ⟨τ, h1, by rw [← p.ext.den h.wf p.wf okr]; exact h2⟩
    · rintro ⟨τ, h1, h2⟩; exact ⟨τ, h1, by rw [p.ext.den h.wf p.wf okr]; exact h2⟩
  go_wp2_with fail
  refine (ans_of_fun hK h hS1 k1 p.ext p.wf p.rel.1 (fun σ => rfl) p.next Hfc.out hx).mono ?_
  rintro e w2 ⟨a, y, K', rfl, g1, g2, g3⟩
  have HF := hide hF
  clear hF
  go_wp2_with fail
  go_ret2
  exact ⟨S1.den r1, HF.out, a, y, K', rfl, g1, g2, g3⟩

end Go.Proofs.YtgjomknpjigkhaaGreatDoor

namespace Go.Proofs.YtgjomknpjigkhaaGreatDoor
open Go.RowKit Go.Shelf

set_option maxHeartbeats 400000 in
theorem measure_calls {w : World} {b : KB} {K : KS} (hK : KernelAt w b K) (f r : Int) (hf : get K.R f = some r) (g : Nat) (eg : ∀ args w, (callFunc g args).run Tryz.prog w = .ok (.enter g args) w) {Q : Int → World → Prop} (hg : Calls Tryz.prog g #[.pointer (some ⟨b.B.b, 0, none⟩), .int .i64 r] w fun e w' => ∃ x, e = .returned (.int .i64 x) ∧ Q x w') :
    Calls Tryz.prog 178 #[.pointer (some ⟨b.k, 0, none⟩), .int .i64 f, .func (.func g) #[.pointer (some ⟨b.B.b, 0, none⟩)] #[]] w fun e w' => ∃ x, e = .returned (.tuple #[.int .i64 x, .int .i64 0]) ∧ Q x w' := by
  have c1 := hK.head.cell 1
  simp at c1
  have hl := klook hK hf
  have hg' := hide hg
  clear hg
  go_enter Tryz.func178, Tryz.ntmps178
  go_wp2_with fail
  refine hg'.out.mono ?_
  rintro e w' ⟨x, rfl, hq⟩
  have Hq := hide hq
  clear hq
  go_wp2_with fail
  go_ret2
  exact ⟨x, rfl, Hq.out⟩


set_option maxHeartbeats 400000 in
theorem kcount_calls {w : World} {b : KB} {K : KS} (hK : KernelAt w b K) (h : KI K) (f r : Int) (hf : get K.R f = some r) (hlim : K.S.next < lim) :
    Calls Tryz.prog 109 #[.pointer (some ⟨b.k, 0, none⟩), .int .i64 f] w fun e w' => e = .returned (.tuple #[.int .i64 (cntV K.S.n (K.S.den r) (fun _ => false) : Nat), .int .i64 0]) ∧ KernelAt w' b K ∧ Keeps b.own w w' := by
  have c0 := hK.head.cell 0
  simp at c0
  have hfew := h.few
  have hc := hide (measure_calls hK f r hf 179 (enters_of Tryz.func179 (by kernel_rfl) rfl) ((count_calls r hK.store h.wf h.kok (h.ok f r hf) h.n8 hlim).mono (fun e w' ⟨he, hs, hk⟩ => (⟨_, he, rfl, hK.inStore hs hk, hk.mono (KB.own_sub b)⟩ : ∃ x, e = .returned (.int .i64 x) ∧ (x = (cntV K.S.n (K.S.den r) (fun _ => false) : Nat) ∧ KernelAt w' b K ∧ Keeps b.own w w')))))
  have hmf : ∀ (fn : Fn) (first cap : Array Value) (w : World), (Instr.makeFunc fn first cap).run Tryz.prog w = .ok (.func fn first cap) w := fun _ _ _ _ => rfl
  go_enter Tryz.func109, Tryz.ntmps109
  go_wp2_with fail
  refine hc.out.mono ?_
  rintro e w' ⟨x, rfl, hq⟩
  have Hq := hide hq
  clear hq
  go_wp2_with fail
  go_ret2
  exact ⟨by rw [Hq.out.1]; rfl, Hq.out.2.1, Hq.out.2.2⟩

set_option maxHeartbeats 400000 in
theorem ksupport_calls {w : World} {b : KB} {K : KS} (hK : KernelAt w b K) (h : KI K) (f r : Int) (hf : get K.R f = some r) :
    Calls Tryz.prog 111 #[.pointer (some ⟨b.k, 0, none⟩), .int .i64 f] w fun e w' => ∃ s xs, e = .returned (.tuple #[.int .i64 s, .int .i64 0]) ∧ GoodNodes K.S [r] xs ∧ SupOf xs s ∧ KernelAt w' b K ∧ Keeps [] w w' := by
  have c0 := hK.head.cell 0
  simp at c0
  have hfew := h.few
  have hc := hide (measure_calls hK f r hf 180 (enters_of Tryz.func180 (by kernel_rfl) rfl) ((support_calls hK.store h.wf r (h.ok f r hf) (by omega) h.n8).mono (fun e w' ⟨⟨s, xs, he, h1, h2⟩, hk⟩ => (⟨s, he, xs, h1, h2, hK.keeps hk (by simp), hk⟩ : ∃ x, e = .returned (.int .i64 x) ∧ ∃ xs, GoodNodes K.S [r] xs ∧ SupOf xs x ∧ KernelAt w' b K ∧ Keeps [] w w'))))
  have hmf : ∀ (fn : Fn) (first cap : Array Value) (w : World), (Instr.makeFunc fn first cap).run Tryz.prog w = .ok (.func fn first cap) w := fun _ _ _ _ => rfl
  go_enter Tryz.func111, Tryz.ntmps111
  go_wp2_with fail
  refine hc.out.mono ?_
  rintro e w' ⟨x, rfl, hq⟩
  have Hq := hide hq
  clear hq
  go_wp2_with fail
  go_ret2
  exact (let ⟨xs, h1, h2, h3, h4⟩ := Hq.out; ⟨x, xs, rfl, h1, h2, h3, h4⟩)

set_option maxHeartbeats 400000 in
theorem ksize_calls {w : World} {b : KB} {K : KS} (hK : KernelAt w b K) (h : KI K) (f r : Int) (hf : get K.R f = some r) :
    Calls Tryz.prog 113 #[.pointer (some ⟨b.k, 0, none⟩), .int .i64 f] w fun e w' => ∃ xs, e = .returned (.tuple #[.int .i64 (xs.length : Nat), .int .i64 0]) ∧ GoodNodes K.S [r] xs ∧ KernelAt w' b K ∧ Keeps [] w w' := by
  have c0 := hK.head.cell 0
  simp at c0
  have hfew := h.few
  have hc := hide (measure_calls hK f r hf 182 (enters_of Tryz.func182 (by kernel_rfl) rfl) ((size_calls hK.store h.wf r (h.ok f r hf) (by omega)).mono (fun e w' ⟨⟨xs, he, h1⟩, hk⟩ => (⟨_, he, xs, rfl, h1, hK.keeps hk (by simp), hk⟩ : ∃ x, e = .returned (.int .i64 x) ∧ ∃ xs : List (Int × Tri), x = (xs.length : Nat) ∧ GoodNodes K.S [r] xs ∧ KernelAt w' b K ∧ Keeps [] w w'))))
  have hmf : ∀ (fn : Fn) (first cap : Array Value) (w : World), (Instr.makeFunc fn first cap).run Tryz.prog w = .ok (.func fn first cap) w := fun _ _ _ _ => rfl
  go_enter Tryz.func113, Tryz.ntmps113
  go_wp2_with fail
  refine hc.out.mono ?_
  rintro e w' ⟨x, rfl, hq⟩
  have Hq := hide hq
  clear hq
  go_wp2_with fail
  go_ret2
  exact (let ⟨xs, h0, h1, h3, h4⟩ := Hq.out; ⟨xs, by rw [h0]; rfl, h1, h3, h4⟩)

set_option maxHeartbeats 400000 in
theorem len_calls {w : World} {B : SB} {S : ST} (hS : StoreAt w B S) : Calls Tryz.prog 184 #[.pointer (some ⟨B.b, 0, none⟩)] w fun e w' => e = .returned (.int .i64 (S.N.length : Nat)) ∧ w' = w := by
  have c2 := hS.head.cell 2
  simp at c2
  have hlen := run_maplen (P := Tryz.prog) (K := 3) (E := 228) Tryz.underlying209 hS.nodes
  go_enter Tryz.func184, Tryz.ntmps184
  go_wp2
  go_ret
  exact ⟨rfl, rfl⟩

set_option maxHeartbeats 400000 in
theorem place_calls {w : World} {B : SB} {S : ST} (hS : StoreAt w B S) (hw : WF S) (v : Int) (v0 : 0 ≤ v) (v1 : v < S.n) : Calls Tryz.prog 239 #[.pointer (some ⟨B.b, 0, none⟩), .int .i64 v] w fun e w' => e = .returned (.int .i64 (S.pl v)) ∧ w' = w := by
  have c1 := hS.head.cell 1
  simp at c1
  have hp := hw.pl_range v0 v1
  have hc := hS.place.cell hp.2.2.2
  have v2 : v < S.place.length := by rw [hw.ord.len]; exact v1
  go_enter Tryz.func239, Tryz.ntmps239
  go_wp2
  go_ret
  exact ⟨rfl, rfl⟩

set_option maxHeartbeats 400000 in
theorem ktotal_calls {w : World} {b : KB} {K : KS} (hK : KernelAt w b K) : Calls Tryz.prog 115 #[.pointer (some ⟨b.k, 0, none⟩)] w fun e w' => e = .returned (.int .i64 (K.S.N.length : Nat)) ∧ w' = w := by
  have c0 := hK.head.cell 0
  simp at c0
  have hc := hide (len_calls hK.store)
  go_enter Tryz.func115, Tryz.ntmps115
  go_wp2_with fail
  refine hc.out.mono ?_
  rintro e w' ⟨rfl, rfl⟩
  go_wp2_with fail
  go_ret
  exact ⟨rfl, rfl⟩

set_option maxHeartbeats 400000 in
theorem order_calls {w : World} {B : SB} {S : ST} (hS : StoreAt w B S) (n8 : S.n ≤ 8) : Calls Tryz.prog 186 #[.pointer (some ⟨B.b, 0, none⟩)] w fun e w' => ∃ v, e = .returned v ∧ w'.ownsRow w.heap.size 3 1 v S.order.length (ints S.order) ∧ Keeps [] w w' ∧ v ≠ .slice none 0 0 := by
  have c0 := hS.head.cell 0
  simp at c0
  have hc := hide (clone_calls (cap := B.co) hS.order (by unfold ST.n at n8; omega))
  go_enter Tryz.func186, Tryz.ntmps186
  go_wp2_with fail
  refine hc.out.mono ?_
  rintro e w' ⟨v, rfl, h1, h2, h3⟩
  have H1 := hide h1
  have H3 := hide h3
  clear h1 h3
  go_wp2_with fail
  go_ret
  exact ⟨v, rfl, H1.out, h2, H3.out⟩

set_option maxHeartbeats 400000 in
theorem korder_calls {w : World} {b : KB} {K : KS} (hK : KernelAt w b K) (h : KI K) : Calls Tryz.prog 117 #[.pointer (some ⟨b.k, 0, none⟩)] w fun e w' => ∃ v, e = .returned v ∧ w'.ownsRow w.heap.size 3 1 v K.S.order.length (ints K.S.order) ∧ KernelAt w' b K ∧ Keeps [] w w' := by
  have c0 := hK.head.cell 0
  simp at c0
  have hc := hide (order_calls hK.store h.n8)
  go_enter Tryz.func117, Tryz.ntmps117
  go_wp2_with fail
  refine hc.out.mono ?_
  rintro e w' ⟨v, rfl, h1, h2, h3⟩
  have H1 := hide h1
  have H3 := hide h3
  clear h1 h3
  go_wp2_with fail
  go_ret
  exact ⟨v, rfl, H1.out, hK.keeps h2 (by simp), h2⟩

end Go.Proofs.YtgjomknpjigkhaaGreatDoor

namespace Go.Proofs.YtgjomknpjigkhaaGreatDoor
open Go.RowKit Go.Shelf

/-- Another order, perhaps; all else as it was. -/
structure Re (K K' : KS) (c : Int) : Prop where
  inv : KI K'
  R : K'.R = K.R
  H : K'.H = K.H
  nx : K'.nx = K.nx
  n : K'.S.order.length = K.S.order.length
  den : ∀ a r, get K.R a = some r → ∀ σ, K'.S.den r σ = K.S.den r σ
  next : K'.S.next ≤ K.S.next + c

theorem Re.refl {K : KS} (h : KI K) : Re K K 0 := ⟨h, rfl, rfl, rfl, rfl, fun _ _ _ _ => rfl, by omega⟩
theorem Re.trans {K K' K'' : KS} {c d : Int} (h : Re K K' c) (k : Re K' K'' d) : Re K K'' (c + d) :=
  ⟨k.inv, k.R.trans h.R, k.H.trans h.H, k.nx.trans h.nx, k.n.trans h.n, fun a r ha σ => (k.den a r (by rw [h.R]; exact ha) σ).trans (h.den a r ha σ), by have := h.next; have := k.next; omega⟩
theorem Re.mono {K K' : KS} {c d : Int} (h : Re K K' c) (hc : c ≤ d) : Re K K' d := ⟨h.inv, h.R, h.H, h.nx, h.n, h.den, by have := h.next; omega⟩

def swc (n : Nat) : Int := 204 * cst n
theorem swc_nonneg (n : Nat) : 0 ≤ swc n := by have := cst_nonneg n; unfold swc; omega
theorem swc_le {n : Nat} (h : n ≤ 8) : swc n ≤ 52020 := by have := cst_le h; unfold swc; omega

/-- Two neighbours changed. -/
def swapAt (o : List Int) (m : Nat) : List Int := swapO o m (o.getD m 0) (o.getD (m + 1) 0)

set_option maxHeartbeats 800000 in
theorem kswap_calls {w : World} {b : KB} {K : KS} (hK : KernelAt w b K) (h : KI K) (lv : Int) (l0 : 0 ≤ lv) (l1 : lv + 1 < K.S.n) (hlim : K.S.next + swc K.S.n < lim) :
    Calls Tryz.prog 187 #[.pointer (some ⟨b.k, 0, none⟩), .int .i64 lv] w fun e w' => e = .returned (.tuple #[]) ∧ ∃ K', KernelAt w' b K' ∧ Re K K' (swc K.S.n) ∧ K'.S.order = swapAt K.S.order lv.toNat ∧ Keeps b.own w w' := by
  have c0 := hK.head.cell 0
  simp at c0
  have hfew := h.few
  have hlen := h.len
  have hn : (K.S.order.length : Int) = K.S.n := rfl
  have hu : K.S.order[lv.toNat]? = some (K.S.order.getD lv.toNat 0) := by
    rw [List.getD_eq_getElem?_getD, List.getElem?_eq_getElem (by omega)]; rfl
  have hd : K.S.order[lv.toNat + 1]? = some (K.S.order.getD (lv.toNat + 1) 0) := by
    rw [List.getD_eq_getElem?_getD, List.getElem?_eq_getElem (by omega)]; rfl
  have hc := hide (swap_calls hK.store h.wf lv l0 (by omega) (by have := h.n8; omega) _ _ hu hd (by omega) (by unfold swc lim at hlim; omega))
  have Hn := hide hn
  have Hlen := hide hlen
  have Hlim := hide hlim
  clear hu hd hn hlen hlim l1
  go_enter Tryz.func187, Tryz.ntmps187
  go_wp2_with fail
  refine hc.out.mono ?_
  rintro e w1 ⟨rfl, C, hC, p, k1⟩
  have hK1 := hK.inStore hC k1
  have hCn : C.order.length = K.S.order.length := by rw [p.order]; simp [swapO]
  have hW1 : KW { K with S := C } := ⟨p.wf, by show 1 ≤ C.order.length; rw [hCn]; exact h.n1, by show C.order.length ≤ 8; rw [hCn]; exact h.n8, h.zero, h.one, h.inv, fun a r hr => p.ok r (h.ok a r hr), h.key, h.nx2, h.hundred⟩
  have hs := hide (ksweep_calls hK1 hW1 (by show C.N.length ≤ _; have := p.len; omega))
  have HCn := hide hCn
  clear hCn
  go_wp2_with fail
  refine hs.out.mono ?_
  rintro e w2 ⟨rfl, S', ys, h1, h2, h3, h4, h5⟩
  go_wp2_with fail
  go_end0
  refine ⟨rfl, _, h1, ⟨h4, rfl, rfl, rfl, by show S'.order.length = _; rw [h3.order, HCn.out], fun a r ha σ => ?_, ?_⟩, ?_, (k1.mono (KB.own_sub b)).trans (h5.mono (KB.own_sub b))⟩
  · have e1 := h3.den p.wf (h4.ok a r ha) σ
    exact e1.trans (p.den r (h.ok a r ha) σ)
  · show S'.next ≤ _
    rw [h3.next]
    show C.next ≤ _
    have := p.next
    have := Hlen.out
    unfold swc
    omega
  · show S'.order = _
    rw [h3.order]
    exact p.order

set_option maxHeartbeats 400000 in
theorem kSwap_yes {w : World} {b : KB} {K : KS} (hK : KernelAt w b K) (h : KI K) (lv : Int) (l0 : 0 ≤ lv) (l1 : lv + 1 < K.S.n) (hlim : K.S.next + swc K.S.n < lim) :
    Calls Tryz.prog 120 #[.pointer (some ⟨b.k, 0, none⟩), .int .i64 lv] w fun e w' => e = .returned (.int .i64 0) ∧ ∃ K', KernelAt w' b K' ∧ Re K K' (swc K.S.n) ∧ K'.S.order = swapAt K.S.order lv.toNat ∧ Keeps b.own w w' := by
  have c0 := hK.head.cell 0
  simp at c0
  have hv := hide (vars_calls hK.store)
  have hc := hide (kswap_calls hK h lv l0 l1 hlim)
  have n8 := h.n8
  have l2 : ¬ lv < 0 := by omega
  obtain ⟨n, hn⟩ : ∃ n, K.S.n = n := ⟨_, rfl⟩
  have hn' := hide hn
  rw [hn] at hv l1 n8
  clear hn hlim
  have hwr : wrap64 ((n : Int) - 2) = (n : Int) - 2 := by unfold wrap64; omega
  have l3 : ¬ (n : Int) - 2 < lv := by omega
  clear n8 l1 l0
  go_enter Tryz.func120, Tryz.ntmps120
  go_wp2_with fail
  refine hv.out.mono ?_
  rintro e w1 ⟨rfl, rfl⟩
  go_wp2_with fail
  refine hc.out.mono ?_
  rintro e w1 ⟨rfl, h1⟩
  have H1 := hide h1
  clear h1
  go_wp2_with fail
  go_ret
  exact ⟨rfl, H1.out⟩

set_option maxHeartbeats 400000 in
theorem kSwap_no {w : World} {b : KB} {K : KS} (hK : KernelAt w b K) (h : KI K) (lv : Int) (l0 : 0 ≤ lv) (l1 : K.S.n ≤ lv + 1) :
    Calls Tryz.prog 120 #[.pointer (some ⟨b.k, 0, none⟩), .int .i64 lv] w fun e w' => e = .returned (.int .i64 1) ∧ w' = w := by
  have c0 := hK.head.cell 0
  simp at c0
  have hv := hide (vars_calls hK.store)
  have n8 := h.n8
  have l2 : ¬ lv < 0 := by omega
  generalize K.S.n = n at hv l1 n8
  have hwr : wrap64 ((n : Int) - 2) = (n : Int) - 2 := by unfold wrap64; omega
  have l3 : (n : Int) - 2 < lv := by omega
  clear n8 l1 l0
  go_enter Tryz.func120, Tryz.ntmps120
  go_wp2_with fail
  refine hv.out.mono ?_
  rintro e w1 ⟨rfl, rfl⟩
  go_wp2_with fail
  go_ret
  exact ⟨rfl, rfl⟩

/-- A handle less. -/
def KS.less (K : KS) (f r : Int) : KS := { K with R := del K.R f, H := del K.H r }

theorem KW.less {K : KS} (h : KW K) {f r : Int} (hf : get K.R f = some r) (f2 : 2 ≤ f) : KW (K.less f r) := by
  have eR : ∀ a, get (K.less f r).R a = if a = f then none else get K.R a := fun a => get_del _ _ _
  have eH : ∀ a, get (K.less f r).H a = if a = r then none else get K.H a := fun a => get_del _ _ _
  have inj : ∀ a, get K.R a = some r → a = f := fun a ha => by
    have h1 := (h.inv r a).2 ha
    have h2 := (h.inv r f).2 hf
    rw [h1] at h2
    exact Option.some.inj h2
  refine ⟨h.wf, h.n1, h.n8, ?_, ?_, ?_, ?_, ?_, h.nx2, ?_⟩
  · rw [eR, if_neg (by omega)]; exact h.zero
  · rw [eR, if_neg (by omega)]; exact h.one
  · intro x a
    rw [eR, eH]
    by_cases e1 : x = r
    · subst e1
      simp only [if_true]
      by_cases e2 : a = f
      · simp [e2]
      · rw [if_neg e2]
        exact ⟨fun e => (nomatch e), fun e => absurd (inj a e) e2⟩
    · rw [if_neg e1]
      by_cases e2 : a = f
      · subst e2
        simp only [if_true]
        constructor
        · intro e
          have := (h.inv _ _).1 e
          rw [hf] at this
          exact absurd (Option.some.inj this).symm e1
        · intro e; cases e
      · rw [if_neg e2]; exact h.inv x a
  · intro a x ha
    rw [eR] at ha
    by_cases e2 : a = f
    · rw [if_pos e2] at ha; cases ha
    · rw [if_neg e2] at ha; exact h.ok a x ha
  · intro a x ha
    rw [eR] at ha
    by_cases e2 : a = f
    · rw [if_pos e2] at ha; cases ha
    · rw [if_neg e2] at ha; exact h.key a x ha
  · show (del K.R f).length ≤ 102
    have h1 : (del K.R f).length ≤ K.R.length := by unfold del; exact List.length_filter_le _ _
    have := h.hundred
    omega

structure Dropped (K K' : KS) (f r : Int) : Prop where
  inv : KI K'
  R : K'.R = del K.R f
  nx : K'.nx = K.nx
  order : K'.S.order = K.S.order
  next : K'.S.next = K.S.next
  den : ∀ a r, get K.R a = some r → a ≠ f → ∀ σ, K'.S.den r σ = K.S.den r σ

set_option maxHeartbeats 800000 in
theorem kdrop_yes {w : World} {b : KB} {K : KS} (hK : KernelAt w b K) (h : KI K) (f r : Int) (hf : get K.R f = some r) (f2 : 2 ≤ f) :
    Calls Tryz.prog 124 #[.pointer (some ⟨b.k, 0, none⟩), .int .i64 f] w fun e w' => e = .returned (.int .i64 0) ∧ ∃ K', KernelAt w' b K' ∧ Dropped K K' f r ∧ Keeps b.own w w' := by
  have hfew := h.few
  have c1 := hK.head.cell 1
  simp at c1
  have hl := klook hK hf
  obtain ⟨o, hrun, hm⟩ := run_del (P := Tryz.prog) Tryz.underlying146 key3 hK.roots f 0
  have hrun' := fun (ty : TypeId) => (show (Builtin.delete_ #[146,3] ty #[.map (some b.rr), .int .i64 f]).run Tryz.prog w = _ from hrun)
  have hK1 := hK.rootsBlk hm
  have k1 : Keeps b.own w (blk w b.rr o) := (Keeps.blk _ _ _).mono (by simp [KB.own])
  have d2 := hK1.head.cell 2
  simp at d2
  obtain ⟨o2, hrun2, hm2⟩ := run_del (P := Tryz.prog) Tryz.underlying146 key3 hK1.handles r 0
  have hrun2' := fun (ty : TypeId) => (show (Builtin.delete_ #[146,3] ty #[.map (some b.rh), .int .i64 r]).run Tryz.prog (blk w b.rr o) = _ from hrun2)
  have hK2 : KernelAt _ b (K.less f r) := hK1.handlesBlk hm2
  have k2 : Keeps b.own (blk w b.rr o) (blk (blk w b.rr o) b.rh o2) := (Keeps.blk _ _ _).mono (by simp [KB.own])
  have hW2 := h.toKW.less hf f2
  have hs := hide (ksweep_calls hK2 hW2 (by show K.S.N.length ≤ _; omega))
  have f3 : ¬ f < 2 := by omega
  clear hrun hrun2
  go_enter Tryz.func124, Tryz.ntmps124
  go_wp2_with fail
  refine hs.out.mono ?_
  rintro e w2 ⟨rfl, S', ys, h1, h2, h3, h4, h5⟩
  go_wp2_with fail
  go_ret
  refine ⟨rfl, _, h1, ⟨h4, rfl, rfl, h3.order, h3.next, fun a r' ha hne σ => ?_⟩, (k1.trans k2).trans (h5.mono (KB.own_sub b))⟩
  refine h3.den h.wf (h4.ok a r' ?_) σ
  show get (del K.R f) a = some r'
  rw [get_del, if_neg hne]
  exact ha

set_option maxHeartbeats 400000 in
theorem kdrop_no {w : World} {b : KB} {K : KS} (hK : KernelAt w b K) (f r : Int) (hf : get K.R f = some r) (f2 : f < 2) :
    Calls Tryz.prog 124 #[.pointer (some ⟨b.k, 0, none⟩), .int .i64 f] w fun e w' => e = .returned (.int .i64 2) ∧ w' = w := by
  have c1 := hK.head.cell 1
  simp at c1
  have hl := klook hK hf
  go_enter Tryz.func124, Tryz.ntmps124
  go_wp2_with fail
  go_ret
  exact ⟨rfl, rfl⟩

end Go.Proofs.YtgjomknpjigkhaaGreatDoor

namespace Go.Proofs.YtgjomknpjigkhaaGreatDoor
open Go.RowKit Go.Shelf

theorem split2 {o : List Int} {m : Nat} {u d : Int} (hu : o[m]? = some u) (hd : o[m + 1]? = some d) : ∃ A C, o = A ++ u :: d :: C ∧ A.length = m := by
  have hm : m < o.length := (List.getElem?_eq_some_iff.1 hu).1
  have hm1 : m + 1 < o.length := (List.getElem?_eq_some_iff.1 hd).1
  refine ⟨o.take m, o.drop (m + 2), ?_, by simp; omega⟩
  have e1 : o.drop m = u :: o.drop (m + 1) := by
    rw [List.drop_eq_getElem_cons hm]
    congr 1
    exact (List.getElem?_eq_some_iff.1 hu).2
  have e2 : o.drop (m + 1) = d :: o.drop (m + 2) := by
    rw [List.drop_eq_getElem_cons hm1]
    congr 1
    exact (List.getElem?_eq_some_iff.1 hd).2
  rw [← e2, ← e1, List.take_append_drop]

theorem swapO_split (A C : List Int) (u d : Int) : swapO (A ++ u :: d :: C) A.length u d = A ++ d :: u :: C := by
  unfold swapO
  simp

/-- The order but for one variable. -/
def rest (o : List Int) (v : Int) : List Int := o.filter (fun x => decide (x ≠ v))

theorem swapAt_is {o : List Int} {m : Nat} {u d : Int} (hu : o[m]? = some u) (hd : o[m + 1]? = some d) : swapAt o m = swapO o m u d := by
  unfold swapAt
  rw [List.getD_eq_getElem?_getD, List.getD_eq_getElem?_getD, hu, hd]
  rfl

theorem rest_swapAt {o : List Int} {m : Nat} {v : Int} (h : o[m]? = some v ∨ o[m + 1]? = some v) (hl : m + 1 < o.length) : rest (swapAt o m) v = rest o v := by
  have hu : o[m]? = some (o[m]'(by omega)) := List.getElem?_eq_getElem (by omega)
  have hd : o[m + 1]? = some (o[m + 1]'hl) := List.getElem?_eq_getElem hl
  rw [swapAt_is hu hd]
  generalize o[m]'(by omega) = u at hu
  generalize o[m + 1]'hl = d at hd
  obtain ⟨A, C, rfl, rfl⟩ := split2 hu hd
  rw [swapO_split]
  have : u = v ∨ d = v := by
    rcases h with h | h
    · rw [hu] at h; exact .inl (Option.some.inj h)
    · rw [hd] at h; exact .inr (Option.some.inj h)
  unfold rest
  rcases this with rfl | rfl
  · by_cases e : d = u <;> simp [e]
  · by_cases e : u = d <;> simp [e]

theorem swapAt_get {o : List Int} {m : Nat} (hl : m + 1 < o.length) : (swapAt o m)[m]? = o[m + 1]? ∧ (swapAt o m)[m + 1]? = o[m]? := by
  have hu : o[m]? = some (o[m]'(by omega)) := List.getElem?_eq_getElem (by omega)
  have hd : o[m + 1]? = some (o[m + 1]'hl) := List.getElem?_eq_getElem hl
  rw [swapAt_is hu hd, hd, hu]
  generalize o[m]'(by omega) = u
  generalize o[m + 1]'hl = d
  unfold swapO
  have hm : m < o.length := by omega
  constructor
  · rw [List.getElem?_set, if_neg (by omega), List.getElem?_set, if_pos rfl, if_pos hm]
  · rw [List.getElem?_set, if_pos rfl, if_pos (by simpa using hl)]

theorem WF.pl_at {S : ST} (hw : WF S) {m : Nat} {v : Int} (h : S.order[m]? = some v) : S.pl v = m := by
  obtain ⟨_, _, h3⟩ := hw.ord.op m v h
  unfold ST.pl
  rw [h3]
  rfl

/-- Where a variable stands, read in memory. -/
def plOf (w : World) (b : KB) (v : Int) : Nat := match w.cell? ⟨b.B.bp, v.toNat, none⟩ with
  | some (.int _ x) => x.toNat
  | _ => 0

theorem plOf_is {w : World} {b : KB} {K : KS} (hK : KernelAt w b K) (hw : WF K.S) {v : Int} (v0 : 0 ≤ v) (v1 : v < K.S.n) : plOf w b v = (K.S.pl v).toNat := by
  have hp := hw.pl_range v0 v1
  have := hK.store.place.cell hp.2.2.2
  simp [plOf, this]

/-- Where a variable stands, and nothing else moved. -/
structure Moved (K K' : KS) (v : Int) (c : Int) : Prop where
  re : Re K K' c
  rest : rest K'.S.order v = rest K.S.order v

theorem Moved.up {K K' K'' : KS} {v c : Int} (M : Moved K K' v c) (hw : WF K'.S) (v0 : 0 ≤ v) (v1 : v < K'.S.n) (r : Re K' K'' (swc K'.S.n)) (h1 : 0 < K'.S.pl v) (ho : K''.S.order = swapAt K'.S.order (K'.S.pl v - 1).toNat) : Moved K K'' v (c + swc K.S.n) ∧ K''.S.pl v = K'.S.pl v - 1 := by
  have hp := hw.pl_range v0 v1
  have hn : K'.S.n = K.S.n := M.re.n
  have e1 : (K'.S.pl v - 1).toNat + 1 = (K'.S.pl v).toNat := by omega
  have hl : (K'.S.pl v - 1).toNat + 1 < K'.S.order.length := by have : K'.S.order.length = K'.S.n := rfl; omega
  have hg : K'.S.order[(K'.S.pl v - 1).toNat + 1]? = some v := by rw [e1]; exact hp.2.2.1
  rw [hn] at r
  refine ⟨⟨M.re.trans r, by rw [ho, rest_swapAt (.inr hg) hl]; exact M.rest⟩, ?_⟩
  have := r.inv.wf.pl_at (m := (K'.S.pl v - 1).toNat) (v := v) (by rw [ho, (swapAt_get hl).1]; exact hg)
  omega

theorem Moved.down {K K' K'' : KS} {v c : Int} (M : Moved K K' v c) (hw : WF K'.S) (v0 : 0 ≤ v) (v1 : v < K'.S.n) (r : Re K' K'' (swc K'.S.n)) (h1 : K'.S.pl v + 1 < K'.S.n) (ho : K''.S.order = swapAt K'.S.order (K'.S.pl v).toNat) : Moved K K'' v (c + swc K.S.n) ∧ K''.S.pl v = K'.S.pl v + 1 := by
  have hp := hw.pl_range v0 v1
  have hn : K'.S.n = K.S.n := M.re.n
  have hl : (K'.S.pl v).toNat + 1 < K'.S.order.length := by have : K'.S.order.length = K'.S.n := rfl; omega
  have hg : K'.S.order[(K'.S.pl v).toNat]? = some v := hp.2.2.1
  rw [hn] at r
  refine ⟨⟨M.re.trans r, by rw [ho, rest_swapAt (.inl hg) hl]; exact M.rest⟩, ?_⟩
  have := r.inv.wf.pl_at (m := (K'.S.pl v).toNat + 1) (v := v) (by rw [ho, (swapAt_get hl).2]; exact hg)
  omega

set_option maxRecDepth 100000 in
set_option maxHeartbeats 2000000 in
theorem move_calls {w : World} {b : KB} {K : KS} (hK : KernelAt w b K) (h : KI K) (v p : Int) (v0 : 0 ≤ v) (v1 : v < K.S.n) (p0 : 0 ≤ p) (p1 : p < K.S.n) (hlim : K.S.next + 8 * swc K.S.n < lim) :
    Calls Tryz.prog 188 #[.pointer (some ⟨b.k, 0, none⟩), .int .i64 v, .int .i64 p] w fun e w' => e = .returned (.tuple #[]) ∧ ∃ K', KernelAt w' b K' ∧ Moved K K' v (8 * swc K.S.n) ∧ K'.S.pl v = p ∧ Keeps b.own w w' := by
  have hsw := swc_nonneg K.S.n
  have n8 := h.n8
  have hpl := h.wf.pl_range v0 v1
  go_enter Tryz.func188, Tryz.ntmps188
  go_wp2_with fail
  go_loopw [6] (fun _ wr => ∃ K', KernelAt wr b K' ∧ Moved K K' v ((K.S.pl v - K'.S.pl v) * swc K.S.n) ∧ (K'.S.pl v ≤ K.S.pl v) ∧ (K.S.pl v ≤ p → K'.S.pl v = K.S.pl v) ∧ (p ≤ K.S.pl v → p ≤ K'.S.pl v) ∧ Keeps b.own w wr)
    (fun _ wr => plOf wr b v)
  case atStart => exact ⟨K, hK, ⟨(Re.refl h).mono (by simp), rfl⟩, Int.le_refl _, fun _ => rfl, fun h => h, Keeps.refl _ _⟩
  case round =>
    obtain ⟨K', hK', M, q1, q2, q3, hk⟩ := hrel
    have hKI := M.re.inv
    have hn : K'.S.n = K.S.n := M.re.n
    have v1' : v < K'.S.n := by rw [hn]; exact v1
    have c0 := hK'.head.cell 0
    simp at c0
    have hp := hide (place_calls hK'.store hKI.wf v v0 v1')
    have hpl' := hide (hKI.wf.pl_range v0 v1')
    have hm := hide (plOf_is hK' hKI.wf v0 v1')
    have Hn := hide hn
    clear hn
    obtain ⟨x, hx⟩ : ∃ x, K'.S.pl v = x := ⟨_, rfl⟩
    have Hx := hide hx
    rw [hx] at hp
    clear hx
    by_cases hgt : p < x
    · have hx0 : 0 ≤ x := by omega
      have hx9 : x < 9 := by have := hpl'.out; have := Hx.out; have := Hn.out; omega
      have hwr : wrap64 (x - 1) = x - 1 := by unfold wrap64; omega
      have hs := hide (kswap_calls hK' hKI (x - 1) (by omega) (by have := hpl'.out; have := Hx.out; omega) (by
        have := M.re.next
        have := Hn.out
        have hq : (K.S.pl v - K'.S.pl v) * swc K.S.n ≤ 7 * swc K.S.n := Int.mul_le_mul_of_nonneg_right (by have := Hx.out; omega) hsw
        rw [this]
        omega))
      go_wp2_with fail
      refine hp.out.mono ?_
      rintro e w1 ⟨rfl, rfl⟩
      go_wp2_with fail
      refine hp.out.mono ?_
      rintro e w1 ⟨rfl, rfl⟩
      go_wp2_with fail
      refine hs.out.mono ?_
      rintro e w2 ⟨rfl, K'', hK'', r, ho, k2⟩
      have hx := Hx.out
      obtain ⟨M'', hp''⟩ := M.up hKI.wf v0 v1' r (by omega) (by rw [hx]; exact ho)
      have hm2 := hide (plOf_is hK'' M''.re.inv.wf v0 (by have : K''.S.n = K.S.n := M''.re.n; omega))
      go_wp2_with fail
      go_roundw
      · refine ⟨K'', hK'', ?_, by omega, fun hle => ?_, fun hle => by omega, hk.trans k2⟩
        · have e1 : (K.S.pl v - K''.S.pl v) * swc K.S.n = (K.S.pl v - K'.S.pl v) * swc K.S.n + swc K.S.n := by
            rw [hp'', show K.S.pl v - (K'.S.pl v - 1) = (K.S.pl v - K'.S.pl v) + 1 by omega, Int.add_mul, Int.one_mul]
          rw [e1]
          exact M''
        · have := q2 hle; omega
      · rw [hm.out, hm2.out]; omega
    · go_wp2_with fail
      refine hp.out.mono ?_
      rintro e w1 ⟨rfl, rfl⟩
      go_wp2_with fail
      clear c0 hp hm
      obtain ⟨c1, hc1⟩ : ∃ c1, (K.S.pl v - K'.S.pl v) * swc K.S.n = c1 := ⟨_, rfl⟩
      have hcost : c1 + (p - x) * swc K.S.n ≤ 7 * swc K.S.n := by
        have hx := Hx.out
        rw [← hc1, ← Int.add_mul]
        refine Int.mul_le_mul_of_nonneg_right ?_ hsw
        by_cases hle : K.S.pl v ≤ p
        · have := q2 hle; omega
        · have := q3 (by omega); omega
      rw [hc1] at M
      have hmono : ∀ y, y ≤ p → c1 + (y - x) * swc K.S.n ≤ 7 * swc K.S.n := fun y hy => by
        have : (y - x) * swc K.S.n ≤ (p - x) * swc K.S.n := Int.mul_le_mul_of_nonneg_right (by omega) hsw
        omega
      have Hcost := hide hcost
      clear hcost hc1
      go_loopw [23] (fun _ wr => ∃ K'', KernelAt wr b K'' ∧ Moved K K'' v (c1 + (K''.S.pl v - x) * swc K.S.n) ∧ K''.S.pl v ≤ p ∧ Keeps b.own w wr)
        (fun _ wr => 9 - plOf wr b v)
      case atStart => exact ⟨K', hK', by rw [Hx.out]; simpa using M, by rw [Hx.out]; omega, hk⟩
      case round =>
        obtain ⟨K2, hK2, M2, q4, hk2⟩ := hrel
        clear hK' hKI M hk
        have hKI := M2.re.inv
        have hn : K2.S.n = K.S.n := M2.re.n
        have v1'' : v < K2.S.n := by rw [hn]; exact v1
        have c0 := hK2.head.cell 0
        simp at c0
        have hp := hide (place_calls hK2.store hKI.wf v v0 v1'')
        have hpl2 := hide (hKI.wf.pl_range v0 v1'')
        have hm := hide (plOf_is hK2 hKI.wf v0 v1'')
        have Hn2 := hide hn
        clear hn
        obtain ⟨y, hy⟩ : ∃ y, K2.S.pl v = y := ⟨_, rfl⟩
        have Hy := hide hy
        rw [hy] at hp q4
        clear hy
        by_cases hlt : y < p
        · have hs := hide (kswap_calls hK2 hKI y (by have := hpl2.out; have := Hy.out; omega) (by have := Hn2.out; omega) (by
            have h1 := M2.re.next
            have h2 := Hn2.out
            have h3 := Hy.out
            rw [h3] at h1
            have := hmono y (by omega)
            rw [h2]
            omega))
          go_wp2_with fail
          refine hp.out.mono ?_
          rintro e w1 ⟨rfl, rfl⟩
          go_wp2_with fail
          refine hp.out.mono ?_
          rintro e w1 ⟨rfl, rfl⟩
          go_wp2_with fail
          refine hs.out.mono ?_
          rintro e w2 ⟨rfl, K3, hK3, r, ho, k2⟩
          have hy := Hy.out
          have hn2 := Hn2.out
          obtain ⟨M3, hp3⟩ := M2.down hKI.wf v0 v1'' r (by omega) (by rw [hy]; exact ho)
          have hm2 := hide (plOf_is hK3 M3.re.inv.wf v0 (by have : K3.S.n = K.S.n := M3.re.n; omega))
          have hpl3 := hide (hpl2.out)
          go_wp2_with fail
          go_roundw
          · refine ⟨K3, hK3, ?_, by omega, hk2.trans k2⟩
            have e1 : c1 + (K3.S.pl v - x) * swc K.S.n = c1 + (K2.S.pl v - x) * swc K.S.n + swc K.S.n := by
              rw [hp3, show K2.S.pl v + 1 - x = (K2.S.pl v - x) + 1 by omega, Int.add_mul, Int.one_mul]
              omega
            rw [e1]
            exact M3
          · rw [hm.out, hm2.out]; have := hpl3.out; omega
        · go_wp2_with fail
          refine hp.out.mono ?_
          rintro e w1 ⟨rfl, rfl⟩
          go_wp2_with fail
          go_end0
          have hy := Hy.out
          refine ⟨rfl, K2, hK2, ⟨M2.re.mono ?_, M2.rest⟩, by omega, hk2⟩
          rw [hy]
          have := hmono y q4
          omega

end Go.Proofs.YtgjomknpjigkhaaGreatDoor

namespace Go.Proofs.YtgjomknpjigkhaaGreatDoor
open Go.RowKit Go.Shelf

/-- Each key once. -/
structure Nd (K : KS) : Prop where
  N : (K.S.N.map Prod.fst).Nodup
  R : (K.R.map Prod.fst).Nodup

theorem KernelAt.nd {w : World} {b : KB} {K : KS} (h : KernelAt w b K) : Nd K := ⟨h.store.nodes.nodup, h.roots.nodup⟩

theorem KI.rootsOk {K : KS} (h : KI K) (d : Nd K) : RootsOk K.S (K.R.map Prod.snd) := fun r hr => by
  obtain ⟨a, ha⟩ := (get_mem_map d.R r).1 hr
  exact h.ok a r ha

theorem total_le {K K' : KS} (h : KI K) (d : Nd K) (h' : KI K') (d' : Nd K') (hR : K'.R = K.R) (hd : ∀ a r, get K.R a = some r → ∀ σ, K'.S.den r σ = K.S.den r σ) (ho : K'.S.order = K.S.order) : K.S.N.length ≤ K'.S.N.length := by
  have := like_length_le h.wf h'.wf ho (h.rootsOk d) (h'.rootsOk d') (fun r hr => by
    obtain ⟨a, ha⟩ := (get_mem_map d.R r).1 hr
    exact ⟨r, by rw [hR]; exact hr, hd a r ha⟩) d.N (fun f hf => by
    obtain ⟨p, hp, rfl⟩ := List.mem_map.1 hf
    exact h.reach p.1 p.2 (get_of_mem d.N hp)) (ys := K'.S.N.map Prod.fst) (fun g hg => by
    obtain ⟨t, ht⟩ := hg.node h'.wf (h'.rootsOk d')
    exact List.mem_map.2 ⟨_, get_some_mem ht, rfl⟩)
  simpa using this

theorem total_eq {K K' : KS} (h : KI K) (d : Nd K) (h' : KI K') (d' : Nd K') (hR : K'.R = K.R) (hd : ∀ a r, get K.R a = some r → ∀ σ, K'.S.den r σ = K.S.den r σ) (ho : K'.S.order = K.S.order) : K'.S.N.length = K.S.N.length :=
  Nat.le_antisymm (total_le h' d' h d hR.symm (fun a r ha σ => (hd a r (by rw [← hR]; exact ha) σ).symm) ho.symm) (total_le h d h' d' hR hd ho)

theorem rest_at {S : ST} (hw : WF S) {v : Int} (v0 : 0 ≤ v) (v1 : v < S.n) : S.order = (rest S.order v).take (S.pl v).toNat ++ v :: (rest S.order v).drop (S.pl v).toNat ∧ (rest S.order v).length + 1 = S.order.length := by
  have hp := hw.pl_range v0 v1
  obtain ⟨p, hpp⟩ : ∃ p, (S.pl v).toNat = p := ⟨_, rfl⟩
  have hg : S.order[p]? = some v := by rw [← hpp]; exact hp.2.2.1
  have hpl : p < S.order.length := (List.getElem?_eq_some_iff.1 hg).1
  have hv : S.order[p] = v := (List.getElem?_eq_some_iff.1 hg).2
  have e : S.order = S.order.take p ++ v :: S.order.drop (p + 1) := by
    rw [← hv, ← List.drop_eq_getElem_cons hpl, List.take_append_drop]
  have uniq : ∀ j, S.order[j]? = some v → j = p := by
    intro j hj
    obtain ⟨_, _, h1⟩ := hw.ord.op j v hj
    obtain ⟨_, _, h2⟩ := hw.ord.op p v hg
    rw [h1] at h2
    have := Option.some.inj h2
    omega
  have nA : ∀ x ∈ S.order.take p, x ≠ v := by
    intro x hx exv
    subst exv
    obtain ⟨j, hj, ej⟩ := List.mem_iff_getElem.1 hx
    have hj' : j < p := by simp at hj; omega
    have := uniq j (by rw [List.getElem_take] at ej; rw [← ej]; exact List.getElem?_eq_getElem (by omega))
    omega
  have nC : ∀ x ∈ S.order.drop (p + 1), x ≠ v := by
    intro x hx exv
    subst exv
    obtain ⟨j, hj, ej⟩ := List.mem_iff_getElem.1 hx
    simp only [List.length_drop] at hj
    have := uniq (p + 1 + j) (by rw [List.getElem_drop] at ej; rw [← ej]; exact List.getElem?_eq_getElem (by omega))
    omega
  have fA : (S.order.take p).filter (fun x => decide (x ≠ v)) = S.order.take p := List.filter_eq_self.2 (fun x hx => by simpa using nA x hx)
  have fC : (S.order.drop (p + 1)).filter (fun x => decide (x ≠ v)) = S.order.drop (p + 1) := List.filter_eq_self.2 (fun x hx => by simpa using nC x hx)
  have er : rest S.order v = S.order.take p ++ S.order.drop (p + 1) := by
    unfold rest
    rw [e, List.filter_append, List.filter_cons_of_neg (by simp), fA, fC, ← e]
  have hA : (S.order.take p).length = p := by simp; omega
  rw [hpp, er]
  refine ⟨?_, ?_⟩
  · rw [List.take_append_of_le_length (by omega), List.drop_append_of_le_length (by omega)]
    rw [show (S.order.take p).take p = S.order.take p by rw [List.take_take]; simp, show (S.order.take p).drop p = [] by rw [List.drop_eq_nil_iff]; omega, List.nil_append]
    exact e
  · simp; omega

theorem order_eq {S S' : ST} (hw : WF S) (hw' : WF S') {v : Int} (v0 : 0 ≤ v) (v1 : v < S.n) (v1' : v < S'.n) (hr : rest S'.order v = rest S.order v) (hp : S'.pl v = S.pl v) : S'.order = S.order := by
  have h1 := (rest_at hw v0 v1).1
  have h2 := (rest_at hw' v0 v1').1
  rw [hr, hp] at h2
  rw [h2, ← h1]

/-- How many nodes there are, with a variable at a place. -/
def TotAt (K : KS) (v p : Int) (t : Nat) : Prop := ∃ K' c, Nd K' ∧ Moved K K' v c ∧ K'.S.pl v = p ∧ K'.S.N.length = t

theorem TotAt.unique {K : KS} {v p : Int} {t t' : Nat} (v0 : 0 ≤ v) (v1 : v < K.S.n) (h : TotAt K v p t) (h' : TotAt K v p t') : t = t' := by
  obtain ⟨K1, c1, d1, m1, p1, rfl⟩ := h
  obtain ⟨K2, c2, d2, m2, p2, rfl⟩ := h'
  have n1 : K1.S.n = K.S.n := m1.re.n
  have n2 : K2.S.n = K.S.n := m2.re.n
  have ho := order_eq (S := K1.S) (S' := K2.S) m1.re.inv.wf m2.re.inv.wf v0 (by rw [n1]; exact v1) (by rw [n2]; exact v1) (by rw [m2.rest, m1.rest]) (by rw [p2, p1])
  exact (total_eq m1.re.inv d1 m2.re.inv d2 (by rw [m2.re.R, m1.re.R]) (fun a r ha σ => by
    have ha' : get K.R a = some r := by rw [← m1.re.R]; exact ha
    rw [m2.re.den a r ha', m1.re.den a r ha']) ho).symm

theorem Moved.trans {K K' K'' : KS} {v c d : Int} (h : Moved K K' v c) (k : Moved K' K'' v d) : Moved K K'' v (c + d) := ⟨h.re.trans k.re, k.rest.trans h.rest⟩

/-- A place that is best. -/
def Best (K : KS) (v p0 : Int) : Prop := (∀ p : Int, 0 ≤ p → p < K.S.n → ∃ t, TotAt K v p t) ∧ 0 ≤ p0 ∧ p0 < K.S.n ∧ ∃ t0 : Nat, TotAt K v p0 t0 ∧ ∀ (p : Int) (t : Nat), 0 ≤ p → p < K.S.n → TotAt K v p t → t0 < t ∨ (t0 = t ∧ p0 ≤ p)

end Go.Proofs.YtgjomknpjigkhaaGreatDoor

namespace Go.Proofs.YtgjomknpjigkhaaGreatDoor
open Go.RowKit Go.Shelf

/-- The greatest int. -/
def top63 : Int := 9223372036854775807

/-- The least so far. -/
structure Sofar (K : KS) (v : Int) (n : Nat) (i : Nat) (bst : Int) : Prop where
  none : i = 0 → bst = top63
  some : 0 < i → ∃ (p0 : Int) (t0 : Nat), 0 ≤ p0 ∧ p0 < i ∧ TotAt K v p0 t0 ∧ bst = t0 * n + p0
  least : ∀ (p : Int) (t : Nat), 0 ≤ p → p < i → TotAt K v p t → bst ≤ t * n + p
  each : ∀ p : Int, 0 ≤ p → p < i → ∃ t, TotAt K v p t

theorem Sofar.start (K : KS) (v : Int) (n : Nat) : Sofar K v n 0 9223372036854775807 := ⟨fun _ => rfl, fun h => by omega, fun p t h1 h2 _ => by omega, fun p h1 h2 => by omega⟩

theorem Sofar.step {K : KS} {v : Int} {n i : Nat} {bst : Int} (h : Sofar K v n i bst) (v0 : 0 ≤ v) (v1 : v < K.S.n) {t : Nat} (ht : TotAt K v i t) (hb : (t : Int) * n + i < top63) : Sofar K v n (i + 1) (min bst (t * n + i)) := by
  refine ⟨fun e => by omega, fun _ => ?_, fun p t' h0 h1 hT => ?_, fun p h0 h1 => ?_⟩
  · by_cases hi : i = 0
    · have := h.none hi
      exact ⟨i, t, by omega, by omega, ht, by omega⟩
    · obtain ⟨p0, t0, a, b, c, d⟩ := h.some (by omega)
      by_cases hm : bst ≤ t * n + i
      · exact ⟨p0, t0, a, by omega, c, by omega⟩
      · exact ⟨i, t, by omega, by omega, ht, by omega⟩
  · by_cases hp : p = i
    · subst hp
      have := ht.unique v0 v1 hT
      subst this
      omega
    · have := h.least p t' h0 (by omega) hT
      omega
  · by_cases hp : p = i
    · exact ⟨t, hp ▸ ht⟩
    · exact h.each p h0 (by omega)

theorem Sofar.best {K : KS} {v : Int} {n : Nat} {bst : Int} (hn : K.S.n = n) (n1 : 1 ≤ n) (h : Sofar K v n n bst) : Best K v (bst.tmod n) := by
  obtain ⟨p0, t0, a, b, c, d⟩ := h.some (by omega)
  have e : bst.tmod n = p0 := by
    rw [d]
    rw [Int.tmod_eq_emod_of_nonneg (by have : (0 : Int) ≤ (t0 : Int) * n := Int.mul_nonneg (by omega) (by omega); omega), Int.add_comm, Int.add_mul_emod_self_right]
    exact Int.emod_eq_of_lt a b
  rw [e]
  refine ⟨fun p h0 h1 => h.each p h0 (by rw [hn] at h1; exact h1), a, by rw [hn]; exact b, t0, c, fun p t p0' p1 hT => ?_⟩
  rw [hn] at p1
  have hl := h.least p t p0' p1 hT
  rw [d] at hl
  by_cases h1 : t0 < t
  · exact .inl h1
  · refine .inr ?_
    by_cases h2 : t < t0
    · exfalso
      have : ((t : Int) + 1) * n ≤ t0 * n := Int.mul_le_mul_of_nonneg_right (by omega) (by omega)
      rw [Int.add_mul, Int.one_mul] at this
      omega
    · have : t0 = t := by omega
      subst this
      exact ⟨rfl, by omega⟩

set_option maxRecDepth 100000 in
set_option maxHeartbeats 2000000 in
theorem bestPlace_calls {w : World} {b : KB} {K : KS} (hK : KernelAt w b K) (h : KI K) (v : Int) (v0 : 0 ≤ v) (v1 : v < K.S.n) (hlim : K.S.next + 72 * swc K.S.n < lim) :
    Calls Tryz.prog 189 #[.pointer (some ⟨b.k, 0, none⟩), .int .i64 v] w fun e w' => ∃ p K', e = .returned (.int .i64 p) ∧ KernelAt w' b K' ∧ Moved K K' v (64 * swc K.S.n) ∧ Best K v p ∧ Keeps b.own w w' := by
  have c0 := hK.head.cell 0
  simp at c0
  have hsw := swc_nonneg K.S.n
  have n8 := h.n8
  have n1 := h.n1
  have hv := hide (vars_calls hK.store)
  obtain ⟨n, hn⟩ : ∃ n, K.S.n = n := ⟨_, rfl⟩
  have Hn := hide hn
  rw [hn] at hv n8 n1 v1 hlim hsw
  clear hn
  have hmn := min2_ok
  go_enter Tryz.func189, Tryz.ntmps189
  go_wp2_with fail
  refine hv.out.mono ?_
  rintro e w1 ⟨rfl, rfl⟩
  go_wp2_with fail
  clear c0 hv
  go_loopw [6, 14] (fun t u wr => ∃ (i : Nat) (bst : Int) (K' : KS), t = .int .i64 bst ∧ u = .int .i64 i ∧ i ≤ n ∧ KernelAt wr b K' ∧ Moved K K' v (i * (8 * swc n)) ∧ Sofar K v n i bst ∧ Keeps b.own w1 wr)
    (fun _ u _ => ((n : Int) - intOf u).toNat)
  case atStart => exact ⟨0, _, K, rfl, rfl, by omega, hK, ⟨(Re.refl h).mono (by simp), rfl⟩, Sofar.start K v n, Keeps.refl _ _⟩
  case round =>
    obtain ⟨i, bst, K', rfl, rfl, hi, hK', M, hsf, hk⟩ := hrel
    have hn' : K'.S.n = n := (M.re.n : K'.S.n = K.S.n).trans Hn.out
    by_cases hlt : i < n
    · have hltI : (i : Int) < n := by omega
      have hmul : (i : Int) * (8 * swc n) ≤ 7 * (8 * swc n) := Int.mul_le_mul_of_nonneg_right (by omega) (by omega)
      have hm := hide (move_calls hK' M.re.inv v i v0 (by rw [hn']; exact v1) (by omega) (by rw [hn']; omega) (by rw [hn']; have h1 := M.re.next; have h2 := Hn.out; omega))
      have Hmul := hide hmul
      have Hn' := hide hn'
      clear hmul hn'
      go_wp2_with fail
      refine hm.out.mono ?_
      rintro e w2 ⟨rfl, K2, hK2, M2, hp2, k2⟩
      have M3 := M.trans M2
      have hT : TotAt K v i K2.S.N.length := ⟨K2, _, hK2.nd, M3, hp2, rfl⟩
      have hfew := M3.re.inv.few
      have ht := hide (ktotal_calls hK2)
      generalize K2.S.N.length = t at hT hfew ht
      have hmt : (t : Int) * n ≤ 26010 * 8 := Int.mul_le_mul (by omega) (by omega) (by omega) (by omega)
      have hmt0 : (0 : Int) ≤ (t : Int) * n := Int.mul_nonneg (by omega) (by omega)
      have hstep := hsf.step v0 (by rw [Hn.out]; exact v1) hT (by unfold top63; omega)
      obtain ⟨m, hm⟩ : ∃ m, (t : Int) * n = m := ⟨_, rfl⟩
      rw [hm] at hstep hmt hmt0
      have Hstep := hide hstep
      have hi63 : (i : Int) < 9223372036854775807 := by omega
      clear hstep
      have hw2 : wrap64 (m + i) = m + i := by unfold wrap64; omega
      have Hw2 := hide hw2
      clear hw2
      have hw1 : wrap64 m = m := by unfold wrap64; omega
      have hw2 := Hw2.out
      clear hmt hmt0 Hw2 hfew hT
      go_wp2_with fail
      refine ht.out.mono ?_
      rintro e w3 ⟨rfl, rfl⟩
      go_wp2_with fail
      clear hw1 hw2
      go_roundw
      · refine ⟨i + 1, _, K2, rfl, by simp, by omega, hK2, ?_, Hstep.out, hk.trans k2⟩
        have e1 : (((i + 1 : Nat) : Int)) * (8 * swc n) = i * (8 * swc n) + 8 * swc n := by push_cast; rw [Int.add_mul, Int.one_mul]
        rw [e1]
        rw [Hn'.out] at M3
        exact M3
      · simp only [intOf]; omega
    · have hie : i = n := by omega
      subst hie
      have hne : ¬ (i : Int) = 0 := by omega
      have hbest := hide (hsf.best Hn.out n1)
      have hmul : (i : Int) * (8 * swc i) ≤ 8 * (8 * swc i) := Int.mul_le_mul_of_nonneg_right (by omega) (by omega)
      have Hmul := hide hmul
      clear hmul hn'
      go_wp2_with fail
      go_ret
      refine ⟨_, K', rfl, hK', ⟨M.re.mono (by rw [Hn.out]; have := Hmul.out; omega), M.rest⟩, ?_, hk⟩
      exact hbest.out

set_option maxHeartbeats 800000 in
theorem ksift_calls {w : World} {b : KB} {K : KS} (hK : KernelAt w b K) (h : KI K) (v : Int) (v0 : 0 ≤ v) (v1 : v < K.S.n) (hlim : K.S.next + 72 * swc K.S.n < lim) :
    Calls Tryz.prog 122 #[.pointer (some ⟨b.k, 0, none⟩), .int .i64 v] w fun e w' => e = .returned (.int .i64 0) ∧ ∃ p K', KernelAt w' b K' ∧ Moved K K' v (72 * swc K.S.n) ∧ K'.S.pl v = p ∧ Best K v p ∧ Keeps b.own w w' := by
  have hv := hide (isVariable_yes hK v v0 v1)
  have hb := hide (bestPlace_calls hK h v v0 v1 hlim)
  have Hlim := hide hlim
  clear hlim
  go_enter Tryz.func122, Tryz.ntmps122
  go_wp2_with fail
  refine hv.out.mono ?_
  rintro e w1 ⟨rfl, rfl⟩
  go_wp2_with fail
  refine hb.out.mono ?_
  rintro e w2 ⟨p, K', rfl, hK', M, hbest, k2⟩
  have hn : K'.S.n = K.S.n := M.re.n
  have hm := hide (move_calls hK' M.re.inv v p v0 (by rw [hn]; exact v1) hbest.2.1 (by rw [hn]; exact hbest.2.2.1) (by rw [hn]; have := M.re.next; have := Hlim.out; omega))
  have Hn := hide hn
  have Hb := hide hbest
  clear hn hbest
  go_wp2_with fail
  refine hm.out.mono ?_
  rintro e w3 ⟨rfl, K2, hK2, M2, hp2, k3⟩
  go_wp2_with fail
  go_ret
  have M3 := M.trans M2
  rw [Hn.out] at M3
  refine ⟨rfl, p, K2, hK2, ⟨M3.re.mono (by omega), M3.rest⟩, hp2, Hb.out, k2.trans k3⟩

end Go.Proofs.YtgjomknpjigkhaaGreatDoor

namespace Go.Proofs.YtgjomknpjigkhaaGreatDoor
open Go.RowKit Go.Shelf

def rng (i : Nat) : List Int := (List.range i).map fun k : Nat => (k : Int)
theorem rng_length (i : Nat) : (rng i).length = i := by simp [rng]
theorem rng_succ (i : Nat) : rng (i + 1) = rng i ++ [(i : Int)] := by simp [rng, List.range_succ]
theorem rng_get {i k : Nat} (h : k < i) : (rng i)[k]? = some (k : Int) := by simp [rng, h]

/-- Two rows apart. -/
def Apart (x y : Value) : Prop := ∀ i j, x.ownBlock = some i → y.ownBlock = some j → i ≠ j

theorem one_cell {W : World} {y : Int} : ∀ (j : Nat) (x : Value), (ints [y])[j]? = some x → (W.alloc (.cells #[.int .i64 y] 3)).cell? ((⟨W.heap.size, 0, none⟩ : Addr).add j) = some x := by
  intro j x hx
  obtain ⟨y', hy, rfl⟩ := ints_get [y] j x hx
  rw [Addr.add_lit, Nat.zero_add, (CellsAt.new W #[.int .i64 y] 3).cell]
  cases j with
  | zero => simp at hy; subst hy; rfl
  | succ j => simp at hy

def ST.new (n : Nat) : ST := { order := rng n, place := rng n, N := [], U := [], next := 2, K := [] }

theorem new_wf (n : Nat) : WF (ST.new n) := by
  have ord : Ordered (rng n) (rng n) := by
    refine ⟨rfl, ?_, ?_⟩
    · intro i v hv
      have hi : i < n := by have := (List.getElem?_eq_some_iff.1 hv).1; rwa [rng_length] at this
      rw [rng_get hi] at hv
      have := Option.some.inj hv
      subst this
      rw [rng_length]
      exact ⟨by omega, by omega, by rw [Int.toNat_natCast]; exact rng_get hi⟩
    · intro i v hv
      have hi : i < n := by have := (List.getElem?_eq_some_iff.1 hv).1; rwa [rng_length] at this
      rw [rng_get hi] at hv
      have := Option.some.inj hv
      subst this
      rw [rng_length]
      exact ⟨by omega, by omega, by rw [Int.toNat_natCast]; exact rng_get hi⟩
  exact ⟨ord, by show (2 : Int) ≤ 2; omega, (fun f v l h ht => nomatch ht), (fun t f => ⟨fun h => (nomatch h), fun h => (nomatch h)⟩)⟩

set_option maxRecDepth 100000 in
set_option maxHeartbeats 2000000 in
theorem new_calls {w : World} (n : Nat) (n1 : 1 ≤ n) (n8 : n ≤ 8) :
    Calls Tryz.prog 71 #[.int .i64 n] w fun e w' => ∃ B, e = .returned (.pointer (some ⟨B.b, 0, none⟩)) ∧ StoreAt w' B (ST.new n) ∧ (∀ i ∈ B.own, w.heap.size ≤ i) ∧ Keeps [] w w' := by
  obtain ⟨i0, hi0, hz0, hz1, hz2⟩ := info_parts info3
  have hmm := @run_makeMap Tryz.prog
  go_enter Tryz.func71, Tryz.ntmps71
  go_wp2_with fail
  have z1 := size_alloc' w (.map #[] 0)
  have z2 := size_alloc' (w.alloc (.map #[] 0)) (.map #[] 0)
  have z3 := size_alloc' ((w.alloc (.map #[] 0)).alloc (.map #[] 0)) (.map #[] 0)
  rw [z1] at z2
  rw [z2] at z3
  obtain ⟨z, hz⟩ : ∃ z, w.heap.size = z := ⟨_, rfl⟩
  have a1 : MapIs eI eT (w.alloc (.map #[] 0)) w.heap.size ([] : List (Int × Tri)) := MapIs.new w 0
  have a2 : MapIs eT eI ((w.alloc (.map #[] 0)).alloc (.map #[] 0)) (w.alloc (.map #[] 0)).heap.size ([] : List (Tri × Int)) := MapIs.new _ 0
  have a3 : MapIs eT eI (((w.alloc (.map #[] 0)).alloc (.map #[] 0)).alloc (.map #[] 0)) ((w.alloc (.map #[] 0)).alloc (.map #[] 0)).heap.size ([] : List (Tri × Int)) := MapIs.new _ 0
  have a4 := CellsAt.new (((w.alloc (.map #[] 0)).alloc (.map #[] 0)).alloc (.map #[] 0)) #[.slice none 0 0, .slice none 0 0, .map (some w.heap.size), .map (some (w.heap.size + 1)), .int .i64 2, .map (some (w.heap.size + 1 + 1))] 213
  have k1 := Keeps.alloc [] w (.map #[] 0)
  have k2 := Keeps.alloc [] (w.alloc (.map #[] 0)) (.map #[] 0)
  have k3 := Keeps.alloc [] ((w.alloc (.map #[] 0)).alloc (.map #[] 0)) (.map #[] 0)
  have k4 := Keeps.alloc [] (((w.alloc (.map #[] 0)).alloc (.map #[] 0)).alloc (.map #[] 0)) (.cells #[.slice none 0 0, .slice none 0 0, .map (some w.heap.size), .map (some (w.heap.size + 1)), .int .i64 2, .map (some (w.heap.size + 1 + 1))] 213)
  have z4 := size_alloc' (((w.alloc (.map #[] 0)).alloc (.map #[] 0)).alloc (.map #[] 0)) (.cells #[.slice none 0 0, .slice none 0 0, .map (some w.heap.size), .map (some (w.heap.size + 1)), .int .i64 2, .map (some (w.heap.size + 1 + 1))] 213)
  rw [z1] at a2
  rw [z2] at a3
  rw [z3] at a4 z4
  have b1 := ((a1.kept k2 (by simp)).kept k3 (by simp)).kept k4 (by simp)
  have b2 := (a2.kept k3 (by simp)).kept k4 (by simp)
  have b3 := a3.kept k4 (by simp)
  have kk := ((k1.trans k2).trans k3).trans k4
  clear a1 a2 a3 k1 k2 k3 k4 z1 z2 z3
  generalize (((w.alloc (.map #[] 0)).alloc (.map #[] 0)).alloc (.map #[] 0)).alloc (.cells #[.slice none 0 0, .slice none 0 0, .map (some w.heap.size), .map (some (w.heap.size + 1)), .int .i64 2, .map (some (w.heap.size + 1 + 1))] 213) = W0 at a4 b1 b2 b3 kk z4 ⊢
  have Hz := hide hz
  rw [hz] at a4 b1 b2 b3 z4 ⊢
  clear hz
  have HW0 := hide z4
  clear z4
  go_loopw [11] (fun t wr => ∃ (i : Nat) (vo vp : Value), t = .int .i64 i ∧ i ≤ n ∧ CellsAt wr (z + 1 + 1 + 1) #[vo, vp, .map (some z), .map (some (z + 1)), .int .i64 2, .map (some (z + 1 + 1))] ∧ Hid (wr.ownsRow (z + 1 + 1 + 1 + 1) 3 1 vo i (ints (rng i))) ∧ Hid (wr.ownsRow (z + 1 + 1 + 1 + 1) 3 1 vp i (ints (rng i))) ∧ Apart vo vp ∧ MapIs eI eT wr z ([] : List (Int × Tri)) ∧ MapIs eT eI wr (z + 1) ([] : List (Tri × Int)) ∧ MapIs eT eI wr (z + 1 + 1) ([] : List (Tri × Int)) ∧ Keeps [] w wr)
    (fun t _ => ((n : Int) - intOf t).toNat)
  case atStart => exact ⟨0, _, _, rfl, by omega, a4, hide ⟨rfl, .inl ⟨rfl, rfl⟩⟩, hide ⟨rfl, .inl ⟨rfl, rfl⟩⟩, by intro i j h; simp [Value.ownBlock] at h, b1, b2, b3, kk⟩
  case round =>
    obtain ⟨i, vo, vp, rfl, hi, hc, ho, hp, hap, m1, m2, m3, hk⟩ := hrel
    clear a4 b1 b2 b3 kk HW0
    by_cases hlt : i < n
    · have hltI : (i : Int) < n := by omega
      have hi63 : (i : Int) < 9223372036854775807 := by omega
      have c0 := hc.cell 0
      simp at c0
      have hbl := hc.lt
      -- the order
      have kB := Keeps.alloc [] wr (.cells #[.int .i64 i] 3)
      have hcB := hc.keeps kB (by simp)
      have hoB := ownsRow_kept ho.out kB (by simp)
      have hpB := hide (ownsRow_kept hp.out kB (by simp))
      have hszB : z + 1 + 1 + 1 + 1 ≤ (wr.alloc (.cells #[.int .i64 i] 3)).heap.size := by rw [size_alloc']; omega
      have hone := one_cell (W := wr) (y := (i : Int))
      have hmB1 := hide (m1.kept kB (by simp))
      have hmB2 := hide (m2.kept kB (by simp))
      have hmB3 := hide (m3.kept kB (by simp))
      go_wp2_with (at_builtin; refine wpList_append_own_at _ rfl _ _ 40 rfl (z + 1 + 1 + 1 + 1) 3 i0 (.int .i64 0) 1 8 Tryz.underlying40 hi0 hz0 hz1 hz2 rfl (by decide) _ i (ints (rng i)) rfl hoB ⟨wr.heap.size, 0, none⟩ 1 1 (ints [(i : Int)]) rfl (by simp [ints]) hone (ints_one _) (by unfold maxLen; omega) (by omega) hszB ?_)
      intro vo' W1 hown1 hgrow1 hnil1 hat1
      have hex1 : ∃ g cap, vo' = .slice (some ⟨g, 0, none⟩) (i + 1) cap := by
        rcases hown1.2 with ⟨e, e2⟩ | ⟨g, cap, cur, e, _⟩
        · omega
        · exact ⟨g, cap, e⟩
      obtain ⟨go, capo, hvo'⟩ := hex1
      subst hvo'
      have k1 := grownBy_keeps' hgrow1 vo.ownBlock.toList (fun r e => .inl (by rw [e]; simp))
      have hlowo : ∀ j ∈ vo.ownBlock.toList, z + 1 + 1 + 1 + 1 ≤ j := fun j hj => (own_base hoB j (by simpa using hj)).1
      have hc1 := hcB.keeps k1 (fun x => by have := hlowo _ x; omega)
      have m11 := hide (hmB1.out.kept k1 (fun x => by have := hlowo _ x; omega))
      have m12 := hide (hmB2.out.kept k1 (fun x => by have := hlowo _ x; omega))
      have m13 := hide (hmB3.out.kept k1 (fun x => by have := hlowo _ x; omega))
      have hp1 := hide (ownsRow_kept hpB.out k1 (fun j hj x => hap j j (by simpa using x) hj rfl))
      have hap1 : Apart (.slice (some ⟨go, 0, none⟩) (i + 1) capo) vp := by
        intro x y hx hy
        rcases hat1 with e | e
        · rw [e] at hx; exact hap x y hx hy
        · rw [e] at hx
          have h2 := (World.ownsRow.lt hp.out y hy).2
          have h3 := Option.some.inj hx
          omega
      have hk1 : Keeps [] w W1 := (hk.trans kB).trans_new k1 (fun j hj => .inr (by have := hlowo j hj; have := Hz.out; omega))
      have c10 := hc1.cell 0
      have f10 := hc1.frozen 0
      simp at c10
      have hs1 := hc1.setCell 0 (.slice (some ⟨go, 0, none⟩) (i + 1) capo)
      have ks1 := Keeps.setCell W1 ⟨z + 1 + 1 + 1, 0, none⟩ (.slice (some ⟨go, 0, none⟩) (i + 1) capo)
      have hT : ∀ j, z + 1 + 1 + 1 + 1 ≤ j → j ∉ [z + 1 + 1 + 1] := fun j hj x => by simp only [List.mem_singleton] at x; omega
      have ho2 := hide (ownsRow_kept hown1 ks1 (fun j hj => hT j (own_base hown1 j hj).1))
      have hp2 := ownsRow_kept hp1.out ks1 (fun j hj => hT j (own_base hp1.out j hj).1)
      have m21 := hide (m11.out.kept ks1 (by simp; omega))
      have m22 := hide (m12.out.kept ks1 (by simp))
      have m23 := hide (m13.out.kept ks1 (by simp))
      have hk2 : Keeps [] w (W1.setCell ⟨z + 1 + 1 + 1, 0, none⟩ (.slice (some ⟨go, 0, none⟩) (i + 1) capo)) := hk1.trans_new ks1 (fun j hj => .inr (by simp only [List.mem_singleton] at hj; have := Hz.out; omega))
      have hs1' : CellsAt (W1.setCell ⟨z + 1 + 1 + 1, 0, none⟩ (.slice (some ⟨go, 0, none⟩) (i + 1) capo)) (z + 1 + 1 + 1) #[.slice (some ⟨go, 0, none⟩) (i + 1) capo, vp, .map (some z), .map (some (z + 1)), .int .i64 2, .map (some (z + 1 + 1))] := by simpa using hs1
      clear hs1 hown1 hgrow1 hnil1 hat1 hone hszB hoB hcB c0 m11 m12 m13 hp1 hpB hmB1 hmB2 hmB3
      -- the place
      have hbl2 := hs1'.lt
      have hsz2 : (W1.setCell ⟨z + 1 + 1 + 1, 0, none⟩ (.slice (some ⟨go, 0, none⟩) (i + 1) capo)).heap.size = W1.heap.size := by simp
      have d1 := hs1'.cell 1
      simp at d1
      have kC := Keeps.alloc [] (W1.setCell ⟨z + 1 + 1 + 1, 0, none⟩ (.slice (some ⟨go, 0, none⟩) (i + 1) capo)) (.cells #[.int .i64 i] 3)
      have hcC := hs1'.keeps kC (by simp)
      have hoC := hide (ownsRow_kept ho2.out kC (by simp))
      have hpC := ownsRow_kept hp2 kC (by simp)
      have hszC : z + 1 + 1 + 1 + 1 ≤ ((W1.setCell ⟨z + 1 + 1 + 1, 0, none⟩ (.slice (some ⟨go, 0, none⟩) (i + 1) capo)).alloc (.cells #[.int .i64 i] 3)).heap.size := by rw [size_alloc', hsz2]; rw [hsz2] at hbl2; omega
      have hone := one_cell (W := (W1.setCell ⟨z + 1 + 1 + 1, 0, none⟩ (.slice (some ⟨go, 0, none⟩) (i + 1) capo))) (y := (i : Int))
      have n1' := hide (m21.out.kept kC (by simp))
      have n2' := hide (m22.out.kept kC (by simp))
      have n3' := hide (m23.out.kept kC (by simp))
      rw [hsz2] at hone hbl2
      have Hbl2 := hide hbl2
      clear hp2 hsz2 hbl2
      go_wp2_with (at_builtin; refine wpList_append_own_at _ rfl _ _ 40 rfl (z + 1 + 1 + 1 + 1) 3 i0 (.int .i64 0) 1 8 Tryz.underlying40 hi0 hz0 hz1 hz2 rfl (by decide) _ i (ints (rng i)) rfl hpC ⟨W1.heap.size, 0, none⟩ 1 1 (ints [(i : Int)]) rfl (by simp [ints]) hone (ints_one _) (by unfold maxLen; omega) (by omega) hszC ?_)
      intro vp' W3 hown3 hgrow3 hnil3 hat3
      have hex3 : ∃ g cap, vp' = .slice (some ⟨g, 0, none⟩) (i + 1) cap := by
        rcases hown3.2 with ⟨e, e2⟩ | ⟨g, cap, cur, e, _⟩
        · omega
        · exact ⟨g, cap, e⟩
      obtain ⟨gp, capp, hvp'⟩ := hex3
      subst hvp'
      have k3 := grownBy_keeps' hgrow3 vp.ownBlock.toList (fun r e => .inl (by rw [e]; simp))
      have hlowp : ∀ j ∈ vp.ownBlock.toList, z + 1 + 1 + 1 + 1 ≤ j := fun j hj => (own_base hpC j (by simpa using hj)).1
      have hc3 := hcC.keeps k3 (fun x => by have := hlowp _ x; omega)
      have q1 := hide (n1'.out.kept k3 (fun x => by have := hlowp _ x; omega))
      have q2 := hide (n2'.out.kept k3 (fun x => by have := hlowp _ x; omega))
      have q3 := hide (n3'.out.kept k3 (fun x => by have := hlowp _ x; omega))
      have ho3 := hide (ownsRow_kept hoC.out k3 (fun j hj x => hap1 j j hj (by simpa using x) rfl))
      have hap3 : Apart (.slice (some ⟨go, 0, none⟩) (i + 1) capo) (.slice (some ⟨gp, 0, none⟩) (i + 1) capp) := by
        intro x y hx hy
        rcases hat3 with e | e
        · rw [e] at hy; exact hap1 x y hx hy
        · rw [e] at hy
          have h2 := (World.ownsRow.lt ho2.out x hx).2
          have h3 := Option.some.inj hy
          simp at h2 h3
          omega
      have hk3 : Keeps [] w W3 := (hk2.trans kC).trans_new k3 (fun j hj => .inr (by have := hlowp j hj; have := Hz.out; omega))
      have c30 := hc3.cell 1
      have f30 := hc3.frozen 1
      simp at c30
      have hs3 := hc3.setCell 1 (.slice (some ⟨gp, 0, none⟩) (i + 1) capp)
      have ks3 := Keeps.setCell W3 ⟨z + 1 + 1 + 1, 1, none⟩ (.slice (some ⟨gp, 0, none⟩) (i + 1) capp)
      have ho4 := hide (ownsRow_kept ho3.out ks3 (fun j hj => hT j (own_base ho3.out j hj).1))
      have hp4 := hide (ownsRow_kept hown3 ks3 (fun j hj => hT j (own_base hown3 j hj).1))
      have r1 := hide (q1.out.kept ks3 (by simp; omega))
      have r2 := hide (q2.out.kept ks3 (by simp))
      have r3 := hide (q3.out.kept ks3 (by simp))
      have hk4 : Keeps [] w (W3.setCell ⟨z + 1 + 1 + 1, 1, none⟩ (.slice (some ⟨gp, 0, none⟩) (i + 1) capp)) := hk3.trans_new ks3 (fun j hj => .inr (by simp only [List.mem_singleton] at hj; have := Hz.out; omega))
      clear hown3 hgrow3 hnil3 hat3 hone hszC hpC hcC d1
      go_wp2_with fail
      go_roundw
      · refine ⟨i + 1, _, _, by simp, by omega, by simpa using hs3, hide ?_, hide ?_, hap3, r1.out, r2.out, r3.out, hk4⟩
        · have := ho4.out; rw [rng_succ]; simpa [ints] using this
        · have := hp4.out; rw [rng_succ]; simpa [ints] using this
      · simp only [intOf]; omega
    · have hie : i = n := by omega
      subst hie
      obtain ⟨go, capo, hvo, hgo, hro⟩ := own_row (xs := rng i) (by rw [rng_length]; exact ho.out) (by rw [rng_length]; omega)
      obtain ⟨gp, capp, hvp, hgp, hrp⟩ := own_row (xs := rng i) (by rw [rng_length]; exact hp.out) (by rw [rng_length]; omega)
      rw [rng_length] at hvo hvp
      subst hvo hvp
      have hne : go ≠ gp := hap go gp rfl rfl
      clear ho hp hap hlt
      go_wp2_with fail
      go_ret
      refine ⟨⟨z + 1 + 1 + 1, go, gp, z, z + 1, z + 1 + 1, capo, capp⟩, rfl, ⟨by simpa [ST.new, rng_length] using hc, hro, hrp, m1, m2, m3, ?_⟩, ?_, hk⟩
      · simp [SB.own]; omega
      · intro j hj
        have := Hz.out
        simp only [SB.own, List.mem_cons, List.not_mem_nil, or_false] at hj
        omega

end Go.Proofs.YtgjomknpjigkhaaGreatDoor

namespace Go.Proofs.YtgjomknpjigkhaaGreatDoor
open Go.RowKit Go.Shelf
attribute [local go_sem] ins_first ins_second

def KS.new (n : Nat) : KS := { S := ST.new n, R := [(0, 0), (1, 1)], H := [(0, 0), (1, 1)], nx := 2 }

theorem get01 (a : Int) : get ([(0, 0), (1, 1)] : List (Int × Int)) a = if a = 0 then some 0 else if a = 1 then some 1 else none := by
  simp only [get_cons, get_nil]
  by_cases h0 : a = 0
  · simp [h0]
  · by_cases h1 : a = 1
    · simp [h1]
    · have e0 : ¬ (0 : Int) = a := fun e => h0 e.symm
      have e1 : ¬ (1 : Int) = a := fun e => h1 e.symm
      simp [h0, h1, e0, e1]

theorem knew_inv {n : Nat} (n1 : 1 ≤ n) (n8 : n ≤ 8) : KI (KS.new n) := by
  have hg : ∀ a r, get (KS.new n).R a = some r → (a = 0 ∧ r = 0) ∨ (a = 1 ∧ r = 1) := by
    intro a r h
    have h' : get ([(0, 0), (1, 1)] : List (Int × Int)) a = some r := h
    rw [get01] at h'
    by_cases h0 : a = 0
    · rw [if_pos h0] at h'; exact .inl ⟨h0, (Option.some.inj h').symm⟩
    · rw [if_neg h0] at h'
      by_cases h1 : a = 1
      · rw [if_pos h1] at h'; exact .inr ⟨h1, (Option.some.inj h').symm⟩
      · rw [if_neg h1] at h'; cases h'
  have hn : (KS.new n).S.n = n := rng_length n
  refine { wf := new_wf n, n1 := by rw [hn]; exact n1, n8 := by rw [hn]; exact n8, zero := rfl, one := rfl, inv := ?_, ok := ?_, key := ?_, nx2 := by show (2 : Int) ≤ 2; omega, hundred := by show 2 ≤ 102; omega, known := rfl, reach := (fun f t h => nomatch h), len := ?_ }
  · intro r a
    show get ([(0, 0), (1, 1)] : List (Int × Int)) r = some a ↔ get ([(0, 0), (1, 1)] : List (Int × Int)) a = some r
    rw [get01, get01]
    by_cases r0 : r = 0
    · subst r0
      by_cases a0 : a = 0
      · simp [a0]
      · by_cases a1 : a = 1
        · simp [a1]
        · have : ¬ (0 : Int) = a := fun e => a0 e.symm
          simp [a0, a1, this]
    · by_cases r1 : r = 1
      · subst r1
        by_cases a0 : a = 0
        · simp [a0]
        · by_cases a1 : a = 1
          · simp [a1]
          · have : ¬ (1 : Int) = a := fun e => a1 e.symm
            simp [a0, a1, this]
      · have e0 : ¬ (0 : Int) = r := fun e => r0 e.symm
        have e1 : ¬ (1 : Int) = r := fun e => r1 e.symm
        by_cases a0 : a = 0
        · simp [r0, r1, a0, e0]
        · by_cases a1 : a = 1
          · simp [r0, r1, a1, e1]
          · simp [r0, r1, a0, a1]
  · intro a r h
    rcases hg a r h with ⟨_, rfl⟩ | ⟨_, rfl⟩
    · exact .inl rfl
    · exact .inr (.inl rfl)
  · intro a r h
    show 0 ≤ a ∧ a < 2
    rcases hg a r h with ⟨rfl, _⟩ | ⟨rfl, _⟩ <;> omega
  · show ((0 : Nat) : Int) ≤ 102 * cst (KS.new n).S.n
    have := cst_nonneg (KS.new n).S.n
    omega

set_option maxRecDepth 100000 in
set_option maxHeartbeats 1000000 in
theorem knew_calls {w : World} (n : Nat) (n1 : 1 ≤ n) (n8 : n ≤ 8) :
    Calls Tryz.prog 54 #[.int .i64 n] w fun e w' => ∃ b, e = .returned (.tuple #[.pointer (some ⟨b.k, 0, none⟩), .int .i64 0]) ∧ KernelAt w' b (KS.new n) ∧ (∀ i ∈ b.own, w.heap.size ≤ i) ∧ Keeps [] w w' := by
  have hmm := @run_makeMap Tryz.prog
  have hc := hide (new_calls (w := w) n n1 n8)
  have h1 : ¬ (n : Int) < 1 := by omega
  have h2 : ¬ 8 < (n : Int) := by omega
  go_enter Tryz.func54, Tryz.ntmps54
  go_wp2_with fail
  refine hc.out.mono ?_
  rintro e W ⟨B, rfl, hS, hB, k0⟩
  have a1 := ins_is W 0 0 1 1 (by decide)
  have k1 := Keeps.alloc [] W (.map #[{ key := .int .i64 0, val := .int .i64 0, born := 0 }, { key := .int .i64 1, val := .int .i64 1, born := 1 }] 2)
  have a2 := ins_is (W.alloc (.map #[{ key := .int .i64 0, val := .int .i64 0, born := 0 }, { key := .int .i64 1, val := .int .i64 1, born := 1 }] 2)) 0 0 1 1 (by decide)
  have k2 := Keeps.alloc [] (W.alloc (.map #[{ key := .int .i64 0, val := .int .i64 0, born := 0 }, { key := .int .i64 1, val := .int .i64 1, born := 1 }] 2)) (.map #[{ key := .int .i64 0, val := .int .i64 0, born := 0 }, { key := .int .i64 1, val := .int .i64 1, born := 1 }] 2)
  have a3 := CellsAt.new ((W.alloc (.map #[{ key := .int .i64 0, val := .int .i64 0, born := 0 }, { key := .int .i64 1, val := .int .i64 1, born := 1 }] 2)).alloc (.map #[{ key := .int .i64 0, val := .int .i64 0, born := 0 }, { key := .int .i64 1, val := .int .i64 1, born := 1 }] 2)) #[.pointer (some ⟨B.b, 0, none⟩), .map (some W.heap.size), .map (some (W.heap.size + 1)), .int .i64 2] 169
  have k3 := Keeps.alloc [] ((W.alloc (.map #[{ key := .int .i64 0, val := .int .i64 0, born := 0 }, { key := .int .i64 1, val := .int .i64 1, born := 1 }] 2)).alloc (.map #[{ key := .int .i64 0, val := .int .i64 0, born := 0 }, { key := .int .i64 1, val := .int .i64 1, born := 1 }] 2)) (.cells #[.pointer (some ⟨B.b, 0, none⟩), .map (some W.heap.size), .map (some (W.heap.size + 1)), .int .i64 2] 169)
  have z1 := size_alloc' W (.map #[{ key := .int .i64 0, val := .int .i64 0, born := 0 }, { key := .int .i64 1, val := .int .i64 1, born := 1 }] 2)
  have z2 := size_alloc' (W.alloc (.map #[{ key := .int .i64 0, val := .int .i64 0, born := 0 }, { key := .int .i64 1, val := .int .i64 1, born := 1 }] 2)) (.map #[{ key := .int .i64 0, val := .int .i64 0, born := 0 }, { key := .int .i64 1, val := .int .i64 1, born := 1 }] 2)
  rw [z1] at a2 z2
  rw [z2] at a3
  have b1 := (a1.kept k2 (by simp)).kept k3 (by simp)
  have b2 := a2.kept k3 (by simp)
  have kk := (k1.trans k2).trans k3
  have hS3 := hS.keeps kk (by simp)
  clear z1 z2 a1 a2 k1 k2 k3
  go_wp2_with fail
  go_ret2
  have hw := k0.size
  have hlt := hS.lt
  refine ⟨⟨W.heap.size + 1 + 1, W.heap.size, W.heap.size + 1, B⟩, rfl, ⟨a3, hS3, b1, b2, ?_⟩, ?_, k0.trans kk⟩
  · simp only [KB.own, List.nodup_cons, List.mem_cons, not_or]
    have hn : ∀ j, W.heap.size ≤ j → j ∉ B.own := fun j hj x => by have := hlt j x; omega
    exact ⟨⟨by omega, by omega, hn _ (by omega)⟩, ⟨by omega, hn _ (by omega)⟩, hn _ (by omega), hS.apart⟩
  · intro j hj
    simp only [KB.own, List.mem_cons] at hj
    rcases hj with rfl | rfl | rfl | hj
    · show w.heap.size ≤ W.heap.size + 1 + 1; omega
    · show w.heap.size ≤ W.heap.size; omega
    · show w.heap.size ≤ W.heap.size + 1; omega
    · exact hB j hj

end Go.Proofs.YtgjomknpjigkhaaGreatDoor

namespace Go.Proofs.YtgjomknpjigkhaaGreatDoor
open Go.RowKit Go.Shelf

def asNodes (l : List Int) : List (Int × Tri) := l.map fun v => (0, (v, 0, 0))

/-- Each variable once. -/
structure Each (n : Nat) (to : List Int) : Prop where
  len : to.length = n
  range : ∀ u ∈ to, 0 ≤ u ∧ u < n
  nodup : to.Nodup

theorem Each.all {n : Nat} {to : List Int} (h : Each n to) {v : Int} (v0 : 0 ≤ v) (v1 : v < n) : v ∈ to := by
  apply Classical.byContradiction
  intro hv
  have h1 : (v :: to).Nodup := List.nodup_cons.2 ⟨hv, h.nodup⟩
  have := nodup_len (v :: to) (rng n) h1 (fun x hx => by
    have hx2 : 0 ≤ x ∧ x < n := by
      rcases List.mem_cons.1 hx with rfl | hx
      · exact ⟨v0, v1⟩
      · exact h.range x hx
    refine List.mem_map.2 ⟨x.toNat, by simp; omega, by omega⟩)
  rw [rng_length, List.length_cons, h.len] at this
  omega

theorem seen_all {n : Nat} (n8 : n ≤ 8) {to : List Int} (h : Each n to) {s : Int} (hs : SupOf (asNodes to) s) : s = 2 ^ n - 1 := by
  obtain ⟨s0, s1, hb⟩ := hs
  obtain ⟨a, rfl⟩ := Int.eq_ofNat_of_zero_le s0
  have hp : 1 ≤ 2 ^ n := Nat.one_le_two_pow
  have ha : a = 2 ^ n - 1 := by
    apply Nat.eq_of_testBit_eq
    intro j
    rw [Nat.testBit_two_pow_sub_one]
    by_cases hj : j < 8
    · have h1 := hb j (by omega) (by omega)
      rw [bitB_nat] at h1
      by_cases hjn : j < n
      · have : (j : Int) ∈ to := h.all (by omega) (by omega)
        rw [h1.2 ⟨(0, ((j : Int), 0, 0)), List.mem_map.2 ⟨_, this, rfl⟩, rfl⟩]
        simp [hjn]
      · have : ¬ a.testBit j = true := fun ht => by
          obtain ⟨x, hx, e⟩ := h1.1 ht
          obtain ⟨u, hu, rfl⟩ := List.mem_map.1 hx
          have := h.range u hu
          dsimp only at e
          omega
        simp [hjn, this]
    · have : a < 2 ^ j := Nat.lt_of_lt_of_le (by omega : a < 2 ^ 8) (Nat.pow_le_pow_right (by decide) (by omega))
      rw [Nat.testBit_lt_two_pow this]
      simp; omega
  rw [ha]
  push_cast
  rw [Int.ofNat_sub hp]
  push_cast
  rfl

set_option maxRecDepth 100000 in
set_option maxHeartbeats 2000000 in
theorem hasEachOnce_yes {w : World} {b : KB} {K : KS} (hK : KernelAt w b K) (h : KI K) (bt ct : Nat) (to : List Int) (hrow : RowIs w bt to) (he : Each K.S.n to) :
    Calls Tryz.prog 175 #[.pointer (some ⟨b.k, 0, none⟩), .slice (some ⟨bt, 0, none⟩) to.length ct] w fun e w' => e = .returned (.bool true) ∧ w' = w := by
  have c0 := hK.head.cell 0
  simp at c0
  have n8 := h.n8
  have n1 := h.n1
  have hv := hide (vars_calls hK.store)
  have hiv := fun i i0 i1 => hide (isVariable_yes hK i i0 i1)
  have hlen := he.len
  rw [← hlen] at hv n8 n1 he hiv
  have Hhl := hide hlen
  clear hlen
  have l63 : (to.length : Int) < 63 := by omega
  have l0 : (0 : Int) ≤ to.length := by omega
  have hwr : wrap64 ((2 : Int) ^ to.length) = 2 ^ to.length := by
    have := wrap_pow l0 (by omega : (to.length : Int) ≤ 8)
    rw [Int.toNat_natCast, IntKind.wrap_i64] at this
    unfold wrap64
    exact this
  have hwr2 : wrap64 ((2 : Int) ^ to.length - 1) = 2 ^ to.length - 1 := by
    have hp : 2 ^ to.length ≤ 2 ^ 8 := Nat.pow_le_pow_right (by decide) n8
    have e1 : ((2 : Int) ^ to.length) = ((2 ^ to.length : Nat) : Int) := by push_cast; rfl
    rw [e1]
    generalize 2 ^ to.length = m at hp
    unfold wrap64
    omega
  have Hwr := hide hwr
  have Hwr2 := hide hwr2
  clear hwr hwr2
  go_enter Tryz.func175, Tryz.ntmps175
  go_wp2_with fail
  refine hv.out.mono ?_
  rintro e w1 ⟨rfl, rfl⟩
  go_wp2_with fail
  go_loopw [5, 18] (fun t u wr => ∃ (i : Nat) (s : Int), t = .int .i64 s ∧ u = .int .i64 i ∧ i ≤ to.length ∧ SupOf (asNodes (to.take i)) s ∧ wr = w1)
    (fun _ u _ => ((to.length : Int) - intOf u).toNat)
  case atStart => exact ⟨0, 0, rfl, rfl, by omega, by simpa [asNodes] using SupOf.nil, rfl⟩
  case round =>
    obtain ⟨i, s, rfl, rfl, hi, hs, rfl⟩ := hrel
    by_cases hlt : i < to.length
    · have hltI : (i : Int) < to.length := by omega
      have hi63 : (i : Int) < 9223372036854775807 := by omega
      have hcell := hrow.cell (List.getElem?_eq_getElem hlt)
      have hu := he.range _ (List.getElem_mem hlt)
      have htk : to.take (i + 1) = to.take i ++ [to[i]] := List.take_succ_eq_append_getElem hlt
      generalize to[i] = u at hcell hu htk
      have hvu := hiv u hu.1 (by have := Hhl.out; omega)
      have hstep := hide (hs.snoc (x := (0, (u, 0, 0))) (v := u) rfl hu.1 (by omega))
      have u0 := hu.1
      have u63 : u < 63 := by omega
      have hwu := wrap_pow u0 (by omega : u ≤ 8)
      have hwu' : wrap64 ((2 : Int) ^ u.toNat) = 2 ^ u.toNat := by
        rw [IntKind.wrap_i64] at hwu
        unfold wrap64
        exact hwu
      have Htk := hide htk
      clear htk hu
      go_wp2_with fail
      refine hvu.out.mono ?_
      rintro e w2 ⟨rfl, rfl⟩
      go_wp2_with fail
      clear hwu hwu'
      go_roundw
      · refine ⟨i + 1, _, rfl, by simp, by omega, ?_, by trivial⟩
        rw [Htk.out]
        unfold asNodes at *
        rw [List.map_append]
        exact hstep.out
      · simp only [intOf]; omega
    · have hie : i = to.length := by omega
      subst hie
      rw [List.take_length] at hs
      have hall := seen_all n8 he hs
      have hwr := Hwr.out
      have hwr2 := Hwr2.out
      have hbe : (s == 2 ^ to.length - 1) = true := by rw [hall]; simp
      clear hall hs
      go_wp2_with fail
      go_ret
      exact ⟨rfl, rfl⟩

set_option maxHeartbeats 800000 in
theorem kreplace_calls {w : World} {b : KB} {K : KS} (hK : KernelAt w b K) (h : KI K) (f r : Int) (hf : get K.R f = some r) (bt ct : Nat) (to : List Int) (hrow : RowIs w bt to) (hbt : bt ∉ b.own) (he : Each K.S.n to) (hlim : K.S.next + fc (cst K.S.n + 1) K.S.n < lim) (hfc : fc (cst K.S.n + 1) K.S.n ≤ 90000000) (hx : K.nx < 9223372036854775807) :
    Calls Tryz.prog 104 #[.pointer (some ⟨b.k, 0, none⟩), .int .i64 f, .slice (some ⟨bt, 0, none⟩) to.length ct] w (KGives b w K (fun σ => K.S.den r (fun v => σ ((to[v.toNat]?).getD 0))) (fc (cst K.S.n + 1) K.S.n)) := by
  have c0 := hK.head.cell 0
  have c1 := hK.head.cell 1
  simp at c0 c1
  have hl := klook hK hf
  have hv := hide (hasEachOnce_yes hK h bt ct to hrow he)
  have okr := h.ok f r hf
  have hc := hide (replace_calls r bt ct to hK.store h.wf h.kok okr hrow (fun x => hbt (KB.own_sub b bt x)) he.len (fun i u hu => he.range u (List.mem_of_getElem? hu)) h.n8 hlim)
  have Hfc := hide hfc
  clear hlim hfc
  go_enter Tryz.func104, Tryz.ntmps104
  go_wp2_with fail
  refine hv.out.mono ?_
  rintro e w' ⟨rfl, rfl⟩
  go_wp2_with fail
  refine hc.out.mono ?_
  rintro e w1 ⟨r1, S1, rfl, hS1, k1, p⟩
  have hF : ∀ σ : Int → Bool, S1.den r1 σ = K.S.den r (fun v => σ ((to[v.toNat]?).getD 0)) := fun σ => by rw [p.rel.2 σ]; exact p.ext.den h.wf p.wf okr _
  have HF := hide hF
  clear hF
  go_wp2_with fail
  refine (ans_of_fun hK h hS1 k1 p.ext p.wf p.rel.1 HF.out p.next Hfc.out hx).mono ?_
  rintro e w2 ⟨a, y, K', rfl, g1, g2, g3⟩
  go_wp2_with fail
  go_ret2
  exact ⟨a, y, K', rfl, g1, g2, g3⟩

end Go.Proofs.YtgjomknpjigkhaaGreatDoor

namespace Go.Proofs.YtgjomknpjigkhaaGreatDoor
open Go.RowKit Go.Shelf

/-- Which of n things a raw number speaks of. -/
def pk (c n : Int) : Int := (if c < 0 then -(c + 1) else c) % n

theorem pk_range (c : Int) {n : Int} (h : 0 < n) : 0 ≤ pk c n ∧ pk c n < n := ⟨Int.emod_nonneg _ (by omega), Int.emod_lt_of_pos _ h⟩

set_option maxHeartbeats 400000 in
theorem pick_calls {w : World} (c n : Int) (c0 : -9223372036854775808 ≤ c) (c1 : c ≤ 9223372036854775807) (n0 : 0 < n) :
    Calls Tryz.prog 59 #[.int .i64 c, .int .i64 n] w fun e w' => e = .returned (.int .i64 (pk c n)) ∧ w' = w := by
  have hn : ¬ n = 0 := by omega
  by_cases hc : c < 0
  · have h1 : wrap64 (c + 1) = c + 1 := by unfold wrap64; omega
    have h2 : wrap64 (-(c + 1)) = -(c + 1) := by unfold wrap64; omega
    have h3 : -((c + 1).tmod n) = pk c n := by
      unfold pk
      rw [if_pos hc, ← Int.neg_tmod]
      exact Int.tmod_eq_emod_of_nonneg (by omega)
    have H3 := hide h3
    clear h3
    go_enter Tryz.func59, Tryz.ntmps59
    go_wp2
    go_ret
    exact ⟨by rw [← H3.out]; rfl, rfl⟩
  · have h3 : c % n = pk c n := by
      unfold pk
      rw [if_neg hc]
    have H3 := hide h3
    clear h3
    go_enter Tryz.func59, Tryz.ntmps59
    go_wp2
    go_ret
    exact ⟨by rw [← H3.out]; rfl, rfl⟩

end Go.Proofs.YtgjomknpjigkhaaGreatDoor
