/- The law's answered. -/
import Derived.Test.YtgjomknpjigkhaaGreatDoorC1
namespace Go.Proofs.YtgjomknpjigkhaaGreatDoor
open Go.RowKit Go.Shelf

/-- A kernel and the document's. -/
structure Pr where
  kb : KB
  rb : RB
  K : KS
  R : RS
def Pr.own (p : Pr) : List Nat := p.kb.own ++ p.rb.own

structure PairAt (w : World) (p : Pr) : Prop where
  k : KernelAt w p.kb p.K
  r : RefAt w p.rb p.R
  t : Twin p.K p.R
  d : ∀ i ∈ p.kb.own, i ∉ p.rb.own

theorem PairAt.lt {w : World} {p : Pr} (h : PairAt w p) : ∀ i ∈ p.own, i < w.heap.size := fun i hi => (List.mem_append.1 hi).elim (h.k.lt i) (h.r.lt i)
theorem PairAt.keeps {w w' : World} {p : Pr} {T : List Nat} (h : PairAt w p) (k : Keeps T w w') (hT : ∀ i ∈ p.own, i ∉ T) : PairAt w' p :=
  ⟨h.k.keeps k fun i hi => hT i (List.mem_append.2 (.inl hi)), h.r.keeps k fun i hi => hT i (List.mem_append.2 (.inr hi)), h.t, h.d⟩

/-- A pair goes on. -/
structure Goes (w w' : World) (p p' : Pr) : Prop where
  pair : PairAt w' p'
  kb : p'.kb = p.kb
  r : p'.rb.r = p.rb.r
  own : ∀ i ∈ p'.own, i ∈ p.own ∨ w.heap.size ≤ i
  k : Keeps p.own w w'
  next : p'.K.S.next ≤ p.K.S.next + costs
  nx : p'.K.nx ≤ p.K.nx + 1

theorem Goes.of {w w0 w1 w2 : World} {p : Pr} {K' : KS} {R' : RS} {rb' : RB} (h : PairAt w p) (k0 : Keeps [] w w0) (hK : KernelAt w1 p.kb K') (T : Twin K' R') (k1 : Keeps p.kb.own w0 w1) (hn : K'.S.next ≤ p.K.S.next + costs) (hx : K'.nx ≤ p.K.nx + 1)
    (hr : RefAt w2 rb' R') (to : p.rb.to rb' w1) (k2 : Keeps p.rb.own w1 w2) : Goes w w2 p ⟨p.kb, rb', K', R'⟩ := by
  have s0 := k0.size
  have s1 := k1.size
  have hlt := h.k.lt
  have hd : ∀ i ∈ p.kb.own, i ∉ rb'.own := fun i hi hi' => by
    rcases to.2 i hi' with a | a
    · exact h.d i hi a
    · have := hlt i hi
      omega
  refine ⟨⟨hK.keeps k2 (fun i hi => h.d i hi), hr, T, hd⟩, rfl, to.1, fun i hi => ?_, ?_, hn, hx⟩
  · rcases List.mem_append.1 hi with a | a
    · exact .inl (List.mem_append.2 (.inl a))
    · rcases to.2 i a with c | c
      · exact .inl (List.mem_append.2 (.inr c))
      · exact .inr (by omega)
  · exact ((k0.mono (by simp)).trans (k1.mono fun i hi => List.mem_append.2 (.inl hi))).trans (k2.mono fun i hi => List.mem_append.2 (.inr hi))

theorem Goes.trans0 {w w1 w2 : World} {p p' : Pr} (g : Goes w w1 p p') {T : List Nat} (k : Keeps T w1 w2) (hT : ∀ i ∈ T, w.heap.size ≤ i ∧ i ∉ p'.own) : Goes w w2 p p' :=
  ⟨g.pair.keeps k fun i hi x => (hT i x).2 hi, g.kb, g.r, g.own, g.k.trans_new k fun i hi => .inr (hT i hi).1, g.next, g.nx⟩

theorem give_last (R : RS) (t : List Bool) : (R.give t).2.2.last ≤ R.last + 1 := by
  unfold RS.give
  split
  · show R.last ≤ _; omega
  · split
    · show R.last ≤ _; omega
    · split
      · show R.last ≤ _; omega
      · split
        · show R.last ≤ _; omega
        · exact Int.le_refl _

theorem vars_last (R : RS) (i : Int) : (R.vars i).2.2.last ≤ R.last + 1 := by
  unfold RS.vars; split
  · exact give_last _ _
  · show R.last ≤ _; omega
theorem nots_last (R : RS) (f : Int) : (R.nots f).2.2.last ≤ R.last + 1 := by
  unfold RS.nots; split
  · exact give_last _ _
  · show R.last ≤ _; omega
theorem apps_last (R : RS) (o f g : Int) : (R.apps o f g).2.2.last ≤ R.last + 1 := by
  unfold RS.apps; split
  · show R.last ≤ _; omega
  · split
    · exact give_last _ _
    · show R.last ≤ _; omega
theorem ites_last (R : RS) (f g k : Int) : (R.ites f g k).2.2.last ≤ R.last + 1 := by
  unfold RS.ites; split
  · exact give_last _ _
  · show R.last ≤ _; omega
theorem exs_last (R : RS) (f X : Int) : (R.exs f X).2.2.last ≤ R.last + 1 := by
  unfold RS.exs; split
  · show R.last ≤ _; omega
  · split
    · exact give_last _ _
    · show R.last ≤ _; omega
theorem reps_last (R : RS) (f : Int) (to : List Int) : (R.reps f to).2.2.last ≤ R.last + 1 := by
  unfold RS.reps; split
  · split
    · exact give_last _ _
    · show R.last ≤ _; omega
  · show R.last ≤ _; omega

/-- A step's value. -/
def opV (Kd On A B C : Int) (S : ByteArray) (vL : Value) : Value := .agg #[.int .i64 Kd, .int .i64 On, .int .i64 A, .int .i64 B, .int .i64 C, .string S, vL]
def prV (p : Pr) : Value := .agg #[.pointer (some ⟨p.kb.k, 0, none⟩), .pointer (some ⟨p.rb.r, 0, none⟩)]

def Answers (p : Pr) (w : World) (e : Ending) (w' : World) : Prop := e = .returned (.bool true) ∧ ∃ p', Goes w w' p p'

set_option maxRecDepth 100000 in
set_option maxHeartbeats 1000000 in
theorem answered_var {w : World} {p : Pr} (h : PairAt w p) (hr : Room p.K) (On A B C : Int) (S : ByteArray) (a1 : Option Addr) (n1 c1 : Nat) : Calls Tryz.prog 60 #[prV p, opV 2 On A B C S (.slice a1 n1 c1)] w (Answers p w) := by
  unfold prV opV
  obtain ⟨z, hz⟩ : ∃ z, z = w.heap.size := ⟨_, rfl⟩
  have kA := Keeps.alloc [] w (.cells #[.pointer (some ⟨p.kb.k, 0, none⟩), .pointer (some ⟨p.rb.r, 0, none⟩)] 111)
  have hA := CellsAt.new w #[.pointer (some ⟨p.kb.k, 0, none⟩), .pointer (some ⟨p.rb.r, 0, none⟩)] 111
  have zA := size_alloc' w (.cells #[.pointer (some ⟨p.kb.k, 0, none⟩), .pointer (some ⟨p.rb.r, 0, none⟩)] 111)
  have kB := Keeps.alloc [] (w.alloc (.cells #[.pointer (some ⟨p.kb.k, 0, none⟩), .pointer (some ⟨p.rb.r, 0, none⟩)] 111)) (.cells #[.int .i64 2, .int .i64 On, .int .i64 A, .int .i64 B, .int .i64 C, .string S, .slice a1 n1 c1] 80)
  have hB := CellsAt.new (w.alloc (.cells #[.pointer (some ⟨p.kb.k, 0, none⟩), .pointer (some ⟨p.rb.r, 0, none⟩)] 111)) #[.int .i64 2, .int .i64 On, .int .i64 A, .int .i64 B, .int .i64 C, .string S, .slice a1 n1 c1] 80
  rw [zA, ← hz] at hB
  rw [← hz] at hA
  have hA2 := hA.keeps kB (by simp)
  have k0 := kA.trans kB
  have hlt : ∀ i ∈ p.own, i < z := fun i hi => by rw [hz]; exact h.lt i hi
  have Hz := hide hz
  clear hz zA hA kA kB
  have hx := hide (fun (W : World) (k : Keeps [] w W) => xvar (h.k.keeps k (by simp)) h.t hr A)
  have hy := hide (fun (W w1 : World) (k : Keeps [] w W) (k1 : Keeps p.kb.own W w1) => yvar ((h.r.keeps0 k).keeps k1 (fun i hi hi' => h.d i hi' hi)) h.t hr A)
  have hlast := vars_last p.R A
  have hTl := h.t.last
  generalize p.R.vars A = a at hx hy hlast
  go_enter Tryz.func60, Tryz.ntmps60
  go_wp2_with fail
  generalize (w.alloc (.cells #[.pointer (some ⟨p.kb.k, 0, none⟩), .pointer (some ⟨p.rb.r, 0, none⟩)] 111)).alloc (.cells #[.int .i64 2, .int .i64 On, .int .i64 A, .int .i64 B, .int .i64 C, .string S, .slice a1 n1 c1] 80) = W at k0 hA2 hB ⊢
  rw [← Hz.out]
  have b0 := hB.cell 0
  have b2 := hB.cell 2
  have b3 := hB.cell 3
  have b4 := hB.cell 4
  have a0 := hA2.cell 0
  have a1' := hA2.cell 1
  simp at b0 b2 b3 b4 a0 a1'
  go_wp2_with fail
  refine (hx.out W k0).mono ?_
  rintro e w1 ⟨K', rfl, hK1, T1, kk1, hn1⟩
  have nz : ∀ j, z ≤ j → j ∉ p.kb.own := fun j hj hm => by have := hlt j (List.mem_append.2 (.inl hm)); omega
  have hA3 := hA2.keeps kk1 (nz z (Nat.le_refl _))
  have hB3 := hB.keeps kk1 (nz (z + 1) (by omega))
  have d2 := hB3.cell 2
  have d3 := hB3.cell 3
  have d4 := hB3.cell 4
  have d1 := hA3.cell 1
  simp at d2 d3 d4 d1
  clear b0 b2 b3 b4 a0 a1'
  go_wp2_with fail
  refine (hy.out W w1 k0 kk1).mono ?_
  rintro e w2 ⟨rb', rfl, hR2, to2, kk2⟩
  have hg := Goes.of h k0 hK1 T1 kk1 hn1 (by have := T1.last; omega) hR2 to2 kk2
  have q1 : (a.1 == a.1) = true := by simp
  have q2 : (a.2.1 == a.2.1) = true := by simp
  have hnum := hide (fun w => num_calls (w := w) a.2.1)
  generalize a.1 = y1 at q1 hnum ⊢
  generalize a.2.1 = y2 at q2 hnum ⊢
  clear d1 d2 d3 d4
  go_wp2_with fail
  refine (hnum.out _).mono ?_
  rintro e w3 ⟨rfl, rfl⟩
  go_wp2_with fail
  go_ret
  exact ⟨rfl, _, hg⟩

set_option maxRecDepth 100000 in
set_option maxHeartbeats 1000000 in
theorem answered_not {w : World} {p : Pr} (h : PairAt w p) (hr : Room p.K) (On A B C : Int) (S : ByteArray) (a1 : Option Addr) (n1 c1 : Nat) : Calls Tryz.prog 60 #[prV p, opV 3 On A B C S (.slice a1 n1 c1)] w (Answers p w) := by
  unfold prV opV
  obtain ⟨z, hz⟩ : ∃ z, z = w.heap.size := ⟨_, rfl⟩
  have kA := Keeps.alloc [] w (.cells #[.pointer (some ⟨p.kb.k, 0, none⟩), .pointer (some ⟨p.rb.r, 0, none⟩)] 111)
  have hA := CellsAt.new w #[.pointer (some ⟨p.kb.k, 0, none⟩), .pointer (some ⟨p.rb.r, 0, none⟩)] 111
  have zA := size_alloc' w (.cells #[.pointer (some ⟨p.kb.k, 0, none⟩), .pointer (some ⟨p.rb.r, 0, none⟩)] 111)
  have kB := Keeps.alloc [] (w.alloc (.cells #[.pointer (some ⟨p.kb.k, 0, none⟩), .pointer (some ⟨p.rb.r, 0, none⟩)] 111)) (.cells #[.int .i64 3, .int .i64 On, .int .i64 A, .int .i64 B, .int .i64 C, .string S, .slice a1 n1 c1] 80)
  have hB := CellsAt.new (w.alloc (.cells #[.pointer (some ⟨p.kb.k, 0, none⟩), .pointer (some ⟨p.rb.r, 0, none⟩)] 111)) #[.int .i64 3, .int .i64 On, .int .i64 A, .int .i64 B, .int .i64 C, .string S, .slice a1 n1 c1] 80
  rw [zA, ← hz] at hB
  rw [← hz] at hA
  have hA2 := hA.keeps kB (by simp)
  have k0 := kA.trans kB
  have hlt : ∀ i ∈ p.own, i < z := fun i hi => by rw [hz]; exact h.lt i hi
  have Hz := hide hz
  clear hz zA hA kA kB
  have hx := hide (fun (W : World) (k : Keeps [] w W) => xnot (h.k.keeps k (by simp)) h.t hr A)
  have hy := hide (fun (W w1 : World) (k : Keeps [] w W) (k1 : Keeps p.kb.own W w1) => ynot ((h.r.keeps0 k).keeps k1 (fun i hi hi' => h.d i hi' hi)) h.t hr A)
  have hlast := nots_last p.R A
  have hTl := h.t.last
  generalize p.R.nots A = a at hx hy hlast
  go_enter Tryz.func60, Tryz.ntmps60
  go_wp2_with fail
  generalize (w.alloc (.cells #[.pointer (some ⟨p.kb.k, 0, none⟩), .pointer (some ⟨p.rb.r, 0, none⟩)] 111)).alloc (.cells #[.int .i64 3, .int .i64 On, .int .i64 A, .int .i64 B, .int .i64 C, .string S, .slice a1 n1 c1] 80) = W at k0 hA2 hB ⊢
  rw [← Hz.out]
  have b0 := hB.cell 0
  have b2 := hB.cell 2
  have b3 := hB.cell 3
  have b4 := hB.cell 4
  have a0 := hA2.cell 0
  have a1' := hA2.cell 1
  simp at b0 b2 b3 b4 a0 a1'
  go_wp2_with fail
  refine (hx.out W k0).mono ?_
  rintro e w1 ⟨K', rfl, hK1, T1, kk1, hn1⟩
  have nz : ∀ j, z ≤ j → j ∉ p.kb.own := fun j hj hm => by have := hlt j (List.mem_append.2 (.inl hm)); omega
  have hA3 := hA2.keeps kk1 (nz z (Nat.le_refl _))
  have hB3 := hB.keeps kk1 (nz (z + 1) (by omega))
  have d2 := hB3.cell 2
  have d3 := hB3.cell 3
  have d4 := hB3.cell 4
  have d1 := hA3.cell 1
  simp at d2 d3 d4 d1
  clear b0 b2 b3 b4 a0 a1'
  go_wp2_with fail
  refine (hy.out W w1 k0 kk1).mono ?_
  rintro e w2 ⟨rb', rfl, hR2, to2, kk2⟩
  have hg := Goes.of h k0 hK1 T1 kk1 hn1 (by have := T1.last; omega) hR2 to2 kk2
  have q1 : (a.1 == a.1) = true := by simp
  have q2 : (a.2.1 == a.2.1) = true := by simp
  have hnum := hide (fun w => num_calls (w := w) a.2.1)
  generalize a.1 = y1 at q1 hnum ⊢
  generalize a.2.1 = y2 at q2 hnum ⊢
  clear d1 d2 d3 d4
  go_wp2_with fail
  refine (hnum.out _).mono ?_
  rintro e w3 ⟨rfl, rfl⟩
  go_wp2_with fail
  go_ret
  exact ⟨rfl, _, hg⟩

set_option maxRecDepth 100000 in
set_option maxHeartbeats 1000000 in
theorem answered_apply {w : World} {p : Pr} (h : PairAt w p) (hr : Room p.K) (On A B C : Int) (S : ByteArray) (a1 : Option Addr) (n1 c1 : Nat) : Calls Tryz.prog 60 #[prV p, opV 4 On A B C S (.slice a1 n1 c1)] w (Answers p w) := by
  unfold prV opV
  obtain ⟨z, hz⟩ : ∃ z, z = w.heap.size := ⟨_, rfl⟩
  have kA := Keeps.alloc [] w (.cells #[.pointer (some ⟨p.kb.k, 0, none⟩), .pointer (some ⟨p.rb.r, 0, none⟩)] 111)
  have hA := CellsAt.new w #[.pointer (some ⟨p.kb.k, 0, none⟩), .pointer (some ⟨p.rb.r, 0, none⟩)] 111
  have zA := size_alloc' w (.cells #[.pointer (some ⟨p.kb.k, 0, none⟩), .pointer (some ⟨p.rb.r, 0, none⟩)] 111)
  have kB := Keeps.alloc [] (w.alloc (.cells #[.pointer (some ⟨p.kb.k, 0, none⟩), .pointer (some ⟨p.rb.r, 0, none⟩)] 111)) (.cells #[.int .i64 4, .int .i64 On, .int .i64 A, .int .i64 B, .int .i64 C, .string S, .slice a1 n1 c1] 80)
  have hB := CellsAt.new (w.alloc (.cells #[.pointer (some ⟨p.kb.k, 0, none⟩), .pointer (some ⟨p.rb.r, 0, none⟩)] 111)) #[.int .i64 4, .int .i64 On, .int .i64 A, .int .i64 B, .int .i64 C, .string S, .slice a1 n1 c1] 80
  rw [zA, ← hz] at hB
  rw [← hz] at hA
  have hA2 := hA.keeps kB (by simp)
  have k0 := kA.trans kB
  have hlt : ∀ i ∈ p.own, i < z := fun i hi => by rw [hz]; exact h.lt i hi
  have Hz := hide hz
  clear hz zA hA kA kB
  have hx := hide (fun (W : World) (k : Keeps [] w W) => xapply (h.k.keeps k (by simp)) h.t hr C A B)
  have hy := hide (fun (W w1 : World) (k : Keeps [] w W) (k1 : Keeps p.kb.own W w1) => yapply ((h.r.keeps0 k).keeps k1 (fun i hi hi' => h.d i hi' hi)) h.t hr C A B)
  have hlast := apps_last p.R C A B
  have hTl := h.t.last
  generalize p.R.apps C A B = a at hx hy hlast
  go_enter Tryz.func60, Tryz.ntmps60
  go_wp2_with fail
  generalize (w.alloc (.cells #[.pointer (some ⟨p.kb.k, 0, none⟩), .pointer (some ⟨p.rb.r, 0, none⟩)] 111)).alloc (.cells #[.int .i64 4, .int .i64 On, .int .i64 A, .int .i64 B, .int .i64 C, .string S, .slice a1 n1 c1] 80) = W at k0 hA2 hB ⊢
  rw [← Hz.out]
  have b0 := hB.cell 0
  have b2 := hB.cell 2
  have b3 := hB.cell 3
  have b4 := hB.cell 4
  have a0 := hA2.cell 0
  have a1' := hA2.cell 1
  simp at b0 b2 b3 b4 a0 a1'
  go_wp2_with fail
  refine (hx.out W k0).mono ?_
  rintro e w1 ⟨K', rfl, hK1, T1, kk1, hn1⟩
  have nz : ∀ j, z ≤ j → j ∉ p.kb.own := fun j hj hm => by have := hlt j (List.mem_append.2 (.inl hm)); omega
  have hA3 := hA2.keeps kk1 (nz z (Nat.le_refl _))
  have hB3 := hB.keeps kk1 (nz (z + 1) (by omega))
  have d2 := hB3.cell 2
  have d3 := hB3.cell 3
  have d4 := hB3.cell 4
  have d1 := hA3.cell 1
  simp at d2 d3 d4 d1
  clear b0 b2 b3 b4 a0 a1'
  go_wp2_with fail
  refine (hy.out W w1 k0 kk1).mono ?_
  rintro e w2 ⟨rb', rfl, hR2, to2, kk2⟩
  have hg := Goes.of h k0 hK1 T1 kk1 hn1 (by have := T1.last; omega) hR2 to2 kk2
  have q1 : (a.1 == a.1) = true := by simp
  have q2 : (a.2.1 == a.2.1) = true := by simp
  have hnum := hide (fun w => num_calls (w := w) a.2.1)
  generalize a.1 = y1 at q1 hnum ⊢
  generalize a.2.1 = y2 at q2 hnum ⊢
  clear d1 d2 d3 d4
  go_wp2_with fail
  refine (hnum.out _).mono ?_
  rintro e w3 ⟨rfl, rfl⟩
  go_wp2_with fail
  go_ret
  exact ⟨rfl, _, hg⟩

set_option maxRecDepth 100000 in
set_option maxHeartbeats 1000000 in
theorem answered_ite {w : World} {p : Pr} (h : PairAt w p) (hr : Room p.K) (On A B C : Int) (S : ByteArray) (a1 : Option Addr) (n1 c1 : Nat) : Calls Tryz.prog 60 #[prV p, opV 5 On A B C S (.slice a1 n1 c1)] w (Answers p w) := by
  unfold prV opV
  obtain ⟨z, hz⟩ : ∃ z, z = w.heap.size := ⟨_, rfl⟩
  have kA := Keeps.alloc [] w (.cells #[.pointer (some ⟨p.kb.k, 0, none⟩), .pointer (some ⟨p.rb.r, 0, none⟩)] 111)
  have hA := CellsAt.new w #[.pointer (some ⟨p.kb.k, 0, none⟩), .pointer (some ⟨p.rb.r, 0, none⟩)] 111
  have zA := size_alloc' w (.cells #[.pointer (some ⟨p.kb.k, 0, none⟩), .pointer (some ⟨p.rb.r, 0, none⟩)] 111)
  have kB := Keeps.alloc [] (w.alloc (.cells #[.pointer (some ⟨p.kb.k, 0, none⟩), .pointer (some ⟨p.rb.r, 0, none⟩)] 111)) (.cells #[.int .i64 5, .int .i64 On, .int .i64 A, .int .i64 B, .int .i64 C, .string S, .slice a1 n1 c1] 80)
  have hB := CellsAt.new (w.alloc (.cells #[.pointer (some ⟨p.kb.k, 0, none⟩), .pointer (some ⟨p.rb.r, 0, none⟩)] 111)) #[.int .i64 5, .int .i64 On, .int .i64 A, .int .i64 B, .int .i64 C, .string S, .slice a1 n1 c1] 80
  rw [zA, ← hz] at hB
  rw [← hz] at hA
  have hA2 := hA.keeps kB (by simp)
  have k0 := kA.trans kB
  have hlt : ∀ i ∈ p.own, i < z := fun i hi => by rw [hz]; exact h.lt i hi
  have Hz := hide hz
  clear hz zA hA kA kB
  have hx := hide (fun (W : World) (k : Keeps [] w W) => xite (h.k.keeps k (by simp)) h.t hr A B C)
  have hy := hide (fun (W w1 : World) (k : Keeps [] w W) (k1 : Keeps p.kb.own W w1) => yite ((h.r.keeps0 k).keeps k1 (fun i hi hi' => h.d i hi' hi)) h.t hr A B C)
  have hlast := ites_last p.R A B C
  have hTl := h.t.last
  generalize p.R.ites A B C = a at hx hy hlast
  go_enter Tryz.func60, Tryz.ntmps60
  go_wp2_with fail
  generalize (w.alloc (.cells #[.pointer (some ⟨p.kb.k, 0, none⟩), .pointer (some ⟨p.rb.r, 0, none⟩)] 111)).alloc (.cells #[.int .i64 5, .int .i64 On, .int .i64 A, .int .i64 B, .int .i64 C, .string S, .slice a1 n1 c1] 80) = W at k0 hA2 hB ⊢
  rw [← Hz.out]
  have b0 := hB.cell 0
  have b2 := hB.cell 2
  have b3 := hB.cell 3
  have b4 := hB.cell 4
  have a0 := hA2.cell 0
  have a1' := hA2.cell 1
  simp at b0 b2 b3 b4 a0 a1'
  go_wp2_with fail
  refine (hx.out W k0).mono ?_
  rintro e w1 ⟨K', rfl, hK1, T1, kk1, hn1⟩
  have nz : ∀ j, z ≤ j → j ∉ p.kb.own := fun j hj hm => by have := hlt j (List.mem_append.2 (.inl hm)); omega
  have hA3 := hA2.keeps kk1 (nz z (Nat.le_refl _))
  have hB3 := hB.keeps kk1 (nz (z + 1) (by omega))
  have d2 := hB3.cell 2
  have d3 := hB3.cell 3
  have d4 := hB3.cell 4
  have d1 := hA3.cell 1
  simp at d2 d3 d4 d1
  clear b0 b2 b3 b4 a0 a1'
  go_wp2_with fail
  refine (hy.out W w1 k0 kk1).mono ?_
  rintro e w2 ⟨rb', rfl, hR2, to2, kk2⟩
  have hg := Goes.of h k0 hK1 T1 kk1 hn1 (by have := T1.last; omega) hR2 to2 kk2
  have q1 : (a.1 == a.1) = true := by simp
  have q2 : (a.2.1 == a.2.1) = true := by simp
  have hnum := hide (fun w => num_calls (w := w) a.2.1)
  generalize a.1 = y1 at q1 hnum ⊢
  generalize a.2.1 = y2 at q2 hnum ⊢
  clear d1 d2 d3 d4
  go_wp2_with fail
  refine (hnum.out _).mono ?_
  rintro e w3 ⟨rfl, rfl⟩
  go_wp2_with fail
  go_ret
  exact ⟨rfl, _, hg⟩

set_option maxRecDepth 100000 in
set_option maxHeartbeats 1000000 in
theorem answered_exists {w : World} {p : Pr} (h : PairAt w p) (hr : Room p.K) (On A B C : Int) (S : ByteArray) (a1 : Option Addr) (n1 c1 : Nat) : Calls Tryz.prog 60 #[prV p, opV 6 On A B C S (.slice a1 n1 c1)] w (Answers p w) := by
  unfold prV opV
  obtain ⟨z, hz⟩ : ∃ z, z = w.heap.size := ⟨_, rfl⟩
  have kA := Keeps.alloc [] w (.cells #[.pointer (some ⟨p.kb.k, 0, none⟩), .pointer (some ⟨p.rb.r, 0, none⟩)] 111)
  have hA := CellsAt.new w #[.pointer (some ⟨p.kb.k, 0, none⟩), .pointer (some ⟨p.rb.r, 0, none⟩)] 111
  have zA := size_alloc' w (.cells #[.pointer (some ⟨p.kb.k, 0, none⟩), .pointer (some ⟨p.rb.r, 0, none⟩)] 111)
  have kB := Keeps.alloc [] (w.alloc (.cells #[.pointer (some ⟨p.kb.k, 0, none⟩), .pointer (some ⟨p.rb.r, 0, none⟩)] 111)) (.cells #[.int .i64 6, .int .i64 On, .int .i64 A, .int .i64 B, .int .i64 C, .string S, .slice a1 n1 c1] 80)
  have hB := CellsAt.new (w.alloc (.cells #[.pointer (some ⟨p.kb.k, 0, none⟩), .pointer (some ⟨p.rb.r, 0, none⟩)] 111)) #[.int .i64 6, .int .i64 On, .int .i64 A, .int .i64 B, .int .i64 C, .string S, .slice a1 n1 c1] 80
  rw [zA, ← hz] at hB
  rw [← hz] at hA
  have hA2 := hA.keeps kB (by simp)
  have k0 := kA.trans kB
  have hlt : ∀ i ∈ p.own, i < z := fun i hi => by rw [hz]; exact h.lt i hi
  have Hz := hide hz
  clear hz zA hA kA kB
  have hx := hide (fun (W : World) (k : Keeps [] w W) => xexists (h.k.keeps k (by simp)) h.t hr A B)
  have hy := hide (fun (W w1 : World) (k : Keeps [] w W) (k1 : Keeps p.kb.own W w1) => yexists ((h.r.keeps0 k).keeps k1 (fun i hi hi' => h.d i hi' hi)) h.t hr A B)
  have hlast := exs_last p.R A B
  have hTl := h.t.last
  generalize p.R.exs A B = a at hx hy hlast
  go_enter Tryz.func60, Tryz.ntmps60
  go_wp2_with fail
  generalize (w.alloc (.cells #[.pointer (some ⟨p.kb.k, 0, none⟩), .pointer (some ⟨p.rb.r, 0, none⟩)] 111)).alloc (.cells #[.int .i64 6, .int .i64 On, .int .i64 A, .int .i64 B, .int .i64 C, .string S, .slice a1 n1 c1] 80) = W at k0 hA2 hB ⊢
  rw [← Hz.out]
  have b0 := hB.cell 0
  have b2 := hB.cell 2
  have b3 := hB.cell 3
  have b4 := hB.cell 4
  have a0 := hA2.cell 0
  have a1' := hA2.cell 1
  simp at b0 b2 b3 b4 a0 a1'
  go_wp2_with fail
  refine (hx.out W k0).mono ?_
  rintro e w1 ⟨K', rfl, hK1, T1, kk1, hn1⟩
  have nz : ∀ j, z ≤ j → j ∉ p.kb.own := fun j hj hm => by have := hlt j (List.mem_append.2 (.inl hm)); omega
  have hA3 := hA2.keeps kk1 (nz z (Nat.le_refl _))
  have hB3 := hB.keeps kk1 (nz (z + 1) (by omega))
  have d2 := hB3.cell 2
  have d3 := hB3.cell 3
  have d4 := hB3.cell 4
  have d1 := hA3.cell 1
  simp at d2 d3 d4 d1
  clear b0 b2 b3 b4 a0 a1'
  go_wp2_with fail
  refine (hy.out W w1 k0 kk1).mono ?_
  rintro e w2 ⟨rb', rfl, hR2, to2, kk2⟩
  have hg := Goes.of h k0 hK1 T1 kk1 hn1 (by have := T1.last; omega) hR2 to2 kk2
  have q1 : (a.1 == a.1) = true := by simp
  have q2 : (a.2.1 == a.2.1) = true := by simp
  have hnum := hide (fun w => num_calls (w := w) a.2.1)
  generalize a.1 = y1 at q1 hnum ⊢
  generalize a.2.1 = y2 at q2 hnum ⊢
  clear d1 d2 d3 d4
  go_wp2_with fail
  refine (hnum.out _).mono ?_
  rintro e w3 ⟨rfl, rfl⟩
  go_wp2_with fail
  go_ret
  exact ⟨rfl, _, hg⟩

set_option maxRecDepth 100000 in
set_option maxHeartbeats 2000000 in
theorem answered_replace {w : World} {p : Pr} (h : PairAt w p) (hr : Room p.K) (On A B C : Int) (S : ByteArray) (g o : Nat) (sp : Option Nat) (c : Nat) (L : List Int) (hsp : 0 < L.length → sp = none) (hc : L.length ≤ c) (hl : L.length ≤ 10000000) (hg : 0 < L.length → g < w.heap.size) (hgo : 0 < L.length → g ∉ p.own) (hL : ∀ (i : Nat) (x : Int), L[i]? = some x → w.cell? ⟨g, o + i, none⟩ = some (.int .i64 x)) : Calls Tryz.prog 60 #[prV p, opV 7 On A B C S (.slice (some ⟨g, o, sp⟩) L.length c)] w (Answers p w) := by
  have Hsp := hide hsp
  clear hsp
  unfold prV opV
  obtain ⟨z, hz⟩ : ∃ z, z = w.heap.size := ⟨_, rfl⟩
  have kA := Keeps.alloc [] w (.cells #[.pointer (some ⟨p.kb.k, 0, none⟩), .pointer (some ⟨p.rb.r, 0, none⟩)] 111)
  have hA := CellsAt.new w #[.pointer (some ⟨p.kb.k, 0, none⟩), .pointer (some ⟨p.rb.r, 0, none⟩)] 111
  have zA := size_alloc' w (.cells #[.pointer (some ⟨p.kb.k, 0, none⟩), .pointer (some ⟨p.rb.r, 0, none⟩)] 111)
  have kB := Keeps.alloc [] (w.alloc (.cells #[.pointer (some ⟨p.kb.k, 0, none⟩), .pointer (some ⟨p.rb.r, 0, none⟩)] 111)) (.cells #[.int .i64 7, .int .i64 On, .int .i64 A, .int .i64 B, .int .i64 C, .string S, .slice (some ⟨g, o, sp⟩) L.length c] 80)
  have hB := CellsAt.new (w.alloc (.cells #[.pointer (some ⟨p.kb.k, 0, none⟩), .pointer (some ⟨p.rb.r, 0, none⟩)] 111)) #[.int .i64 7, .int .i64 On, .int .i64 A, .int .i64 B, .int .i64 C, .string S, .slice (some ⟨g, o, sp⟩) L.length c] 80
  have zB := size_alloc' (w.alloc (.cells #[.pointer (some ⟨p.kb.k, 0, none⟩), .pointer (some ⟨p.rb.r, 0, none⟩)] 111)) (.cells #[.int .i64 7, .int .i64 On, .int .i64 A, .int .i64 B, .int .i64 C, .string S, .slice (some ⟨g, o, sp⟩) L.length c] 80)
  rw [zA, ← hz] at hB zB
  rw [← hz] at hA
  have hA2 := hA.keeps kB (by simp)
  have k0 := kA.trans kB
  have hlt : ∀ i ∈ p.own, i < z := fun i hi => by rw [hz]; exact h.lt i hi
  have hgz : 0 < L.length → g < z := fun h0 => by rw [hz]; exact hg h0
  have Hz := hide hz
  clear hz zA hA kA kB hg
  have cL : ∀ (W : World) (T : List Nat), Keeps T w W → (0 < L.length → g ∉ T) → ∀ (i : Nat) (x : Int), L[i]? = some x → W.cell? ⟨g, o + i, none⟩ = some (.int .i64 x) := fun W T k hT i x hx => by
    have hp : 0 < L.length := Nat.lt_of_le_of_lt (Nat.zero_le _) (List.getElem?_eq_some_iff.1 hx).1
    rw [← hL i x hx]
    simp [World.cell?, k.block g (by rw [← Hz.out]; exact hgz hp) (hT hp)]
  have CL := hide cL
  have HL := hide hL
  have hlen := hide (fun (W : World) (k : Keeps [] w W) => lent_calls (w := W) g o sp c L Hsp.out hl (CL.out W [] k (by simp)))
  have hx := hide (fun (W : World) (v : Value) (bt : Nat) (k : Keeps [] w W) (hv : Lent W v L bt) (hb : bt ∉ p.kb.own) => xreplace (h.k.keeps k (by simp)) h.t hr A v L (.inr ⟨bt, _, hv.1, hv.row, hb⟩))
  have hbk := hide (fun (W : World) (v : Value) (bt : Nat) (hv : Lent W v L bt) (hLW : ∀ (i : Nat) (x : Int), L[i]? = some x → W.cell? ⟨g, o + i, none⟩ = some (.int .i64 x)) => back_calls (w := W) g o sp c bt v L Hsp.out hl hLW hv)
  have hy := hide (fun (w1 : World) (hr1 : RefAt w1 p.rb p.R) (hLW : ∀ (i : Nat) (x : Int), L[i]? = some x → w1.cell? ⟨g, o + i, none⟩ = some (.int .i64 x)) => yreplace_at hr1 h.t hr A g o sp c L Hsp.out hc hLW)
  have hlast := reps_last p.R A L
  have hTl := h.t.last
  generalize p.R.reps A L = a at hx hy hlast
  generalize hN : L.length = N at hB hlen hx hbk hy zB hA2 k0 ⊢
  have HN := hide hN
  clear hN hL cL
  go_enter Tryz.func60, Tryz.ntmps60
  go_wp2_with fail
  generalize (w.alloc (.cells #[.pointer (some ⟨p.kb.k, 0, none⟩), .pointer (some ⟨p.rb.r, 0, none⟩)] 111)).alloc (.cells #[.int .i64 7, .int .i64 On, .int .i64 A, .int .i64 B, .int .i64 C, .string S, .slice (some ⟨g, o, sp⟩) N c] 80) = W at k0 hA2 hB zB ⊢
  rw [← Hz.out]
  have b0 := hB.cell 0
  have b6 := hB.cell 6
  simp at b0 b6
  go_wp2_with fail
  refine (hlen.out W k0).mono ?_
  rintro e w1 ⟨v, rfl, hv, k1⟩
  have hbt : W.heap.size = z + 1 + 1 := zB
  rw [hbt] at hv
  have k01 := k0.trans k1
  have nz : ∀ j, z ≤ j → j ∉ p.own := fun j hj hm => by have := hlt j hm; omega
  have nzk : ∀ j, z ≤ j → j ∉ p.kb.own := fun j hj hm => nz j hj (List.mem_append.2 (.inl hm))
  have nzr : ∀ j, z ≤ j → j ∉ p.rb.own := fun j hj hm => nz j hj (List.mem_append.2 (.inr hm))
  have hgk : 0 < L.length → g ∉ p.kb.own := fun h0 hm => hgo h0 (List.mem_append.2 (.inl hm))
  have hA1 := hA2.keeps k1 (by simp)
  have hB1 := hB.keeps k1 (by simp)
  have a0 := hA1.cell 0
  have b2 := hB1.cell 2
  simp at a0 b2
  have hx1 := hide (hx.out w1 v (z + 1 + 1) k01 hv (nzk _ (by omega)))
  clear hlen hx
  go_wp2_with fail
  refine hx1.out.mono ?_
  rintro e w2 ⟨K', rfl, hK2, T2, kk2, hn2⟩
  have hA3 := hA1.keeps kk2 (nzk z (Nat.le_refl _))
  have hB3 := hB1.keeps kk2 (nzk (z + 1) (by omega))
  have hv2 : Lent w2 v L (z + 1 + 1) := ⟨hv.1, hv.2.kept kk2 (nzk _ (by omega))⟩
  have kw2 : Keeps p.kb.own w w2 := (k01.mono (by simp)).trans kk2
  have d6 := hB3.cell 6
  simp at d6
  have hb1 := hide (hbk.out w2 v (z + 1 + 1) hv2 (CL.out w2 _ kw2 hgk))
  clear hbk hx1
  go_wp2_with fail
  refine hb1.out.mono ?_
  rintro e w3 ⟨rfl, k3⟩
  have hA4 := hA3.keeps k3 (by simp; omega)
  have hB4 := hB3.keeps k3 (by simp)
  have hK3 : KernelAt w3 p.kb K' := hK2.keeps k3 (fun i hi x => by simp only [List.mem_singleton] at x; exact nzk i (by omega) hi)
  have kw3 : Keeps ((z + 1 + 1) :: p.kb.own) w w3 := (kw2.mono (fun i hi => List.mem_cons_of_mem _ hi)).trans (k3.mono (by simp))
  have hR3 : RefAt w3 p.rb p.R := h.r.keeps kw3 (fun i hi x => by
    rcases List.mem_cons.1 x with e | e
    · exact nzr i (by omega) hi
    · exact h.d i e hi)
  have f1 := hA4.cell 1
  have f2 := hB4.cell 2
  have f6 := hB4.cell 6
  simp at f1 f2 f6
  have hy1 := hide (hy.out w3 hR3 (CL.out w3 _ kw3 (fun h0 x => by
    have hgz' := hgz h0
    rcases List.mem_cons.1 x with e | e
    · omega
    · exact hgk h0 e)))
  clear hb1 hy
  go_wp2_with fail
  refine hy1.out.mono ?_
  rintro e w4 ⟨rb', rfl, hR4, to4, kk4⟩
  have kw3' : Keeps p.kb.own w w3 := kw2.trans_new k3 (fun i hi => by simp only [List.mem_singleton] at hi; have := Hz.out; exact .inr (by omega))
  have hg4 := Goes.of h (Keeps.refl [] w) hK3 T2 kw3' hn2 (by have := T2.last; omega) hR4 to4 kk4
  have q1 : (a.1 == a.1) = true := by simp
  have q2 : (a.2.1 == a.2.1) = true := by simp
  have hnum := hide (fun w => num_calls (w := w) a.2.1)
  generalize a.1 = y1 at q1 hnum ⊢
  generalize a.2.1 = y2 at q2 hnum ⊢
  clear f1 f2 f6 d6
  go_wp2_with fail
  refine (hnum.out _).mono ?_
  rintro e w5 ⟨rfl, rfl⟩
  go_wp2_with fail
  go_ret
  exact ⟨rfl, _, hg4⟩

set_option maxRecDepth 100000 in
set_option maxHeartbeats 2000000 in
theorem answered_replace0 {w : World} {p : Pr} (h : PairAt w p) (hr : Room p.K) (On A B C : Int) (S : ByteArray) : Calls Tryz.prog 60 #[prV p, opV 7 On A B C S (.slice none 0 0)] w (Answers p w) := by
  unfold prV opV
  obtain ⟨z, hz⟩ : ∃ z, z = w.heap.size := ⟨_, rfl⟩
  have kA := Keeps.alloc [] w (.cells #[.pointer (some ⟨p.kb.k, 0, none⟩), .pointer (some ⟨p.rb.r, 0, none⟩)] 111)
  have hA := CellsAt.new w #[.pointer (some ⟨p.kb.k, 0, none⟩), .pointer (some ⟨p.rb.r, 0, none⟩)] 111
  have zA := size_alloc' w (.cells #[.pointer (some ⟨p.kb.k, 0, none⟩), .pointer (some ⟨p.rb.r, 0, none⟩)] 111)
  have kB := Keeps.alloc [] (w.alloc (.cells #[.pointer (some ⟨p.kb.k, 0, none⟩), .pointer (some ⟨p.rb.r, 0, none⟩)] 111)) (.cells #[.int .i64 7, .int .i64 On, .int .i64 A, .int .i64 B, .int .i64 C, .string S, .slice none 0 0] 80)
  have hB := CellsAt.new (w.alloc (.cells #[.pointer (some ⟨p.kb.k, 0, none⟩), .pointer (some ⟨p.rb.r, 0, none⟩)] 111)) #[.int .i64 7, .int .i64 On, .int .i64 A, .int .i64 B, .int .i64 C, .string S, .slice none 0 0] 80
  rw [zA, ← hz] at hB
  rw [← hz] at hA
  have hA2 := hA.keeps kB (by simp)
  have k0 := kA.trans kB
  have hlt : ∀ i ∈ p.own, i < z := fun i hi => by rw [hz]; exact h.lt i hi
  have Hz := hide hz
  clear hz zA hA kA kB
  have hx := hide (fun (W : World) (k : Keeps [] w W) => xreplace (h.k.keeps k (by simp)) h.t hr A (.slice none 0 0) [] (.inl ⟨rfl, rfl⟩))
  have hy := hide (fun (W w1 : World) (k : Keeps [] w W) (k1 : Keeps p.kb.own W w1) => yreplace ((h.r.keeps0 k).keeps k1 (fun i hi hi' => h.d i hi' hi)) h.t hr A (.slice none 0 0) [] (.inl ⟨rfl, rfl⟩))
  have hlast := reps_last p.R A []
  have hTl := h.t.last
  have hle := hide (fun w => lent_nil (w := w))
  have hbk := hide (fun w v => back_nil (w := w) v)
  generalize p.R.reps A [] = a at hx hy hlast
  go_enter Tryz.func60, Tryz.ntmps60
  go_wp2_with fail
  generalize (w.alloc (.cells #[.pointer (some ⟨p.kb.k, 0, none⟩), .pointer (some ⟨p.rb.r, 0, none⟩)] 111)).alloc (.cells #[.int .i64 7, .int .i64 On, .int .i64 A, .int .i64 B, .int .i64 C, .string S, .slice none 0 0] 80) = W at k0 hA2 hB ⊢
  rw [← Hz.out]
  have b0 := hB.cell 0
  have b2 := hB.cell 2
  have b6 := hB.cell 6
  have a0 := hA2.cell 0
  simp at b0 b2 b6 a0
  go_wp2_with fail
  refine (hle.out W).mono ?_
  rintro e w1 ⟨rfl, rfl⟩
  go_wp2_with fail
  refine (hx.out w1 k0).mono ?_
  rintro e w2 ⟨K', rfl, hK1, T1, kk1, hn1⟩
  have nz : ∀ j, z ≤ j → j ∉ p.kb.own := fun j hj hm => by have := hlt j (List.mem_append.2 (.inl hm)); omega
  have hA3 := hA2.keeps kk1 (nz z (Nat.le_refl _))
  have hB3 := hB.keeps kk1 (nz (z + 1) (by omega))
  have d2 := hB3.cell 2
  have d6 := hB3.cell 6
  have d1 := hA3.cell 1
  simp at d2 d6 d1
  clear b0 b2 b6 a0
  go_wp2_with fail
  refine (hbk.out _ _).mono ?_
  rintro e w3 ⟨rfl, rfl⟩
  go_wp2_with fail
  refine (hy.out w1 w3 k0 kk1).mono ?_
  rintro e w4 ⟨rb', rfl, hR2, to2, kk2⟩
  have hg := Goes.of h k0 hK1 T1 kk1 hn1 (by have := T1.last; omega) hR2 to2 kk2
  have q1 : (a.1 == a.1) = true := by simp
  have q2 : (a.2.1 == a.2.1) = true := by simp
  have hnum := hide (fun w => num_calls (w := w) a.2.1)
  generalize a.1 = y1 at q1 hnum ⊢
  generalize a.2.1 = y2 at q2 hnum ⊢
  clear d1 d2 d6
  go_wp2_with fail
  refine (hnum.out _).mono ?_
  rintro e w5 ⟨rfl, rfl⟩
  go_wp2_with fail
  go_ret
  exact ⟨rfl, _, hg⟩

end Go.Proofs.YtgjomknpjigkhaaGreatDoor
