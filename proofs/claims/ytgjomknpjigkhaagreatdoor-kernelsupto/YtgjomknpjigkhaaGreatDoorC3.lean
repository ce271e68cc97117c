/- The law's told, but for Order. -/
import Derived.Test.YtgjomknpjigkhaaGreatDoorC2
namespace Go.Proofs.YtgjomknpjigkhaaGreatDoor
open Go.RowKit Go.Shelf

theorem Goes.still {w w0 w1 w2 : World} {p : Pr} (h : PairAt w p) (k0 : Keeps [] w w0) (hK : KernelAt w1 p.kb p.K) (k1 : Keeps p.kb.own w0 w1) (hr : RefAt w2 p.rb p.R) (k2 : Keeps [] w1 w2) : Goes w w2 p p :=
  Goes.of h k0 hK h.t k1 (by unfold costs; omega) (by omega) hr (p.rb.to_refl w1) (k2.mono (by simp))

theorem swaps_last (R : RS) (i : Int) : (R.swaps i).2.last ≤ R.last + 1 := by
  unfold RS.swaps; split
  · show R.last ≤ _; omega
  · show R.last ≤ _; omega
theorem drops_last (R : RS) (i : Int) : (R.drops i).2.last ≤ R.last + 1 := by
  unfold RS.drops; split
  · show R.last ≤ _; omega
  · show R.last ≤ _; omega
theorem SiftTo.last {R : RS} {i : Int} {a : Int × RS} (h : SiftTo R i a) : a.2.last ≤ R.last + 1 := by
  rcases h with ⟨_, rfl⟩ | ⟨_, p, _, rfl⟩
  · show R.last ≤ _; omega
  · show R.last ≤ _; omega

set_option maxRecDepth 100000 in
set_option maxHeartbeats 1000000 in
theorem told_eval {w : World} {p : Pr} (h : PairAt w p) (wb : Nat) (On A B C : Int) (S : ByteArray) (a1 : Option Addr) (n1 c1 : Nat) : Calls Tryz.prog 61 #[.pointer (some ⟨wb, 0, none⟩), prV p, opV 8 On A B C S (.slice a1 n1 c1)] w (Answers p w) := by
  unfold prV opV
  obtain ⟨z, hz⟩ : ∃ z, z = w.heap.size := ⟨_, rfl⟩
  have kA := Keeps.alloc [] w (.cells #[.pointer (some ⟨p.kb.k, 0, none⟩), .pointer (some ⟨p.rb.r, 0, none⟩)] 111)
  have hA := CellsAt.new w #[.pointer (some ⟨p.kb.k, 0, none⟩), .pointer (some ⟨p.rb.r, 0, none⟩)] 111
  have zA := size_alloc' w (.cells #[.pointer (some ⟨p.kb.k, 0, none⟩), .pointer (some ⟨p.rb.r, 0, none⟩)] 111)
  have kB := Keeps.alloc [] (w.alloc (.cells #[.pointer (some ⟨p.kb.k, 0, none⟩), .pointer (some ⟨p.rb.r, 0, none⟩)] 111)) (.cells #[.int .i64 8, .int .i64 On, .int .i64 A, .int .i64 B, .int .i64 C, .string S, .slice a1 n1 c1] 80)
  have hB := CellsAt.new (w.alloc (.cells #[.pointer (some ⟨p.kb.k, 0, none⟩), .pointer (some ⟨p.rb.r, 0, none⟩)] 111)) #[.int .i64 8, .int .i64 On, .int .i64 A, .int .i64 B, .int .i64 C, .string S, .slice a1 n1 c1] 80
  rw [zA, ← hz] at hB
  rw [← hz] at hA
  have hA2 := hA.keeps kB (by simp)
  have k0 := kA.trans kB
  have hlt : ∀ i ∈ p.own, i < z := fun i hi => by rw [hz]; exact h.lt i hi
  have Hz := hide hz
  clear hz zA hA kA kB
  have hx := hide (fun (W : World) (k : Keeps [] w W) => xeval (h.k.keeps k (by simp)) h.t A B)
  have hy := hide (fun (W w1 : World) (k : Keeps [] w W) (k1 : Keeps p.kb.own W w1) => yeval ((h.r.keeps0 k).keeps k1 (fun i hi hi' => h.d i hi' hi)) h.t A B)
  have hrr := hide (fun (W w1 : World) (k : Keeps [] w W) (k1 : Keeps p.kb.own W w1) => (h.r.keeps0 k).keeps k1 (fun i hi hi' => h.d i hi' hi))
  generalize p.R.evs A B = a at hx hy
  go_enter Tryz.func61, Tryz.ntmps61
  go_wp2_with fail
  generalize (w.alloc (.cells #[.pointer (some ⟨p.kb.k, 0, none⟩), .pointer (some ⟨p.rb.r, 0, none⟩)] 111)).alloc (.cells #[.int .i64 8, .int .i64 On, .int .i64 A, .int .i64 B, .int .i64 C, .string S, .slice a1 n1 c1] 80) = W at k0 hA2 hB ⊢
  rw [← Hz.out]
  have b0 := hB.cell 0
  have b2 := hB.cell 2
  have b3 := hB.cell 3
  have a0 := hA2.cell 0
  simp at b0 b2 b3 a0
  go_wp2_with fail
  refine (hx.out W k0).mono ?_
  rintro e w1 ⟨rfl, hK1, kk1⟩
  have nz : ∀ j, z ≤ j → j ∉ p.kb.own := fun j hj hm => by have := hlt j (List.mem_append.2 (.inl hm)); omega
  have hA3 := hA2.keeps kk1 (nz z (Nat.le_refl _))
  have hB3 := hB.keeps kk1 (nz (z + 1) (by omega))
  have d2 := hB3.cell 2
  have d3 := hB3.cell 3
  have d1 := hA3.cell 1
  simp at d2 d3 d1
  clear b0 b2 b3 a0
  go_wp2_with fail
  refine (hy.out W w1 k0 kk1).mono ?_
  rintro e w2 ⟨rfl, kk2⟩
  have hg := Goes.still h k0 hK1 kk1 ((hrr.out W w1 k0 kk1).keeps0 kk2) kk2
  have q1 : (a.1 == a.1) = true := by simp
  have q2 : (a.2 == a.2) = true := by simp
  have hnum := hide (fun w => num_calls (w := w) a.2)
  generalize a.1 = y1 at q1 ⊢
  generalize a.2 = y2 at q2 hnum ⊢
  clear d1 d2 d3
  go_wp2_with fail
  refine (hnum.out _).mono ?_
  rintro e w5 ⟨rfl, rfl⟩
  go_wp2_with fail
  go_ret
  exact ⟨rfl, _, hg⟩

set_option maxRecDepth 100000 in
set_option maxHeartbeats 1000000 in
theorem told_count {w : World} {p : Pr} (h : PairAt w p) (hr : Room p.K) (wb : Nat) (On A B C : Int) (S : ByteArray) (a1 : Option Addr) (n1 c1 : Nat) : Calls Tryz.prog 61 #[.pointer (some ⟨wb, 0, none⟩), prV p, opV 9 On A B C S (.slice a1 n1 c1)] w (Answers p w) := by
  unfold prV opV
  obtain ⟨z, hz⟩ : ∃ z, z = w.heap.size := ⟨_, rfl⟩
  have kA := Keeps.alloc [] w (.cells #[.pointer (some ⟨p.kb.k, 0, none⟩), .pointer (some ⟨p.rb.r, 0, none⟩)] 111)
  have hA := CellsAt.new w #[.pointer (some ⟨p.kb.k, 0, none⟩), .pointer (some ⟨p.rb.r, 0, none⟩)] 111
  have zA := size_alloc' w (.cells #[.pointer (some ⟨p.kb.k, 0, none⟩), .pointer (some ⟨p.rb.r, 0, none⟩)] 111)
  have kB := Keeps.alloc [] (w.alloc (.cells #[.pointer (some ⟨p.kb.k, 0, none⟩), .pointer (some ⟨p.rb.r, 0, none⟩)] 111)) (.cells #[.int .i64 9, .int .i64 On, .int .i64 A, .int .i64 B, .int .i64 C, .string S, .slice a1 n1 c1] 80)
  have hB := CellsAt.new (w.alloc (.cells #[.pointer (some ⟨p.kb.k, 0, none⟩), .pointer (some ⟨p.rb.r, 0, none⟩)] 111)) #[.int .i64 9, .int .i64 On, .int .i64 A, .int .i64 B, .int .i64 C, .string S, .slice a1 n1 c1] 80
  rw [zA, ← hz] at hB
  rw [← hz] at hA
  have hA2 := hA.keeps kB (by simp)
  have k0 := kA.trans kB
  have hlt : ∀ i ∈ p.own, i < z := fun i hi => by rw [hz]; exact h.lt i hi
  have Hz := hide hz
  clear hz zA hA kA kB
  have hx := hide (fun (W : World) (k : Keeps [] w W) => xcount (h.k.keeps k (by simp)) h.t hr A)
  have hy := hide (fun (W w1 : World) (k : Keeps [] w W) (k1 : Keeps p.kb.own W w1) => ycount ((h.r.keeps0 k).keeps k1 (fun i hi hi' => h.d i hi' hi)) h.t A)
  have hrr := hide (fun (W w1 : World) (k : Keeps [] w W) (k1 : Keeps p.kb.own W w1) => (h.r.keeps0 k).keeps k1 (fun i hi hi' => h.d i hi' hi))
  generalize p.R.cnts A = a at hx hy
  go_enter Tryz.func61, Tryz.ntmps61
  go_wp2_with fail
  generalize (w.alloc (.cells #[.pointer (some ⟨p.kb.k, 0, none⟩), .pointer (some ⟨p.rb.r, 0, none⟩)] 111)).alloc (.cells #[.int .i64 9, .int .i64 On, .int .i64 A, .int .i64 B, .int .i64 C, .string S, .slice a1 n1 c1] 80) = W at k0 hA2 hB ⊢
  rw [← Hz.out]
  have b0 := hB.cell 0
  have b2 := hB.cell 2
  have b3 := hB.cell 3
  have a0 := hA2.cell 0
  simp at b0 b2 b3 a0
  go_wp2_with fail
  refine (hx.out W k0).mono ?_
  rintro e w1 ⟨rfl, hK1, kk1⟩
  have nz : ∀ j, z ≤ j → j ∉ p.kb.own := fun j hj hm => by have := hlt j (List.mem_append.2 (.inl hm)); omega
  have hA3 := hA2.keeps kk1 (nz z (Nat.le_refl _))
  have hB3 := hB.keeps kk1 (nz (z + 1) (by omega))
  have d2 := hB3.cell 2
  have d3 := hB3.cell 3
  have d1 := hA3.cell 1
  simp at d2 d3 d1
  clear b0 b2 b3 a0
  go_wp2_with fail
  refine (hy.out W w1 k0 kk1).mono ?_
  rintro e w2 ⟨rfl, kk2⟩
  have hg := Goes.still h k0 hK1 kk1 ((hrr.out W w1 k0 kk1).keeps0 kk2) kk2
  have q1 : (a.1 == a.1) = true := by simp
  have q2 : (a.2 == a.2) = true := by simp
  have hnum := hide (fun w => num_calls (w := w) a.2)
  generalize a.1 = y1 at q1 ⊢
  generalize a.2 = y2 at q2 hnum ⊢
  clear d1 d2 d3
  go_wp2_with fail
  refine (hnum.out _).mono ?_
  rintro e w5 ⟨rfl, rfl⟩
  go_wp2_with fail
  go_ret
  exact ⟨rfl, _, hg⟩

set_option maxRecDepth 100000 in
set_option maxHeartbeats 1000000 in
theorem told_support {w : World} {p : Pr} (h : PairAt w p) (wb : Nat) (On A B C : Int) (S : ByteArray) (a1 : Option Addr) (n1 c1 : Nat) : Calls Tryz.prog 61 #[.pointer (some ⟨wb, 0, none⟩), prV p, opV 10 On A B C S (.slice a1 n1 c1)] w (Answers p w) := by
  unfold prV opV
  obtain ⟨z, hz⟩ : ∃ z, z = w.heap.size := ⟨_, rfl⟩
  have kA := Keeps.alloc [] w (.cells #[.pointer (some ⟨p.kb.k, 0, none⟩), .pointer (some ⟨p.rb.r, 0, none⟩)] 111)
  have hA := CellsAt.new w #[.pointer (some ⟨p.kb.k, 0, none⟩), .pointer (some ⟨p.rb.r, 0, none⟩)] 111
  have zA := size_alloc' w (.cells #[.pointer (some ⟨p.kb.k, 0, none⟩), .pointer (some ⟨p.rb.r, 0, none⟩)] 111)
  have kB := Keeps.alloc [] (w.alloc (.cells #[.pointer (some ⟨p.kb.k, 0, none⟩), .pointer (some ⟨p.rb.r, 0, none⟩)] 111)) (.cells #[.int .i64 10, .int .i64 On, .int .i64 A, .int .i64 B, .int .i64 C, .string S, .slice a1 n1 c1] 80)
  have hB := CellsAt.new (w.alloc (.cells #[.pointer (some ⟨p.kb.k, 0, none⟩), .pointer (some ⟨p.rb.r, 0, none⟩)] 111)) #[.int .i64 10, .int .i64 On, .int .i64 A, .int .i64 B, .int .i64 C, .string S, .slice a1 n1 c1] 80
  rw [zA, ← hz] at hB
  rw [← hz] at hA
  have hA2 := hA.keeps kB (by simp)
  have k0 := kA.trans kB
  have hlt : ∀ i ∈ p.own, i < z := fun i hi => by rw [hz]; exact h.lt i hi
  have Hz := hide hz
  clear hz zA hA kA kB
  have hx := hide (fun (W : World) (k : Keeps [] w W) => xsupport (h.k.keeps k (by simp)) h.t A)
  have hy := hide (fun (W w1 : World) (k : Keeps [] w W) (k1 : Keeps p.kb.own W w1) => ysupport ((h.r.keeps0 k).keeps k1 (fun i hi hi' => h.d i hi' hi)) h.t A)
  have hrr := hide (fun (W w1 : World) (k : Keeps [] w W) (k1 : Keeps p.kb.own W w1) => (h.r.keeps0 k).keeps k1 (fun i hi hi' => h.d i hi' hi))
  generalize p.R.sups A = a at hx hy
  go_enter Tryz.func61, Tryz.ntmps61
  go_wp2_with fail
  generalize (w.alloc (.cells #[.pointer (some ⟨p.kb.k, 0, none⟩), .pointer (some ⟨p.rb.r, 0, none⟩)] 111)).alloc (.cells #[.int .i64 10, .int .i64 On, .int .i64 A, .int .i64 B, .int .i64 C, .string S, .slice a1 n1 c1] 80) = W at k0 hA2 hB ⊢
  rw [← Hz.out]
  have b0 := hB.cell 0
  have b2 := hB.cell 2
  have b3 := hB.cell 3
  have a0 := hA2.cell 0
  simp at b0 b2 b3 a0
  go_wp2_with fail
  refine (hx.out W k0).mono ?_
  rintro e w1 ⟨rfl, hK1, kk1⟩
  have nz : ∀ j, z ≤ j → j ∉ p.kb.own := fun j hj hm => by have := hlt j (List.mem_append.2 (.inl hm)); omega
  have hA3 := hA2.keeps kk1 (nz z (Nat.le_refl _))
  have hB3 := hB.keeps kk1 (nz (z + 1) (by omega))
  have d2 := hB3.cell 2
  have d3 := hB3.cell 3
  have d1 := hA3.cell 1
  simp at d2 d3 d1
  clear b0 b2 b3 a0
  go_wp2_with fail
  refine (hy.out W w1 k0 kk1).mono ?_
  rintro e w2 ⟨rfl, kk2⟩
  have hg := Goes.still h k0 hK1 kk1 ((hrr.out W w1 k0 kk1).keeps0 kk2) kk2
  have q1 : (a.1 == a.1) = true := by simp
  have q2 : (a.2 == a.2) = true := by simp
  have hnum := hide (fun w => num_calls (w := w) a.2)
  generalize a.1 = y1 at q1 ⊢
  generalize a.2 = y2 at q2 hnum ⊢
  clear d1 d2 d3
  go_wp2_with fail
  refine (hnum.out _).mono ?_
  rintro e w5 ⟨rfl, rfl⟩
  go_wp2_with fail
  go_ret
  exact ⟨rfl, _, hg⟩

set_option maxRecDepth 100000 in
set_option maxHeartbeats 1000000 in
theorem told_size {w : World} {p : Pr} (h : PairAt w p) (wb : Nat) (On A B C : Int) (S : ByteArray) (a1 : Option Addr) (n1 c1 : Nat) : Calls Tryz.prog 61 #[.pointer (some ⟨wb, 0, none⟩), prV p, opV 11 On A B C S (.slice a1 n1 c1)] w (Answers p w) := by
  unfold prV opV
  obtain ⟨z, hz⟩ : ∃ z, z = w.heap.size := ⟨_, rfl⟩
  have kA := Keeps.alloc [] w (.cells #[.pointer (some ⟨p.kb.k, 0, none⟩), .pointer (some ⟨p.rb.r, 0, none⟩)] 111)
  have hA := CellsAt.new w #[.pointer (some ⟨p.kb.k, 0, none⟩), .pointer (some ⟨p.rb.r, 0, none⟩)] 111
  have zA := size_alloc' w (.cells #[.pointer (some ⟨p.kb.k, 0, none⟩), .pointer (some ⟨p.rb.r, 0, none⟩)] 111)
  have kB := Keeps.alloc [] (w.alloc (.cells #[.pointer (some ⟨p.kb.k, 0, none⟩), .pointer (some ⟨p.rb.r, 0, none⟩)] 111)) (.cells #[.int .i64 11, .int .i64 On, .int .i64 A, .int .i64 B, .int .i64 C, .string S, .slice a1 n1 c1] 80)
  have hB := CellsAt.new (w.alloc (.cells #[.pointer (some ⟨p.kb.k, 0, none⟩), .pointer (some ⟨p.rb.r, 0, none⟩)] 111)) #[.int .i64 11, .int .i64 On, .int .i64 A, .int .i64 B, .int .i64 C, .string S, .slice a1 n1 c1] 80
  rw [zA, ← hz] at hB
  rw [← hz] at hA
  have hA2 := hA.keeps kB (by simp)
  have k0 := kA.trans kB
  have hlt : ∀ i ∈ p.own, i < z := fun i hi => by rw [hz]; exact h.lt i hi
  have Hz := hide hz
  clear hz zA hA kA kB
  have hx := hide (fun (W : World) (k : Keeps [] w W) => xsize (h.k.keeps k (by simp)) h.t A)
  have hy := hide (fun (W w1 : World) (k : Keeps [] w W) (k1 : Keeps p.kb.own W w1) => ysize ((h.r.keeps0 k).keeps k1 (fun i hi hi' => h.d i hi' hi)) h.t A)
  have hrr := hide (fun (W w1 : World) (k : Keeps [] w W) (k1 : Keeps p.kb.own W w1) => (h.r.keeps0 k).keeps k1 (fun i hi hi' => h.d i hi' hi))
  generalize p.R.sizes A = a at hx hy
  go_enter Tryz.func61, Tryz.ntmps61
  go_wp2_with fail
  generalize (w.alloc (.cells #[.pointer (some ⟨p.kb.k, 0, none⟩), .pointer (some ⟨p.rb.r, 0, none⟩)] 111)).alloc (.cells #[.int .i64 11, .int .i64 On, .int .i64 A, .int .i64 B, .int .i64 C, .string S, .slice a1 n1 c1] 80) = W at k0 hA2 hB ⊢
  rw [← Hz.out]
  have b0 := hB.cell 0
  have b2 := hB.cell 2
  have b3 := hB.cell 3
  have a0 := hA2.cell 0
  simp at b0 b2 b3 a0
  go_wp2_with fail
  refine (hx.out W k0).mono ?_
  rintro e w1 ⟨rfl, hK1, kk1⟩
  have nz : ∀ j, z ≤ j → j ∉ p.kb.own := fun j hj hm => by have := hlt j (List.mem_append.2 (.inl hm)); omega
  have hA3 := hA2.keeps kk1 (nz z (Nat.le_refl _))
  have hB3 := hB.keeps kk1 (nz (z + 1) (by omega))
  have d2 := hB3.cell 2
  have d3 := hB3.cell 3
  have d1 := hA3.cell 1
  simp at d2 d3 d1
  clear b0 b2 b3 a0
  go_wp2_with fail
  refine (hy.out W w1 k0 kk1).mono ?_
  rintro e w2 ⟨rfl, kk2⟩
  have hg := Goes.still h k0 hK1 kk1 ((hrr.out W w1 k0 kk1).keeps0 kk2) kk2
  have q1 : (a.1 == a.1) = true := by simp
  have q2 : (a.2 == a.2) = true := by simp
  have hnum := hide (fun w => num_calls (w := w) a.2)
  generalize a.1 = y1 at q1 ⊢
  generalize a.2 = y2 at q2 hnum ⊢
  clear d1 d2 d3
  go_wp2_with fail
  refine (hnum.out _).mono ?_
  rintro e w5 ⟨rfl, rfl⟩
  go_wp2_with fail
  go_ret
  exact ⟨rfl, _, hg⟩

set_option maxRecDepth 100000 in
set_option maxHeartbeats 1000000 in
theorem told_swap {w : World} {p : Pr} (h : PairAt w p) (hr : Room p.K) (wb : Nat) (On A B C : Int) (S : ByteArray) (a1 : Option Addr) (n1 c1 : Nat) : Calls Tryz.prog 61 #[.pointer (some ⟨wb, 0, none⟩), prV p, opV 14 On A B C S (.slice a1 n1 c1)] w (Answers p w) := by
  unfold prV opV
  obtain ⟨z, hz⟩ : ∃ z, z = w.heap.size := ⟨_, rfl⟩
  have kA := Keeps.alloc [] w (.cells #[.pointer (some ⟨p.kb.k, 0, none⟩), .pointer (some ⟨p.rb.r, 0, none⟩)] 111)
  have hA := CellsAt.new w #[.pointer (some ⟨p.kb.k, 0, none⟩), .pointer (some ⟨p.rb.r, 0, none⟩)] 111
  have zA := size_alloc' w (.cells #[.pointer (some ⟨p.kb.k, 0, none⟩), .pointer (some ⟨p.rb.r, 0, none⟩)] 111)
  have kB := Keeps.alloc [] (w.alloc (.cells #[.pointer (some ⟨p.kb.k, 0, none⟩), .pointer (some ⟨p.rb.r, 0, none⟩)] 111)) (.cells #[.int .i64 14, .int .i64 On, .int .i64 A, .int .i64 B, .int .i64 C, .string S, .slice a1 n1 c1] 80)
  have hB := CellsAt.new (w.alloc (.cells #[.pointer (some ⟨p.kb.k, 0, none⟩), .pointer (some ⟨p.rb.r, 0, none⟩)] 111)) #[.int .i64 14, .int .i64 On, .int .i64 A, .int .i64 B, .int .i64 C, .string S, .slice a1 n1 c1] 80
  rw [zA, ← hz] at hB
  rw [← hz] at hA
  have hA2 := hA.keeps kB (by simp)
  have k0 := kA.trans kB
  have hlt : ∀ i ∈ p.own, i < z := fun i hi => by rw [hz]; exact h.lt i hi
  have Hz := hide hz
  clear hz zA hA kA kB
  have hx := hide (fun (W : World) (k : Keeps [] w W) => xswap (h.k.keeps k (by simp)) h.t hr A)
  have hy := hide (fun (W w1 : World) (k : Keeps [] w W) (k1 : Keeps p.kb.own W w1) => yswap ((h.r.keeps0 k).keeps k1 (fun i hi hi' => h.d i hi' hi)) A)
  have hlast := swaps_last p.R A
  have hTl := h.t.last
  generalize p.R.swaps A = a at hx hy hlast
  go_enter Tryz.func61, Tryz.ntmps61
  go_wp2_with fail
  generalize (w.alloc (.cells #[.pointer (some ⟨p.kb.k, 0, none⟩), .pointer (some ⟨p.rb.r, 0, none⟩)] 111)).alloc (.cells #[.int .i64 14, .int .i64 On, .int .i64 A, .int .i64 B, .int .i64 C, .string S, .slice a1 n1 c1] 80) = W at k0 hA2 hB ⊢
  rw [← Hz.out]
  have b0 := hB.cell 0
  have b2 := hB.cell 2
  have b3 := hB.cell 3
  have a0 := hA2.cell 0
  simp at b0 b2 b3 a0
  go_wp2_with fail
  refine (hx.out W k0).mono ?_
  rintro e w1 ⟨K', rfl, hK1, T1, kk1, hn1⟩
  have nz : ∀ j, z ≤ j → j ∉ p.kb.own := fun j hj hm => by have := hlt j (List.mem_append.2 (.inl hm)); omega
  have hA3 := hA2.keeps kk1 (nz z (Nat.le_refl _))
  have hB3 := hB.keeps kk1 (nz (z + 1) (by omega))
  have d2 := hB3.cell 2
  have d3 := hB3.cell 3
  have d1 := hA3.cell 1
  simp at d2 d3 d1
  clear b0 b2 b3 a0
  go_wp2_with fail
  refine (hy.out W w1 k0 kk1).mono ?_
  rintro e w2 ⟨rb', rfl, hR2, to2, kk2⟩
  have hg := Goes.of h k0 hK1 T1 kk1 hn1 (by have := T1.last; omega) hR2 to2 kk2
  have q0 : ((0 : Int) == 0) = true := by simp
  have q1 : (a.1 == a.1) = true := by simp
  have q2 : (a.1 == a.1) = true := by simp
  have hnum := hide (fun w => num_calls (w := w) a.1)
  generalize a.1 = y1 at q1 q2 hnum ⊢
  clear d1 d2 d3
  go_wp2_with fail
  refine (hnum.out _).mono ?_
  rintro e w5 ⟨rfl, rfl⟩
  go_wp2_with fail
  go_ret
  exact ⟨rfl, _, hg⟩

set_option maxRecDepth 100000 in
set_option maxHeartbeats 1000000 in
theorem told_drop {w : World} {p : Pr} (h : PairAt w p) (wb : Nat) (On A B C : Int) (S : ByteArray) (a1 : Option Addr) (n1 c1 : Nat) : Calls Tryz.prog 61 #[.pointer (some ⟨wb, 0, none⟩), prV p, opV 16 On A B C S (.slice a1 n1 c1)] w (Answers p w) := by
  unfold prV opV
  obtain ⟨z, hz⟩ : ∃ z, z = w.heap.size := ⟨_, rfl⟩
  have kA := Keeps.alloc [] w (.cells #[.pointer (some ⟨p.kb.k, 0, none⟩), .pointer (some ⟨p.rb.r, 0, none⟩)] 111)
  have hA := CellsAt.new w #[.pointer (some ⟨p.kb.k, 0, none⟩), .pointer (some ⟨p.rb.r, 0, none⟩)] 111
  have zA := size_alloc' w (.cells #[.pointer (some ⟨p.kb.k, 0, none⟩), .pointer (some ⟨p.rb.r, 0, none⟩)] 111)
  have kB := Keeps.alloc [] (w.alloc (.cells #[.pointer (some ⟨p.kb.k, 0, none⟩), .pointer (some ⟨p.rb.r, 0, none⟩)] 111)) (.cells #[.int .i64 16, .int .i64 On, .int .i64 A, .int .i64 B, .int .i64 C, .string S, .slice a1 n1 c1] 80)
  have hB := CellsAt.new (w.alloc (.cells #[.pointer (some ⟨p.kb.k, 0, none⟩), .pointer (some ⟨p.rb.r, 0, none⟩)] 111)) #[.int .i64 16, .int .i64 On, .int .i64 A, .int .i64 B, .int .i64 C, .string S, .slice a1 n1 c1] 80
  rw [zA, ← hz] at hB
  rw [← hz] at hA
  have hA2 := hA.keeps kB (by simp)
  have k0 := kA.trans kB
  have hlt : ∀ i ∈ p.own, i < z := fun i hi => by rw [hz]; exact h.lt i hi
  have Hz := hide hz
  clear hz zA hA kA kB
  have hx := hide (fun (W : World) (k : Keeps [] w W) => xdrop (h.k.keeps k (by simp)) h.t A)
  have hy := hide (fun (W w1 : World) (k : Keeps [] w W) (k1 : Keeps p.kb.own W w1) => ydrop ((h.r.keeps0 k).keeps k1 (fun i hi hi' => h.d i hi' hi)) A)
  have hlast := drops_last p.R A
  have hTl := h.t.last
  generalize p.R.drops A = a at hx hy hlast
  go_enter Tryz.func61, Tryz.ntmps61
  go_wp2_with fail
  generalize (w.alloc (.cells #[.pointer (some ⟨p.kb.k, 0, none⟩), .pointer (some ⟨p.rb.r, 0, none⟩)] 111)).alloc (.cells #[.int .i64 16, .int .i64 On, .int .i64 A, .int .i64 B, .int .i64 C, .string S, .slice a1 n1 c1] 80) = W at k0 hA2 hB ⊢
  rw [← Hz.out]
  have b0 := hB.cell 0
  have b2 := hB.cell 2
  have b3 := hB.cell 3
  have a0 := hA2.cell 0
  simp at b0 b2 b3 a0
  go_wp2_with fail
  refine (hx.out W k0).mono ?_
  rintro e w1 ⟨K', rfl, hK1, T1, kk1, hn1⟩
  have nz : ∀ j, z ≤ j → j ∉ p.kb.own := fun j hj hm => by have := hlt j (List.mem_append.2 (.inl hm)); omega
  have hA3 := hA2.keeps kk1 (nz z (Nat.le_refl _))
  have hB3 := hB.keeps kk1 (nz (z + 1) (by omega))
  have d2 := hB3.cell 2
  have d3 := hB3.cell 3
  have d1 := hA3.cell 1
  simp at d2 d3 d1
  clear b0 b2 b3 a0
  go_wp2_with fail
  refine (hy.out W w1 k0 kk1).mono ?_
  rintro e w2 ⟨rb', rfl, hR2, to2, kk2⟩
  have hg := Goes.of h k0 hK1 T1 kk1 hn1 (by have := T1.last; omega) hR2 to2 kk2
  have q0 : ((0 : Int) == 0) = true := by simp
  have q1 : (a.1 == a.1) = true := by simp
  have q2 : (a.1 == a.1) = true := by simp
  have hnum := hide (fun w => num_calls (w := w) a.1)
  generalize a.1 = y1 at q1 q2 hnum ⊢
  clear d1 d2 d3
  go_wp2_with fail
  refine (hnum.out _).mono ?_
  rintro e w5 ⟨rfl, rfl⟩
  go_wp2_with fail
  go_ret
  exact ⟨rfl, _, hg⟩

set_option maxRecDepth 100000 in
set_option maxHeartbeats 1000000 in
theorem told_sift {w : World} {p : Pr} (h : PairAt w p) (hr : Room p.K) (wb : Nat) (On A B C : Int) (S : ByteArray) (a1 : Option Addr) (n1 c1 : Nat) : Calls Tryz.prog 61 #[.pointer (some ⟨wb, 0, none⟩), prV p, opV 15 On A B C S (.slice a1 n1 c1)] w (Answers p w) := by
  unfold prV opV
  obtain ⟨z, hz⟩ : ∃ z, z = w.heap.size := ⟨_, rfl⟩
  have kA := Keeps.alloc [] w (.cells #[.pointer (some ⟨p.kb.k, 0, none⟩), .pointer (some ⟨p.rb.r, 0, none⟩)] 111)
  have hA := CellsAt.new w #[.pointer (some ⟨p.kb.k, 0, none⟩), .pointer (some ⟨p.rb.r, 0, none⟩)] 111
  have zA := size_alloc' w (.cells #[.pointer (some ⟨p.kb.k, 0, none⟩), .pointer (some ⟨p.rb.r, 0, none⟩)] 111)
  have kB := Keeps.alloc [] (w.alloc (.cells #[.pointer (some ⟨p.kb.k, 0, none⟩), .pointer (some ⟨p.rb.r, 0, none⟩)] 111)) (.cells #[.int .i64 15, .int .i64 On, .int .i64 A, .int .i64 B, .int .i64 C, .string S, .slice a1 n1 c1] 80)
  have hB := CellsAt.new (w.alloc (.cells #[.pointer (some ⟨p.kb.k, 0, none⟩), .pointer (some ⟨p.rb.r, 0, none⟩)] 111)) #[.int .i64 15, .int .i64 On, .int .i64 A, .int .i64 B, .int .i64 C, .string S, .slice a1 n1 c1] 80
  rw [zA, ← hz] at hB
  rw [← hz] at hA
  have hA2 := hA.keeps kB (by simp)
  have k0 := kA.trans kB
  have hlt : ∀ i ∈ p.own, i < z := fun i hi => by rw [hz]; exact h.lt i hi
  have Hz := hide hz
  clear hz zA hA kA kB
  have hx := hide (fun (W : World) (k : Keeps [] w W) => xsift (h.k.keeps k (by simp)) h.t hr A)
  have hy := hide (fun (W w1 : World) (k : Keeps [] w W) (k1 : Keeps p.kb.own W w1) => ysift ((h.r.keeps0 k).keeps k1 (fun i hi hi' => h.d i hi' hi)) h.t A)
  have hTl := h.t.last
  go_enter Tryz.func61, Tryz.ntmps61
  go_wp2_with fail
  generalize (w.alloc (.cells #[.pointer (some ⟨p.kb.k, 0, none⟩), .pointer (some ⟨p.rb.r, 0, none⟩)] 111)).alloc (.cells #[.int .i64 15, .int .i64 On, .int .i64 A, .int .i64 B, .int .i64 C, .string S, .slice a1 n1 c1] 80) = W at k0 hA2 hB ⊢
  rw [← Hz.out]
  have b0 := hB.cell 0
  have b2 := hB.cell 2
  have b3 := hB.cell 3
  have a0 := hA2.cell 0
  simp at b0 b2 b3 a0
  go_wp2_with fail
  refine (hx.out W k0).mono ?_
  rintro e w1 ⟨a, hS, K', rfl, hK1, T1, kk1, hn1⟩
  have nz : ∀ j, z ≤ j → j ∉ p.kb.own := fun j hj hm => by have := hlt j (List.mem_append.2 (.inl hm)); omega
  have hA3 := hA2.keeps kk1 (nz z (Nat.le_refl _))
  have hB3 := hB.keeps kk1 (nz (z + 1) (by omega))
  have d2 := hB3.cell 2
  have d3 := hB3.cell 3
  have d1 := hA3.cell 1
  simp at d2 d3 d1
  clear b0 b2 b3 a0
  go_wp2_with fail
  refine (hy.out W w1 k0 kk1).mono ?_
  rintro e w2 ⟨a', hS', rb', rfl, hR2, to2, kk2⟩
  have ea := hS'.unique hS
  subst ea
  have hlast := hS.last
  have hg := Goes.of h k0 hK1 T1 kk1 hn1 (by have := T1.last; omega) hR2 to2 kk2
  have q1 : (a'.1 == a'.1) = true := by simp
  have q2 : (a'.1 == a'.1) = true := by simp
  have hnum := hide (fun w => num_calls (w := w) a'.1)
  generalize a'.1 = y1 at q1 q2 hnum ⊢
  clear d1 d2 d3
  go_wp2_with fail
  refine (hnum.out _).mono ?_
  rintro e w5 ⟨rfl, rfl⟩
  go_wp2_with fail
  go_ret
  exact ⟨rfl, _, hg⟩

set_option maxRecDepth 100000 in
set_option maxHeartbeats 1000000 in
theorem told_total {w : World} {p : Pr} (h : PairAt w p) (wb : Nat) (On A B C : Int) (S : ByteArray) (a1 : Option Addr) (n1 c1 : Nat) : Calls Tryz.prog 61 #[.pointer (some ⟨wb, 0, none⟩), prV p, opV 12 On A B C S (.slice a1 n1 c1)] w (Answers p w) := by
  unfold prV opV
  obtain ⟨z, hz⟩ : ∃ z, z = w.heap.size := ⟨_, rfl⟩
  have kA := Keeps.alloc [] w (.cells #[.pointer (some ⟨p.kb.k, 0, none⟩), .pointer (some ⟨p.rb.r, 0, none⟩)] 111)
  have hA := CellsAt.new w #[.pointer (some ⟨p.kb.k, 0, none⟩), .pointer (some ⟨p.rb.r, 0, none⟩)] 111
  have zA := size_alloc' w (.cells #[.pointer (some ⟨p.kb.k, 0, none⟩), .pointer (some ⟨p.rb.r, 0, none⟩)] 111)
  have kB := Keeps.alloc [] (w.alloc (.cells #[.pointer (some ⟨p.kb.k, 0, none⟩), .pointer (some ⟨p.rb.r, 0, none⟩)] 111)) (.cells #[.int .i64 12, .int .i64 On, .int .i64 A, .int .i64 B, .int .i64 C, .string S, .slice a1 n1 c1] 80)
  have hB := CellsAt.new (w.alloc (.cells #[.pointer (some ⟨p.kb.k, 0, none⟩), .pointer (some ⟨p.rb.r, 0, none⟩)] 111)) #[.int .i64 12, .int .i64 On, .int .i64 A, .int .i64 B, .int .i64 C, .string S, .slice a1 n1 c1] 80
  rw [zA, ← hz] at hB
  rw [← hz] at hA
  have hA2 := hA.keeps kB (by simp)
  have k0 := kA.trans kB
  have hlt : ∀ i ∈ p.own, i < z := fun i hi => by rw [hz]; exact h.lt i hi
  have Hz := hide hz
  clear hz zA hA kA kB
  have hx := hide (fun (W : World) (k : Keeps [] w W) => xtotal (h.k.keeps k (by simp)) h.t)
  have hy := hide (fun (W : World) (k : Keeps [] w W) => ytotal (h.r.keeps0 k) h.t)
  have hkk := hide (fun (W : World) (k : Keeps [] w W) => h.k.keeps k (by simp))
  have hrr := hide (fun (W : World) (k : Keeps [] w W) => h.r.keeps0 k)
  generalize p.R.tot p.R.ord = a at hx hy
  go_enter Tryz.func61, Tryz.ntmps61
  go_wp2_with fail
  generalize (w.alloc (.cells #[.pointer (some ⟨p.kb.k, 0, none⟩), .pointer (some ⟨p.rb.r, 0, none⟩)] 111)).alloc (.cells #[.int .i64 12, .int .i64 On, .int .i64 A, .int .i64 B, .int .i64 C, .string S, .slice a1 n1 c1] 80) = W at k0 hA2 hB ⊢
  rw [← Hz.out]
  have b0 := hB.cell 0
  have b2 := hB.cell 2
  have b3 := hB.cell 3
  have a0 := hA2.cell 0
  simp at b0 b2 b3 a0
  go_wp2_with fail
  refine (hx.out W k0).mono ?_
  rintro e w1 ⟨rfl, rfl⟩
  have d1 := hA2.cell 1
  simp at d1
  clear b2 b3 a0
  go_wp2_with fail
  refine (hy.out w1 k0).mono ?_
  rintro e w2 ⟨rfl, kk2⟩
  have hg := Goes.still h k0 (hkk.out w1 k0) (Keeps.refl _ _) ((hrr.out w1 k0).keeps0 kk2) kk2
  have q1 : ((a : Int) == a) = true := by simp
  have hnum := hide (fun w => num_calls (w := w) 0)
  clear d1
  go_wp2_with fail
  refine (hnum.out _).mono ?_
  rintro e w5 ⟨rfl, rfl⟩
  go_wp2_with fail
  go_ret
  exact ⟨rfl, _, hg⟩

end Go.Proofs.YtgjomknpjigkhaaGreatDoor
