/- The law's told: Order. -/
import Derived.Test.YtgjomknpjigkhaaGreatDoorC4
namespace Go.Proofs.YtgjomknpjigkhaaGreatDoor
open Go.RowKit Go.Shelf

structure Ordered' (B : Nat) (w w' : World) (wb : Nat) (p : Pr) (vk vi vi' : Value) (es es4 : List (Nat × Nat × Nat)) : Prop where
  mw : MW B w' wb vk vi' (es ++ es4)
  four : es4.length = 4
  new : ∀ e ∈ es4, w.heap.size ≤ e.1
  stays : Stays w vi vi'
  k : Keeps (wb :: vi.ownBlock.toList) w w'
  pair : PairAt w' p

set_option maxRecDepth 100000 in
set_option maxHeartbeats 2000000 in
theorem told_order {B : Nat} {w : World} {p : Pr} (h : PairAt w p) {wb : Nat} {vk vi : Value} {es : List (Nat × Nat × Nat)} (hM : MW B w wb vk vi es) (h4 : es.length % 4 = 0) (hlen : es.length ≤ 50000000) (hB : B ≤ w.heap.size) (hwp : wb ∉ p.own) (hvp : ∀ i, vi.ownBlock = some i → i ∉ p.own)
    (On A B' C : Int) (S : ByteArray) (a1 : Option Addr) (n1 c1 : Nat) : Calls Tryz.prog 61 #[.pointer (some ⟨wb, 0, none⟩), prV p, opV 13 On A B' C S (.slice a1 n1 c1)] w fun e w' => e = .returned (.bool true) ∧ ∃ vi' es4, Ordered' B w w' wb p vk vi vi' es es4 := by
  unfold prV opV
  obtain ⟨z, hz⟩ : ∃ z, z = w.heap.size := ⟨_, rfl⟩
  have kA := Keeps.alloc [] w (.cells #[.pointer (some ⟨p.kb.k, 0, none⟩), .pointer (some ⟨p.rb.r, 0, none⟩)] 111)
  have hA := CellsAt.new w #[.pointer (some ⟨p.kb.k, 0, none⟩), .pointer (some ⟨p.rb.r, 0, none⟩)] 111
  have zA := size_alloc' w (.cells #[.pointer (some ⟨p.kb.k, 0, none⟩), .pointer (some ⟨p.rb.r, 0, none⟩)] 111)
  have kB := Keeps.alloc [] (w.alloc (.cells #[.pointer (some ⟨p.kb.k, 0, none⟩), .pointer (some ⟨p.rb.r, 0, none⟩)] 111)) (.cells #[.int .i64 13, .int .i64 On, .int .i64 A, .int .i64 B', .int .i64 C, .string S, .slice a1 n1 c1] 80)
  have hB2 := CellsAt.new (w.alloc (.cells #[.pointer (some ⟨p.kb.k, 0, none⟩), .pointer (some ⟨p.rb.r, 0, none⟩)] 111)) #[.int .i64 13, .int .i64 On, .int .i64 A, .int .i64 B', .int .i64 C, .string S, .slice a1 n1 c1] 80
  rw [zA, ← hz] at hB2
  rw [← hz] at hA
  have hA2 := hA.keeps kB (by simp)
  have k0 := kA.trans kB
  have Hz := hide hz
  clear hz zA hA kA kB
  have n8 := h.t.inv.n8
  have n1' := h.t.inv.n1
  have hx := hide (fun (W : World) (k : Keeps [] w W) => korder_calls (h.k.keeps k (by simp)) h.t.inv)
  have hrr := hide (fun (W : World) (k : Keeps [] w W) => h.r.keeps0 k)
  have hpp := hide (fun (W : World) (k : Keeps [] w W) => h.keeps k (by simp))
  have hMM := hide (fun (W : World) (k : Keeps [] w W) => hM.keeps k (by simp) (by simp) (by simp))
  have hesl : ∀ e ∈ es, e.1 < w.heap.size := fun e he => by
    obtain ⟨k, hk⟩ := List.mem_iff_getElem?.1 he
    exact (hM.marks k e.1 e.2.1 e.2.2 hk).2.2.2.lt
  have Hes := hide hesl
  clear hesl
  go_enter Tryz.func61, Tryz.ntmps61
  go_wp2_with fail
  generalize (w.alloc (.cells #[.pointer (some ⟨p.kb.k, 0, none⟩), .pointer (some ⟨p.rb.r, 0, none⟩)] 111)).alloc (.cells #[.int .i64 13, .int .i64 On, .int .i64 A, .int .i64 B', .int .i64 C, .string S, .slice a1 n1 c1] 80) = W at k0 hA2 hB2 ⊢
  rw [← Hz.out]
  have b0 := hB2.cell 0
  have a0 := hA2.cell 0
  simp at b0 a0
  go_wp2_with fail
  refine (hx.out W k0).mono ?_
  rintro e w1 ⟨v, rfl, ov, hK1, kk1⟩
  have k01 := k0.trans kk1
  obtain ⟨g, c, rfl⟩ := own_form ov (by show 0 < p.K.S.n; omega)
  have hR1 := hrr.out w1 k01
  have hA3 := hA2.keeps kk1 (by simp)
  have a1' := hA3.cell 1
  simp at a1'
  have r2 := hR1.head.cell 2
  simp at r2
  have hn : p.K.S.order.length = p.R.n := h.t.n.symm
  have hrow := (Row3.of_own ov).rowIs
  have hrow2 := hR1.rowIs
  rw [h.t.ord] at hrow2
  have hsame := hide (sameInts_calls p.K.S.order g p.rb.go c p.rb.co (by show p.K.S.n ≤ 1000; omega) hrow hrow2)
  rw [hn] at ov hsame ⊢
  have gB := (own_base ov g rfl).1
  have s01 := k0.size
  clear b0 a0
  go_wp2_with fail
  refine hsame.out.mono ?_
  rintro e w2 ⟨rfl, k2⟩
  have k02 := k01.trans k2
  have ov2 := ownsRow_base (ownsRow_kept ov k2 (by simp)) (show B ≤ W.heap.size by omega)
  have hM2 := hMM.out w2 k02
  have hnum := hide (numbered_calls hM2 h4 hlen g p.R.n c p.K.S.order (by rw [h.t.n]; omega) (by rw [h.t.n]; omega) ov2 (fun e he => by have := Hes.out e he; omega))
  clear a1' r2
  go_wp2_with fail
  refine hnum.out.mono ?_
  rintro e w3 ⟨rfl, vi', es4, q1, q2, q3, q4, q5⟩
  have hp3 : PairAt w3 p := (hpp.out w2 k02).keeps q5 (fun i hi x => by
    simp only [List.mem_cons, Option.mem_toList] at x
    rcases x with e | e | e
    · exact hwp (e ▸ hi)
    · have := h.lt i hi; omega
    · exact hvp i e hi)
  have s02 := k02.size
  have s1 := kk1.size
  go_wp2_with fail
  go_ret
  refine ⟨rfl, vi', es4, q1, q2, fun e he => ?_, ?_, ?_, hp3⟩
  · rcases q3 e he with a | a <;> omega
  · rcases q4 with a | ⟨q, a, c⟩
    · exact .inl a
    · exact .inr ⟨q, a, by omega⟩
  · refine (k02.mono (T' := wb :: vi.ownBlock.toList) (by simp)).trans_new q5 (fun i hi => ?_)
    simp only [List.mem_cons] at hi ⊢
    rcases hi with e | e | e
    · exact .inl (.inl e)
    · exact .inr (by omega)
    · exact .inl (.inr e)

end Go.Proofs.YtgjomknpjigkhaaGreatDoor
