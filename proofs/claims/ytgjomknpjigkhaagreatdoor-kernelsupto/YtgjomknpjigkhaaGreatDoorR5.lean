/- R5. -/
import Derived.Test.YtgjomknpjigkhaaGreatDoorMNodes
import Derived.Test.YtgjomknpjigkhaaGreatDoorMFold
namespace Go.Proofs.YtgjomknpjigkhaaGreatDoor
open Go.RowKit Go.Shelf

/-- The set of the first variables of some nodes, as a number. -/
def SupOf (xs : List (Int × Tri)) (s : Int) : Prop := 0 ≤ s ∧ s < 256 ∧ ∀ v : Int, 0 ≤ v → v < 8 → (bitB s v = true ↔ ∃ x ∈ xs, x.2.1 = v)

theorem SupOf.nil : SupOf [] 0 := ⟨by decide, by decide, fun v _ _ => by simp [bitB]⟩

theorem bitB_nat (a : Nat) (v : Nat) : bitB (a : Int) (v : Int) = a.testBit v := by
  unfold bitB
  rw [Nat.testBit_eq_decide_div_mod_eq, Int.toNat_natCast]
  congr 1
  rw [eq_iff_iff]
  constructor
  · intro h; have : ((a / 2 ^ v % 2 : Nat) : Int) = 1 := by push_cast; exact h
    omega
  · intro h; have : ((a / 2 ^ v % 2 : Nat) : Int) = 1 := by omega
    push_cast at this; exact this

theorem SupOf.snoc {xs : List (Int × Tri)} {s v : Int} {x : Int × Tri} (h : SupOf xs s) (hv : x.2.1 = v) (v0 : 0 ≤ v) (v1 : v < 8) : SupOf (xs ++ [x]) (bits BinOp.or IntKind.i64 s (2 ^ v.toNat)) := by
  obtain ⟨s0, s1, hs⟩ := h
  obtain ⟨a, rfl⟩ := Int.eq_ofNat_of_zero_le s0
  obtain ⟨k, rfl⟩ := Int.eq_ofNat_of_zero_le v0
  have hk : k < 8 := by omega
  have ha : a < 2 ^ 8 := by omega
  have hp : 2 ^ k < 2 ^ 8 := Nat.pow_lt_pow_right (by decide) hk
  have e1 : ((2 : Int) ^ ((k : Int).toNat)) = ((2 ^ k : Nat) : Int) := by rw [Int.toNat_natCast]; push_cast; rfl
  have e2 := (bits_nat .i64 62 (by decide) (fun n a b => by rw [IntKind.wrap_i64]; omega) a (2 ^ k) (by omega) (by omega)).2
  rw [e1, e2]
  have hlt : (a ||| 2 ^ k) < 2 ^ 8 := Nat.or_lt_two_pow ha hp
  refine ⟨by omega, by omega, fun u u0 u1 => ?_⟩
  obtain ⟨j, rfl⟩ := Int.eq_ofNat_of_zero_le u0
  rw [bitB_nat, Nat.testBit_or, Nat.testBit_two_pow, Bool.or_eq_true]
  have := hs j (by omega) u1
  rw [bitB_nat] at this
  rw [this]
  constructor
  · rintro (⟨y, hy, e⟩ | h)
    · exact ⟨y, List.mem_append.2 (.inl hy), e⟩
    · refine ⟨x, by simp, ?_⟩
      simp only [decide_eq_true_eq] at h
      omega
  · rintro ⟨y, hy, e⟩
    rcases List.mem_append.1 hy with hy | hy
    · exact .inl ⟨y, hy, e⟩
    · simp only [List.mem_singleton] at hy
      subst hy
      refine .inr ?_
      simp only [decide_eq_true_eq]
      omega

attribute [local go_sem] Oper.semAt_some

set_option maxRecDepth 100000 in
set_option maxHeartbeats 1000000 in
theorem support_in (n : Nat) {w : World} {B : SB} {S : ST} (hS : StoreAt w B S) (hw : WF S) (f : Int) (okf : S.ok f) (hN : S.N.length ≤ 100000000) (n8 : S.n ≤ 8) :
    CallsIn Fence.wide n Tryz.prog 180 #[.pointer (some ⟨B.b, 0, none⟩), .int .i64 f] w fun e w' => (∃ s xs, e = .returned (.int .i64 s) ∧ GoodNodes S [f] xs ∧ SupOf xs s) ∧ Keeps [] w w' := by
  refine callsIn_of_wp_marks Tryz.func180 rfl trivial ?_ rfl
  simp only [Tryz.ntmps180, List.size_toArray, List.length_cons, List.length_nil, Nat.reduceAdd, Nat.reduceSub, Array.replicate_succ, Array.replicate_zero, List.push_toArray, List.append_toArray, List.nil_append, List.cons_append]
  gi_wp2_with fail
  refine ⟨trivial, fun h => (nomatch h), ?_⟩
  refine (callsIn_wide.2 (nodes_calls _ _ _ _ _)).mono ?_
  rintro e W ⟨rfl, rfl⟩
  gi_wp2_with fail
  have z1 := size_alloc' w (.cells #[.int .i64 0] 3)
  have z2 := size_alloc' (w.alloc (.cells #[.int .i64 0] 3)) (.cells #[.int .i64 f] 3)
  have z3 := size_alloc' ((w.alloc (.cells #[.int .i64 0] 3)).alloc (.cells #[.int .i64 f] 3)) (.cells #[.pointer (some ⟨B.b, 0, none⟩)] 135)
  have a1 := CellsAt.new w #[.int .i64 0] 3
  have a2 := CellsAt.new (w.alloc (.cells #[.int .i64 0] 3)) #[.int .i64 f] 3
  have a3 := CellsAt.new ((w.alloc (.cells #[.int .i64 0] 3)).alloc (.cells #[.int .i64 f] 3)) #[.pointer (some ⟨B.b, 0, none⟩)] 135
  have a4 := CellsAt.new (((w.alloc (.cells #[.int .i64 0] 3)).alloc (.cells #[.int .i64 f] 3)).alloc (.cells #[.pointer (some ⟨B.b, 0, none⟩)] 135)) #[.slice (some ⟨w.heap.size + 1, 0, none⟩) 1 1] 40
  have k1 := Keeps.alloc [] w (.cells #[.int .i64 0] 3)
  have k2 := Keeps.alloc [] (w.alloc (.cells #[.int .i64 0] 3)) (.cells #[.int .i64 f] 3)
  have k3 := Keeps.alloc [] ((w.alloc (.cells #[.int .i64 0] 3)).alloc (.cells #[.int .i64 f] 3)) (.cells #[.pointer (some ⟨B.b, 0, none⟩)] 135)
  have k4 := Keeps.alloc [] (((w.alloc (.cells #[.int .i64 0] 3)).alloc (.cells #[.int .i64 f] 3)).alloc (.cells #[.pointer (some ⟨B.b, 0, none⟩)] 135)) (.cells #[.slice (some ⟨w.heap.size + 1, 0, none⟩) 1 1] 40)
  have z4 := size_alloc' (((w.alloc (.cells #[.int .i64 0] 3)).alloc (.cells #[.int .i64 f] 3)).alloc (.cells #[.pointer (some ⟨B.b, 0, none⟩)] 135)) (.cells #[.slice (some ⟨w.heap.size + 1, 0, none⟩) 1 1] 40)
  rw [z1] at z2 a2
  rw [z2] at z3 a3
  rw [z3] at z4 a4
  have b1 := ((a1.keeps k2 (by simp)).keeps k3 (by simp)).keeps k4 (by simp)
  have b2 := (a2.keeps k3 (by simp)).keeps k4 (by simp)
  have b3 := a3.keeps k4 (by simp)
  have kk := ((k1.trans k2).trans k3).trans k4
  have hS4 := hS.keeps kk (by simp)
  clear k1 k2 k3 k4 a1 a2 a3 z1 z2 z3
  generalize (((w.alloc (.cells #[.int .i64 0] 3)).alloc (.cells #[.int .i64 f] 3)).alloc (.cells #[.pointer (some ⟨B.b, 0, none⟩)] 135)).alloc (.cells #[.slice (some ⟨w.heap.size + 1, 0, none⟩) 1 1] 40) = W0 at z4 a4 b1 b2 b3 kk hS4 ⊢
  have hrow : RowIs W0 (w.heap.size + 1) [f] := ⟨_, b2, fun i x hx => by
    cases i with
    | zero => simp only [List.getElem?_cons_zero, Option.some.injEq] at hx; subst hx; rfl
    | succ i => simp at hx⟩
  have hit := nodes_iter hS4 hw (w.heap.size + 1 + 1 + 1) (w.heap.size + 1 + 1) (w.heap.size + 1) 1 [f] a4 b3 hrow (by intro r hr; simp only [List.mem_singleton] at hr; subst hr; exact okf) (by simp) hN [w.heap.size] (by
    intro t ht
    simp only [List.mem_singleton] at ht
    subst ht
    exact ⟨by omega, hS.fresh' (Nat.le_refl _), by omega⟩)
  refine range_law (gf := 280) (lb := #[.pointer (some ⟨w.heap.size + 1 + 1 + 1, 0, none⟩), .pointer (some ⟨w.heap.size + 1 + 1, 0, none⟩)]) rfl (enters_of Tryz.func280 (by kernel_rfl) rfl) (T := [w.heap.size]) (by simp; omega) hit (fun _ => rfl)
    (fun pre W => ∃ s, CellsAt W w.heap.size #[.int .i64 s] ∧ SupOf pre s) (fun pre W1 W2 ⟨s, h, h2⟩ hb => ⟨s, h.of_heap (hb.block _ (by omega)), h2⟩) ⟨0, b1, SupOf.nil⟩
    (fun x a' W => ∃ z, W0.heap.size + 1 < z ∧ CellsAt W z #[.int .i64 x.2.1, .int .i64 x.2.2.1, .int .i64 x.2.2.2] ∧ a' = { tmps := #[.pointer (some ⟨B.b, 0, none⟩), .int .i64 f, undef, undef, .int .i64 0, .pointer (some ⟨w.heap.size, 0, none⟩), undef, .pointer (some ⟨z, 0, none⟩), .pointer (some ⟨B.b, 0, none⟩), .int .i64 f, .slice (some ⟨w.heap.size + 1, 0, none⟩) 1 1,
      .func (.func 280) #[] #[.pointer (some ⟨w.heap.size + 1 + 1 + 1, 0, none⟩), .pointer (some ⟨w.heap.size + 1 + 1, 0, none⟩)], .int .i64 x.1, .agg #[.int .i64 x.2.1, .int .i64 x.2.2.1, .int .i64 x.2.2.2], undef, undef, undef, undef, undef, undef], defers := [] })
    (fun x a' W1 W2 ⟨z, hz, h, e⟩ hk => ⟨z, hz, h.keeps hk (by simp; omega), e⟩) ?assign ?body ?done
  case assign =>
    intro l pre x W K hlt hi hc hK
    simp only [eN, List.zip_toArray, List.zip_cons_cons, List.zip_nil_right, List.foldl_toArray', List.size_toArray, List.length_cons, List.length_nil, List.foldl_cons, List.foldl_nil, List.setIfInBounds_toArray, List.set_cons_succ, List.set_cons_zero]
    gi_wp2
    refine hK _ _ ⟨W.heap.size, hlt, CellsAt.new W _ _, ?_⟩ (Keeps.alloc _ _ _)
    rfl
  case body =>
    rintro l pre x a' W hlt ⟨s, hi, hsup⟩ hc ⟨z, hz, hz2, rfl⟩
    have c0 := hi.cell 0
    have f0 := hi.frozen 0
    have n0 := hz2.cell 0
    simp at c0 n0
    obtain ⟨x1, v, lo, hh⟩ := x
    obtain ⟨_, _, v0, v1, _⟩ := hw.node x1 v lo hh hc.1
    have v8 : v < 8 := by omega
    have v63 : v < 63 := by omega
    dsimp only at n0 ⊢
    have hfol : Tryz.prog.follows .mixedOrders = true := by kernel_rfl
    have hwr : IntKind.i64.wrap ((2 : Int) ^ v.toNat) = 2 ^ v.toNat := by
      have hp : 2 ^ v.toNat < 2 ^ 8 := Nat.pow_lt_pow_right (by decide) (by omega)
      have e1 : ((2 : Int) ^ v.toNat) = ((2 ^ v.toNat : Nat) : Int) := by push_cast; rfl
      rw [e1, IntKind.wrap_i64]
      generalize 2 ^ v.toNat = m at hp
      omega
    have Hwr := hide hwr
    clear hwr
    gi_wp2
    gi_region_with_o (fail)
    all_goals
      refine ⟨⟨_, ?_, hsup.snoc (x := (x1, v, lo, hh)) (v := v) rfl v0 v8⟩, (Keeps.setCell W ⟨w.heap.size, 0, none⟩ _).trans (Keeps.drew _ _)⟩
      rw [Hwr.out]
      have := hi.setCell 0 (.int .i64 (bits BinOp.or IntKind.i64 s (2 ^ v.toNat)))
      exact CellsAt.of_heap (w := W.setCell ⟨w.heap.size, 0, none⟩ (.int .i64 (bits BinOp.or IntKind.i64 s (2 ^ v.toNat)))) (by simpa using this) rfl
  case done =>
    rintro xs W hG ⟨s, hi, hsup⟩ hk hlt hD
    have c0 := hi.cell 0
    simp at c0
    gi_wp2
    refine ⟨by simp, .inl ⟨_, _, rfl, run_takeDeferred hD, ?_⟩⟩
    refine ⟨_, results_tmp rfl _ _ _, ⟨s, xs, rfl, hG, hsup⟩, ?_⟩
    refine ((kk.trans_new hk ?_).trans_new (Keeps.putObj W W0.heap.size _) ?_)
    · intro i hi; simp only [List.mem_singleton] at hi; exact .inr (by omega)
    · intro i hi; simp only [List.mem_singleton] at hi; exact .inr (by omega)

theorem support_calls {w : World} {B : SB} {S : ST} (hS : StoreAt w B S) (hw : WF S) (f : Int) (okf : S.ok f) (hN : S.N.length ≤ 100000000) (n8 : S.n ≤ 8) :
    Calls Tryz.prog 180 #[.pointer (some ⟨B.b, 0, none⟩), .int .i64 f] w fun e w' => (∃ s xs, e = .returned (.int .i64 s) ∧ GoodNodes S [f] xs ∧ SupOf xs s) ∧ Keeps [] w w' :=
  callsIn_wide.1 (support_in 0 hS hw f okf hN n8)

end Go.Proofs.YtgjomknpjigkhaaGreatDoor
