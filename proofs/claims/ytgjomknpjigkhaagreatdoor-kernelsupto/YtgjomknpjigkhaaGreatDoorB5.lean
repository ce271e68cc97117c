/- The kernel's errors. -/
import Derived.Test.YtgjomknpjigkhaaGreatDoorA7
namespace Go.Proofs.YtgjomknpjigkhaaGreatDoor
open Go.RowKit Go.Shelf

theorem klook_none {w : World} {b : KB} {K : KS} (hK : KernelAt w b K) {f : Int} (hf : get K.R f = none) : (Instr.lookup 146 (.map (some b.rr)) (.int .i64 f) true).run Tryz.prog w = .ok (.tuple #[.int .i64 0, .bool false]) w := by
  have := run_look (P := Tryz.prog) Tryz.underlying146 key3 (z := .int .i64 0) zero3 hK.roots f true
  rw [hf] at this
  exact this

/-- A lookup of a handle, there or not. -/
theorem klook_any {w : World} {b : KB} {K : KS} (hK : KernelAt w b K) (f : Int) : ∃ x, (Instr.lookup 146 (.map (some b.rr)) (.int .i64 f) true).run Tryz.prog w = .ok (.tuple #[.int .i64 x, .bool (get K.R f).isSome]) w := by
  cases hf : get K.R f with
  | none => exact ⟨0, klook_none hK hf⟩
  | some r => exact ⟨r, klook hK hf⟩

/-- The same world, an error. -/
def KErr (w : World) (x : Int) (e : Ending) (w' : World) : Prop := e = .returned (.tuple #[.int .i64 0, .int .i64 x]) ∧ w' = w

set_option maxHeartbeats 400000 in
theorem isVariable_no {w : World} {b : KB} {K : KS} (hK : KernelAt w b K) (i : Int) (hi : i < 0 ∨ (K.S.n : Int) ≤ i) :
    Calls Tryz.prog 165 #[.pointer (some ⟨b.k, 0, none⟩), .int .i64 i] w fun e w' => e = .returned (.bool false) ∧ w' = w := by
  have c0 := hK.head.cell 0
  simp at c0
  have hv := hide (vars_calls hK.store)
  by_cases i0 : i < 0
  · have j0 : ¬ 0 ≤ i := by omega
    go_enter Tryz.func165, Tryz.ntmps165
    go_wp2_with fail
    go_ret
    exact ⟨rfl, rfl⟩
  · have j0 : 0 ≤ i := by omega
    have dq : decide (i < (K.S.n : Int)) = false := by simp; omega
    go_enter Tryz.func165, Tryz.ntmps165
    go_wp2_with fail
    refine hv.out.mono ?_
    rintro e w' ⟨rfl, rfl⟩
    go_wp2_with fail
    go_ret
    exact ⟨rfl, rfl⟩

set_option maxHeartbeats 400000 in
theorem isAssignment_no {w : World} {b : KB} {K : KS} (hK : KernelAt w b K) (n8 : K.S.n ≤ 8) (a : Int) (ha : a < 0 ∨ ((2 ^ K.S.n : Nat) : Int) ≤ a) :
    Calls Tryz.prog 173 #[.pointer (some ⟨b.k, 0, none⟩), .int .i64 a] w fun e w' => e = .returned (.bool false) ∧ w' = w := by
  have c0 := hK.head.cell 0
  simp at c0
  have hv := hide (vars_calls hK.store)
  generalize K.S.n = n at hv n8 ha
  have n0 : (0 : Int) ≤ n := by omega
  have n63 : (n : Int) < 63 := by omega
  have hwr := wrap_pow n0 (by omega : (n : Int) ≤ 8)
  rw [Int.toNat_natCast] at hwr
  have hwr' : wrap64 ((2 : Int) ^ n) = 2 ^ n := by
    have := hwr
    rw [IntKind.wrap_i64] at this
    unfold wrap64
    exact this
  by_cases a0 : a < 0
  · have j0 : ¬ 0 ≤ a := by omega
    clear ha
    go_enter Tryz.func173, Tryz.ntmps173
    go_wp2_with fail
    go_ret
    exact ⟨rfl, rfl⟩
  · have j0 : 0 ≤ a := by omega
    have a2 : (2 : Int) ^ n ≤ a := by
      have e1 : ((2 : Int) ^ n) = ((2 ^ n : Nat) : Int) := by push_cast; rfl
      rw [e1]
      rcases ha with h | h
      · omega
      · exact h
    have dq : decide (a < (2 : Int) ^ n) = false := by simp; exact a2
    clear ha a2
    go_enter Tryz.func173, Tryz.ntmps173
    go_wp2_with fail
    refine hv.out.mono ?_
    rintro e w' ⟨rfl, rfl⟩
    go_wp2_with fail
    go_ret
    exact ⟨rfl, rfl⟩

set_option maxHeartbeats 400000 in
theorem kvar_bad {w : World} {b : KB} {K : KS} (hK : KernelAt w b K) (i : Int) (hi : i < 0 ∨ (K.S.n : Int) ≤ i) : Calls Tryz.prog 93 #[.pointer (some ⟨b.k, 0, none⟩), .int .i64 i] w (KErr w 1) := by
  have hv := hide (isVariable_no hK i hi)
  go_enter Tryz.func93, Tryz.ntmps93
  go_wp2_with fail
  refine hv.out.mono ?_
  rintro e w' ⟨rfl, rfl⟩
  go_wp2_with fail
  go_ret2
  exact ⟨rfl, rfl⟩

set_option maxHeartbeats 400000 in
theorem knot_bad {w : World} {b : KB} {K : KS} (hK : KernelAt w b K) (f : Int) (hf : get K.R f = none) : Calls Tryz.prog 95 #[.pointer (some ⟨b.k, 0, none⟩), .int .i64 f] w (KErr w 2) := by
  have c1 := hK.head.cell 1
  simp at c1
  have hl := klook_none hK hf
  go_enter Tryz.func95, Tryz.ntmps95
  go_wp2_with fail
  go_ret2
  exact ⟨rfl, rfl⟩

set_option maxHeartbeats 800000 in
theorem kapply_arg {w : World} {b : KB} {K : KS} (_hK : KernelAt w b K) (op f g : Int) (ho : op < 0 ∨ 3 < op) : Calls Tryz.prog 97 #[.pointer (some ⟨b.k, 0, none⟩), .int .i64 op, .int .i64 f, .int .i64 g] w (KErr w 1) := by
  by_cases o0 : op < 0
  · go_enter Tryz.func97, Tryz.ntmps97
    go_wp2_with fail
    go_ret2
    exact ⟨rfl, rfl⟩
  · have o3 : 3 < op := by omega
    go_enter Tryz.func97, Tryz.ntmps97
    go_wp2_with fail
    go_ret2
    exact ⟨rfl, rfl⟩

set_option maxHeartbeats 800000 in
theorem kapply_bad {w : World} {b : KB} {K : KS} (hK : KernelAt w b K) (op f g : Int) (o0 : 0 ≤ op) (o3 : op ≤ 3) (hbad : get K.R f = none ∨ get K.R g = none) : Calls Tryz.prog 97 #[.pointer (some ⟨b.k, 0, none⟩), .int .i64 op, .int .i64 f, .int .i64 g] w (KErr w 2) := by
  have c1 := hK.head.cell 1
  simp at c1
  have n0 : ¬ op < 0 := by omega
  have n3 : ¬ 3 < op := by omega
  obtain ⟨x, hx⟩ := klook_any hK f
  obtain ⟨y, hy⟩ := klook_any hK g
  have hno : ¬ ((get K.R f).isSome = true ∧ (get K.R g).isSome = true) := by
    rintro ⟨a, b⟩
    rcases hbad with h | h
    · rw [h] at a; cases a
    · rw [h] at b; cases b
  clear hbad
  generalize (get K.R f).isSome = p at hx hno
  generalize (get K.R g).isSome = q at hy hno
  cases p <;> cases q
  case true.true => exact absurd ⟨rfl, rfl⟩ hno
  all_goals
    clear hno
    go_enter Tryz.func97, Tryz.ntmps97
    go_wp2_with fail
    go_ret2
    exact ⟨rfl, rfl⟩

set_option maxHeartbeats 800000 in
theorem kite_bad {w : World} {b : KB} {K : KS} (hK : KernelAt w b K) (f g k : Int) (hbad : get K.R f = none ∨ get K.R g = none ∨ get K.R k = none) : Calls Tryz.prog 99 #[.pointer (some ⟨b.k, 0, none⟩), .int .i64 f, .int .i64 g, .int .i64 k] w (KErr w 2) := by
  have c1 := hK.head.cell 1
  simp at c1
  obtain ⟨x, hx⟩ := klook_any hK f
  obtain ⟨y, hy⟩ := klook_any hK g
  obtain ⟨z, hz⟩ := klook_any hK k
  have hno : ¬ ((get K.R f).isSome = true ∧ (get K.R g).isSome = true ∧ (get K.R k).isSome = true) := by
    rintro ⟨a, b, c⟩
    rcases hbad with h | h | h
    · rw [h] at a; cases a
    · rw [h] at b; cases b
    · rw [h] at c; cases c
  clear hbad
  generalize (get K.R f).isSome = p at hx hno
  generalize (get K.R g).isSome = q at hy hno
  generalize (get K.R k).isSome = r at hz hno
  cases p <;> cases q <;> cases r
  case true.true.true => exact absurd ⟨rfl, rfl, rfl⟩ hno
  all_goals
    clear hno
    go_enter Tryz.func99, Tryz.ntmps99
    go_wp2_with fail
    go_ret2
    exact ⟨rfl, rfl⟩

set_option maxHeartbeats 400000 in
theorem kexists_arg {w : World} {b : KB} {K : KS} (hK : KernelAt w b K) (n8 : K.S.n ≤ 8) (f X : Int) (hX : X < 0 ∨ ((2 ^ K.S.n : Nat) : Int) ≤ X) : Calls Tryz.prog 101 #[.pointer (some ⟨b.k, 0, none⟩), .int .i64 f, .int .i64 X] w (KErr w 1) := by
  have hv := hide (isAssignment_no hK n8 X hX)
  clear hX
  go_enter Tryz.func101, Tryz.ntmps101
  go_wp2_with fail
  refine hv.out.mono ?_
  rintro e w' ⟨rfl, rfl⟩
  go_wp2_with fail
  go_ret2
  exact ⟨rfl, rfl⟩

set_option maxHeartbeats 400000 in
theorem kexists_bad {w : World} {b : KB} {K : KS} (hK : KernelAt w b K) (n8 : K.S.n ≤ 8) (f X : Int) (x0 : 0 ≤ X) (x1 : X < ((2 ^ K.S.n : Nat) : Int)) (hf : get K.R f = none) : Calls Tryz.prog 101 #[.pointer (some ⟨b.k, 0, none⟩), .int .i64 f, .int .i64 X] w (KErr w 2) := by
  have hv := hide (isAssignment_yes hK n8 X x0 x1)
  have c1 := hK.head.cell 1
  simp at c1
  have hl := klook_none hK hf
  clear x1
  go_enter Tryz.func101, Tryz.ntmps101
  go_wp2_with fail
  refine hv.out.mono ?_
  rintro e w' ⟨rfl, rfl⟩
  go_wp2_with fail
  go_ret2
  exact ⟨rfl, rfl⟩

/-- The same world, an error, of a question. -/
def KErrB (w : World) (x : Int) (e : Ending) (w' : World) : Prop := e = .returned (.tuple #[.bool false, .int .i64 x]) ∧ w' = w

set_option maxHeartbeats 400000 in
theorem keval_arg {w : World} {b : KB} {K : KS} (hK : KernelAt w b K) (n8 : K.S.n ≤ 8) (f X : Int) (hX : X < 0 ∨ ((2 ^ K.S.n : Nat) : Int) ≤ X) : Calls Tryz.prog 107 #[.pointer (some ⟨b.k, 0, none⟩), .int .i64 f, .int .i64 X] w (KErrB w 1) := by
  have hv := hide (isAssignment_no hK n8 X hX)
  clear hX
  go_enter Tryz.func107, Tryz.ntmps107
  go_wp2_with fail
  refine hv.out.mono ?_
  rintro e w' ⟨rfl, rfl⟩
  go_wp2_with fail
  go_ret2
  exact ⟨rfl, rfl⟩

set_option maxHeartbeats 400000 in
theorem keval_bad {w : World} {b : KB} {K : KS} (hK : KernelAt w b K) (n8 : K.S.n ≤ 8) (f X : Int) (x0 : 0 ≤ X) (x1 : X < ((2 ^ K.S.n : Nat) : Int)) (hf : get K.R f = none) : Calls Tryz.prog 107 #[.pointer (some ⟨b.k, 0, none⟩), .int .i64 f, .int .i64 X] w (KErrB w 2) := by
  have hv := hide (isAssignment_yes hK n8 X x0 x1)
  have c1 := hK.head.cell 1
  simp at c1
  have hl := klook_none hK hf
  clear x1
  go_enter Tryz.func107, Tryz.ntmps107
  go_wp2_with fail
  refine hv.out.mono ?_
  rintro e w' ⟨rfl, rfl⟩
  go_wp2_with fail
  go_ret2
  exact ⟨rfl, rfl⟩

set_option maxHeartbeats 400000 in
theorem measure_bad {w : World} {b : KB} {K : KS} (hK : KernelAt w b K) (f : Int) (hf : get K.R f = none) (v : Value) : Calls Tryz.prog 178 #[.pointer (some ⟨b.k, 0, none⟩), .int .i64 f, v] w (KErr w 2) := by
  have c1 := hK.head.cell 1
  simp at c1
  have hl := klook_none hK hf
  go_enter Tryz.func178, Tryz.ntmps178
  go_wp2_with fail
  go_ret2
  exact ⟨rfl, rfl⟩

set_option maxHeartbeats 400000 in
theorem kcount_bad {w : World} {b : KB} {K : KS} (hK : KernelAt w b K) (f : Int) (hf : get K.R f = none) : Calls Tryz.prog 109 #[.pointer (some ⟨b.k, 0, none⟩), .int .i64 f] w (KErr w 2) := by
  have c0 := hK.head.cell 0
  simp at c0
  have hc := hide (fun v => measure_bad hK f hf v)
  go_enter Tryz.func109, Tryz.ntmps109
  go_wp2_with fail
  refine (hc.out _).mono ?_
  rintro e w' ⟨rfl, rfl⟩
  go_wp2_with fail
  go_ret2
  exact ⟨rfl, rfl⟩

set_option maxHeartbeats 400000 in
theorem ksupport_bad {w : World} {b : KB} {K : KS} (hK : KernelAt w b K) (f : Int) (hf : get K.R f = none) : Calls Tryz.prog 111 #[.pointer (some ⟨b.k, 0, none⟩), .int .i64 f] w (KErr w 2) := by
  have c0 := hK.head.cell 0
  simp at c0
  have hc := hide (fun v => measure_bad hK f hf v)
  go_enter Tryz.func111, Tryz.ntmps111
  go_wp2_with fail
  refine (hc.out _).mono ?_
  rintro e w' ⟨rfl, rfl⟩
  go_wp2_with fail
  go_ret2
  exact ⟨rfl, rfl⟩

set_option maxHeartbeats 400000 in
theorem ksize_bad {w : World} {b : KB} {K : KS} (hK : KernelAt w b K) (f : Int) (hf : get K.R f = none) : Calls Tryz.prog 113 #[.pointer (some ⟨b.k, 0, none⟩), .int .i64 f] w (KErr w 2) := by
  have c0 := hK.head.cell 0
  simp at c0
  have hc := hide (fun v => measure_bad hK f hf v)
  go_enter Tryz.func113, Tryz.ntmps113
  go_wp2_with fail
  refine (hc.out _).mono ?_
  rintro e w' ⟨rfl, rfl⟩
  go_wp2_with fail
  go_ret2
  exact ⟨rfl, rfl⟩

set_option maxHeartbeats 400000 in
theorem kswap_bad {w : World} {b : KB} {K : KS} (hK : KernelAt w b K) (n8 : K.S.n ≤ 8) (lv : Int) (hl : lv < 0 ∨ (K.S.n : Int) - 2 < lv) : Calls Tryz.prog 120 #[.pointer (some ⟨b.k, 0, none⟩), .int .i64 lv] w fun e w' => e = .returned (.int .i64 1) ∧ w' = w := by
  have c0 := hK.head.cell 0
  simp at c0
  have hv := hide (vars_calls hK.store)
  generalize K.S.n = n at hv n8 hl
  by_cases i0 : lv < 0
  · go_enter Tryz.func120, Tryz.ntmps120
    go_wp2_with fail
    go_ret
    exact ⟨rfl, rfl⟩
  · have i2 : (n : Int) - 2 < lv := by omega
    go_enter Tryz.func120, Tryz.ntmps120
    go_wp2_with fail
    refine hv.out.mono ?_
    rintro e w' ⟨rfl, rfl⟩
    go_wp2_with fail
    go_ret
    exact ⟨rfl, rfl⟩

set_option maxHeartbeats 400000 in
theorem ksift_bad {w : World} {b : KB} {K : KS} (hK : KernelAt w b K) (i : Int) (hi : i < 0 ∨ (K.S.n : Int) ≤ i) : Calls Tryz.prog 122 #[.pointer (some ⟨b.k, 0, none⟩), .int .i64 i] w fun e w' => e = .returned (.int .i64 1) ∧ w' = w := by
  have hv := hide (isVariable_no hK i hi)
  go_enter Tryz.func122, Tryz.ntmps122
  go_wp2_with fail
  refine hv.out.mono ?_
  rintro e w' ⟨rfl, rfl⟩
  go_wp2_with fail
  go_ret
  exact ⟨rfl, rfl⟩

set_option maxHeartbeats 400000 in
theorem kdrop_bad {w : World} {b : KB} {K : KS} (hK : KernelAt w b K) (f : Int) (hf : get K.R f = none) : Calls Tryz.prog 124 #[.pointer (some ⟨b.k, 0, none⟩), .int .i64 f] w fun e w' => e = .returned (.int .i64 2) ∧ w' = w := by
  have c1 := hK.head.cell 1
  simp at c1
  have hl := klook_none hK hf
  go_enter Tryz.func124, Tryz.ntmps124
  go_wp2_with fail
  go_ret
  exact ⟨rfl, rfl⟩

set_option maxHeartbeats 400000 in
theorem knew_bad {w : World} (n : Int) (hn : n < 1 ∨ 8 < n) : Calls Tryz.prog 54 #[.int .i64 n] w fun e w' => e = .returned (.tuple #[.pointer none, .int .i64 1]) ∧ w' = w := by
  by_cases i0 : n < 1
  · go_enter Tryz.func54, Tryz.ntmps54
    go_wp2_with fail
    go_ret2
    exact ⟨rfl, rfl⟩
  · have i1 : 8 < n := by omega
    go_enter Tryz.func54, Tryz.ntmps54
    go_wp2_with fail
    go_ret2
    exact ⟨rfl, rfl⟩

theorem sub_nodup (l m : List Int) (hl : l.Nodup) (hs : ∀ x ∈ l, x ∈ m) (hm : m.length ≤ l.length) : m.Nodup := by
  apply Classical.byContradiction
  intro hn
  have : ∃ a, ¬ m.count a ≤ 1 := by
    apply Classical.byContradiction
    intro h
    exact hn (List.nodup_iff_count.2 fun a => Classical.byContradiction fun h2 => h ⟨a, h2⟩)
  obtain ⟨a, ha⟩ := this
  have h1 : a ∈ m.erase a := by
    rw [← List.count_pos_iff, List.count_erase_self]
    omega
  have h2 : a ∈ m := List.mem_of_mem_erase h1
  have h3 := nodup_len l (m.erase a) hl (fun x hx => by
    by_cases e : x = a
    · rw [e]; exact h1
    · exact (List.mem_erase_of_ne e).2 (hs x hx))
  rw [List.length_erase_of_mem h2] at h3
  have := List.length_pos_of_mem h2
  omega

theorem seen_not {to : List Int} (n8 : to.length ≤ 8) (h : ¬ Each to.length to) (hr : ∀ u ∈ to, 0 ≤ u ∧ u < to.length) {s : Int} (hs : SupOf (asNodes to) s) : s ≠ 2 ^ to.length - 1 := by
  intro e
  apply h
  obtain ⟨s0, s1, hb⟩ := hs
  have hall : ∀ v : Nat, v < to.length → (v : Int) ∈ to := by
    intro v hv
    have h1 := (hb v (by omega) (by omega)).1 (by
      have hp : 1 ≤ 2 ^ to.length := Nat.one_le_two_pow
      have e1 : s = ((2 ^ to.length - 1 : Nat) : Int) := by
        rw [e, Int.ofNat_sub hp]
        push_cast
        rfl
      rw [e1, bitB_nat, Nat.testBit_two_pow_sub_one]
      simpa using hv)
    obtain ⟨x, hx, ex⟩ := h1
    obtain ⟨u, hu, rfl⟩ := List.mem_map.1 hx
    have : u = v := ex
    rw [← this]
    exact hu
  refine ⟨rfl, hr, ?_⟩
  refine sub_nodup (rng to.length) to ?_ (fun x hx => ?_) (by rw [rng_length]; exact Nat.le_refl _)
  · unfold rng
    exact List.nodup_range.map _ (fun a b hab e => hab (by omega))
  · obtain ⟨k, hk, rfl⟩ := List.mem_map.1 hx
    exact hall k (List.mem_range.1 hk)

set_option maxRecDepth 100000 in
set_option maxHeartbeats 2000000 in
theorem hasEachOnce_no {w : World} {b : KB} {K : KS} (hK : KernelAt w b K) (h : KI K) (bt ct : Nat) (to : List Int) (hrow : RowIs w bt to) (hlen : to.length = K.S.n) (he : ¬ Each K.S.n to) :
    Calls Tryz.prog 175 #[.pointer (some ⟨b.k, 0, none⟩), .slice (some ⟨bt, 0, none⟩) to.length ct] w fun e w' => e = .returned (.bool false) ∧ w' = w := by
  have c0 := hK.head.cell 0
  simp at c0
  have n8 := h.n8
  have n1 := h.n1
  have hv := hide (vars_calls hK.store)
  have hiv := hide (fun i i0 i1 => isVariable_yes hK i i0 i1)
  have hnv := hide (fun i hi => isVariable_no hK i hi)
  rw [← hlen] at hv n8 n1 he hiv hnv
  have He := hide he
  clear he
  have Hhl := hide hlen
  clear hlen
  have l63 : (to.length : Int) < 63 := by omega
  have l0 : (0 : Int) ≤ to.length := by omega
  have hwr : wrap64 ((2 : Int) ^ to.length) = 2 ^ to.length := by
    have := wrap_pow l0 (by omega : (to.length : Int) ≤ 8)
    rw [Int.toNat_natCast, IntKind.wrap_i64] at this
    unfold wrap64
    exact this
  have hwr2 : wrap64 ((2 : Int) ^ to.length - 1) = 2 ^ to.length - 1 := by
    have hp : 2 ^ to.length ≤ 2 ^ 8 := Nat.pow_le_pow_right (by decide) n8
    have e1 : ((2 : Int) ^ to.length) = ((2 ^ to.length : Nat) : Int) := by push_cast; rfl
    rw [e1]
    generalize 2 ^ to.length = m at hp
    unfold wrap64
    omega
  have Hwr := hide hwr
  have Hwr2 := hide hwr2
  clear hwr hwr2
  go_enter Tryz.func175, Tryz.ntmps175
  go_wp2_with fail
  refine hv.out.mono ?_
  rintro e w1 ⟨rfl, rfl⟩
  go_wp2_with fail
  go_loopw [5, 18] (fun t u wr => ∃ (i : Nat) (s : Int), t = .int .i64 s ∧ u = .int .i64 i ∧ i ≤ to.length ∧ SupOf (asNodes (to.take i)) s ∧ (∀ u ∈ to.take i, 0 ≤ u ∧ u < to.length) ∧ wr = w1)
    (fun _ u _ => ((to.length : Int) - intOf u).toNat)
  case atStart => exact ⟨0, 0, rfl, rfl, by omega, by simpa [asNodes] using SupOf.nil, by simp, rfl⟩
  case round =>
    obtain ⟨i, s, rfl, rfl, hi, hs, hr, rfl⟩ := hrel
    by_cases hlt : i < to.length
    · have hltI : (i : Int) < to.length := by omega
      have hi63 : (i : Int) < 9223372036854775807 := by omega
      have hcell := hrow.cell (List.getElem?_eq_getElem hlt)
      have htk : to.take (i + 1) = to.take i ++ [to[i]] := List.take_succ_eq_append_getElem hlt
      generalize to[i] = u at hcell htk
      by_cases hu : 0 ≤ u ∧ u < (to.length : Int)
      · have hvu := hide (hiv.out u hu.1 hu.2)
        have hstep := hide (hs.snoc (x := (0, (u, 0, 0))) (v := u) rfl hu.1 (by omega))
        have u0 := hu.1
        have u63 : u < 63 := by omega
        have hwu := wrap_pow u0 (by omega : u ≤ 8)
        have hwu' : wrap64 ((2 : Int) ^ u.toNat) = 2 ^ u.toNat := by
          rw [IntKind.wrap_i64] at hwu
          unfold wrap64
          exact hwu
        have Htk := hide htk
        have Hu := hide hu
        have Hr := hide hr
        clear htk hu hr
        go_wp2_with fail
        refine hvu.out.mono ?_
        rintro e w2 ⟨rfl, rfl⟩
        go_wp2_with fail
        clear hwu hwu'
        go_roundw
        · refine ⟨i + 1, _, rfl, by simp, by omega, ?_, ?_, by trivial⟩
          · rw [Htk.out]
            unfold asNodes at *
            rw [List.map_append]
            exact hstep.out
          · intro x hx
            rw [Htk.out] at hx
            rcases List.mem_append.1 hx with h | h
            · exact Hr.out x h
            · simp at h; rw [h]; exact Hu.out
        · simp only [intOf]; omega
      · have hvu := hide (hnv.out u (by omega))
        clear htk hu hr
        go_wp2_with fail
        refine hvu.out.mono ?_
        rintro e w2 ⟨rfl, rfl⟩
        go_wp2_with fail
        go_ret
        exact ⟨rfl, rfl⟩
    · have hie : i = to.length := by omega
      subst hie
      rw [List.take_length] at hs hr
      have hall := seen_not n8 He.out hr hs
      have hwr := Hwr.out
      have hwr2 := Hwr2.out
      have hbe : (s == 2 ^ to.length - 1) = false := by simpa using hall
      clear hall hs hr
      go_wp2_with fail
      go_ret
      exact ⟨rfl, rfl⟩


set_option maxHeartbeats 400000 in
theorem hasEachOnce_len {w : World} {b : KB} {K : KS} (hK : KernelAt w b K) (v : Value) (a : Option Addr) (m c : Nat) (hv : v = .slice a m c) (hlen : m ≠ K.S.n) : Calls Tryz.prog 175 #[.pointer (some ⟨b.k, 0, none⟩), v] w fun e w' => e = .returned (.bool false) ∧ w' = w := by
  have c0 := hK.head.cell 0
  simp at c0
  subst hv
  have hv := hide (vars_calls hK.store)
  have hne : ((m : Int) != K.S.n) = true := by simp only [bne_iff_ne, ne_eq]; omega
  go_enter Tryz.func175, Tryz.ntmps175
  go_wp2_with fail
  refine hv.out.mono ?_
  rintro e w1 ⟨rfl, rfl⟩
  go_wp2_with fail
  go_ret
  exact ⟨rfl, rfl⟩

/-- A list that is not each variable once. -/
theorem hasEachOnce_bad {w : World} {b : KB} {K : KS} (hK : KernelAt w b K) (h : KI K) (v : Value) (to : List Int) (hv : (v = .slice none 0 0 ∧ to = []) ∨ ∃ bt ct, v = .slice (some ⟨bt, 0, none⟩) to.length ct ∧ RowIs w bt to) (he : ¬ Each K.S.n to) : Calls Tryz.prog 175 #[.pointer (some ⟨b.k, 0, none⟩), v] w fun e w' => e = .returned (.bool false) ∧ w' = w := by
  rcases hv with ⟨rfl, rfl⟩ | ⟨bt, ct, rfl, hrow⟩
  · exact hasEachOnce_len hK _ none 0 0 rfl (by have := h.n1; omega)
  · by_cases hl : to.length = K.S.n
    · exact hasEachOnce_no hK h bt ct to hrow hl he
    · exact hasEachOnce_len hK _ _ _ _ rfl hl

set_option maxHeartbeats 400000 in
theorem kreplace_arg {w : World} {b : KB} {K : KS} (hK : KernelAt w b K) (h : KI K) (f : Int) (v : Value) (to : List Int) (hv : (v = .slice none 0 0 ∧ to = []) ∨ ∃ bt ct, v = .slice (some ⟨bt, 0, none⟩) to.length ct ∧ RowIs w bt to) (he : ¬ Each K.S.n to) : Calls Tryz.prog 104 #[.pointer (some ⟨b.k, 0, none⟩), .int .i64 f, v] w (KErr w 1) := by
  have hc := hide (hasEachOnce_bad hK h v to hv he)
  clear hv he
  go_enter Tryz.func104, Tryz.ntmps104
  go_wp2_with fail
  refine hc.out.mono ?_
  rintro e w' ⟨rfl, rfl⟩
  go_wp2_with fail
  go_ret2
  exact ⟨rfl, rfl⟩

set_option maxHeartbeats 400000 in
theorem kreplace_bad {w : World} {b : KB} {K : KS} (hK : KernelAt w b K) (h : KI K) (f : Int) (bt ct : Nat) (to : List Int) (hrow : RowIs w bt to) (he : Each K.S.n to) (hf : get K.R f = none) : Calls Tryz.prog 104 #[.pointer (some ⟨b.k, 0, none⟩), .int .i64 f, .slice (some ⟨bt, 0, none⟩) to.length ct] w (KErr w 2) := by
  have hc := hide (hasEachOnce_yes hK h bt ct to hrow he)
  have c1 := hK.head.cell 1
  simp at c1
  have hl := klook_none hK hf
  clear he
  go_enter Tryz.func104, Tryz.ntmps104
  go_wp2_with fail
  refine hc.out.mono ?_
  rintro e w' ⟨rfl, rfl⟩
  go_wp2_with fail
  go_ret2
  exact ⟨rfl, rfl⟩

end Go.Proofs.YtgjomknpjigkhaaGreatDoor
