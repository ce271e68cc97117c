/- Texts: F5 F6 F7. -/
import Derived.Test.YtgjomknpjigkhaaGreatDoorT05
import Derived.Laws.MakeOwn
import Derived.WalkSmall
namespace Go.Proofs.YtgjomknpjigkhaaGreatDoor
open Go.RowKit

def symStr : Sm → ByteArray
  | .PROGRAM => ⟨#[80, 82, 79, 71, 82, 65, 77]⟩
  | .COLUMNS => ⟨#[67, 79, 76, 85, 77, 78, 83]⟩
  | .BODY => ⟨#[66, 79, 68, 89]⟩
  | .LITS => ⟨#[76, 73, 84, 83]⟩
  | .LIT => ⟨#[76, 73, 84]⟩
  | .ATOM => ⟨#[65, 84, 79, 77]⟩
  | .TERMS => ⟨#[84, 69, 82, 77, 83]⟩
  | .dom => ⟨#[100, 111, 109]⟩
  | .rel => ⟨#[114, 101, 108]⟩
  | .name => ⟨#[78, 65, 77, 69]⟩
  | .int => ⟨#[73, 78, 84]⟩
  | .term => ⟨#[84, 69, 82, 77]⟩
  | .lp => ⟨#[40]⟩
  | .rp => ⟨#[41]⟩
  | .comma => ⟨#[44]⟩
  | .semi => ⟨#[59]⟩
  | .dot => ⟨#[46]⟩
  | .arrow => ⟨#[58, 45]⟩
  | .bang => ⟨#[33]⟩
def symV (m : List Sm) : List Value := m.map fun x => .string (symStr x)
def rtok (t : Tn) : Value := .agg #[.int .u8 (rkind t.g), .string (txt t.g), .int .i64 (numOf t.g), .int .i64 t.line]

/-- A token, or the end. -/
def WfE (g : Sg) : Prop := WfG g ∨ g = .fin

theorem toList_beq (a : ByteArray) (l : List UInt8) : (a.toList == l) = decide (a = ⟨⟨l⟩⟩) := by
  rw [Bool.eq_iff_iff, str_lit, decide_eq_true_iff]

theorem name_ne {s : ByteArray} {x : UInt8} {l : List UInt8} (h : isLow (ltr s 0) = true ∨ isCap (ltr s 0) = true ∨ isDig (ltr s 0) = true) (hx : isLow x.toNat = false ∧ isCap x.toNat = false ∧ isDig x.toNat = false) : (s.toList == x :: l) = false := by
  rw [← Bool.not_eq_true, str_lit]
  intro e
  subst e
  have : ltr ⟨⟨x :: l⟩⟩ 0 = x.toNat := by unfold ltr; rw [dif_pos (by show 0 < (x :: l).length; simp)]; rfl
  rw [this] at h
  obtain ⟨h1, h2, h3⟩ := hx
  rw [h1, h2, h3] at h
  rcases h with h | h | h <;> cases h

theorem wf_first {g : Sg} (h : WfE g) : (∀ s, g = .name s → isLow (ltr s 0) = true) ∧ (∀ s, g = .var s → isCap (ltr s 0) = true) ∧ ∀ s, g = .int s → isDig (ltr s 0) = true := by
  rcases h with h | h
  · refine ⟨fun s e => ?_, fun s e => ?_, fun s e => ?_⟩
    · subst e; exact h.1
    · subst e; exact h.1
    · subst e; exact h.1 0 (by have := h.2.1; omega)
  · refine ⟨fun s e => ?_, fun s e => ?_, fun s e => ?_⟩ <;> (subst e; cases h)

theorem txt_comma {g : Sg} (h : WfE g) : ((txt g).toList == [44]) = isCommaG g := by
  obtain ⟨h1, h2, h3⟩ := wf_first h
  cases g with
  | name s => exact name_ne (.inl (h1 s rfl)) ⟨by decide, by decide, by decide⟩
  | var s => exact name_ne (.inr (.inl (h2 s rfl))) ⟨by decide, by decide, by decide⟩
  | int s => exact name_ne (.inr (.inr (h3 s rfl))) ⟨by decide, by decide, by decide⟩
  | _ => rw [toList_beq]; first | rfl | decide

theorem txt_arrow {g : Sg} (h : WfE g) : ((txt g).toList == [58, 45]) = isArrowG g := by
  obtain ⟨h1, h2, h3⟩ := wf_first h
  cases g with
  | name s => exact name_ne (.inl (h1 s rfl)) ⟨by decide, by decide, by decide⟩
  | var s => exact name_ne (.inr (.inl (h2 s rfl))) ⟨by decide, by decide, by decide⟩
  | int s => exact name_ne (.inr (.inr (h3 s rfl))) ⟨by decide, by decide, by decide⟩
  | _ => rw [toList_beq]; first | rfl | decide

theorem txt_bang {g : Sg} (h : WfE g) : ((txt g).toList == [33]) = isBangG g := by
  obtain ⟨h1, h2, h3⟩ := wf_first h
  cases g with
  | name s => exact name_ne (.inl (h1 s rfl)) ⟨by decide, by decide, by decide⟩
  | var s => exact name_ne (.inr (.inl (h2 s rfl))) ⟨by decide, by decide, by decide⟩
  | int s => exact name_ne (.inr (.inr (h3 s rfl))) ⟨by decide, by decide, by decide⟩
  | _ => rw [toList_beq]; first | rfl | decide

theorem txt_lp {g : Sg} (h : WfE g) : ((txt g).toList == [40]) = isLpG g := by
  obtain ⟨h1, h2, h3⟩ := wf_first h
  cases g with
  | name s => exact name_ne (.inl (h1 s rfl)) ⟨by decide, by decide, by decide⟩
  | var s => exact name_ne (.inr (.inl (h2 s rfl))) ⟨by decide, by decide, by decide⟩
  | int s => exact name_ne (.inr (.inr (h3 s rfl))) ⟨by decide, by decide, by decide⟩
  | _ => rw [toList_beq]; first | rfl | decide

theorem txt_rp {g : Sg} (h : WfE g) : ((txt g).toList == [41]) = isRpG g := by
  obtain ⟨h1, h2, h3⟩ := wf_first h
  cases g with
  | name s => exact name_ne (.inl (h1 s rfl)) ⟨by decide, by decide, by decide⟩
  | var s => exact name_ne (.inr (.inl (h2 s rfl))) ⟨by decide, by decide, by decide⟩
  | int s => exact name_ne (.inr (.inr (h3 s rfl))) ⟨by decide, by decide, by decide⟩
  | _ => rw [toList_beq]; first | rfl | decide

theorem txt_semi {g : Sg} (h : WfE g) : ((txt g).toList == [59]) = isSemiG g := by
  obtain ⟨h1, h2, h3⟩ := wf_first h
  cases g with
  | name s => exact name_ne (.inl (h1 s rfl)) ⟨by decide, by decide, by decide⟩
  | var s => exact name_ne (.inr (.inl (h2 s rfl))) ⟨by decide, by decide, by decide⟩
  | int s => exact name_ne (.inr (.inr (h3 s rfl))) ⟨by decide, by decide, by decide⟩
  | _ => rw [toList_beq]; first | rfl | decide

theorem txt_dot {g : Sg} (h : WfE g) : ((txt g).toList == [46]) = isDotG g := by
  obtain ⟨h1, h2, h3⟩ := wf_first h
  cases g with
  | name s => exact name_ne (.inl (h1 s rfl)) ⟨by decide, by decide, by decide⟩
  | var s => exact name_ne (.inr (.inl (h2 s rfl))) ⟨by decide, by decide, by decide⟩
  | int s => exact name_ne (.inr (.inr (h3 s rfl))) ⟨by decide, by decide, by decide⟩
  | _ => rw [toList_beq]; first | rfl | decide

theorem kind_word (g : Sg) : (rkind g == 119) = (isDomG g || isRelG g) := by cases g <;> rfl
theorem kind_fin (g : Sg) : (rkind g == 101) = isFinG g := by cases g <;> rfl
theorem kind_name (g : Sg) : (rkind g == 110) = isNameG g := by cases g <;> rfl
theorem kind_int (g : Sg) : (rkind g == 105) = isIntG g := by cases g <;> rfl
theorem kind_var (g : Sg) : (rkind g == 118) = isVarG g := by cases g <;> rfl

theorem rowNew (W : World) (base : Nat) (xs : List Value) (hb : base ≤ W.heap.size) (hl : xs.length ≤ 100) : (W.alloc (.cells xs.toArray 9)).ownsRow base 9 1 (.slice (some ⟨W.heap.size, 0, none⟩) xs.length xs.length) xs.length xs :=
  ⟨(Nat.mul_one _).symm, .inr ⟨W.heap.size, xs.length, xs.toArray, rfl, hb, (MapKept.heap_alloc W _).1, Nat.le_refl _, by unfold maxLen; omega, by simp, by simp⟩⟩

def BecTo (w : World) (r : Option (List Sm)) (e : Ending) (w' : World) : Prop := match r with
  | some m => ∃ v, e = .returned (.tuple #[v, .bool true]) ∧ w'.ownsRow w.heap.size 9 1 v m.length (symV m)
  | none => e = .returned (.tuple #[.slice none 0 0, .bool false])

set_option maxRecDepth 100000 in
set_option maxHeartbeats 4000000 in
theorem bec_dom {w : World} (t : Tn) (h1 : (rkind t.g == 119) = true) (h2 : ((txt t.g).toList == [100, 111, 109]) = true) : Calls Tryz.prog 270 #[.string (symStr .PROGRAM), rtok t] w fun e w' => BecTo w (some [.dom, .name, .int, .semi, .PROGRAM]) e w' ∧ Keeps [] w w' := by
  have kA := Keeps.alloc [] w (.cells #[.int .u8 (rkind t.g), .string (txt t.g), .int .i64 (numOf t.g), .int .i64 t.line] 245)
  have hrow := rowNew (w.alloc (.cells #[.int .u8 (rkind t.g), .string (txt t.g), .int .i64 (numOf t.g), .int .i64 t.line] 245)) w.heap.size (symV [.dom, .name, .int, .semi, .PROGRAM]) (by rw [sizeE_alloc]; omega) (by decide)
  rw [sizeE_alloc] at hrow
  have Hrow := hide hrow
  have kB := kA.trans (Keeps.alloc [] (w.alloc (.cells #[.int .u8 (rkind t.g), .string (txt t.g), .int .i64 (numOf t.g), .int .i64 t.line] 245)) (.cells (symV [.dom, .name, .int, .semi, .PROGRAM]).toArray 9))
  have HkB := hide kB
  clear hrow kB kA
  unfold rtok
  generalize rkind t.g = K at *
  generalize txt t.g = S at *
  generalize numOf t.g = M at *
  simp only [symStr]
  go_enter Tryz.func270, Tryz.ntmps270
  go_wp2_with fail
  go_ret2
  exact ⟨⟨_, rfl, Hrow.out⟩, HkB.out⟩

set_option maxRecDepth 100000 in
set_option maxHeartbeats 4000000 in
theorem bec_rel {w : World} (t : Tn) (h1 : (rkind t.g == 119) = true) (h2 : ((txt t.g).toList == [100, 111, 109]) = false) : Calls Tryz.prog 270 #[.string (symStr .PROGRAM), rtok t] w fun e w' => BecTo w (some [.rel, .name, .lp, .name, .COLUMNS, .rp, .semi, .PROGRAM]) e w' ∧ Keeps [] w w' := by
  have kA := Keeps.alloc [] w (.cells #[.int .u8 (rkind t.g), .string (txt t.g), .int .i64 (numOf t.g), .int .i64 t.line] 245)
  have hrow := rowNew (w.alloc (.cells #[.int .u8 (rkind t.g), .string (txt t.g), .int .i64 (numOf t.g), .int .i64 t.line] 245)) w.heap.size (symV [.rel, .name, .lp, .name, .COLUMNS, .rp, .semi, .PROGRAM]) (by rw [sizeE_alloc]; omega) (by decide)
  rw [sizeE_alloc] at hrow
  have Hrow := hide hrow
  have kB := kA.trans (Keeps.alloc [] (w.alloc (.cells #[.int .u8 (rkind t.g), .string (txt t.g), .int .i64 (numOf t.g), .int .i64 t.line] 245)) (.cells (symV [.rel, .name, .lp, .name, .COLUMNS, .rp, .semi, .PROGRAM]).toArray 9))
  have HkB := hide kB
  clear hrow kB kA
  unfold rtok
  generalize rkind t.g = K at *
  generalize txt t.g = S at *
  generalize numOf t.g = M at *
  simp only [symStr]
  go_enter Tryz.func270, Tryz.ntmps270
  go_wp2_with fail
  go_ret2
  exact ⟨⟨_, rfl, Hrow.out⟩, HkB.out⟩

set_option maxRecDepth 100000 in
set_option maxHeartbeats 4000000 in
theorem bec_fin {w : World} (t : Tn) (h1 : (rkind t.g == 119) = false) (h2 : (rkind t.g == 101) = true) : Calls Tryz.prog 270 #[.string (symStr .PROGRAM), rtok t] w fun e w' => BecTo w (some []) e w' ∧ Keeps [] w w' := by
  have kA := Keeps.alloc [] w (.cells #[.int .u8 (rkind t.g), .string (txt t.g), .int .i64 (numOf t.g), .int .i64 t.line] 245)
  unfold rtok
  generalize rkind t.g = K at *
  generalize txt t.g = S at *
  generalize numOf t.g = M at *
  simp only [symStr]
  go_enter Tryz.func270, Tryz.ntmps270
  go_wp2_with fail
  go_ret2
  exact ⟨⟨_, rfl, World.ownsRow_nil ..⟩, kA⟩

set_option maxRecDepth 100000 in
set_option maxHeartbeats 4000000 in
theorem bec_clause {w : World} (t : Tn) (h1 : (rkind t.g == 119) = false) (h2 : (rkind t.g == 101) = false) : Calls Tryz.prog 270 #[.string (symStr .PROGRAM), rtok t] w fun e w' => BecTo w (some [.ATOM, .BODY, .dot, .PROGRAM]) e w' ∧ Keeps [] w w' := by
  have kA := Keeps.alloc [] w (.cells #[.int .u8 (rkind t.g), .string (txt t.g), .int .i64 (numOf t.g), .int .i64 t.line] 245)
  have hrow := rowNew (w.alloc (.cells #[.int .u8 (rkind t.g), .string (txt t.g), .int .i64 (numOf t.g), .int .i64 t.line] 245)) w.heap.size (symV [.ATOM, .BODY, .dot, .PROGRAM]) (by rw [sizeE_alloc]; omega) (by decide)
  rw [sizeE_alloc] at hrow
  have Hrow := hide hrow
  have kB := kA.trans (Keeps.alloc [] (w.alloc (.cells #[.int .u8 (rkind t.g), .string (txt t.g), .int .i64 (numOf t.g), .int .i64 t.line] 245)) (.cells (symV [.ATOM, .BODY, .dot, .PROGRAM]).toArray 9))
  have HkB := hide kB
  clear hrow kB kA
  unfold rtok
  generalize rkind t.g = K at *
  generalize txt t.g = S at *
  generalize numOf t.g = M at *
  simp only [symStr]
  go_enter Tryz.func270, Tryz.ntmps270
  go_wp2_with fail
  go_ret2
  exact ⟨⟨_, rfl, Hrow.out⟩, HkB.out⟩

set_option maxRecDepth 100000 in
set_option maxHeartbeats 4000000 in
theorem bec_columns_more {w : World} (t : Tn) (h1 : ((txt t.g).toList == [44]) = true) : Calls Tryz.prog 270 #[.string (symStr .COLUMNS), rtok t] w fun e w' => BecTo w (some [.comma, .name, .COLUMNS]) e w' ∧ Keeps [] w w' := by
  have kA := Keeps.alloc [] w (.cells #[.int .u8 (rkind t.g), .string (txt t.g), .int .i64 (numOf t.g), .int .i64 t.line] 245)
  have hrow := rowNew (w.alloc (.cells #[.int .u8 (rkind t.g), .string (txt t.g), .int .i64 (numOf t.g), .int .i64 t.line] 245)) w.heap.size (symV [.comma, .name, .COLUMNS]) (by rw [sizeE_alloc]; omega) (by decide)
  rw [sizeE_alloc] at hrow
  have Hrow := hide hrow
  have kB := kA.trans (Keeps.alloc [] (w.alloc (.cells #[.int .u8 (rkind t.g), .string (txt t.g), .int .i64 (numOf t.g), .int .i64 t.line] 245)) (.cells (symV [.comma, .name, .COLUMNS]).toArray 9))
  have HkB := hide kB
  clear hrow kB kA
  unfold rtok
  generalize rkind t.g = K at *
  generalize txt t.g = S at *
  generalize numOf t.g = M at *
  simp only [symStr]
  go_enter Tryz.func270, Tryz.ntmps270
  go_wp2_with fail
  go_ret2
  exact ⟨⟨_, rfl, Hrow.out⟩, HkB.out⟩

set_option maxRecDepth 100000 in
set_option maxHeartbeats 4000000 in
theorem bec_columns_end {w : World} (t : Tn) (h1 : ((txt t.g).toList == [44]) = false) : Calls Tryz.prog 270 #[.string (symStr .COLUMNS), rtok t] w fun e w' => BecTo w (some []) e w' ∧ Keeps [] w w' := by
  have kA := Keeps.alloc [] w (.cells #[.int .u8 (rkind t.g), .string (txt t.g), .int .i64 (numOf t.g), .int .i64 t.line] 245)
  unfold rtok
  generalize rkind t.g = K at *
  generalize txt t.g = S at *
  generalize numOf t.g = M at *
  simp only [symStr]
  go_enter Tryz.func270, Tryz.ntmps270
  go_wp2_with fail
  go_ret2
  exact ⟨⟨_, rfl, World.ownsRow_nil ..⟩, kA⟩

set_option maxRecDepth 100000 in
set_option maxHeartbeats 4000000 in
theorem bec_lits_more {w : World} (t : Tn) (h1 : ((txt t.g).toList == [44]) = true) : Calls Tryz.prog 270 #[.string (symStr .LITS), rtok t] w fun e w' => BecTo w (some [.comma, .LIT, .LITS]) e w' ∧ Keeps [] w w' := by
  have kA := Keeps.alloc [] w (.cells #[.int .u8 (rkind t.g), .string (txt t.g), .int .i64 (numOf t.g), .int .i64 t.line] 245)
  have hrow := rowNew (w.alloc (.cells #[.int .u8 (rkind t.g), .string (txt t.g), .int .i64 (numOf t.g), .int .i64 t.line] 245)) w.heap.size (symV [.comma, .LIT, .LITS]) (by rw [sizeE_alloc]; omega) (by decide)
  rw [sizeE_alloc] at hrow
  have Hrow := hide hrow
  have kB := kA.trans (Keeps.alloc [] (w.alloc (.cells #[.int .u8 (rkind t.g), .string (txt t.g), .int .i64 (numOf t.g), .int .i64 t.line] 245)) (.cells (symV [.comma, .LIT, .LITS]).toArray 9))
  have HkB := hide kB
  clear hrow kB kA
  unfold rtok
  generalize rkind t.g = K at *
  generalize txt t.g = S at *
  generalize numOf t.g = M at *
  simp only [symStr]
  go_enter Tryz.func270, Tryz.ntmps270
  go_wp2_with fail
  go_ret2
  exact ⟨⟨_, rfl, Hrow.out⟩, HkB.out⟩

set_option maxRecDepth 100000 in
set_option maxHeartbeats 4000000 in
theorem bec_lits_end {w : World} (t : Tn) (h1 : ((txt t.g).toList == [44]) = false) : Calls Tryz.prog 270 #[.string (symStr .LITS), rtok t] w fun e w' => BecTo w (some []) e w' ∧ Keeps [] w w' := by
  have kA := Keeps.alloc [] w (.cells #[.int .u8 (rkind t.g), .string (txt t.g), .int .i64 (numOf t.g), .int .i64 t.line] 245)
  unfold rtok
  generalize rkind t.g = K at *
  generalize txt t.g = S at *
  generalize numOf t.g = M at *
  simp only [symStr]
  go_enter Tryz.func270, Tryz.ntmps270
  go_wp2_with fail
  go_ret2
  exact ⟨⟨_, rfl, World.ownsRow_nil ..⟩, kA⟩

set_option maxRecDepth 100000 in
set_option maxHeartbeats 4000000 in
theorem bec_terms_more {w : World} (t : Tn) (h1 : ((txt t.g).toList == [44]) = true) : Calls Tryz.prog 270 #[.string (symStr .TERMS), rtok t] w fun e w' => BecTo w (some [.comma, .term, .TERMS]) e w' ∧ Keeps [] w w' := by
  have kA := Keeps.alloc [] w (.cells #[.int .u8 (rkind t.g), .string (txt t.g), .int .i64 (numOf t.g), .int .i64 t.line] 245)
  have hrow := rowNew (w.alloc (.cells #[.int .u8 (rkind t.g), .string (txt t.g), .int .i64 (numOf t.g), .int .i64 t.line] 245)) w.heap.size (symV [.comma, .term, .TERMS]) (by rw [sizeE_alloc]; omega) (by decide)
  rw [sizeE_alloc] at hrow
  have Hrow := hide hrow
  have kB := kA.trans (Keeps.alloc [] (w.alloc (.cells #[.int .u8 (rkind t.g), .string (txt t.g), .int .i64 (numOf t.g), .int .i64 t.line] 245)) (.cells (symV [.comma, .term, .TERMS]).toArray 9))
  have HkB := hide kB
  clear hrow kB kA
  unfold rtok
  generalize rkind t.g = K at *
  generalize txt t.g = S at *
  generalize numOf t.g = M at *
  simp only [symStr]
  go_enter Tryz.func270, Tryz.ntmps270
  go_wp2_with fail
  go_ret2
  exact ⟨⟨_, rfl, Hrow.out⟩, HkB.out⟩

set_option maxRecDepth 100000 in
set_option maxHeartbeats 4000000 in
theorem bec_terms_end {w : World} (t : Tn) (h1 : ((txt t.g).toList == [44]) = false) : Calls Tryz.prog 270 #[.string (symStr .TERMS), rtok t] w fun e w' => BecTo w (some []) e w' ∧ Keeps [] w w' := by
  have kA := Keeps.alloc [] w (.cells #[.int .u8 (rkind t.g), .string (txt t.g), .int .i64 (numOf t.g), .int .i64 t.line] 245)
  unfold rtok
  generalize rkind t.g = K at *
  generalize txt t.g = S at *
  generalize numOf t.g = M at *
  simp only [symStr]
  go_enter Tryz.func270, Tryz.ntmps270
  go_wp2_with fail
  go_ret2
  exact ⟨⟨_, rfl, World.ownsRow_nil ..⟩, kA⟩

set_option maxRecDepth 100000 in
set_option maxHeartbeats 4000000 in
theorem bec_body_more {w : World} (t : Tn) (h1 : ((txt t.g).toList == [58, 45]) = true) : Calls Tryz.prog 270 #[.string (symStr .BODY), rtok t] w fun e w' => BecTo w (some [.arrow, .LIT, .LITS]) e w' ∧ Keeps [] w w' := by
  have kA := Keeps.alloc [] w (.cells #[.int .u8 (rkind t.g), .string (txt t.g), .int .i64 (numOf t.g), .int .i64 t.line] 245)
  have hrow := rowNew (w.alloc (.cells #[.int .u8 (rkind t.g), .string (txt t.g), .int .i64 (numOf t.g), .int .i64 t.line] 245)) w.heap.size (symV [.arrow, .LIT, .LITS]) (by rw [sizeE_alloc]; omega) (by decide)
  rw [sizeE_alloc] at hrow
  have Hrow := hide hrow
  have kB := kA.trans (Keeps.alloc [] (w.alloc (.cells #[.int .u8 (rkind t.g), .string (txt t.g), .int .i64 (numOf t.g), .int .i64 t.line] 245)) (.cells (symV [.arrow, .LIT, .LITS]).toArray 9))
  have HkB := hide kB
  clear hrow kB kA
  unfold rtok
  generalize rkind t.g = K at *
  generalize txt t.g = S at *
  generalize numOf t.g = M at *
  simp only [symStr]
  go_enter Tryz.func270, Tryz.ntmps270
  go_wp2_with fail
  go_ret2
  exact ⟨⟨_, rfl, Hrow.out⟩, HkB.out⟩

set_option maxRecDepth 100000 in
set_option maxHeartbeats 4000000 in
theorem bec_body_end {w : World} (t : Tn) (h1 : ((txt t.g).toList == [58, 45]) = false) : Calls Tryz.prog 270 #[.string (symStr .BODY), rtok t] w fun e w' => BecTo w (some []) e w' ∧ Keeps [] w w' := by
  have kA := Keeps.alloc [] w (.cells #[.int .u8 (rkind t.g), .string (txt t.g), .int .i64 (numOf t.g), .int .i64 t.line] 245)
  unfold rtok
  generalize rkind t.g = K at *
  generalize txt t.g = S at *
  generalize numOf t.g = M at *
  simp only [symStr]
  go_enter Tryz.func270, Tryz.ntmps270
  go_wp2_with fail
  go_ret2
  exact ⟨⟨_, rfl, World.ownsRow_nil ..⟩, kA⟩

set_option maxRecDepth 100000 in
set_option maxHeartbeats 4000000 in
theorem bec_lit_not {w : World} (t : Tn) (h1 : ((txt t.g).toList == [33]) = true) : Calls Tryz.prog 270 #[.string (symStr .LIT), rtok t] w fun e w' => BecTo w (some [.bang, .ATOM]) e w' ∧ Keeps [] w w' := by
  have kA := Keeps.alloc [] w (.cells #[.int .u8 (rkind t.g), .string (txt t.g), .int .i64 (numOf t.g), .int .i64 t.line] 245)
  have hrow := rowNew (w.alloc (.cells #[.int .u8 (rkind t.g), .string (txt t.g), .int .i64 (numOf t.g), .int .i64 t.line] 245)) w.heap.size (symV [.bang, .ATOM]) (by rw [sizeE_alloc]; omega) (by decide)
  rw [sizeE_alloc] at hrow
  have Hrow := hide hrow
  have kB := kA.trans (Keeps.alloc [] (w.alloc (.cells #[.int .u8 (rkind t.g), .string (txt t.g), .int .i64 (numOf t.g), .int .i64 t.line] 245)) (.cells (symV [.bang, .ATOM]).toArray 9))
  have HkB := hide kB
  clear hrow kB kA
  unfold rtok
  generalize rkind t.g = K at *
  generalize txt t.g = S at *
  generalize numOf t.g = M at *
  simp only [symStr]
  go_enter Tryz.func270, Tryz.ntmps270
  go_wp2_with fail
  go_ret2
  exact ⟨⟨_, rfl, Hrow.out⟩, HkB.out⟩

set_option maxRecDepth 100000 in
set_option maxHeartbeats 4000000 in
theorem bec_lit {w : World} (t : Tn) (h1 : ((txt t.g).toList == [33]) = false) : Calls Tryz.prog 270 #[.string (symStr .LIT), rtok t] w fun e w' => BecTo w (some [.ATOM]) e w' ∧ Keeps [] w w' := by
  have kA := Keeps.alloc [] w (.cells #[.int .u8 (rkind t.g), .string (txt t.g), .int .i64 (numOf t.g), .int .i64 t.line] 245)
  have hrow := rowNew (w.alloc (.cells #[.int .u8 (rkind t.g), .string (txt t.g), .int .i64 (numOf t.g), .int .i64 t.line] 245)) w.heap.size (symV [.ATOM]) (by rw [sizeE_alloc]; omega) (by decide)
  rw [sizeE_alloc] at hrow
  have Hrow := hide hrow
  have kB := kA.trans (Keeps.alloc [] (w.alloc (.cells #[.int .u8 (rkind t.g), .string (txt t.g), .int .i64 (numOf t.g), .int .i64 t.line] 245)) (.cells (symV [.ATOM]).toArray 9))
  have HkB := hide kB
  clear hrow kB kA
  unfold rtok
  generalize rkind t.g = K at *
  generalize txt t.g = S at *
  generalize numOf t.g = M at *
  simp only [symStr]
  go_enter Tryz.func270, Tryz.ntmps270
  go_wp2_with fail
  go_ret2
  exact ⟨⟨_, rfl, Hrow.out⟩, HkB.out⟩

set_option maxRecDepth 100000 in
set_option maxHeartbeats 4000000 in
theorem bec_atom {w : World} (t : Tn)  : Calls Tryz.prog 270 #[.string (symStr .ATOM), rtok t] w fun e w' => BecTo w (some [.name, .lp, .term, .TERMS, .rp]) e w' ∧ Keeps [] w w' := by
  have kA := Keeps.alloc [] w (.cells #[.int .u8 (rkind t.g), .string (txt t.g), .int .i64 (numOf t.g), .int .i64 t.line] 245)
  have hrow := rowNew (w.alloc (.cells #[.int .u8 (rkind t.g), .string (txt t.g), .int .i64 (numOf t.g), .int .i64 t.line] 245)) w.heap.size (symV [.name, .lp, .term, .TERMS, .rp]) (by rw [sizeE_alloc]; omega) (by decide)
  rw [sizeE_alloc] at hrow
  have Hrow := hide hrow
  have kB := kA.trans (Keeps.alloc [] (w.alloc (.cells #[.int .u8 (rkind t.g), .string (txt t.g), .int .i64 (numOf t.g), .int .i64 t.line] 245)) (.cells (symV [.name, .lp, .term, .TERMS, .rp]).toArray 9))
  have HkB := hide kB
  clear hrow kB kA
  unfold rtok
  generalize rkind t.g = K at *
  generalize txt t.g = S at *
  generalize numOf t.g = M at *
  simp only [symStr]
  go_enter Tryz.func270, Tryz.ntmps270
  go_wp2_with fail
  go_ret2
  exact ⟨⟨_, rfl, Hrow.out⟩, HkB.out⟩

set_option maxRecDepth 100000 in
set_option maxHeartbeats 4000000 in
theorem bec_none {w : World} (t : Tn) (s : ByteArray) (h1 : (s.toList == [80, 82, 79, 71, 82, 65, 77]) = false) (h2 : (s.toList == [67, 79, 76, 85, 77, 78, 83]) = false) (h3 : (s.toList == [66, 79, 68, 89]) = false) (h4 : (s.toList == [76, 73, 84, 83]) = false) (h5 : (s.toList == [76, 73, 84]) = false) (h6 : (s.toList == [65, 84, 79, 77]) = false) (h7 : (s.toList == [84, 69, 82, 77, 83]) = false) : Calls Tryz.prog 270 #[.string s, rtok t] w fun e w' => BecTo w none e w' ∧ Keeps [] w w' := by
  have kA := Keeps.alloc [] w (.cells #[.int .u8 (rkind t.g), .string (txt t.g), .int .i64 (numOf t.g), .int .i64 t.line] 245)
  unfold rtok
  generalize rkind t.g = K at *
  generalize txt t.g = S at *
  generalize numOf t.g = M at *
  go_enter Tryz.func270, Tryz.ntmps270
  go_wp2_with fail
  go_ret2
  exact ⟨rfl, kA⟩

theorem becomes_calls {w : World} (x : Sm) (t : Tn) (ht : WfE t.g) : Calls Tryz.prog 270 #[.string (symStr x), rtok t] w fun e w' => BecTo w (expand x t.g) e w' ∧ Keeps [] w w' := by
  have hc := txt_comma ht
  have ha := txt_arrow ht
  have hb := txt_bang ht
  have hw := kind_word t.g
  have hf := kind_fin t.g
  cases x with
  | PROGRAM =>
    by_cases h1 : isDomG t.g = true
    · have hg : t.g = .dom := by cases hg : t.g <;> rw [hg] at h1 <;> first | rfl | cases h1
      rw [h1] at hw
      have e : expand .PROGRAM t.g = some [.dom, .name, .int, .semi, .PROGRAM] := by rw [hg]; rfl
      rw [e]
      exact bec_dom t (by rw [hw]; rfl) (by rw [hg, toList_beq]; decide)
    · by_cases h2 : isRelG t.g = true
      · have hg : t.g = .rel := by cases hg : t.g <;> rw [hg] at h2 <;> first | rfl | cases h2
        have e : expand .PROGRAM t.g = some [.rel, .name, .lp, .name, .COLUMNS, .rp, .semi, .PROGRAM] := by rw [hg]; rfl
        rw [e]
        exact bec_rel t (by rw [hw, h2]; simp) (by rw [hg, toList_beq]; decide)
      · have hw2 : (rkind t.g == 119) = false := by rw [hw]; simp [h1, h2]
        by_cases h3 : isFinG t.g = true
        · have hg : t.g = .fin := by cases hg : t.g <;> rw [hg] at h3 <;> first | rfl | cases h3
          have e : expand .PROGRAM t.g = some [] := by rw [hg]; rfl
          rw [e]
          exact bec_fin t hw2 (by rw [hf, h3])
        · have e : expand .PROGRAM t.g = some [.ATOM, .BODY, .dot, .PROGRAM] := by
            cases hg : t.g <;> rw [hg] at h1 h2 h3 <;> first | rfl | exact absurd rfl h1 | exact absurd rfl h2 | exact absurd rfl h3
          rw [e]
          exact bec_clause t hw2 (by rw [hf]; simpa using h3)
  | COLUMNS =>
    by_cases h1 : isCommaG t.g = true
    · rw [again_columns.comma _ h1]; exact bec_columns_more t (by rw [hc, h1])
    · rw [again_columns.other _ (by simpa using h1)]; exact bec_columns_end t (by rw [hc]; simpa using h1)
  | LITS =>
    by_cases h1 : isCommaG t.g = true
    · rw [again_lits.comma _ h1]; exact bec_lits_more t (by rw [hc, h1])
    · rw [again_lits.other _ (by simpa using h1)]; exact bec_lits_end t (by rw [hc]; simpa using h1)
  | TERMS =>
    by_cases h1 : isCommaG t.g = true
    · rw [again_terms.comma _ h1]; exact bec_terms_more t (by rw [hc, h1])
    · rw [again_terms.other _ (by simpa using h1)]; exact bec_terms_end t (by rw [hc]; simpa using h1)
  | BODY =>
    by_cases h1 : isArrowG t.g = true
    · have e : expand .BODY t.g = some [.arrow, .LIT, .LITS] := by cases hg : t.g <;> rw [hg] at h1 <;> first | rfl | cases h1
      rw [e]; exact bec_body_more t (by rw [ha, h1])
    · have e : expand .BODY t.g = some [] := by cases hg : t.g <;> rw [hg] at h1 <;> first | rfl | exact absurd rfl h1
      rw [e]; exact bec_body_end t (by rw [ha]; simpa using h1)
  | LIT =>
    by_cases h1 : isBangG t.g = true
    · have e : expand .LIT t.g = some [.bang, .ATOM] := by cases hg : t.g <;> rw [hg] at h1 <;> first | rfl | cases h1
      rw [e]; exact bec_lit_not t (by rw [hb, h1])
    · have e : expand .LIT t.g = some [.ATOM] := by cases hg : t.g <;> rw [hg] at h1 <;> first | rfl | exact absurd rfl h1
      rw [e]; exact bec_lit t (by rw [hb]; simpa using h1)
  | ATOM => have e : expand .ATOM t.g = some [.name, .lp, .term, .TERMS, .rp] := by cases t.g <;> rfl
            rw [e]; exact bec_atom t
  | dom => rw [lone_dom]; exact bec_none t _ (by rw [toList_beq]; decide) (by rw [toList_beq]; decide) (by rw [toList_beq]; decide) (by rw [toList_beq]; decide) (by rw [toList_beq]; decide) (by rw [toList_beq]; decide) (by rw [toList_beq]; decide)
  | rel => rw [lone_rel]; exact bec_none t _ (by rw [toList_beq]; decide) (by rw [toList_beq]; decide) (by rw [toList_beq]; decide) (by rw [toList_beq]; decide) (by rw [toList_beq]; decide) (by rw [toList_beq]; decide) (by rw [toList_beq]; decide)
  | name => rw [lone_name]; exact bec_none t _ (by rw [toList_beq]; decide) (by rw [toList_beq]; decide) (by rw [toList_beq]; decide) (by rw [toList_beq]; decide) (by rw [toList_beq]; decide) (by rw [toList_beq]; decide) (by rw [toList_beq]; decide)
  | int => rw [lone_int]; exact bec_none t _ (by rw [toList_beq]; decide) (by rw [toList_beq]; decide) (by rw [toList_beq]; decide) (by rw [toList_beq]; decide) (by rw [toList_beq]; decide) (by rw [toList_beq]; decide) (by rw [toList_beq]; decide)
  | term => rw [lone_term]; exact bec_none t _ (by rw [toList_beq]; decide) (by rw [toList_beq]; decide) (by rw [toList_beq]; decide) (by rw [toList_beq]; decide) (by rw [toList_beq]; decide) (by rw [toList_beq]; decide) (by rw [toList_beq]; decide)
  | lp => rw [lone_lp]; exact bec_none t _ (by rw [toList_beq]; decide) (by rw [toList_beq]; decide) (by rw [toList_beq]; decide) (by rw [toList_beq]; decide) (by rw [toList_beq]; decide) (by rw [toList_beq]; decide) (by rw [toList_beq]; decide)
  | rp => rw [lone_rp]; exact bec_none t _ (by rw [toList_beq]; decide) (by rw [toList_beq]; decide) (by rw [toList_beq]; decide) (by rw [toList_beq]; decide) (by rw [toList_beq]; decide) (by rw [toList_beq]; decide) (by rw [toList_beq]; decide)
  | comma => rw [lone_comma]; exact bec_none t _ (by rw [toList_beq]; decide) (by rw [toList_beq]; decide) (by rw [toList_beq]; decide) (by rw [toList_beq]; decide) (by rw [toList_beq]; decide) (by rw [toList_beq]; decide) (by rw [toList_beq]; decide)
  | semi => rw [lone_semi]; exact bec_none t _ (by rw [toList_beq]; decide) (by rw [toList_beq]; decide) (by rw [toList_beq]; decide) (by rw [toList_beq]; decide) (by rw [toList_beq]; decide) (by rw [toList_beq]; decide) (by rw [toList_beq]; decide)
  | dot => rw [lone_dot]; exact bec_none t _ (by rw [toList_beq]; decide) (by rw [toList_beq]; decide) (by rw [toList_beq]; decide) (by rw [toList_beq]; decide) (by rw [toList_beq]; decide) (by rw [toList_beq]; decide) (by rw [toList_beq]; decide)
  | arrow => rw [lone_arrow]; exact bec_none t _ (by rw [toList_beq]; decide) (by rw [toList_beq]; decide) (by rw [toList_beq]; decide) (by rw [toList_beq]; decide) (by rw [toList_beq]; decide) (by rw [toList_beq]; decide) (by rw [toList_beq]; decide)
  | bang => rw [lone_bang]; exact bec_none t _ (by rw [toList_beq]; decide) (by rw [toList_beq]; decide) (by rw [toList_beq]; decide) (by rw [toList_beq]; decide) (by rw [toList_beq]; decide) (by rw [toList_beq]; decide) (by rw [toList_beq]; decide)

end Go.Proofs.YtgjomknpjigkhaaGreatDoor

namespace Go.Proofs.YtgjomknpjigkhaaGreatDoor
open Go.RowKit

set_option maxRecDepth 100000 in
set_option maxHeartbeats 4000000 in
theorem fits_name {w : World} (t : Tn)  : Calls Tryz.prog 271 #[.string ⟨#[78, 65, 77, 69]⟩, rtok t] w fun e w' => e = .returned (.bool (rkind t.g == 110)) ∧ Keeps [] w w' := by
  have kA := Keeps.alloc [] w (.cells #[.int .u8 (rkind t.g), .string (txt t.g), .int .i64 (numOf t.g), .int .i64 t.line] 245)
  unfold rtok
  generalize rkind t.g = K at *
  generalize txt t.g = S at *
  generalize numOf t.g = M at *
  go_enter Tryz.func271, Tryz.ntmps271
  go_wp2_with fail
  go_ret
  exact ⟨rfl, kA⟩

set_option maxRecDepth 100000 in
set_option maxHeartbeats 4000000 in
theorem fits_int {w : World} (t : Tn)  : Calls Tryz.prog 271 #[.string ⟨#[73, 78, 84]⟩, rtok t] w fun e w' => e = .returned (.bool (rkind t.g == 105)) ∧ Keeps [] w w' := by
  have kA := Keeps.alloc [] w (.cells #[.int .u8 (rkind t.g), .string (txt t.g), .int .i64 (numOf t.g), .int .i64 t.line] 245)
  unfold rtok
  generalize rkind t.g = K at *
  generalize txt t.g = S at *
  generalize numOf t.g = M at *
  go_enter Tryz.func271, Tryz.ntmps271
  go_wp2_with fail
  go_ret
  exact ⟨rfl, kA⟩

set_option maxRecDepth 100000 in
set_option maxHeartbeats 4000000 in
theorem fits_term1 {w : World} (t : Tn) (h1 : (rkind t.g == 105) = true) : Calls Tryz.prog 271 #[.string ⟨#[84, 69, 82, 77]⟩, rtok t] w fun e w' => e = .returned (.bool (true)) ∧ Keeps [] w w' := by
  have kA := Keeps.alloc [] w (.cells #[.int .u8 (rkind t.g), .string (txt t.g), .int .i64 (numOf t.g), .int .i64 t.line] 245)
  unfold rtok
  generalize rkind t.g = K at *
  generalize txt t.g = S at *
  generalize numOf t.g = M at *
  go_enter Tryz.func271, Tryz.ntmps271
  go_wp2_with fail
  go_ret
  exact ⟨rfl, kA⟩

set_option maxRecDepth 100000 in
set_option maxHeartbeats 4000000 in
theorem fits_term2 {w : World} (t : Tn) (h1 : (rkind t.g == 105) = false) : Calls Tryz.prog 271 #[.string ⟨#[84, 69, 82, 77]⟩, rtok t] w fun e w' => e = .returned (.bool (rkind t.g == 118)) ∧ Keeps [] w w' := by
  have kA := Keeps.alloc [] w (.cells #[.int .u8 (rkind t.g), .string (txt t.g), .int .i64 (numOf t.g), .int .i64 t.line] 245)
  unfold rtok
  generalize rkind t.g = K at *
  generalize txt t.g = S at *
  generalize numOf t.g = M at *
  go_enter Tryz.func271, Tryz.ntmps271
  go_wp2_with fail
  go_ret
  exact ⟨rfl, kA⟩

set_option maxRecDepth 100000 in
set_option maxHeartbeats 4000000 in
theorem fits_word {w : World} (t : Tn) (s : ByteArray) (n1 : (s.toList == [78, 65, 77, 69]) = false) (n2 : (s.toList == [73, 78, 84]) = false) (n3 : (s.toList == [84, 69, 82, 77]) = false) (h1 : (rkind t.g == 119) = true) : Calls Tryz.prog 271 #[.string s, rtok t] w fun e w' => e = .returned (.bool ((txt t.g).toList == s.toList)) ∧ Keeps [] w w' := by
  have kA := Keeps.alloc [] w (.cells #[.int .u8 (rkind t.g), .string (txt t.g), .int .i64 (numOf t.g), .int .i64 t.line] 245)
  unfold rtok
  generalize rkind t.g = K at *
  generalize txt t.g = S at *
  generalize numOf t.g = M at *
  go_enter Tryz.func271, Tryz.ntmps271
  go_wp2_with fail
  go_ret
  exact ⟨rfl, kA⟩

set_option maxRecDepth 100000 in
set_option maxHeartbeats 4000000 in
theorem fits_sign {w : World} (t : Tn) (s : ByteArray) (n1 : (s.toList == [78, 65, 77, 69]) = false) (n2 : (s.toList == [73, 78, 84]) = false) (n3 : (s.toList == [84, 69, 82, 77]) = false) (h1 : (rkind t.g == 119) = false) (h2 : (rkind t.g == 115) = true) : Calls Tryz.prog 271 #[.string s, rtok t] w fun e w' => e = .returned (.bool ((txt t.g).toList == s.toList)) ∧ Keeps [] w w' := by
  have kA := Keeps.alloc [] w (.cells #[.int .u8 (rkind t.g), .string (txt t.g), .int .i64 (numOf t.g), .int .i64 t.line] 245)
  unfold rtok
  generalize rkind t.g = K at *
  generalize txt t.g = S at *
  generalize numOf t.g = M at *
  go_enter Tryz.func271, Tryz.ntmps271
  go_wp2_with fail
  go_ret
  exact ⟨rfl, kA⟩

set_option maxRecDepth 100000 in
set_option maxHeartbeats 4000000 in
theorem fits_no {w : World} (t : Tn) (s : ByteArray) (n1 : (s.toList == [78, 65, 77, 69]) = false) (n2 : (s.toList == [73, 78, 84]) = false) (n3 : (s.toList == [84, 69, 82, 77]) = false) (h1 : (rkind t.g == 119) = false) (h2 : (rkind t.g == 115) = false) : Calls Tryz.prog 271 #[.string s, rtok t] w fun e w' => e = .returned (.bool (false)) ∧ Keeps [] w w' := by
  have kA := Keeps.alloc [] w (.cells #[.int .u8 (rkind t.g), .string (txt t.g), .int .i64 (numOf t.g), .int .i64 t.line] 245)
  unfold rtok
  generalize rkind t.g = K at *
  generalize txt t.g = S at *
  generalize numOf t.g = M at *
  go_enter Tryz.func271, Tryz.ntmps271
  go_wp2_with fail
  go_ret
  exact ⟨rfl, kA⟩

theorem fits_other {w : World} (t : Tn) (s : ByteArray) (n1 : (s.toList == [78, 65, 77, 69]) = false) (n2 : (s.toList == [73, 78, 84]) = false) (n3 : (s.toList == [84, 69, 82, 77]) = false) : Calls Tryz.prog 271 #[.string s, rtok t] w fun e w' => e = .returned (.bool (((rkind t.g == 119) || (rkind t.g == 115)) && ((txt t.g).toList == s.toList))) ∧ Keeps [] w w' := by
  cases h1 : (rkind t.g == 119) with
  | true => simpa using fits_word t s n1 n2 n3 h1
  | false =>
    cases h2 : (rkind t.g == 115) with
    | true => simpa using fits_sign t s n1 n2 n3 h1 h2
    | false => simpa using fits_no t s n1 n2 n3 h1 h2

def signS (x : Sm) : Prop := match x with | .dom | .rel | .lp | .rp | .comma | .semi | .dot | .arrow | .bang => True | _ => False
theorem sign_fits (x : Sm) (hx : signS x) (g : Sg) : (((rkind g == 119) || (rkind g == 115)) && ((txt g).toList == (symStr x).toList)) = fitsG x g := by
  have e : ∀ a b : ByteArray, (a.toList == b.toList) = decide (a = b) := fun a b => by rw [Bool.eq_iff_iff, str_eq, decide_eq_true_iff]
  rw [e]
  cases g with
  | name s => cases x <;> first | rfl | exact hx.elim
  | var s => cases x <;> first | rfl | exact hx.elim
  | int s => cases x <;> first | rfl | exact hx.elim
  | _ => cases x <;> first | exact hx.elim | rfl | decide

theorem fits_calls {w : World} (x : Sm) (hx : ∀ g, expand x g = none) (t : Tn) : Calls Tryz.prog 271 #[.string (symStr x), rtok t] w fun e w' => e = .returned (.bool (fitsG x t.g)) ∧ Keeps [] w w' := by
  cases x with
  | name =>
    have h := fits_name (w := w) t
    rw [kind_name] at h
    exact h
  | int =>
    have h := fits_int (w := w) t
    rw [kind_int] at h
    exact h
  | term =>
    by_cases h1 : isIntG t.g = true
    · have h := fits_term1 (w := w) t (by rw [kind_int, h1])
      have e : fitsG .term t.g = true := by cases hg : t.g <;> rw [hg] at h1 <;> first | rfl | cases h1
      rw [e]
      exact h
    · have h := fits_term2 (w := w) t (by rw [kind_int]; simpa using h1)
      have e : fitsG .term t.g = (rkind t.g == 118) := by rw [kind_var]; cases hg : t.g <;> rw [hg] at h1 <;> first | rfl | exact absurd rfl h1
      rw [e]
      exact h
  | dom =>
    have h := fits_other (w := w) t (symStr .dom) (by rw [toList_beq]; decide) (by rw [toList_beq]; decide) (by rw [toList_beq]; decide)
    rw [sign_fits .dom trivial] at h
    exact h
  | rel =>
    have h := fits_other (w := w) t (symStr .rel) (by rw [toList_beq]; decide) (by rw [toList_beq]; decide) (by rw [toList_beq]; decide)
    rw [sign_fits .rel trivial] at h
    exact h
  | lp =>
    have h := fits_other (w := w) t (symStr .lp) (by rw [toList_beq]; decide) (by rw [toList_beq]; decide) (by rw [toList_beq]; decide)
    rw [sign_fits .lp trivial] at h
    exact h
  | rp =>
    have h := fits_other (w := w) t (symStr .rp) (by rw [toList_beq]; decide) (by rw [toList_beq]; decide) (by rw [toList_beq]; decide)
    rw [sign_fits .rp trivial] at h
    exact h
  | comma =>
    have h := fits_other (w := w) t (symStr .comma) (by rw [toList_beq]; decide) (by rw [toList_beq]; decide) (by rw [toList_beq]; decide)
    rw [sign_fits .comma trivial] at h
    exact h
  | semi =>
    have h := fits_other (w := w) t (symStr .semi) (by rw [toList_beq]; decide) (by rw [toList_beq]; decide) (by rw [toList_beq]; decide)
    rw [sign_fits .semi trivial] at h
    exact h
  | dot =>
    have h := fits_other (w := w) t (symStr .dot) (by rw [toList_beq]; decide) (by rw [toList_beq]; decide) (by rw [toList_beq]; decide)
    rw [sign_fits .dot trivial] at h
    exact h
  | arrow =>
    have h := fits_other (w := w) t (symStr .arrow) (by rw [toList_beq]; decide) (by rw [toList_beq]; decide) (by rw [toList_beq]; decide)
    rw [sign_fits .arrow trivial] at h
    exact h
  | bang =>
    have h := fits_other (w := w) t (symStr .bang) (by rw [toList_beq]; decide) (by rw [toList_beq]; decide) (by rw [toList_beq]; decide)
    rw [sign_fits .bang trivial] at h
    exact h
  | PROGRAM => cases hx .fin
  | COLUMNS => cases hx .fin
  | BODY => cases hx .fin
  | LITS => cases hx .fin
  | LIT => cases hx .fin
  | ATOM => cases hx .fin
  | TERMS => cases hx .fin

end Go.Proofs.YtgjomknpjigkhaaGreatDoor

namespace Go.Proofs.YtgjomknpjigkhaaGreatDoor
open Go.RowKit

theorem info9 : (Tryz.prog.info? 9).map (fun i => (i.zero, i.size, i.bytes)) = some (some (.string ⟨#[]⟩), 1, 16) := by kernel_rfl

/-- The least of some numbers. -/
def Lst (P : Nat → Prop) (n : Nat) : Prop := P n ∧ ∀ m, P m → n ≤ m
theorem lst_some {P : Nat → Prop} {n : Nat} (h : P n) : Lst P (Classical.epsilon (Lst P)) := by
  refine Classical.epsilon_spec (p := Lst P) ?_
  induction n using Nat.strongRecOn with
  | _ n ih =>
    by_cases hm : ∃ m, m < n ∧ P m
    · obtain ⟨m, h1, h2⟩ := hm
      exact ih m h1 h2
    · exact ⟨n, h, fun m hp => by
        rcases Nat.lt_or_ge m n with h' | h'
        · exact absurd ⟨m, h', hp⟩ hm
        · exact h'⟩

/-- The tokens lie in a row. -/
def RTok (w : World) (g : Nat) (ts : List Tn) : Prop := ∃ cs, CellsAt w g cs ∧ ∀ (i : Nat) (t : Tn), ts[i]? = some t → cs[i * 4]? = some (.int .u8 (rkind t.g)) ∧ cs[i * 4 + 1]? = some (.string (txt t.g)) ∧ cs[i * 4 + 2]? = some (.int .i64 (numOf t.g)) ∧ cs[i * 4 + 3]? = some (.int .i64 t.line)
theorem RTok.keeps {w w' : World} {g : Nat} {ts : List Tn} {T : List Nat} (h : RTok w g ts) (k : Keeps T w w') (hg : g ∉ T) : RTok w' g ts := by
  obtain ⟨cs, h1, h2⟩ := h
  exact ⟨cs, h1.keeps k hg, h2⟩
theorem RTok.cells {w : World} {g : Nat} {ts : List Tn} (h : RTok w g ts) {i : Nat} {t : Tn} (hi : ts[i]? = some t) : w.cell? ⟨g, i * 4, none⟩ = some (.int .u8 (rkind t.g)) ∧ w.cell? ⟨g, i * 4 + 1, none⟩ = some (.string (txt t.g)) ∧ w.cell? ⟨g, i * 4 + 2, none⟩ = some (.int .i64 (numOf t.g)) ∧ w.cell? ⟨g, i * 4 + 3, none⟩ = some (.int .i64 t.line) := by
  obtain ⟨cs, h1, h2⟩ := h
  obtain ⟨a, b, c, d⟩ := h2 i t hi
  exact ⟨by rw [h1.cell]; exact a, by rw [h1.cell]; exact b, by rw [h1.cell]; exact c, by rw [h1.cell]; exact d⟩
theorem RTok.lt {w : World} {g : Nat} {ts : List Tn} (h : RTok w g ts) : g < w.heap.size := by
  obtain ⟨cs, h1, _⟩ := h
  exact h1.lt
theorem drop_at {A : Type} {l us : List A} {i : Nat} {t : A} (h : l.drop i = t :: us) : l[i]? = some t ∧ l.drop (i + 1) = us ∧ i < l.length := by
  have hl : i < l.length := by
    rcases Nat.lt_or_ge i l.length with h' | h'
    · exact h'
    · rw [List.drop_eq_nil_of_le h'] at h; cases h
  rw [List.drop_eq_getElem_cons hl] at h
  cases h
  exact ⟨List.getElem?_eq_getElem hl, rfl, hl⟩
theorem symV_push (st : List Sm) (x : Sm) : symV (x :: st).reverse = symV st.reverse ++ [.string (symStr x)] := by simp [symV]
theorem symV_len (st : List Sm) : (symV st).length = st.length := by simp [symV]

def FormInv (w : World) (toks : List Tn) (r n : Nat) (y x : Value) (wr : World) : Prop := ∃ (st : List Sm) (us : List Tn) (i : Nat), x = .int .i64 i ∧ toks.drop i = us ∧ i ≤ toks.length ∧ Form n st us r ∧ st.length + 8 * n ≤ 100000000 ∧ wr.ownsRow w.heap.size 9 1 y st.length (symV st.reverse) ∧ Keeps [] w wr

theorem form_less {w : World} {toks : List Tn} {r m : Nat} {y x : Value} {wr : World} (h : FormInv w toks r m y x wr) : Classical.epsilon (Lst fun n => FormInv w toks r n y x wr) ≤ m := (lst_some (P := fun n => FormInv w toks r n y x wr) h).2 _ h
theorem ownE_succ {W : World} {base : Nat} {e : TypeId} {size : Nat} {v : Value} {k : Nat} {xs : List Value} (h : W.ownsRow base e size v (k + 1) xs) : ∃ g cap, v = .slice (some ⟨g, 0, none⟩) (k + 1) cap := by
  rcases h.2 with ⟨_, h0⟩ | ⟨g, cap, _, rfl, _⟩
  · omega
  · exact ⟨g, cap, rfl⟩
theorem ownE_cap {W : World} {base : Nat} {e : TypeId} {size g n cap : Nat} {xs : List Value} (h : W.ownsRow base e size (.slice (some ⟨g, 0, none⟩) n cap) n xs) : n ≤ cap := by
  rcases h.2 with ⟨h0, _⟩ | ⟨g', cap', cur, hv, hg, hh, hn, hcap, hsz, htake⟩
  · cases h0
  · cases hv; exact hn
theorem expand_len {x : Sm} {g : Sg} {m : List Sm} (h : expand x g = some m) : m.length ≤ 8 := by
  cases x <;> cases g <;> first | (cases h; done) | (cases h; decide)
theorem lone_of {x : Sm} {g : Sg} (h : expand x g = none) : ∀ g, expand x g = none := by
  cases x <;> first | exact lone_dom | exact lone_rel | exact lone_name | exact lone_int | exact lone_term | exact lone_lp | exact lone_rp | exact lone_comma | exact lone_semi | exact lone_dot | exact lone_arrow | exact lone_bang | (cases g <;> cases h)

set_option maxRecDepth 100000 in
set_option maxHeartbeats 4000000 in
theorem form_calls {w : World} {g c : Nat} (toks : List Tn) (r n : Nat) (hn : n ≤ 1000000) (hf : Form n [.PROGRAM] toks r) (hl : toks.length ≤ 1000000) (hwf : ∀ t ∈ toks, WfE t.g) (hrow : RTok w g toks) : Calls Tryz.prog 229 #[.slice (some ⟨g, 0, none⟩) toks.length c] w fun e w' => e = .returned (.int .i64 r) ∧ Keeps [] w w' := by
  obtain ⟨i0, hi0, hz0, hz1, hz2⟩ := info_parts info9
  have hB := hide (fun (w : World) (x : Sm) (t : Tn) (h : WfE t.g) => becomes_calls (w := w) x t h)
  have hF := hide (fun (w : World) (x : Sm) (h : ∀ g, expand x g = none) (t : Tn) => fits_calls (w := w) x h t)
  have hfirst := rowNew w w.heap.size (symV [.PROGRAM]) (Nat.le_refl _) (by decide)
  have kfirst := Keeps.alloc [] w (.cells (symV [.PROGRAM]).toArray 9)
  go_enter Tryz.func229, Tryz.ntmps229
  go_wp2_with fail
  go_loopw [3, 4] (fun y x wr => ∃ n, FormInv w toks r n y x wr) (fun y x wr => Classical.epsilon (Lst fun n => FormInv w toks r n y x wr))
  case atStart => exact ⟨n, [.PROGRAM], toks, 0, rfl, rfl, by omega, hf, by simp; omega, hfirst, kfirst⟩
  case round =>
    obtain ⟨n1, hn1⟩ := hrel
    obtain ⟨hP, _⟩ := lst_some (P := fun n => FormInv w toks r n u3 u4 wr) hn1
    clear hn1
    generalize hN : Classical.epsilon (Lst fun n => FormInv w toks r n u3 u4 wr) = N at hP
    have HN := hide hN
    clear hN
    obtain ⟨st, us, i, rfl, hd, hil, hform, hsz, own, kr⟩ := hP
    cases hform with
    | done =>
      obtain ⟨ay, cy, rfl⟩ := ownE_len own
      go_wp2_with fail
      go_ret
      exact ⟨rfl, kr⟩
    | @bad x st t ts he hfit =>
      obtain ⟨ht, hd2, hil2⟩ := drop_at hd
      have hrow1 := hrow.keeps kr (by simp)
      obtain ⟨c0, c1, c2, c3⟩ := hrow1.cells ht
      obtain ⟨gy, cy, rfl⟩ := ownE_succ own
      rw [symV_push] at own
      have ownp := ownsRow_pop (by rw [symV_len, List.length_reverse, Nat.mul_one]) own
      have htop : wr.cell? ⟨gy, st.length, none⟩ = some (.string (symStr x)) := ownE_cell own (by rw [List.getElem?_append_right (by rw [symV_len, List.length_reverse]; omega), symV_len, List.length_reverse, Nat.sub_self]; rfl)
      have hwft := hwf t (List.mem_of_getElem? ht)
      have hb := hide (fun w => hB.out w x t hwft)
      rw [he] at hb
      have hp : st.length ≤ 100000000 := by rw [List.length_cons] at hsz; omega
      have hiI : (i : Int) < toks.length := by omega
      have hcap := ownE_cap own
      have hcap2 : st.length ≤ cy := by omega
      have hcap3 : cy ≠ 0 := by omega
      have hff := hide (fun w => hF.out w x (lone_of he) t)
      rw [hfit] at hff
      obtain ⟨p, hpl⟩ : ∃ p, p = st.length := ⟨_, rfl⟩
      rw [← hpl] at ownp htop hp hcap hcap2 ⊢
      have Hpl := hide hpl
      have Hown := hide own
      have Ht := hide ht
      have Hd2 := hide hd2
      have Hsz := hide hsz
      have HN2 := HN
      clear hsz hd hd2 ht he hfit hpl own HN
      go_wp2_with fail
      refine (hb.out _).mono ?_
      rintro e w1 ⟨hbe, k1⟩
      cases hbe
      have hrow2 := hrow1.keeps k1 (by simp)
      obtain ⟨d0, d1, d2, d3⟩ := hrow2.cells Ht.out
      go_wp2_with fail
      refine (hff.out _).mono ?_
      rintro e w2 ⟨rfl, k2⟩
      have hrow3 := hrow2.keeps k2 (by simp)
      obtain ⟨f0, f1, f2, f3⟩ := hrow3.cells Ht.out
      go_wp2_with fail
      go_ret
      exact ⟨rfl, (kr.trans k1).trans k2⟩
    | @take n x st t ts r he hfit hform =>
      obtain ⟨ht, hd2, hil2⟩ := drop_at hd
      have hrow1 := hrow.keeps kr (by simp)
      obtain ⟨c0, c1, c2, c3⟩ := hrow1.cells ht
      obtain ⟨gy, cy, rfl⟩ := ownE_succ own
      rw [symV_push] at own
      have ownp := ownsRow_pop (by rw [symV_len, List.length_reverse, Nat.mul_one]) own
      have htop : wr.cell? ⟨gy, st.length, none⟩ = some (.string (symStr x)) := ownE_cell own (by rw [List.getElem?_append_right (by rw [symV_len, List.length_reverse]; omega), symV_len, List.length_reverse, Nat.sub_self]; rfl)
      have hwft := hwf t (List.mem_of_getElem? ht)
      have hb := hide (fun w => hB.out w x t hwft)
      rw [he] at hb
      have hp : st.length ≤ 100000000 := by rw [List.length_cons] at hsz; omega
      have hiI : (i : Int) < toks.length := by omega
      have hcap := ownE_cap own
      have hcap2 : st.length ≤ cy := by omega
      have hcap3 : cy ≠ 0 := by omega
      have hff := hide (fun w => hF.out w x (lone_of he) t)
      rw [hfit] at hff
      obtain ⟨p, hpl⟩ : ∃ p, p = st.length := ⟨_, rfl⟩
      rw [← hpl] at ownp htop hp hcap hcap2 ⊢
      have Hpl := hide hpl
      have Hown := hide own
      have Ht := hide ht
      have Hd2 := hide hd2
      have Hsz := hide hsz
      have HN2 := HN
      clear hsz hd hd2 ht he hfit hpl own HN
      go_wp2_with fail
      refine (hb.out _).mono ?_
      rintro e w1 ⟨hbe, k1⟩
      cases hbe
      have hrow2 := hrow1.keeps k1 (by simp)
      obtain ⟨d0, d1, d2, d3⟩ := hrow2.cells Ht.out
      go_wp2_with fail
      refine (hff.out _).mono ?_
      rintro e w2 ⟨rfl, k2⟩
      have hnew : FormInv w toks r n (.slice (some ⟨gy, 0, none⟩) p cy) (.int .i64 ((i : Int) + 1)) w2 := ⟨st, ts, i + 1, by simp, Hd2.out, by omega, hform, by have := Hsz.out; rw [List.length_cons] at this; omega, by rw [← Hpl.out]; exact ownsRow_kept ownp (k1.trans k2) (by simp), (kr.trans k1).trans k2⟩
      have Hnew := hide hnew
      clear hnew
      go_wp2_with fail
      go_roundw
      · exact ⟨n, Hnew.out⟩
      · have h1 := form_less Hnew.out
        have h2 := HN2.out
        rw [← Hpl.out] at h2
        rw [h2]
        exact Nat.lt_succ_of_le h1
    | @grow n x m st t ts r he hform =>
      have Hml := hide (expand_len he)
      obtain ⟨ht, hd2, hil2⟩ := drop_at hd
      have hrow1 := hrow.keeps kr (by simp)
      obtain ⟨c0, c1, c2, c3⟩ := hrow1.cells ht
      obtain ⟨gy, cy, rfl⟩ := ownE_succ own
      rw [symV_push] at own
      have ownp := ownsRow_pop (by rw [symV_len, List.length_reverse, Nat.mul_one]) own
      have htop : wr.cell? ⟨gy, st.length, none⟩ = some (.string (symStr x)) := ownE_cell own (by rw [List.getElem?_append_right (by rw [symV_len, List.length_reverse]; omega), symV_len, List.length_reverse, Nat.sub_self]; rfl)
      have hwft := hwf t (List.mem_of_getElem? ht)
      have hb := hide (fun w => hB.out w x t hwft)
      rw [he] at hb
      have hp : st.length ≤ 100000000 := by rw [List.length_cons] at hsz; omega
      have hiI : (i : Int) < toks.length := by omega
      have hcap := ownE_cap own
      have hcap2 : st.length ≤ cy := by omega
      have hcap3 : cy ≠ 0 := by omega
      obtain ⟨p, hpl⟩ : ∃ p, p = st.length := ⟨_, rfl⟩
      rw [← hpl] at ownp htop hp hcap hcap2 ⊢
      have Hpl := hide hpl
      have Hown := hide own
      have Ht := hide ht
      have Hd2 := hide hd2
      have Hsz := hide hsz
      have HN2 := HN
      clear hsz hd hd2 ht he hpl own HN
      go_wp2_with fail
      refine (hb.out _).mono ?_
      rintro e w1 ⟨hbe, k1⟩
      obtain ⟨vm, rfl, ownm⟩ := hbe
      obtain ⟨am, cm, rfl⟩ := ownE_len ownm
      have hml : m.length ≤ 8 := Hml.out
      have hmc : ∀ (j : Nat) (x : Sm), m[j]? = some x → ∃ gm cs, am = some ⟨gm, 0, none⟩ ∧ CellsAt w1 gm cs ∧ wr.heap.size ≤ gm ∧ ∀ (j : Nat) (x : Sm), m[j]? = some x → cs[j]? = some (.string (symStr x)) := by
        intro j x hj
        have hm0 : 0 < m.length := by
          rcases Nat.eq_zero_or_pos m.length with h | h
          · rw [List.length_eq_zero_iff] at h; subst h; simp at hj
          · exact h
        obtain ⟨_, ⟨h1, h2⟩ | ⟨gm, cap, cur, hv, hb, hg, hn, hc, hs, htk⟩⟩ := ownm
        · omega
        · cases hv
          refine ⟨gm, cur, rfl, ⟨_, hg⟩, hb, fun j x hj => ?_⟩
          have : (symV m)[j]? = some (.string (symStr x)) := by simp [symV, hj]
          rw [← htk, List.getElem?_take] at this
          split at this
          · rw [← this]; simp
          · cases this
      have hgyl : gy < wr.heap.size := by
        obtain ⟨_, cs, t', hh⟩ := ownE_base ownp gy rfl
        rcases Nat.lt_or_ge gy wr.heap.size with h | h
        · exact h
        · rw [Array.getElem?_eq_none h] at hh; cases hh
      have ownq := ownsRow_kept ownp k1 (by simp)
      have Hmc := hide hmc
      clear hmc ownm ownp
      go_wp2_with fail
      go_loopw [3, 9] (fun y z wr' => ∃ k : Nat, z = .int .i64 ((k : Int) - 1) ∧ k ≤ m.length ∧ wr'.ownsRow w.heap.size 9 1 y (p + (m.length - k)) (symV (m.drop k ++ st).reverse) ∧ Keeps [] w wr' ∧ (∀ (j : Nat) (x : Sm), m[j]? = some x → ∃ gm cs, am = some ⟨gm, 0, none⟩ ∧ CellsAt wr' gm cs ∧ y.ownBlock ≠ some gm ∧ ∀ (j : Nat) (x : Sm), m[j]? = some x → cs[j]? = some (.string (symStr x)))) (fun _ z _ => (intOf z + 1).toNat)
      case atStart => exact ⟨m.length, by simp, by omega, by simpa using ownq, kr.trans k1, fun j x hj => by
        obtain ⟨gm, cs, h1, h2, h3, h4⟩ := Hmc.out j x hj
        exact ⟨gm, cs, h1, h2, by simp [Value.ownBlock]; omega, h4⟩⟩
      case round =>
        obtain ⟨k, rfl, hk, ownk, kk, hmk⟩ := hrel
        obtain ⟨yk, hyk⟩ : ∃ y, y = u3 := ⟨_, rfl⟩
        obtain ⟨wk, hwk⟩ : ∃ y, y = wr := ⟨_, rfl⟩
        subst hyk
        subst hwk
        cases k with
        | zero =>
          have hnew : FormInv w toks r n yk (.int .i64 i) wk := ⟨m ++ st, t :: ts, i, rfl, by rw [List.drop_eq_getElem_cons hil2, Hd2.out]; congr 1; have := Ht.out; rw [List.getElem?_eq_getElem hil2] at this; exact Option.some.inj this, by omega, hform, by have := Hsz.out; rw [List.length_cons] at this; rw [List.length_append]; omega, by rw [List.length_append, ← Hpl.out, Nat.add_comm]; exact ownk, kk⟩
          have Hnew := hide hnew
          clear hnew hmk ownk
          have hz : ¬ (0 : Int) ≤ ((0 : Nat) : Int) - 1 := by omega
          go_wp2_with fail
          go_roundw
          · exact ⟨n, Hnew.out⟩
          · have h1 := form_less Hnew.out
            have h2 := HN2.out
            rw [← Hpl.out] at h2
            rw [h2]
            exact Nat.lt_succ_of_le h1
        | succ k =>
          rw [show ((k + 1 : Nat) : Int) - 1 = (k : Int) by omega]
          have hkm : k < m.length := by omega
          have hx := List.getElem?_eq_getElem hkm
          generalize m[k] = xk at hx
          obtain ⟨gm, cs, rfl, hcs, hne, hall⟩ := hmk k xk hx
          have hcell : wk.cell? ⟨gm, k, none⟩ = some (.string (symStr xk)) := by rw [hcs.cell]; exact hall k xk hx
          have hkI : (k : Int) < m.length := by omega
          have Hmore : Hid (m.drop k = xk :: m.drop (k + 1)) := hide (by rw [List.drop_eq_getElem_cons hkm]; congr 1; rw [List.getElem?_eq_getElem hkm] at hx; exact Option.some.inj hx)
          have Hall := hide hall
          have Hne := hide hne
          have kB := Keeps.alloc [] wk (.cells #[.string (symStr xk)] 9)
          have ownB := ownsRow_kept ownk kB (by simp)
          have hone : ∀ (j : Nat) (u : Value), [Value.string (symStr xk)][j]? = some u → (wk.alloc (.cells #[.string (symStr xk)] 9)).cell? ((⟨wk.heap.size, 0, none⟩ : Addr).add j) = some u := by
            intro j u hu
            rw [Addr.add_lit, Nat.zero_add, (CellsAt.new wk #[.string (symStr xk)] 9).cell]
            match j with
            | 0 => simpa using hu
            | j + 1 => simp at hu
          have hszB : w.heap.size ≤ (wk.alloc (.cells #[.string (symStr xk)] 9)).heap.size := by rw [sizeE_alloc]; have := kk.size; omega
          have hcsl := hcs.lt
          have Hcs := hide hcs
          clear hall hne hmk hcs
          obtain ⟨ay, cy2, rfl⟩ := ownE_len ownk
          go_wp2_with (at_builtin; refine wpList_append_own_at _ rfl _ _ 35 rfl w.heap.size 9 i0 (.string ⟨#[]⟩) 1 16 Tryz.underlying35 hi0 hz0 hz1 hz2 rfl (by decide) _ (p + (m.length - (k + 1))) (symV (m.drop (k + 1) ++ st).reverse) rfl ownB ⟨wk.heap.size, 0, none⟩ 1 1 [.string (symStr xk)] rfl (by simp) hone (by simp [Value.oneCell']) (by unfold maxLen; omega) (by omega) hszB ?_)
          intro v' W2 own2 grow2 nil2 at2
          have k2 := grownBy_keeps' grow2 (Value.slice ay (p + (m.length - (k + 1))) cy2).ownBlock.toList (fun r e => .inl (by simp [e]))
          have kf : Keeps [] w W2 := (kk.trans kB).trans_new k2 fun j hj => .inr (ownE_base ownk j (by simpa using hj)).1
          have Hown2 : Hid (W2.ownsRow w.heap.size 9 1 v' (p + (m.length - k)) (symV (m.drop k ++ st).reverse)) := hide (by rw [Hmore.out, List.cons_append, symV_push, List.reverse_append, show p + (m.length - k) = p + (m.length - (k + 1)) + 1 by omega]; exact own2)
          have Hm2 : Hid (CellsAt W2 gm cs ∧ v'.ownBlock ≠ some gm) := hide ⟨(Hcs.out.keeps kB (by simp)).keeps k2 (by intro h; exact Hne.out (by simpa using h)), by
            rcases at2 with h | h
            · rw [h]; exact Hne.out
            · rw [h]; intro e; have := Option.some.inj e; omega⟩
          clear own2 grow2 nil2 at2 ownB hone hszB
          go_wp2_with fail
          go_roundw
          · exact ⟨k, rfl, by omega, Hown2.out, kf, fun j x hj => ⟨gm, cs, rfl, Hm2.out.1, Hm2.out.2, Hall.out⟩⟩
          · simp only [intOf]; omega

end Go.Proofs.YtgjomknpjigkhaaGreatDoor
