/- The document's kernel: bits, bytes, tables. -/
import Derived.Test.YtgjomknpjigkhaaGreatDoorQ1
import Derived.Laws.IdiomStrings
import Derived.Laws.MakeOwn
namespace Go.Proofs.YtgjomknpjigkhaaGreatDoor
open Go.RowKit

/-- A truth value as a byte. -/
def bi (x : Bool) : Int := if x then 49 else 48
def bu (x : Bool) : UInt8 := if x then 49 else 48
theorem bu_bi (x : Bool) : ((bu x).toNat : Int) = bi x := by cases x <;> rfl
/-- A table as a text. -/
def bts (t : List Bool) : ByteArray := ⟨(t.map bu).toArray⟩

theorem bts_size (t : List Bool) : (bts t).size = t.length := by simp [bts, ByteArray.size]
theorem bu_inj {x y : Bool} (h : bu x = bu y) : x = y := by cases x <;> cases y <;> first | rfl | (exact absurd h (by decide))
theorem bts_inj {t u : List Bool} (h : bts t = bts u) : t = u := by
  have h1 : t.map bu = u.map bu := by
    have := congrArg (fun s : ByteArray => s.data.toList) h
    simpa [bts] using this
  exact List.map_inj_right (fun _ _ => bu_inj) |>.1 h1
theorem bts_beq (t u : List Bool) : ((bts t).toList == (bts u).toList) = decide (t = u) := by
  rw [ByteArray.toList_eq, ByteArray.toList_eq]
  by_cases h : t = u
  · subst h; simp
  · have : ¬ (bts t).data.toList = (bts u).data.toList := fun e => h (by
      have : t.map bu = u.map bu := by simpa [bts] using e
      exact List.map_inj_right (fun _ _ => bu_inj) |>.1 this)
    rw [decide_eq_false h]
    exact beq_false_of_ne this

theorem bts_index {t : List Bool} {a : Nat} {x : Bool} (h : t[a]? = some x) (w : World) : (Instr.index 9 (.string (bts t)) (.int .i64 (a : Int))).run Tryz.prog w = .ok (.int .u8 (bi x)) w := by
  have hl : a < t.length := (List.getElem?_eq_some_iff.1 h).1
  have hx : t[a] = x := (List.getElem?_eq_some_iff.1 h).2
  rw [run_index_string w 9 (bts t) .i64 a Tryz.underlying9, dif_pos (by rw [bts_size]; omega)]
  congr 2
  rw [← bu_bi, ← hx]
  simp [bts, ByteArray.getElem_eq_getElem_data]

set_option maxHeartbeats 400000 in
theorem truth_calls {w : World} (x : Bool) : Calls Tryz.prog 167 #[.bool x] w fun e w' => e = .returned (.int .u8 (bi x)) ∧ w' = w := by
  cases x
  · go_enter Tryz.func167, Tryz.ntmps167
    go_wp2
    go_ret
    exact ⟨rfl, rfl⟩
  · go_enter Tryz.func167, Tryz.ntmps167
    go_wp2
    go_ret
    exact ⟨rfl, rfl⟩

set_option maxHeartbeats 400000 in
theorem rbit_calls {w : World} (a i r : Nat) (ha : a < 1000) (hi : i ≤ 10) (hr : a / 2 ^ i % 2 = r) : Calls Tryz.prog 168 #[.int .i64 (a : Int), .int .i64 (i : Int)] w fun e w' => e = .returned (.int .i64 (r : Int)) ∧ w' = w := by
  have Hr := hide hr
  clear hr
  go_enter Tryz.func168, Tryz.ntmps168
  go_wp2_with fail
  go_loopw [0, 5] (fun x y wr => ∃ b j : Nat, x = .int .i64 b ∧ y = .int .i64 j ∧ j ≤ i ∧ b = a / 2 ^ j ∧ wr = w) (fun _ y _ => ((i : Int) - intOf y).toNat)
  case atStart => exact ⟨a, 0, rfl, rfl, by omega, by simp, rfl⟩
  case round =>
    obtain ⟨b, j, rfl, rfl, hj, hb, rfl⟩ := hrel
    have hb1 : b ≤ a := by rw [hb]; exact Nat.div_le_self _ _
    have Hb := hide hb
    clear hb
    by_cases hji : j < i
    · have hjI : (j : Int) < i := by omega
      go_wp2_with fail
      go_roundw
      · refine ⟨b / 2, j + 1, ?_, by simp, by omega, ?_, by trivial⟩
        · congr 1
        · rw [Hb.out, Nat.div_div_eq_div_mul, Nat.pow_succ]
      · simp only [intOf]; omega
    · have hjI : ¬ (j : Int) < i := by omega
      have e : j = i := by omega
      go_wp2_with fail
      go_ret
      refine ⟨?_, rfl⟩
      rw [← Hr.out, ← e, ← Hb.out]
      rfl

theorem two_le {i : Nat} (h : i ≤ 10) : (2 : Nat) ^ i ≤ 1024 := Nat.pow_le_pow_right (n := 2) (by decide) h

set_option maxHeartbeats 400000 in
theorem power_calls {w : World} (i r : Nat) (hi : i ≤ 10) (hr : 2 ^ i = r) : Calls Tryz.prog 181 #[.int .i64 (i : Int)] w fun e w' => e = .returned (.int .i64 (r : Int)) ∧ w' = w := by
  have Hr := hide hr
  clear hr
  go_enter Tryz.func181, Tryz.ntmps181
  go_wp2_with fail
  go_loopw [3, 4] (fun x y wr => ∃ b j : Nat, x = .int .i64 b ∧ y = .int .i64 j ∧ j ≤ i ∧ b = 2 ^ j ∧ wr = w) (fun _ y _ => ((i : Int) - intOf y).toNat)
  case atStart => exact ⟨1, 0, rfl, rfl, by omega, by simp, rfl⟩
  case round =>
    obtain ⟨b, j, rfl, rfl, hj, hb, rfl⟩ := hrel
    have hb1 : b ≤ 1024 := by rw [hb]; exact two_le (by omega)
    have Hb := hide hb
    clear hb
    by_cases hji : j < i
    · have hjI : (j : Int) < i := by omega
      go_wp2_with fail
      go_roundw
      · refine ⟨2 * b, j + 1, by push_cast; rfl, by simp, by omega, ?_, by trivial⟩
        rw [Hb.out, Nat.pow_succ, Nat.mul_comm]
      · simp only [intOf]; omega
    · have hjI : ¬ (j : Int) < i := by omega
      have e : j = i := by omega
      go_wp2_with fail
      go_ret
      refine ⟨?_, rfl⟩
      rw [← Hr.out, ← e, ← Hb.out]
      rfl

theorem div_bit (a i : Nat) : a / 2 ^ i % 2 = if a.testBit i then 1 else 0 := by
  rw [Nat.testBit_eq_decide_div_mod_eq]
  have := Nat.mod_two_eq_zero_or_one (a / 2 ^ i)
  split
  · rename_i h; simpa using h
  · rename_i h; simp at h; omega

theorem bit_le (a i : Nat) (h : a.testBit i = true) : 2 ^ i ≤ a := Nat.ge_two_pow_of_testBit h

/-- A truth value as a number. -/
def ni (x : Bool) : Int := if x then 1 else 0

set_option maxHeartbeats 400000 in
theorem rset_calls {w : World} (a i r : Nat) (v : Bool) (ha : a < 1000) (hi : i ≤ 8) (hr : setN a i v = r) : Calls Tryz.prog 177 #[.int .i64 (a : Int), .int .i64 (i : Int), .int .i64 (ni v)] w fun e w' => e = .returned (.int .i64 (r : Int)) ∧ w' = w := by
  have hp : 2 ^ i ≤ 256 := Nat.pow_le_pow_right (n := 2) (by decide) hi
  obtain ⟨p, ep⟩ : ∃ p, 2 ^ i = p := ⟨_, rfl⟩
  obtain ⟨q, eq⟩ : ∃ q, a / 2 ^ i % 2 = q := ⟨_, rfl⟩
  have h1 := hide (fun w : World => rbit_calls (w := w) a i q ha (by omega) eq)
  have h2 := hide (fun w : World => power_calls (w := w) i p (by omega) ep)
  have hq : q ≤ 1 := by omega
  have hs : (r : Int) = a + (ni v - q) * p := by
    have e1 := div_bit a i
    rw [eq] at e1
    rw [← hr]
    unfold setN ni
    cases hb : a.testBit i
    · rw [hb] at e1
      simp at e1
      cases v <;> simp [e1, ep]
    · rw [hb] at e1
      simp at e1
      have := bit_le a i hb
      rw [ep] at this ⊢
      cases v <;> simp [e1] <;> omega
  have hv0 : ni v = 0 ∨ ni v = 1 := by unfold ni; split <;> omega
  rw [ep] at hp
  generalize ni v = V at *
  have hm : -256 ≤ (V - q) * p ∧ (V - q) * p ≤ 256 := by
    have : V - q = -1 ∨ V - q = 0 ∨ V - q = 1 := by omega
    rcases this with e | e | e <;> rw [e] <;> omega
  have w1 : wrap64 (V - q) = V - q := by unfold wrap64; omega
  have w2 : wrap64 ((V - q) * p) = (V - q) * p := by
    generalize (V - q) * (p : Int) = z at hm
    unfold wrap64; omega
  have w3 : wrap64 (a + (V - q) * p) = r := by
    rw [hs]
    generalize (V - q) * (p : Int) = z at hm
    unfold wrap64; omega
  have Hs := hide (And.intro hs (And.intro hm (And.intro ep (And.intro eq (And.intro hr hv0)))))
  clear hs hm ep eq hr hp hq hv0
  go_enter Tryz.func177, Tryz.ntmps177
  go_wp2_with fail
  refine (h1.out _).mono ?_
  rintro e w' ⟨rfl, rfl⟩
  go_wp2_with fail
  refine (h2.out _).mono ?_
  rintro e w' ⟨rfl, rfl⟩
  go_wp2_with fail
  go_ret
  refine ⟨?_, rfl⟩
  rw [← w3]
  rfl

/-- Bytes filled as far as a. -/
structure FillB (w : World) (tb : Nat) (t : List Bool) (a : Nat) : Prop where
  row : ∃ cs, w.heap[tb]? = some (.cells cs 5 (0, 0)) ∧ cs.size = t.length ∧ ∀ (i : Nat) (x : Bool), i < a → t[i]? = some x → cs[i]? = some (.int .u8 (bi x))

theorem FillB.lt {w : World} {tb : Nat} {t : List Bool} {a : Nat} (h : FillB w tb t a) : tb < w.heap.size := by
  obtain ⟨cs, h1, _⟩ := h.row
  exact (Array.getElem?_eq_some_iff.1 h1).1
theorem FillB.frozen {w : World} {tb : Nat} {t : List Bool} {a : Nat} (h : FillB w tb t a) (i : Nat) : w.frozen? ⟨tb, i, none⟩ = false := by
  obtain ⟨cs, h1, _⟩ := h.row
  exact CellsAt.frozen ⟨_, h1⟩ i
theorem FillB.keeps {w w' : World} {tb : Nat} {t : List Bool} {a : Nat} {T : List Nat} (h : FillB w tb t a) (k : Keeps T w w') (hb : tb ∉ T) : FillB w' tb t a := by
  obtain ⟨cs, h1, h2⟩ := h.row
  exact ⟨cs, (k.block tb h.lt hb).trans h1, h2⟩
theorem FillB.cell {w : World} {tb : Nat} {t : List Bool} {a : Nat} (h : FillB w tb t a) {i : Nat} (hi : i < t.length) : ∃ v, w.cell? ⟨tb, i, none⟩ = some v := by
  obtain ⟨cs, h1, h2, _⟩ := h.row
  refine ⟨cs[i]'(by omega), ?_⟩
  rw [CellsAt.cell ⟨_, h1⟩]
  exact Array.getElem?_eq_getElem _
theorem FillB.next {w : World} {tb : Nat} {t : List Bool} {a : Nat} (h : FillB w tb t a) {x : Bool} (hx : t[a]? = some x) : FillB (w.setCell ⟨tb, a, none⟩ (.int .u8 (bi x))) tb t (a + 1) := by
  obtain ⟨cs, h1, h2, h3⟩ := h.row
  have hl : a < t.length := (List.getElem?_eq_some_iff.1 hx).1
  refine ⟨cs.setIfInBounds a (.int .u8 (bi x)), ?_, by simp [h2], fun i y hi hy => ?_⟩
  · simp [World.setCell, Array.getElem?_modify, h1]
  · rw [Array.getElem?_setIfInBounds]
    by_cases e : a = i
    · subst e
      rw [hx] at hy
      cases hy
      simp [h2, hl]
    · rw [if_neg e]
      exact h3 i y (by omega) hy

/-- 'string(b)' of bytes that are filled. -/
theorem FillB.text {w : World} {tb : Nat} {t : List Bool} {a : Nat} (h : FillB w tb t a) (ha : t.length ≤ a) (c : Nat) : (convert 120 9 (.slice (some ⟨tb, 0, none⟩) t.length c)).run Tryz.prog w = .ok (.string (bts t)) w := by
  obtain ⟨cs, h1, h2, h3⟩ := h.row
  have := run_convert_bytes_back (P := Tryz.prog) w 120 9 5 ⟨tb, 0, none⟩ c (t.map bu) Tryz.underlying120 Tryz.underlying5 Tryz.underlying9 (fun j hj => by
    rw [List.length_map] at hj
    have e1 : t[j]? = some t[j] := List.getElem?_eq_getElem hj
    have e2 := h3 j _ (by omega) e1
    rw [show (⟨tb, 0, none⟩ : Addr).add j = ⟨tb, j, none⟩ by (simp [Addr.add]; omega), CellsAt.cell ⟨_, h1⟩, e2, List.getElem_map, bu_bi])
  rw [List.length_map] at this
  exact this

theorem info5 : (Tryz.prog.info? 5).map (fun i => (i.zero, i.size, i.bytes)) = some (some (.int .u8 0), 1, 1) := by kernel_rfl

theorem run_makeBytes (w : World) (n : Nat) (hn : n ≤ 1000) : (Instr.makeSlice 120 (.int .i64 (n : Int)) (.int .i64 (n : Int))).run Tryz.prog w = .ok (.slice (some ⟨w.heap.size, 0, none⟩) n n) (w.alloc (.cells (madeCells #[.int .u8 0] n) 5)) := by
  obtain ⟨i0, hi0, hz0, hz1, hz2⟩ := info_parts info5
  have := run_make (P := Tryz.prog) w 120 5 i0 (.int .u8 0) Tryz.underlying120 hi0 hz0 .i64 .i64 n n (by omega) (by omega) (by rw [hz2]; omega) (by omega)
  rw [this, hz1]
  simp [Value.cells]

theorem made_fillB (w : World) (t : List Bool) (n : Nat) (h : t.length = n) : FillB (w.alloc (.cells (madeCells #[.int .u8 0] n) 5)) w.heap.size t 0 :=
  ⟨_, (MapKept.heap_alloc w _).1, by rw [size_madeCells, h], fun i x hi => by omega⟩

theorem fill_keeps {w wr : World} {tb a : Nat} {v : Value} (k : Keeps [] w wr) (h : w.heap.size ≤ tb) : Keeps [] w (wr.setCell ⟨tb, a, none⟩ v) :=
  k.trans_new (Keeps.setCell wr ⟨tb, a, none⟩ v) (by simp; omega)

theorem bi_get {t : List Bool} {a : Nat} (h : a < t.length) : ∃ x, t[a]? = some x := ⟨t[a], List.getElem?_eq_getElem h⟩

set_option maxHeartbeats 400000 in
theorem constant_calls {w : World} {rb n ways : Nat} {cs : Array Value} (x : Bool) (hk : CellsAt w rb cs) (c1 : cs[1]? = some (.int .i64 (ways : Int))) (hw : ways = 2 ^ n) (n8 : n ≤ 8) :
    Calls Tryz.prog 234 #[.pointer (some ⟨rb, 0, none⟩), .int .u8 (bi x)] w fun e w' => e = .returned (.string (bts (tab n fun _ => x))) ∧ Keeps [] w w' := by
  have w256 : ways ≤ 256 := by rw [hw]; exact Nat.pow_le_pow_right (n := 2) (by decide) n8
  have hlen : (tab n fun _ => x).length = ways := by rw [tab_length, hw]
  have hat : ∀ a, a < ways → (tab n fun _ => x)[a]? = some x := fun a ha => tab_get (by rw [← hw]; exact ha)
  have hmk := run_makeBytes w ways (by omega)
  have kx := Keeps.alloc [] w (.cells (madeCells #[.int .u8 0] ways) 5)
  have fx := made_fillB w _ ways hlen
  have d1 := hk.cell 1
  rw [c1] at d1
  have hrb := hk.lt
  generalize (tab n fun _ => x) = t at hlen hat fx ⊢
  have Hlen := hide hlen
  have Hat := hide hat
  have Hw := hide hw
  clear hlen hat hw
  generalize hX : bi x = X
  have HX := hide hX
  clear hX
  go_enter Tryz.func234, Tryz.ntmps234
  go_wp2_with fail
  generalize w.alloc (.cells (madeCells #[.int .u8 0] ways) 5) = W at kx fx ⊢
  go_loopw [6] (fun y wr => ∃ a : Nat, y = .int .i64 a ∧ a ≤ ways ∧ FillB wr w.heap.size t a ∧ Keeps [] w wr) (fun y _ => ((ways : Int) - intOf y).toNat)
  case atStart => exact ⟨0, rfl, by omega, fx, kx⟩
  case round =>
    obtain ⟨a, rfl, ha, fr, kr⟩ := hrel
    have e1 := (hk.keeps kr (by simp)).cell 1
    rw [c1] at e1
    by_cases hal : a < ways
    · have haI : (a : Int) < ways := by omega
      have hfz := fr.frozen a
      obtain ⟨v0, hcl⟩ := fr.cell (i := a) (by rw [Hlen.out]; exact hal)
      go_wp2_with fail
      go_roundw
      · refine ⟨a + 1, by simp, by omega, ?_, fill_keeps kr (Nat.le_refl _)⟩
        rw [← HX.out]
        exact fr.next (Hat.out a hal)
      · simp only [intOf]; omega
    · have haI : ¬ (a : Int) < ways := by omega
      have ht := fr.text (by rw [Hlen.out]; omega) ways
      rw [Hlen.out] at ht
      go_wp2_with fail
      go_ret
      exact ⟨rfl, kr⟩

set_option maxHeartbeats 400000 in
theorem fixed_calls {w : World} {rb n ways : Nat} {cs : Array Value} (t : List Bool) (i : Nat) (v : Bool) (hk : CellsAt w rb cs) (c1 : cs[1]? = some (.int .i64 (ways : Int))) (hw : ways = 2 ^ n) (n8 : n ≤ 8) (ht : t.length = ways) (hi : i < n) :
    Calls Tryz.prog 174 #[.pointer (some ⟨rb, 0, none⟩), .string (bts t), .int .i64 (i : Int), .int .i64 (ni v)] w fun e w' => e = .returned (.string (bts (fixT n t i v))) ∧ Keeps [] w w' := by
  have w256 : ways ≤ 256 := by rw [hw]; exact Nat.pow_le_pow_right (n := 2) (by decide) n8
  have hlen : (fixT n t i v).length = ways := by simp [fixT, hw]
  have hat : ∀ a, a < ways → ∃ (r : Nat) (x : Bool), setN a i v = r ∧ t[r]? = some x ∧ (fixT n t i v)[a]? = some x := by
    intro a ha
    have h1 := setN_lt n a i (by rw [← hw]; exact ha) hi v
    refine ⟨_, t[setN a i v]'(by rw [ht, hw]; exact h1), rfl, List.getElem?_eq_getElem _, ?_⟩
    unfold fixT
    rw [List.getElem?_map, List.getElem?_range (by rw [← hw]; exact ha)]
    simp only [Option.map_some]
    rw [List.getElem?_eq_getElem (by rw [ht, hw]; exact h1)]
    rfl
  have hmk := run_makeBytes w ways (by omega)
  have kx := Keeps.alloc [] w (.cells (madeCells #[.int .u8 0] ways) 5)
  have fx := made_fillB w _ ways hlen
  have d1 := hk.cell 1
  rw [c1] at d1
  have hrb := hk.lt
  have hset := hide (fun (w : World) (a r : Nat) (ha : a < ways) (hr : setN a i v = r) => rset_calls (w := w) a i r v (by omega) (by omega) hr)
  generalize fixT n t i v = u at hlen hat fx ⊢
  generalize ni v = V at hset ⊢
  have Hlen := hide hlen
  have Hat := hide hat
  have Hw := hide hw
  have Ht := hide ht
  clear hlen hat hw ht
  go_enter Tryz.func174, Tryz.ntmps174
  go_wp2_with fail
  generalize w.alloc (.cells (madeCells #[.int .u8 0] ways) 5) = W at kx fx ⊢
  go_loopw [10] (fun y wr => ∃ a : Nat, y = .int .i64 a ∧ a ≤ ways ∧ FillB wr w.heap.size u a ∧ Keeps [] w wr) (fun y _ => ((ways : Int) - intOf y).toNat)
  case atStart => exact ⟨0, rfl, by omega, fx, kx⟩
  case round =>
    obtain ⟨a, rfl, ha, fr, kr⟩ := hrel
    have e1 := (hk.keeps kr (by simp)).cell 1
    rw [c1] at e1
    by_cases hal : a < ways
    · have haI : (a : Int) < ways := by omega
      have hfz := fr.frozen a
      obtain ⟨v0, hcl⟩ := fr.cell (i := a) (by rw [Hlen.out]; exact hal)
      obtain ⟨r, x, hr, hx, hu⟩ := Hat.out a hal
      have hc := hide (fun w => hset.out w a r hal hr)
      have hix := bts_index hx wr
      have Hu := hide hu
      clear hr hx hu
      go_wp2_with fail
      refine (hc.out _).mono ?_
      rintro e w' ⟨rfl, rfl⟩
      go_wp2_with fail
      go_roundw
      · exact ⟨a + 1, by simp, by omega, fr.next Hu.out, fill_keeps kr (Nat.le_refl _)⟩
      · simp only [intOf]; omega
    · have haI : ¬ (a : Int) < ways := by omega
      have ht := fr.text (by rw [Hlen.out]; omega) ways
      rw [Hlen.out] at ht
      go_wp2_with fail
      go_ret
      exact ⟨rfl, kr⟩

end Go.Proofs.YtgjomknpjigkhaaGreatDoor
