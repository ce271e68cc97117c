/- The law's step: a new kernel. -/
import Derived.Test.YtgjomknpjigkhaaGreatDoorC8
namespace Go.Proofs.YtgjomknpjigkhaaGreatDoor
open Go.RowKit Go.Shelf

theorem info111 : (Tryz.prog.info? 111).map (fun i => (i.zero, i.size, i.bytes)) = some (some (.agg #[.pointer none, .pointer none]), 2, 16) := by kernel_rfl

theorem pair_cell {W : World} {a v : Value} : ∀ (j : Nat) (x : Value), [a, v][j]? = some x → (W.alloc (.cells #[a, v] 111)).cell? ((⟨W.heap.size, 0, none⟩ : Addr).add j) = some x := by
  intro j x hx
  rw [Addr.add_lit, Nat.zero_add, (CellsAt.new W #[a, v] 111).cell]
  match j with
  | 0 => simpa using hx
  | 1 => simpa using hx
  | j + 2 => simp at hx

theorem pcells_append (ps : List Pr) (p : Pr) : pcells (ps ++ [p]) = pcells ps ++ [.pointer (some ⟨p.kb.k, 0, none⟩), .pointer (some ⟨p.rb.r, 0, none⟩)] := by simp [pcells]

section
variable {B : Nat} {w w' : World} {wb : Nat} {vk vi : Value} {ps : List Pr} {es : List (Nat × Nat × Nat)} {N : Nat}

/-- A pair has been made. -/
theorem WA.born (h : WA B w wb vk vi ps es N) {p : Pr} (hnext : p.K.S.next ≤ 2) (hnx : p.K.nx ≤ 2) (hfresh : ∀ i ∈ p.own, w.heap.size ≤ i) {W W2 : World} (kW : Keeps [] w W) (hp : PairAt W p) {vk' : Value}
    (own : W2.ownsRow B 111 2 vk' (ps.length + 1) (pcells ps ++ [.pointer (some ⟨p.kb.k, 0, none⟩), .pointer (some ⟨p.rb.r, 0, none⟩)])) (k2 : Keeps vk.ownBlock.toList W W2) (stays : vk'.ownBlock = vk.ownBlock ∨ ∃ x, vk'.ownBlock = some x ∧ W.heap.size ≤ x) :
    WA B (W2.setCell ⟨wb, 0, none⟩ vk') wb vk' vi (ps ++ [p]) es (N + 1) := by
  have hW := h.keeps0 kW
  have hB := h.size
  have hwl := h.mw.wlt
  have sW := kW.size
  have s2 := k2.size
  have hvkB : ∀ i, vk.ownBlock = some i → B ≤ i ∧ i < w.heap.size := fun i hi => ⟨(own_base h.ks i hi).1, own_lt h.ks i hi⟩
  have hfv : ∀ i ∈ p.own, i ∉ vk.ownBlock.toList := fun i hi hm => by
    have := (hvkB i (by simpa using hm)).2
    have := hfresh i hi
    omega
  have hov : ∀ q ∈ ps, ∀ i ∈ q.own, i ∉ vk.ownBlock.toList := fun q hq i hi hm => (h.dk q hq i hi).1 (by simpa using hm)
  have hwv : wb ∉ vk.ownBlock.toList := fun hm => by have := (hvkB wb (by simpa using hm)).1; omega
  have kS := Keeps.setCell W2 ⟨wb, 0, none⟩ vk'
  have hwb2 := (k2.block wb hW.mw.cells.lt hwv).trans hW.mw.head
  have hviS : ∀ i, vi.ownBlock = some i → i ∉ vk.ownBlock.toList := fun i hi hm => h.kvi (by simpa using hm) hi
  have hesS : ∀ e ∈ es, e.1 ∉ vk.ownBlock.toList := fun e he hm => by
    obtain ⟨k, hk⟩ := List.mem_iff_getElem?.1 he
    obtain ⟨_, _, _, cs, hh, _⟩ := h.mw.marks k e.1 e.2.1 e.2.2 hk
    obtain ⟨c1, t1⟩ := own_tag h.ks e.1 (by simpa using hm)
    rw [t1] at hh
    cases hh
  have hne : ∀ i, B ≤ i → i ∉ [wb] := fun i hi hm => by
    simp only [List.mem_singleton] at hm
    omega
  have hmw2 : MW B W2 wb vk vi es := hW.mw.keeps k2 hwv hviS hesS
  have hmem : ∀ q ∈ ps ++ [p], q ∈ ps ∨ q = p := fun q hq => by simpa using hq
  have hlt := hp.lt
  have hM := h.more
  refine ⟨⟨?_, hwl, ownsRow_kept hmw2.is kS (fun i hi => hne i (own_base hmw2.is i hi).1), fun k g n c hk => ?_⟩, ?_, ?_, ?_, ?_, ?_, ?_, ?_, ?_, h.e4, hM.elen, ?_⟩
  · simp [World.setCell, Array.getElem?_modify, hwb2]
  · obtain ⟨a, b, c', d⟩ := hmw2.marks k g n c hk
    exact ⟨a, b, c', d.keeps kS (hne g c')⟩
  · rw [List.length_append, pcells_append]
    exact ownsRow_kept own kS (fun i hi => hne i (own_base own i hi).1)
  · intro q hq
    rcases hmem q hq with hq | rfl
    · exact ((hW.pairs q hq).keeps k2 (hov q hq)).keeps kS (fun i hi => hne i (h.low q hq i hi))
    · exact (hp.keeps k2 hfv).keeps kS (fun i hi => hne i (by have := hfresh i hi; omega))
  · intro q hq i hi
    rcases hmem q hq with hq | rfl
    · exact h.low q hq i hi
    · have := hfresh i hi; omega
  · intro a b q r ha hb hab x hx hx'
    have hla := (List.getElem?_eq_some_iff.1 ha).1
    have hlb := (List.getElem?_eq_some_iff.1 hb).1
    rw [List.length_append, List.length_singleton] at hla hlb
    rw [List.getElem?_append] at ha hb
    by_cases h1 : a < ps.length
    · rw [if_pos h1] at ha
      by_cases h2 : b < ps.length
      · rw [if_pos h2] at hb
        exact h.dis a b q r ha hb hab x hx hx'
      · rw [if_neg h2] at hb
        have e : b - ps.length = 0 := by omega
        rw [e] at hb
        cases hb
        have := (h.pairs q (List.mem_of_getElem? ha)).lt x hx
        have := hfresh x hx'
        omega
    · rw [if_neg h1] at ha
      have e : a - ps.length = 0 := by omega
      rw [e] at ha
      cases ha
      rw [if_pos (by omega)] at hb
      have := (h.pairs r (List.mem_of_getElem? hb)).lt x hx'
      have := hfresh x hx
      omega
  · intro q hq i hi
    have hvk' : i < W.heap.size → vk.ownBlock ≠ some i → vk'.ownBlock ≠ some i := fun hl hn e => by
      rcases stays with s | ⟨x, s, hx⟩
      · exact hn (s ▸ e)
      · rw [s] at e
        cases e
        omega
    rcases hmem q hq with hq | rfl
    · obtain ⟨a, b, c⟩ := h.dk q hq i hi
      have := (h.pairs q hq).lt i hi
      exact ⟨hvk' (by omega) a, b, c⟩
    · have hf := hfresh i hi
      refine ⟨hvk' (hlt i hi) (fun e => by have := (hvkB i e).2; omega), fun e => ?_, fun e he e2 => ?_⟩
      · have := own_lt h.mw.is i e; omega
      · have := (h.marksLow e he).2; omega
  · intro q hq
    rcases hmem q hq with hq | rfl
    · exact hM.next q hq
    · have : (0 : Int) ≤ ((N + 1 : Nat) : Int) * costs := Int.mul_nonneg (by omega) (by unfold costs; omega)
      omega
  · intro q hq
    rcases hmem q hq with hq | rfl
    · exact hM.nx q hq
    · omega
  · rw [List.length_append, List.length_singleton]
    have := h.plen
    omega
  · have := kS.size
    omega

end

theorem new_room (n : Nat) : (KS.new n).S.next ≤ 2 ∧ (KS.new n).nx ≤ 2 := ⟨Int.le_refl 2, Int.le_refl 2⟩

set_option maxRecDepth 100000 in
set_option maxHeartbeats 2000000 in
theorem step_bad {B : Nat} {w : World} {wb : Nat} {vk vi : Value} {ps : List Pr} {es : List (Nat × Nat × Nat)} {N : Nat} (h : WA B w wb vk vi ps es N) (On A B' C : Int) (hA : A < 1 ∨ 8 < A) (S : ByteArray) (a1 : Option Addr) (n1 c1 : Nat) :
    Calls Tryz.prog 33 #[.pointer (some ⟨wb, 0, none⟩), opV 1 On A B' C S (.slice a1 n1 c1)] w (StepsTo B w wb ps.length N) := by
  unfold opV
  have kA := Keeps.alloc [] w (.cells #[.int .i64 1, .int .i64 On, .int .i64 A, .int .i64 B', .int .i64 C, .string S, .slice a1 n1 c1] 80)
  have hAc := CellsAt.new w #[.int .i64 1, .int .i64 On, .int .i64 A, .int .i64 B', .int .i64 C, .string S, .slice a1 n1 c1] 80
  have b0 := hAc.cell 0
  have b2 := hAc.cell 2
  simp only [List.getElem?_toArray, List.getElem?_cons_zero, List.getElem?_cons_succ] at b0 b2
  have h1 := hide (fun W : World => knew_bad (w := W) A hA)
  have h2 := hide (fun W : World => rnew_bad (w := W) A hA)
  have h3 := hide (fun W : World => num_calls (w := W) 1)
  have Hfin := hide (show StepsTo B w wb ps.length N (.returned (.bool true)) (w.alloc (.cells #[.int .i64 1, .int .i64 On, .int .i64 A, .int .i64 B', .int .i64 C, .string S, .slice a1 n1 c1] 80)) from ⟨rfl, vk, vi, ps, es, [], (h.keeps0 kA).more, Nat.le_refl _, kA, by simp⟩)
  clear hAc kA h hA
  go_enter Tryz.func33, Tryz.ntmps33
  go_wp2_with fail
  refine (h1.out _).mono ?_
  rintro e W ⟨rfl, rfl⟩
  go_wp2_with fail
  refine (h2.out _).mono ?_
  rintro e W ⟨rfl, rfl⟩
  go_wp2_with fail
  refine (h3.out _).mono ?_
  rintro e W ⟨rfl, rfl⟩
  go_wp2_with fail
  go_ret
  exact Hfin.out

set_option maxRecDepth 100000 in
set_option maxHeartbeats 2000000 in
theorem step_good {B : Nat} {w : World} {wb : Nat} {vk vi : Value} {ps : List Pr} {es : List (Nat × Nat × Nat)} {N : Nat} (h : WA B w wb vk vi ps es N) (hN : N ≤ 10000000) (On B' C : Int) (n : Nat) (n1' : 1 ≤ n) (n8 : n ≤ 8) (S : ByteArray) (a1 : Option Addr) (n1 c1 : Nat) :
    Calls Tryz.prog 33 #[.pointer (some ⟨wb, 0, none⟩), opV 1 On n B' C S (.slice a1 n1 c1)] w (StepsTo B w wb (ps.length + 1) N) := by
  unfold opV
  obtain ⟨i0, hi0, hz0, hz1, hz2⟩ := info_parts info111
  have kA := Keeps.alloc [] w (.cells #[.int .i64 1, .int .i64 On, .int .i64 n, .int .i64 B', .int .i64 C, .string S, .slice a1 n1 c1] 80)
  have hAc := CellsAt.new w #[.int .i64 1, .int .i64 On, .int .i64 n, .int .i64 B', .int .i64 C, .string S, .slice a1 n1 c1] 80
  have b0 := hAc.cell 0
  have b2 := hAc.cell 2
  simp only [List.getElem?_toArray, List.getElem?_cons_zero, List.getElem?_cons_succ] at b0 b2
  have h1 := hide (fun W : World => knew_calls (w := W) n n1' n8)
  have h2 := hide (fun W : World => rnew_calls (w := W) n n1' n8)
  have h3 := hide (fun W : World => num_calls (w := W) 0)
  have hpl := h.plen
  have hvi := h.vk_form
  obtain ⟨ak, mk', dk', hvk⟩ := hvi
  have Hh := hide h
  clear h
  go_enter Tryz.func33, Tryz.ntmps33
  go_wp2_with fail
  refine (h1.out _).mono ?_
  rintro e W1 ⟨kb, rfl, hK, fk, k1⟩
  have c2 := (hAc.keeps k1 (by simp)).cell 2
  simp only [List.getElem?_toArray, List.getElem?_cons_zero, List.getElem?_cons_succ] at c2
  generalize w.alloc (.cells #[.int .i64 1, .int .i64 On, .int .i64 n, .int .i64 B', .int .i64 C, .string S, .slice a1 n1 c1] 80) = WA' at *
  clear b0 b2 hAc
  go_wp2_with fail
  refine (h2.out _).mono ?_
  rintro e W2 ⟨rb, rfl, hR, fr, k2⟩
  have kk := kA.trans (k1.trans k2)
  have hp : PairAt W2 ⟨kb, rb, KS.new n, RS.new n⟩ := ⟨hK.keeps k2 (by simp), hR, new_twin n1' n8, fun i hi hi' => by have := fr i hi'; have := hK.lt i hi; omega⟩
  have hfresh : ∀ i ∈ (⟨kb, rb, KS.new n, RS.new n⟩ : Pr).own, w.heap.size ≤ i := fun i hi => by
    have := kA.size
    have := k1.size
    rcases List.mem_append.1 hi with a | a
    · have := fk i a; omega
    · have := fr i a; omega
  have hW := Hh.out.keeps0 kk
  have w0 := hW.mw.cells.cell 0
  simp only [List.getElem?_toArray, List.getElem?_cons_zero] at w0
  have hwbl := hW.mw.cells.lt
  have kB := Keeps.alloc [] W2 (.cells #[.pointer (some ⟨kb.k, 0, none⟩), .pointer (some ⟨rb.r, 0, none⟩)] 111)
  have ownB := (hW.keeps0 kB).ks
  have hsB := (hW.keeps0 kB).size
  have hone := pair_cell (W := W2) (a := .pointer (some ⟨kb.k, 0, none⟩)) (v := .pointer (some ⟨rb.r, 0, none⟩))
  subst hvk
  have Hp := hide (And.intro hp hfresh)
  have Hkk := hide kk
  have HW := hide hW
  clear hp hfresh kk hW kA k1 k2 fk fr hK hR c2
  go_wp2_with fail
  refine (h3.out _).mono ?_
  rintro e W3 ⟨rfl, rfl⟩
  go_wp2_with (at_builtin; refine wpList_append_own_at _ rfl _ _ 73 rfl B 111 i0 (.agg #[.pointer none, .pointer none]) 2 16 Tryz.underlying73 hi0 hz0 hz1 hz2 rfl (by decide) _ ps.length (pcells ps) rfl ownB ⟨W3.heap.size, 0, none⟩ 1 1 [.pointer (some ⟨kb.k, 0, none⟩), .pointer (some ⟨rb.r, 0, none⟩)] rfl (by simp) hone (by simp [Value.oneCell']) (by unfold maxLen; omega) (by omega) hsB ?_)
  intro v' W4 own2 grow2 nil2 at2
  obtain ⟨g', c', rfl⟩ := own_form own2 (by omega)
  have kE := grownBy_keeps' grow2 (Value.slice ak mk' dk').ownBlock.toList (fun r e => .inl (by simp [e]))
  have hwn : wb ∉ (Value.slice ak mk' dk').ownBlock.toList := fun hm => by
    have := (own_base ownB wb (by simpa using hm)).1
    have := Hh.out.mw.wlt
    omega
  have sE := (HW.out.mw.cells.keeps kB (by simp)).keeps kE hwn
  have e0 := sE.cell 0
  have fz := sE.frozen 0
  simp only [List.getElem?_toArray, List.getElem?_cons_zero] at e0
  have kBE := (kB.mono (T' := (Value.slice ak mk' dk').ownBlock.toList) (by simp)).trans kE
  have hstays : (Value.slice (some ⟨g', 0, none⟩) (ps.length + 1) c').ownBlock = (Value.slice ak mk' dk').ownBlock ∨ ∃ x, (Value.slice (some ⟨g', 0, none⟩) (ps.length + 1) c').ownBlock = some x ∧ W3.heap.size ≤ x := by
    rcases at2 with e | e
    · exact .inl e
    · exact .inr ⟨_, e, Nat.le_succ _⟩
  have hfin := Hh.out.born (new_room n).1 (new_room n).2 Hp.out.2 Hkk.out Hp.out.1 own2 kBE hstays
  have kS := Keeps.setCell W4 ⟨wb, 0, none⟩ (.slice (some ⟨g', 0, none⟩) (ps.length + 1) c')
  have kfin : Keeps (wb :: (Value.slice ak mk' dk').ownBlock.toList) w (W4.setCell ⟨wb, 0, none⟩ (.slice (some ⟨g', 0, none⟩) (ps.length + 1) c')) := ((Hkk.out.mono (by simp)).trans (kBE.mono fun i hi => List.mem_cons_of_mem _ hi)).trans (kS.mono (by simp))
  have HF := hide (And.intro hfin kfin)
  clear hfin kfin kS hstays kBE kE grow2 nil2 at2 own2 ownB hone
  go_wp2_with fail
  go_ret
  refine ⟨rfl, _, vi, _, es, _, HF.out.1, by rw [List.length_append]; exact Nat.le_refl _, HF.out.2, fun i hi => ?_⟩
  rcases List.mem_cons.1 hi with e | e
  · exact .inl e
  · exact .inr (own_base Hh.out.ks i (by simpa using e)).1

theorem step_any {B : Nat} {w : World} {wb : Nat} {vk vi : Value} {ps : List Pr} {es : List (Nat × Nat × Nat)} {N : Nat} (h : WA B w wb vk vi ps es N) (hN : N ≤ 10000000) (Kd On A B' C : Int) (h0 : Kd = 1 ∨ 0 < ps.length) (h1 : 1 ≤ Kd) (h16 : Kd ≤ 16) (o0 : -9223372036854775808 ≤ On) (o1 : On ≤ 9223372036854775807) (S : ByteArray) {vL : Value} (hL : LS B wb w vL) :
    Calls Tryz.prog 33 #[.pointer (some ⟨wb, 0, none⟩), opV Kd On A B' C S vL] w (StepsTo B w wb ps.length N) := by
  by_cases e : Kd = 1
  · subst e
    obtain ⟨a, n, c, rfl⟩ := hL.form
    by_cases hA : A < 1 ∨ 8 < A
    · exact step_bad h On A B' C hA S a n c
    · obtain ⟨m, rfl⟩ : ∃ m : Nat, A = m := ⟨A.toNat, by omega⟩
      exact (step_good h hN On B' C m (by omega) (by omega) S a n c).mono fun e w' ⟨r, vk', vi', ps', es', T, g, l, k, t⟩ => ⟨r, vk', vi', ps', es', T, g, by omega, k, t⟩
  · exact step_call h hN (h0.resolve_left e) Kd On A B' C (by omega) h16 o0 o1 S hL

end Go.Proofs.YtgjomknpjigkhaaGreatDoor
