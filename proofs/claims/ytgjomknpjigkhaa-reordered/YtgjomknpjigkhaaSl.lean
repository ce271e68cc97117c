/- 'others'. -/
import Derived.Test.YtgjomknpjigkhaaMMill
namespace Go.Proofs.Ytgjomknpjigkhaa
open Go.RowKit Go.Shelf

theorem rest_take_succ {o : List Int} {v x : Int} {i : Nat} (hx : o[i]? = some x) : rest (o.take (i + 1)) v = rest (o.take i) v ++ (if x = v then [] else [x]) := by
  have : o.take (i + 1) = o.take i ++ [x] := by
    rw [List.take_add_one, hx]
    rfl
  unfold rest
  rw [this, List.filter_append]
  congr 1
  by_cases e : x = v
  · simp [e]
  · simp [e]

theorem own_len {w : World} {base : Nat} {e : TypeId} {v : Value} {n : Nat} {xs : List Value} (h : w.ownsRow base e 1 v n xs) : ∃ (ao : Option Addr) (c : Nat), v = .slice ao n c := by
  rcases h.2 with ⟨rfl, rfl⟩ | ⟨g, cap, cur, rfl, _⟩
  · exact ⟨none, 0, rfl⟩
  · exact ⟨_, _, rfl⟩

theorem grown_new {w wB W3 : World} {e : TypeId} {v : Value} {n : Nat} {xs : List Value} (ow : wB.ownsRow w.heap.size e 1 v n xs) (k : Keeps [] w wB) (g : wB.grownBy W3 v.ownBlock) : Keeps [] w W3 := by
  cases ho : v.ownBlock with
  | none => exact k.trans (grownBy_keeps' g [] (fun r e => by rw [ho] at e; cases e))
  | some r => exact k.trans_new (grownBy_keeps' g [r] (fun r' e => .inl (by rw [ho] at e; cases e; simp))) (fun i hi => by
      simp only [List.mem_singleton] at hi
      subst hi
      exact .inr (own_base ow i ho).1)

theorem rest_take_all {o : List Int} {n : Nat} (h : n = o.length) : o.take n = o := by rw [h]; exact List.take_length

set_option maxRecDepth 100000 in
set_option maxHeartbeats 4000000 in
theorem others_calls {w : World} {ga ca gb cb' ba bb : Nat} (o1 o2 : List Int) (v : Int)
    (h1 : w.ownsRow ba 3 1 (.slice (some ⟨ga, 0, none⟩) o1.length ca) o1.length (ints o1)) (h2 : w.ownsRow bb 3 1 (.slice (some ⟨gb, 0, none⟩) o2.length cb') o2.length (ints o2))
    (hl : o1.length = o2.length) (h8 : o1.length ≤ 8) (hr : rest o1 v = rest o2 v) (hk : (rest o1 v).length + 1 = o1.length) :
    Calls Try.prog 14 #[.slice (some ⟨ga, 0, none⟩) o1.length ca, .slice (some ⟨gb, 0, none⟩) o2.length cb', .int .i64 v] w fun e w' => e = .returned (.bool true) ∧ Keeps [] w w' := by
  obtain ⟨i0, hi0, hz0, hz1, hz2⟩ := info_parts info3
  obtain ⟨n, hn⟩ : ∃ x, x = o1.length := ⟨_, rfl⟩
  rw [← hl] at h2 ⊢
  rw [← hn] at h1 h2 h8 hk ⊢
  have Hn := hide (And.intro hn (hn.trans hl))
  have Hr := hide hr
  have Hk := hide hk
  have HA := hide h1
  have HB := hide h2
  have la := own_lt h1 ga rfl
  have lb := own_lt h2 gb rfl
  clear hn hl hr hk h1 h2
  go_enter Try.func14, Try.ntmps14
  go_wp2_with fail
  go_loopw [7, 9] (fun x7 x9 wr => ∃ i : Nat, x9 = .int .i64 i ∧ i ≤ n ∧ wr.ownsRow w.heap.size 3 1 x7 (rest (o1.take i) v).length (ints (rest (o1.take i) v)) ∧ Keeps [] w wr) (fun _ x9 _ => ((n : Int) - intOf x9).toNat)
  case atStart => exact ⟨0, rfl, by omega, ⟨rfl, .inl ⟨rfl, rfl⟩⟩, Keeps.refl _ _⟩
  case round =>
    obtain ⟨i, rfl, hi, ow, kr⟩ := hrel
    by_cases hil : i < n
    · have hiI : (i : Int) < n := by omega
      obtain ⟨x, hx⟩ : ∃ x, o1[i]? = some x := ⟨o1[i]'(by rw [← Hn.out.1]; exact hil), List.getElem?_eq_getElem _⟩
      have hcx := ownsRow_cell (ownsRow_kept HA.out kr (by simp)) hx
      have hts := rest_take_succ (v := v) hx
      have hlen : (rest (o1.take i) v).length ≤ 8 := Nat.le_trans (List.length_filter_le _ _) (by rw [List.length_take]; have := Hn.out.1; omega)
      by_cases hxv : x = v
      · subst hxv
        rw [if_pos rfl, List.append_nil] at hts
        have Hts := hide hts
        clear hts
        go_wp2_with fail
        go_roundw
        · exact ⟨i + 1, by simp, by omega, by rw [Hts.out]; exact ow, kr⟩
        · simp only [intOf]; omega
      · rw [if_neg hxv] at hts
        have Hts := hide hts
        have hne : (x == v) = false := by simpa using hxv
        have hne2 : (x != v) = true := by simp [hxv]
        generalize hR : rest (o1.take i) v = R at ow hlen hts
        have HR := hide hR
        have owB := hide (ownsRow_kept ow (Keeps.alloc [] wr (.cells #[.int .i64 x] 3)) (by simp))
        have Hz2 : Hid (w.heap.size ≤ (wr.alloc (.cells #[.int .i64 x] 3)).heap.size) := hide (by rw [size_alloc']; have := kr.size; omega)
        clear hts hR
        go_wp2_with (at_builtin; refine wpList_append_own_at _ rfl _ _ 30 rfl w.heap.size 3 i0 (.int .i64 0) 1 8 Try.underlying30 hi0 hz0 hz1 hz2 rfl (by decide) _ R.length (ints R) rfl owB.out ⟨wr.heap.size, 0, none⟩ 1 1 (ints [x]) rfl (by simp [ints]) one_cell (ints_one _) (by unfold maxLen; omega) (by omega) Hz2.out ?_)
        intro vB W3 own3 grow3 nil3 at3
        have k3 : Keeps [] w W3 := grown_new owB.out (kr.trans (Keeps.alloc [] wr (.cells #[.int .i64 x] 3))) grow3
        have Own3 := hide own3
        clear own3 grow3 nil3 at3 owB Hz2
        go_wp2_with fail
        go_roundw
        · refine ⟨i + 1, by simp, by omega, ?_, k3⟩
          rw [Hts.out, HR.out]
          have := Own3.out
          simpa [ints] using this
        · simp only [intOf]; omega
    · have hiI : ¬ (i : Int) < n := by omega
      have ei : n = i := by omega
      subst ei
      rw [rest_take_all Hn.out.1] at ow
      have OW1 := hide ow
      have k1 := kr
      generalize wr = w1 at OW1 k1 ⊢
      clear ow kr
      go_wp2_with fail
      go_loopw [8, 10] (fun x8 x10 wr => ∃ i : Nat, x10 = .int .i64 i ∧ i ≤ n ∧ wr.ownsRow w1.heap.size 3 1 x8 (rest (o2.take i) v).length (ints (rest (o2.take i) v)) ∧ Keeps [] w1 wr) (fun _ x10 _ => ((n : Int) - intOf x10).toNat)
      case atStart => exact ⟨0, rfl, by omega, ⟨rfl, .inl ⟨rfl, rfl⟩⟩, Keeps.refl _ _⟩
      case round =>
        obtain ⟨i, rfl, hi, ow, kr⟩ := hrel
        by_cases hil : i < n
        · have hiI : (i : Int) < n := by omega
          obtain ⟨x, hx⟩ : ∃ x, o2[i]? = some x := ⟨o2[i]'(by rw [← Hn.out.2]; exact hil), List.getElem?_eq_getElem _⟩
          have hcx := ownsRow_cell (ownsRow_kept (ownsRow_kept HB.out k1 (by simp)) kr (by simp)) hx
          have hts := rest_take_succ (v := v) hx
          have hlen : (rest (o2.take i) v).length ≤ 8 := Nat.le_trans (List.length_filter_le _ _) (by rw [List.length_take]; have := Hn.out.2; omega)
          by_cases hxv : x = v
          · subst hxv
            rw [if_pos rfl, List.append_nil] at hts
            have Hts := hide hts
            clear hts
            go_wp2_with fail
            go_roundw
            · exact ⟨i + 1, by simp, by omega, by rw [Hts.out]; exact ow, kr⟩
            · simp only [intOf]; omega
          · rw [if_neg hxv] at hts
            have Hts := hide hts
            have hne2 : (x != v) = true := by simp [hxv]
            generalize hR : rest (o2.take i) v = R at ow hlen hts
            have HR := hide hR
            have owB := hide (ownsRow_kept ow (Keeps.alloc [] wr (.cells #[.int .i64 x] 3)) (by simp))
            have Hz2 : Hid (w1.heap.size ≤ (wr.alloc (.cells #[.int .i64 x] 3)).heap.size) := hide (by rw [size_alloc']; have := kr.size; omega)
            clear hts hR
            go_wp2_with (at_builtin; refine wpList_append_own_at _ rfl _ _ 30 rfl w1.heap.size 3 i0 (.int .i64 0) 1 8 Try.underlying30 hi0 hz0 hz1 hz2 rfl (by decide) _ R.length (ints R) rfl owB.out ⟨wr.heap.size, 0, none⟩ 1 1 (ints [x]) rfl (by simp [ints]) one_cell (ints_one _) (by unfold maxLen; omega) (by omega) Hz2.out ?_)
            intro vB W3 own3 grow3 nil3 at3
            have k3 : Keeps [] w1 W3 := grown_new owB.out (kr.trans (Keeps.alloc [] wr (.cells #[.int .i64 x] 3))) grow3
            have Own3 := hide own3
            clear own3 grow3 nil3 at3 owB Hz2
            go_wp2_with fail
            go_roundw
            · refine ⟨i + 1, by simp, by omega, ?_, k3⟩
              rw [Hts.out, HR.out]
              have := Own3.out
              simpa [ints] using this
            · simp only [intOf]; omega
        · have hiI : ¬ (i : Int) < n := by omega
          have ei : n = i := by omega
          subst ei
          rw [rest_take_all Hn.out.2, ← Hr.out] at ow
          have owX := ownsRow_kept OW1.out kr (by simp)
          obtain ⟨L, hL⟩ : ∃ x, x = (rest o1 v).length := ⟨_, rfl⟩
          have hk := Hk.out
          rw [← hL] at ow owX hk
          obtain ⟨ax, cx, ex⟩ := own_len owX
          obtain ⟨ay, cy, ey⟩ := own_len ow
          have HL := hide hL
          have Ex := hide ex
          have Ey := hide ey
          have kk := k1.trans kr
          clear hL
          subst ex ey
          have hkI : (L : Int) = (n : Int) - 1 := by omega
          have hkne : ((L : Int) != (n : Int) - 1) = false := by simp [hkI]
          have HX := hide owX
          have HY := hide ow
          clear owX ow hk hkI
          go_wp2_with fail
          have L8 : L ≤ 8 := by have := Hk.out; have := HL.out; omega
          go_loopw [11] (fun x11 w2 => ∃ j : Nat, x11 = .int .i64 j ∧ j ≤ L ∧ Keeps [] w1 w2 ∧ Keeps [] wr w2) (fun x11 _ => ((L : Int) - intOf x11).toNat)
          case atStart => exact ⟨0, rfl, by omega, kr, Keeps.refl _ _⟩
          case round =>
            obtain ⟨j, rfl, hj, k2, k3⟩ := hrel
            by_cases hjl : j < L
            · have hjI : (j : Int) < L := by omega
              have oX := ownsRow_kept HX.out k3 (by simp)
              have oY := ownsRow_kept HY.out k3 (by simp)
              obtain ⟨g1, c1, e1⟩ := own_form oX (by omega)
              obtain ⟨g2, c2, e2⟩ := own_form oY (by omega)
              cases e1
              cases e2
              obtain ⟨x, hx⟩ : ∃ x, (rest o1 v)[j]? = some x := ⟨(rest o1 v)[j]'(by rw [← HL.out]; exact hjl), List.getElem?_eq_getElem _⟩
              have cX := ownsRow_cell oX hx
              have cY := ownsRow_cell oY hx
              have hxx : (x != x) = false := by simp
              clear oX oY
              go_wp2_with fail
              go_quiet (fail)
              go_wp2_with fail
              go_roundw
              · exact ⟨j + 1, by simp, by omega, k2.trans (Keeps.drewN _ _ _), k3.trans (Keeps.drewN _ _ _)⟩
              · simp only [intOf]; omega
            · have hjI : ¬ (j : Int) < L := by omega
              go_wp2_with fail
              go_ret
              exact ⟨rfl, k1.trans k2⟩
end Go.Proofs.Ytgjomknpjigkhaa
