/- Sc. -/
import Derived.Test.YtgjomknpjigkhaaMStep
namespace Go.Proofs.Ytgjomknpjigkhaa
open Go.RowKit Go.Shelf

theorem Each.insert {j t : Nat} {to : List Int} (h : Each j to) (_ht : t ≤ j) : Each (j + 1) (to.take t ++ [(j : Int)] ++ to.drop t) := by
  have hp : (to.take t ++ [(j : Int)] ++ to.drop t).Perm ((j : Int) :: to) := by
    rw [List.append_assoc, List.singleton_append]
    have := List.perm_middle (a := (j : Int)) (l₁ := to.take t) (l₂ := to.drop t)
    rw [List.take_append_drop] at this
    exact this
  refine ⟨by rw [hp.length_eq, List.length_cons, h.len], fun u hu => ?_, hp.nodup_iff.2 (List.nodup_cons.2 ⟨fun x => ?_, h.nodup⟩)⟩
  · rcases List.mem_cons.1 (hp.mem_iff.1 hu) with e | e
    · subst e; omega
    · have := h.range u e; omega
  · have := h.range _ x; omega

set_option maxRecDepth 100000 in
set_option maxHeartbeats 2000000 in
theorem order_calls' {w : World} {m : MB} {M : ML} {K : KS} (hM : MillAt w m M K) (n5 : M.n ≤ 5) (raw : Nat) (hraw : raw < 1000) :
    Calls Try.prog 25 #[.pointer (some ⟨m.mb, 0, none⟩), .int .i64 raw] w fun e w' => ∃ v to, e = .returned v ∧ Each M.n to ∧ w'.ownsRow w.heap.size 3 1 v M.n (ints to) ∧ Keeps [] w w' := by
  obtain ⟨i0, hi0, hz0, hz1, hz2⟩ := info_parts info3
  have hpk := hide (fun (w : World) (r : Nat) (j : Nat) (hr : r < 1000) => pick_calls (w := w) r (j + 1) (by omega) (by omega) (by omega))
  go_enter Try.func25, Try.ntmps25
  go_wp2_with fail
  go_loopw [1, 5, 6] (fun v1 v5 v6 wr => ∃ (j r : Nat) (to : List Int), v6 = .int .i64 j ∧ v1 = .int .i64 r ∧ r < 1000 ∧ j ≤ M.n ∧ wr.ownsRow w.heap.size 3 1 v5 j (ints to) ∧ (j = 0 → v5 = .slice none 0 0) ∧ Each j to ∧ Keeps [] w wr) (fun _ _ v6 _ => ((M.n : Int) - intOf v6).toNat)
  case atStart => exact ⟨0, raw, [], rfl, rfl, hraw, by omega, ⟨rfl, .inl ⟨rfl, rfl⟩⟩, fun _ => rfl, ⟨rfl, by simp, by simp⟩, Keeps.refl _ _⟩
  case round =>
    obtain ⟨j, r, to, rfl, rfl, hr, hj, own, hnil, he, kr⟩ := hrel
    have hMr := hM.keeps0 kr
    have d1 := hMr.head.cell 1
    simp at d1
    by_cases hjl : j < M.n
    · have hjI : (j : Int) < M.n := by omega
      have hp := hpk.out wr r j hr
      obtain ⟨t, et, ht⟩ := pk_nat (r : Int) (n := j + 1) (by omega)
      have et' : pk (r : Int) ((j : Int) + 1) = t := by rw [← et]; rfl
      rw [et'] at hp
      have Hp := hide hp
      clear et et' hp
      have hq : wrap64 ((r : Int) / ((j : Int) + 1)) = ((r / (j + 1) : Nat) : Int) := by
        have h1 : ((r : Int) / ((j : Int) + 1)) = ((r / (j + 1) : Nat) : Int) := by push_cast; rfl
        have h2 : r / (j + 1) ≤ r := Nat.div_le_self _ _
        rw [h1]
        generalize r / (j + 1) = q at h2
        unfold wrap64
        omega
      have hq1 : r / (j + 1) < 1000 := by have : r / (j + 1) ≤ r := Nat.div_le_self _ _; omega
      generalize r / (j + 1) = q at hq hq1
      by_cases hj0 : j = 0
      · have h5 := hnil hj0
        subst h5
        have ht0 : t = 0 := by omega
        subst ht0
        subst hj0
        have eto : to = [] := List.eq_nil_of_length_eq_zero he.len
        subst eto
        go_wp2_with fail
        refine Hp.out.mono ?_
        rintro e w1 ⟨rfl, rfl⟩
        go_wp2_with (at_builtin; refine wpList_append_own_at _ rfl _ _ 30 rfl w.heap.size 3 i0 (.int .i64 0) 1 8 Try.underlying30 hi0 hz0 hz1 hz2 rfl (by decide) _ 0 [] rfl ⟨rfl, .inl ⟨rfl, rfl⟩⟩ ⟨w1.heap.size, 0, none⟩ 1 1 (ints [0]) rfl (by simp [ints]) one_cell (ints_one _) (by unfold maxLen; omega) (by omega) (by rw [size_alloc']; have := kr.size; omega) ?_)
        intro v2 W2 own2 grow2 nil2 at2
        have k2 := grownBy_keeps' grow2 [] (fun r e => by simp [Value.ownBlock] at e)
        obtain ⟨gB, cB, rfl⟩ := own_form own2 (by omega)
        have hcB := own_cap own2
        have hn3 := fun ty : TypeId => run_append_owned_none (P := Try.prog) W2 w.heap.size 30 ty 3 i0 1 Try.underlying30 hi0 _ _ _ own2
        have Own2 := hide own2
        clear own2 grow2 nil2 at2
        go_wp2_with fail
        go_roundw
        · refine ⟨1, r, [0], by simp, rfl, hr, by omega, Own2.out, fun h => by omega, ⟨rfl, by simp, by simp⟩, (kr.trans (Keeps.alloc [] _ _)).trans k2⟩
        · simp only [intOf]; omega
      · obtain ⟨g, c, rfl⟩ := own_form own (by omega)
        have hc := own_cap own
        have hg := own_lt own g rfl
        have tI : (t : Int) ≤ j := by omega
        have cI : (j : Int) ≤ c := by omega
        have c0 : ¬ c = 0 := by omega
        have lt1 : (ints (to.take t)).length = t * 1 := by have := he.len; rw [ints, List.length_map, List.length_take]; omega
        have lt2 : (ints (to.drop t)).length = (j - t) * 1 := by have := he.len; rw [ints, List.length_map, List.length_drop]; omega
        have src1 := hide (own_part own 0 (ints (to.take t)) (by
          intro k u hu
          unfold ints at hu ⊢
          rw [List.map_take, List.getElem?_take] at hu
          split at hu
          · rw [Nat.zero_add]; exact hu
          · cases hu))
        have Lt := hide (And.intro lt1 lt2)
        have Hg := hide hg
        clear lt1 lt2 hg
        go_wp2_with fail
        refine Hp.out.mono ?_
        rintro e w1 ⟨rfl, rfl⟩
        go_wp2_with (at_builtin; refine wpList_append_own_at _ rfl _ _ 30 rfl w.heap.size 3 i0 (.int .i64 0) 1 8 Try.underlying30 hi0 hz0 hz1 hz2 rfl (by decide) _ 0 [] rfl ⟨rfl, .inl ⟨rfl, rfl⟩⟩ ⟨g, 0, none⟩ t c (ints (to.take t)) rfl Lt.out.1 src1.out (ints_one _) (by unfold maxLen; omega) (by omega) kr.size ?_)
        intro vA w2 own2 grow2 nil2 at2
        have k2 := grownBy_keeps' grow2 [] (fun r e => by simp [Value.ownBlock] at e)
        have vA1 : Hid (∀ r, vA.ownBlock = some r → r = w1.heap.size) := hide (fun r e => by
          rcases at2 with h | h
          · rw [e] at h
            cases h
          · rw [e] at h
            exact Option.some.inj h)
        have kB := Keeps.alloc [] w2 (.cells #[.int .i64 j] 3)
        have own2B := hide (ownsRow_kept own2 kB (by simp))
        have zB := size_alloc' w2 (.cells #[.int .i64 j] 3)
        have Hz2 : Hid (w.heap.size ≤ (w2.alloc (.cells #[.int .i64 j] 3)).heap.size) := hide (by rw [zB]; have := kr.size; have := k2.size; omega)
        clear own2 grow2 nil2 at2 zB src1
        go_wp2_with (at_builtin; refine wpList_append_own_at _ rfl _ _ 30 rfl w.heap.size 3 i0 (.int .i64 0) 1 8 Try.underlying30 hi0 hz0 hz1 hz2 rfl (by decide) _ t (ints (to.take t)) rfl own2B.out ⟨w2.heap.size, 0, none⟩ 1 1 (ints [(j : Int)]) rfl (by simp [ints]) one_cell (ints_one _) (by unfold maxLen; omega) (by omega) Hz2.out ?_)
        intro vB W3 own3 grow3 nil3 at3
        have k3' := grownBy_keeps' grow3 [w1.heap.size] (fun r e => .inl (by rw [vA1.out r e]; simp))
        have k3 : Keeps [w1.heap.size] w2 W3 := (kB.mono (by simp)).trans k3'
        have ownG := ownsRow_kept (ownsRow_kept own k2 (by simp)) k3 (fun i hi x => by
          simp only [Value.ownBlock, Option.some.injEq] at hi
          simp only [List.mem_singleton] at x
          have := Hg.out
          omega)
        obtain ⟨gB, cB, rfl⟩ := own_form own3 (by omega)
        have e2 : (Value.slice (some ⟨gB, 0, none⟩) (t + 1) cB).ownBlock = vA.ownBlock ∨ (Value.slice (some ⟨gB, 0, none⟩) (t + 1) cB).ownBlock = some (w2.heap.size + 1) := at3
        have Hz3 : Hid (w.heap.size ≤ W3.heap.size) := hide (by have := kr.size; have := k2.size; have := k3.size; omega)
        have Own3 := hide own3
        clear own3 grow3 nil3 at3 own2B
        by_cases hct : c = t
        · have src3 := hide (fun (k : Nat) (u : Value) (hu : (ints (to.drop t))[k]? = some u) => (by
            exfalso
            have h1 := (List.getElem?_eq_some_iff.1 hu).1
            have h2 := Lt.out.2
            rw [h2] at h1
            omega : W3.cell? ((⟨g, 0, none⟩ : Addr).add k) = some u))
          go_wp2_with (at_builtin; refine wpList_append_own_at _ rfl _ _ 30 rfl w.heap.size 3 i0 (.int .i64 0) 1 8 Try.underlying30 hi0 hz0 hz1 hz2 rfl (by decide) _ (t + 1) (ints (to.take t) ++ ints [(j : Int)]) rfl Own3.out ⟨g, 0, none⟩ (j - t) _ (ints (to.drop t)) rfl Lt.out.2 src3.out (ints_one _) (by unfold maxLen; omega) (by omega) Hz3.out ?_)
          intro vC W4 own4 grow4 nil4 at4
          have k4 := grownBy_keeps' grow4 [w1.heap.size, w2.heap.size + 1] (fun r e => by
            rcases e2 with h | h
            · rw [h] at e
              have := vA1.out r e
              simp [this]
            · rw [h] at e
              cases e
              simp)
          have Own4 := hide own4
          clear own4 grow4 nil4 at4 src3
          go_wp2_with fail
          go_roundw
          · have kk : Keeps [w1.heap.size, w2.heap.size + 1] w1 W4 := ((k2.mono (by simp)).trans (k3.mono (by simp))).trans k4
            refine ⟨j + 1, q, to.take t ++ [(j : Int)] ++ to.drop t, by simp, rfl, hq1, by omega, ?_, fun h => by omega, he.insert (by omega), kr.trans_new kk (fun i hi => ?_)⟩
            · have := Own4.out
              rw [show t + 1 + (j - t) = j + 1 by omega] at this
              simpa [ints] using this
            · have := kr.size
              have := k2.size
              simp only [List.mem_cons, List.not_mem_nil, or_false] at hi
              exact .inr (by omega)
          · simp only [intOf]; omega
        · have src3 := hide (own_part ownG t (ints (to.drop t)) (by
            intro k u hu
            unfold ints at hu ⊢
            rw [List.map_drop, List.getElem?_drop] at hu
            exact hu))
          go_wp2_with (at_builtin; refine wpList_append_own_at _ rfl _ _ 30 rfl w.heap.size 3 i0 (.int .i64 0) 1 8 Try.underlying30 hi0 hz0 hz1 hz2 rfl (by decide) _ (t + 1) (ints (to.take t) ++ ints [(j : Int)]) rfl Own3.out ⟨g, t, none⟩ (j - t) _ (ints (to.drop t)) rfl Lt.out.2 src3.out (ints_one _) (by unfold maxLen; omega) (by omega) Hz3.out ?_)
          intro vC W4 own4 grow4 nil4 at4
          have k4 := grownBy_keeps' grow4 [w1.heap.size, w2.heap.size + 1] (fun r e => by
            rcases e2 with h | h
            · rw [h] at e
              have := vA1.out r e
              simp [this]
            · rw [h] at e
              cases e
              simp)
          have Own4 := hide own4
          clear own4 grow4 nil4 at4 src3
          go_wp2_with fail
          go_roundw
          · have kk : Keeps [w1.heap.size, w2.heap.size + 1] w1 W4 := ((k2.mono (by simp)).trans (k3.mono (by simp))).trans k4
            refine ⟨j + 1, q, to.take t ++ [(j : Int)] ++ to.drop t, by simp, rfl, hq1, by omega, ?_, fun h => by omega, he.insert (by omega), kr.trans_new kk (fun i hi => ?_)⟩
            · have := Own4.out
              rw [show t + 1 + (j - t) = j + 1 by omega] at this
              simpa [ints] using this
            · have := kr.size
              have := k2.size
              simp only [List.mem_cons, List.not_mem_nil, or_false] at hi
              exact .inr (by omega)
          · simp only [intOf]; omega
    · have hjI : ¬ (j : Int) < M.n := by omega
      go_wp2_with fail
      go_ret
      have ej : j = M.n := by omega
      subst ej
      exact ⟨_, rfl, to, he, own, kr⟩

end Go.Proofs.Ytgjomknpjigkhaa
