/- Sb. -/
import Derived.Test.YtgjomknpjigkhaaMStep
namespace Go.Proofs.Ytgjomknpjigkhaa
open Go.RowKit Go.Shelf

theorem MI.first {M : ML} {K : KS} (I : MI M K) {i : Nat} {f : Int} (hf : M.fs[i]? = some f) (h : i < 2) : f < 2 := by
  obtain ⟨l, hl⟩ := I.two
  rw [hl] at hf
  match i, h with
  | 0, _ => simp at hf; omega
  | 1, _ => simp at hf; omega

theorem MI.later {M : ML} {K : KS} (I : MI M K) {i : Nat} {f : Int} (hf : M.fs[i]? = some f) (h : 2 ≤ i) : 2 ≤ f := by
  obtain ⟨l, hl⟩ := I.two
  have hn := I.nodup
  rw [hl] at hf hn
  obtain ⟨k, rfl⟩ : ∃ k, i = k + 2 := ⟨i - 2, by omega⟩
  have hm : f ∈ l := List.mem_of_getElem? (by simpa using hf)
  simp only [List.nodup_cons, List.mem_cons, not_or] at hn
  have h0 : f ≠ 0 := fun e => hn.1.2 (e ▸ hm)
  have h1 : f ≠ 1 := fun e => hn.2.1 (e ▸ hm)
  have hi' : k + 2 < M.truth.length := by rw [I.len, hl]; exact (List.getElem?_eq_some_iff.1 hf).1
  obtain ⟨r, h3, _⟩ := I.each (k + 2) f _ (by rw [hl]; exact hf) (List.getElem?_eq_getElem hi')
  have := (I.inv.key f r h3).1
  omega

/-- A list without one place. -/
def outAt {α : Type} (l : List α) (i : Nat) : List α := l.take i ++ l.drop (i + 1)

theorem outAt_get {α : Type} (l : List α) (i : Nat) (h : i < l.length) (k : Nat) : (outAt l i)[k]? = if k < i then l[k]? else l[k + 1]? := by
  unfold outAt
  by_cases hk : k < i
  · rw [if_pos hk, List.getElem?_append_left (by rw [List.length_take]; omega), List.getElem?_take, if_pos hk]
  · rw [if_neg hk, List.getElem?_append_right (by rw [List.length_take]; omega), List.getElem?_drop, List.length_take]
    congr 1
    omega

theorem outAt_length {α : Type} (l : List α) (i : Nat) (h : i < l.length) : (outAt l i).length + 1 = l.length := by
  unfold outAt
  rw [List.length_append, List.length_take, List.length_drop]
  omega

theorem outAt_map {α β : Type} (f : α → β) (l : List α) (i : Nat) : (outAt l i).map f = outAt (l.map f) i := by
  unfold outAt
  rw [List.map_append, List.map_take, List.map_drop]

def ML.less (M : ML) (i : Nat) : ML := { M with fs := outAt M.fs i, truth := outAt M.truth i }

theorem MI.less {M : ML} {K K' : KS} {f r : Int} {i : Nat} (I : MI M K) (hn : (K.R.map Prod.fst).Nodup) (hf : M.fs[i]? = some f) (h2 : 2 ≤ i) (hr : get K.R f = some r) (D : Dropped K K' f r) : MI (M.less i) K' := by
  have hi := (List.getElem?_eq_some_iff.1 hf).1
  have hn' : K'.S.n = K.S.n := by unfold ST.n; rw [D.order]
  have hne : ∀ (k : Nat) (g : Int), (outAt M.fs i)[k]? = some g → g ≠ f := by
    intro k g hg e
    subst e
    rw [outAt_get _ _ hi] at hg
    obtain ⟨h1, h3⟩ := List.getElem?_eq_some_iff.1 hf
    split at hg
    · obtain ⟨h4, h5⟩ := List.getElem?_eq_some_iff.1 hg
      have := (List.getElem_inj (h₀ := h4) (h₁ := h1) I.nodup).1 (by rw [h5, h3])
      omega
    · obtain ⟨h4, h5⟩ := List.getElem?_eq_some_iff.1 hg
      have := (List.getElem_inj (h₀ := h4) (h₁ := h1) I.nodup).1 (by rw [h5, h3])
      omega
  refine ⟨D.inv, I.n.trans hn'.symm, ?_, ?_, ?_, ?_, ?_, ?_, ?_⟩
  · show (outAt M.truth i).length = (outAt M.fs i).length
    have h1 := outAt_length M.fs i hi
    have h3 := outAt_length M.truth i (by rw [I.len]; exact hi)
    have := I.len
    omega
  · obtain ⟨l, hl⟩ := I.two
    obtain ⟨k, rfl⟩ : ∃ k, i = k + 2 := ⟨i - 2, by omega⟩
    refine ⟨l.take k ++ l.drop (k + 1), ?_⟩
    show outAt M.fs (k + 2) = _
    rw [hl]
    rfl
  · intro k g t h3 h4
    have h3' : (outAt M.fs i)[k]? = some g := h3
    have h4' : (outAt M.truth i)[k]? = some t := h4
    have hg := hne k g h3'
    rw [outAt_get _ _ hi] at h3'
    rw [outAt_get _ _ (by rw [I.len]; exact hi)] at h4'
    have key : ∃ q, get K.R g = some q ∧ t = tab K.S.n (K.S.den q) := by
      split at h3'
      · rename_i hk
        rw [if_pos hk] at h4'
        exact I.each k g t h3' h4'
      · rename_i hk
        rw [if_neg hk] at h4'
        exact I.each (k + 1) g t h3' h4'
    obtain ⟨q, g1, g2⟩ := key
    refine ⟨q, by rw [D.R, get_del, if_neg hg]; exact g1, ?_⟩
    rw [g2, hn']
    unfold tab
    exact List.map_congr_left fun a _ => (D.den g q g1 hg _).symm
  · intro a q ha
    rw [D.R, get_del] at ha
    by_cases e : a = f
    · rw [if_pos e] at ha; cases ha
    · rw [if_neg e] at ha
      have hm := I.all a q ha
      show a ∈ outAt M.fs i
      obtain ⟨k, hk, ek⟩ := List.mem_iff_getElem.1 hm
      have hki : k ≠ i := fun h => e (by
        subst h
        rw [List.getElem?_eq_getElem hk, ek] at hf
        exact Option.some.inj hf)
      by_cases hlt : k < i
      · exact List.mem_of_getElem? (i := k) (by rw [outAt_get _ _ hi, if_pos hlt, List.getElem?_eq_getElem hk, ek])
      · exact List.mem_of_getElem? (i := k - 1) (by rw [outAt_get _ _ hi, if_neg (by omega), show k - 1 + 1 = k by omega, List.getElem?_eq_getElem hk, ek])
  · show (outAt M.fs i).Nodup
    have : outAt M.fs i = M.fs.eraseIdx i := by rw [List.eraseIdx_eq_take_drop_succ]; rfl
    rw [this]
    exact I.nodup.sublist (List.eraseIdx_sublist _ _)
  · show K'.R.length = (outAt M.fs i).length
    have h1 := outAt_length M.fs i hi
    have h3 := length_del hn hr
    have := I.count
    rw [D.R]
    omega
  · show M.last = K'.nx - 1
    rw [D.nx]
    exact I.last

theorem own_fresh {w : World} {base : Nat} {e : TypeId} {v : Value} {n s : Nat} {xs : List Value} (h : w.ownsRow base e 1 v n xs) (hn : 0 < n) (ha : v.ownBlock = none ∨ v.ownBlock = some s) : ∃ c, v = .slice (some ⟨s, 0, none⟩) n c := by
  obtain ⟨g, c, rfl⟩ := own_form h hn
  rcases ha with h1 | h1
  · cases h1
  · cases h1
    exact ⟨c, rfl⟩

theorem tabV_one (n : Nat) (l : List (Nat × Nat)) : ∀ u ∈ tabV n l, u.oneCell' = true := by
  intro u hu
  unfold tabV at hu
  obtain ⟨p, _, rfl⟩ := List.mem_map.1 hu
  rfl

set_option maxRecDepth 100000 in
set_option maxHeartbeats 4000000 in
theorem step_drop {base : Nat} {w : World} {m : MB} {M : ML} {K : KS} (R : Ready base w m M K) (A B C : Int) (a0 : -9223372036854775808 ≤ A) (a1 : A ≤ 9223372036854775807) (b0 : -9223372036854775808 ≤ B) (b1 : B ≤ 9223372036854775807) (c0 : -9223372036854775808 ≤ C) (c1 : C ≤ 9223372036854775807) :
    Calls Try.prog 7 #[.pointer (some ⟨m.mb, 0, none⟩), .agg #[.int .i64 10, .int .i64 A, .int .i64 B, .int .i64 C]] w (StepGives base m M K w) := by
  have hlen := R.len
  have htwo := R.two
  obtain ⟨ways, hways⟩ : ∃ x, x = 2 ^ M.n := ⟨_, rfl⟩
  have w32 : ways ≤ 32 := by rw [hways]; exact Nat.pow_le_pow_right (n := 2) (by decide) R.n5
  have Hways := hide hways
  obtain ⟨L, hL⟩ : ∃ x, x = M.fs.length := ⟨_, rfl⟩
  rw [← hL] at hlen htwo
  obtain ⟨i, ei, hi⟩ := pk_nat A (n := L) (by omega)
  obtain ⟨j, ej, hj⟩ := pk_nat B (n := L) (by omega)
  obtain ⟨l, el, hl⟩ := pk_nat C (n := L) (by omega)
  have HL := hide hL
  have pA := hide (fun w : World => pick_calls (w := w) A L a0 a1 (by omega))
  have pB := hide (fun w : World => pick_calls (w := w) B L b0 b1 (by omega))
  have pC := hide (fun w : World => pick_calls (w := w) C L c0 c1 (by omega))
  rw [ei] at pA
  rw [ej] at pB
  rw [el] at pC
  have hiI : (i : Int) < L := by omega
  have hjI : (j : Int) < L := by omega
  have hlI : (l : Int) < L := by omega
  have zx := size_alloc' w (.cells #[.int .i64 10, .int .i64 A, .int .i64 B, .int .i64 C] 27)
  have kx := Keeps.alloc [] w (.cells #[.int .i64 10, .int .i64 A, .int .i64 B, .int .i64 C] 27)
  have hx := CellsAt.new w #[.int .i64 10, .int .i64 A, .int .i64 B, .int .i64 C] 27
  have hM1 := R.mill.keeps0 kx
  have hmk := fun w : World => run_makeBools w ways (by omega)
  have g1 := hM1.head.cell 1
  have g2 := hM1.head.cell 2
  have g3 := hM1.head.cell 3
  have g4 := hM1.head.cell 4
  simp at g1 g3 g4
  have g2' : (w.alloc (.cells #[.int .i64 10, .int .i64 A, .int .i64 B, .int .i64 C] 27)).cell? ⟨m.mb, 2, none⟩ = some (.int .i64 ways) := by rw [g2, hways]; rfl
  rw [← hL] at g3 g4
  obtain ⟨pi, hpi⟩ : ∃ p, m.tbs[i]? = some p := ⟨m.tbs[i]'(by rw [R.mill.lens, ← hL]; exact hi), List.getElem?_eq_getElem _⟩
  obtain ⟨pj, hpj⟩ : ∃ p, m.tbs[j]? = some p := ⟨m.tbs[j]'(by rw [R.mill.lens, ← hL]; exact hj), List.getElem?_eq_getElem _⟩
  have ti := hM1.truthCell hpi
  have tj := hM1.truthCell hpj
  rw [← hways] at ti tj
  have Hpi := hide hpi
  have Hpj := hide hpj
  have Eij := hide (And.intro ei (And.intro ej el))
  have hmb := R.mill.head.lt
  have hbxm : m.mb < w.heap.size := hmb
  clear hways hL g2 ei ej el hpi hpj hmb
  go_enter Try.func7, Try.ntmps7
  go_wp2_with fail
  generalize w.alloc (.cells #[.int .i64 10, .int .i64 A, .int .i64 B, .int .i64 C] 27) = W at zx kx hx hM1 g1 g2' g3 g4 ti tj ⊢
  obtain ⟨bx, hbx⟩ : ∃ x, x = w.heap.size := ⟨_, rfl⟩
  rw [← hbx] at hx zx hbxm ⊢
  have kind : W.cell? ⟨bx, 0, none⟩ = some (.int .i64 10) := hx.cell 0
  have xA : W.cell? ⟨bx, 1, none⟩ = some (.int .i64 A) := hx.cell 1
  have xB : W.cell? ⟨bx, 2, none⟩ = some (.int .i64 B) := hx.cell 2
  have xC : W.cell? ⟨bx, 3, none⟩ = some (.int .i64 C) := hx.cell 3
  have Hbx := hide hbx
  clear hbx
  go_quiet ((go_at_call 11; exact (pA.out _).mono fun _ _ h => ⟨h.1, _, h.2⟩))
  revert nq
  intro q1
  go_wp2_with fail
  go_quiet ((go_at_call 11; exact (pB.out _).mono fun _ _ h => ⟨h.1, _, h.2⟩))
  revert nq
  intro q2
  go_wp2_with fail
  go_quiet ((go_at_call 11; exact (pC.out _).mono fun _ _ h => ⟨h.1, _, h.2⟩))
  revert nq
  intro q3
  go_wp2_with fail
  have kT : Keeps [] W ((W.drewN (q1 + q2 + q3)).alloc (.cells (madeCells #[.bool false] ways) 4)) := (Keeps.drewN [] W _).trans (Keeps.alloc [] _ _)
  have fT : ∀ F, Fill ((W.drewN (q1 + q2 + q3)).alloc (.cells (madeCells #[.bool false] ways) 4)) (bx + 1) M.n F 0 := fun F => by
    have := made_fill (W.drewN (q1 + q2 + q3)) M.n F
    rw [← Hways.out] at this
    rw [← zx]
    exact this
  have zT : ((W.drewN (q1 + q2 + q3)).alloc (.cells (madeCells #[.bool false] ways) 4)).heap.size = bx + 1 + 1 := by rw [size_alloc']; show W.heap.size + 1 = _; rw [zx]
  generalize (W.drewN (q1 + q2 + q3)).alloc (.cells (madeCells #[.bool false] ways) 4) = WT at kT fT zT ⊢
  have hMT := hM1.keeps0 kT
  have hxT := hx.keeps kT (by simp)
  have kwT := kx.trans kT
  have Hzx := hide zx
  have HzT := hide zT
  clear g1 g2' g3 g4 ti tj kind xA xB xC zx zT hM1 hx kx kT hmk pA pB pC q1 q2 q3
  obtain ⟨fi, ri, hfi, hri, hti⟩ := R.handle (i := i) (by rw [← HL.out]; exact hi)
  have Hti := hide hti
  have hMD := hMT.keeps0 (Keeps.drew [] WT)
  have facts : ∀ {w' : World} {K : KS}, MillAt w' m M K → (w'.cell? ⟨m.mb, 0, none⟩ = some (.pointer (some ⟨m.b.k, 0, none⟩)) ∧ w'.cell? ⟨m.mb, 3, none⟩ = some (.slice (some ⟨m.gf, 0, none⟩) L m.cf) ∧ w'.cell? ⟨m.gf, i, none⟩ = some (.int .i64 fi)) := fun h1 => ⟨h1.head.cell 0, by rw [HL.out]; exact h1.head.cell 3, h1.fsCell hfi⟩
  have fD := facts hMD
  clear hti
  by_cases h2 : i < 2
  · have hf2 := R.know.first hfi h2
    have hsc := hide (fun (w : World) (h : KernelAt w m.b K) => kdrop_no h fi ri hri hf2)
    have hiI2 : (i : Int) < 2 := by omega
    go_region_held3 (fun w' => w'.cell? ⟨m.mb, 0, none⟩ = some (.pointer (some ⟨m.b.k, 0, none⟩)) ∧ w'.cell? ⟨m.mb, 3, none⟩ = some (.slice (some ⟨m.gf, 0, none⟩) L m.cf) ∧ w'.cell? ⟨m.gf, i, none⟩ = some (.int .i64 fi)) (first | exact fD)
      (first
        | (go_at_call 27
           refine (hsc.out _ hMD.kern).mono ?_
           rintro e W4 ⟨rfl, rfl⟩))
    all_goals
      go_wp2_with fail
      go_ret
      exact ⟨rfl, m, M, K, R.stepped_re (kwT.trans (Keeps.drew [] WT)) hMD.kern (Keeps.refl _ _) (Re.refl R.know.inv) (by omega)⟩
  · have hf2 := R.know.later hfi (by omega)
    have hsc := hide (fun (w : World) (h : KernelAt w m.b K) => kdrop_yes h R.know.inv fi ri hri hf2)
    have hiI2 : ¬ (i : Int) < 2 := by omega
    go_region_held3 (fun w' => w'.cell? ⟨m.mb, 0, none⟩ = some (.pointer (some ⟨m.b.k, 0, none⟩)) ∧ w'.cell? ⟨m.mb, 3, none⟩ = some (.slice (some ⟨m.gf, 0, none⟩) L m.cf) ∧ w'.cell? ⟨m.gf, i, none⟩ = some (.int .i64 fi)) (first | exact fD | exact fE)
      (first
        | (go_at_call 27
           refine (hsc.out _ hMD.kern).mono ?_
           rintro e W4 ⟨rfl, K', hK4, dr, k4⟩
           have hM4 := hMD.worked hK4 k4
           have fE := facts hM4))
    all_goals
      have z4 : bx + 1 + 1 ≤ W4.heap.size := by have := HzT.out; have := k4.size; have e : WT.drew.heap.size = WT.heap.size := rfl; omega
      have k04 : Keeps m.b.own w W4 := ((kwT.trans (Keeps.drew [] WT)).mono (by simp)).trans k4
      have g3 : W4.cell? ⟨m.mb, 3, none⟩ = some (.slice (some ⟨m.gf, 0, none⟩) L m.cf) := by rw [HL.out]; exact hM4.head.cell 3
      have g4 : W4.cell? ⟨m.mb, 4, none⟩ = some (.slice (some ⟨m.gt, 0, none⟩) L m.ct) := by rw [HL.out]; exact hM4.head.cell 4
      have hcf : (L : Int) ≤ m.cf := by rw [HL.out]; have := own_cap hM4.fs; omega
      have hct : (L : Int) ≤ m.ct := by rw [HL.out]; have := own_cap hM4.truth; omega
      clear fD fE hMD kwT k4 hMT hxT
      obtain ⟨i0, hi0, hz0, hz1, hz2⟩ := info_parts info3
      obtain ⟨i7, hi7, hy0, hy1, hy2⟩ := info_parts info47
      have hmb4 : m.mb + 1 ≤ W4.heap.size := by omega
      have hLf : L = M.fs.length := HL.out
      have lt1 : (ints (M.fs.take i)).length = i * 1 := by rw [ints, List.length_map, List.length_take]; omega
      have lt2 : (tabV M.n (m.tbs.take i)).length = i * 1 := by have := R.mill.lens; rw [tabV, List.length_map, List.length_take]; omega
      have lt3 : (ints (M.fs.drop (i + 1))).length = (L - (i + 1)) * 1 := by rw [ints, List.length_map, List.length_drop]; omega
      have lt4 : (tabV M.n (m.tbs.drop (i + 1))).length = (L - (i + 1)) * 1 := by have := R.mill.lens; rw [tabV, List.length_map, List.length_drop]; omega
      have sb1 : ∀ (j : Nat) (u : Value), (ints (M.fs.take i))[j]? = some u → (ints M.fs)[0 + j]? = some u := by
        intro j u hu
        unfold ints at hu ⊢
        rw [List.map_take, List.getElem?_take] at hu
        split at hu
        · rw [Nat.zero_add]; exact hu
        · cases hu
      have sb2 : ∀ (j : Nat) (u : Value), (tabV M.n (m.tbs.take i))[j]? = some u → (tabV M.n m.tbs)[0 + j]? = some u := by
        intro j u hu
        unfold tabV at hu ⊢
        rw [List.map_take, List.getElem?_take] at hu
        split at hu
        · rw [Nat.zero_add]; exact hu
        · cases hu
      have sb3 : ∀ (j : Nat) (u : Value), (ints (M.fs.drop (i + 1)))[j]? = some u → (ints M.fs)[i + 1 + j]? = some u := by
        intro j u hu
        unfold ints at hu ⊢
        rw [List.map_drop, List.getElem?_drop] at hu
        exact hu
      have sb4 : ∀ (j : Nat) (u : Value), (tabV M.n (m.tbs.drop (i + 1)))[j]? = some u → (tabV M.n m.tbs)[i + 1 + j]? = some u := by
        intro j u hu
        unfold tabV at hu ⊢
        rw [List.map_drop, List.getElem?_drop] at hu
        exact hu
      have src1 := own_part hM4.fs 0 (ints (M.fs.take i)) sb1
      have HLf := hide hLf
      have Lt := hide (And.intro lt1 (And.intro lt2 (And.intro lt3 lt4)))
      have Sb := hide (And.intro sb2 (And.intro sb3 sb4))
      have Src1 := hide src1
      have Hm4 := hide hmb4
      clear hLf lt1 lt2 lt3 lt4 sb1 sb2 sb3 sb4 src1 hmb4
      go_wp2_with (at_builtin; refine wpList_append_own_at _ rfl _ _ 30 rfl (m.mb + 1) 3 i0 (.int .i64 0) 1 8 Try.underlying30 hi0 hz0 hz1 hz2 rfl (by decide) _ 0 [] rfl ⟨rfl, .inl ⟨rfl, rfl⟩⟩ ⟨m.gf, 0, none⟩ i m.cf (ints (M.fs.take i)) rfl Lt.out.1 Src1.out (ints_one _) (by unfold maxLen; omega) (by omega) Hm4.out ?_)
      intro vA W5 own5 grow5 nil5 at5
      obtain ⟨cA, rfl⟩ := own_fresh own5 (by omega) at5
      have k5 := grownBy_keeps' grow5 [] (fun r e => by simp [Value.ownBlock] at e)
      have hM5 := hM4.keeps0 k5
      have g45 : W5.cell? ⟨m.mb, 4, none⟩ = some (.slice (some ⟨m.gt, 0, none⟩) L m.ct) := by rw [HL.out]; exact hM5.head.cell 4
      have src2 := hide (own_part hM5.truth 0 (tabV M.n (m.tbs.take i)) Sb.out.1)
      have Hm5 : Hid (m.mb + 1 ≤ W5.heap.size) := hide (by have := Hm4.out; have := k5.size; omega)
      have Own5 := hide own5
      clear own5 grow5 nil5 at5 g3 g4 Src1
      go_wp2_with (at_builtin; refine wpList_append_own_at _ rfl _ _ 32 rfl (m.mb + 1) 47 i7 (.slice none 0 0) 1 24 Try.underlying32 hi7 hy0 hy1 hy2 rfl (by decide) _ 0 [] rfl ⟨rfl, .inl ⟨rfl, rfl⟩⟩ ⟨m.gt, 0, none⟩ i m.ct (tabV M.n (m.tbs.take i)) rfl Lt.out.2.1 src2.out (tabV_one _ _) (by unfold maxLen; omega) (by omega) Hm5.out ?_)
      intro vB W6 own6 grow6 nil6 at6
      obtain ⟨cB, rfl⟩ := own_fresh own6 (by omega) at6
      have k6 := grownBy_keeps' grow6 [] (fun r e => by simp [Value.ownBlock] at e)
      have hM6 := hM5.keeps0 k6
      have g36 : W6.cell? ⟨m.mb, 3, none⟩ = some (.slice (some ⟨m.gf, 0, none⟩) L m.cf) := by rw [HL.out]; exact hM6.head.cell 3
      have own56 := hide (ownsRow_kept Own5.out k6 (by simp))
      have Hm6 : Hid (m.mb + 1 ≤ W6.heap.size) := hide (by have := Hm5.out; have := k6.size; omega)
      have hA5 : W4.heap.size < W5.heap.size := by
        obtain ⟨cs, tg⟩ := own_tag Own5.out W4.heap.size rfl
        exact (Array.getElem?_eq_some_iff.1 tg).1
      have HA5 := hide hA5
      have Own6 := hide own6
      have hi1L : (i : Int) + 1 ≤ L := by omega
      clear own6 grow6 nil6 at6 g45 src2 hA5
      by_cases hcf1 : m.cf = i + 1
      · have src3 := hide (fun (j : Nat) (u : Value) (hu : (ints (M.fs.drop (i + 1)))[j]? = some u) => (by
          exfalso
          have h1 := (List.getElem?_eq_some_iff.1 hu).1
          have h2 := Lt.out.2.2.1
          rw [h2] at h1
          omega : W6.cell? ((⟨m.gf, 0, none⟩ : Addr).add j) = some u))
        go_wp2_with (at_builtin; refine wpList_append_own_at _ rfl _ _ 30 rfl (m.mb + 1) 3 i0 (.int .i64 0) 1 8 Try.underlying30 hi0 hz0 hz1 hz2 rfl (by decide) _ i (ints (M.fs.take i)) rfl own56.out ⟨m.gf, 0, none⟩ (L - (i + 1)) _ (ints (M.fs.drop (i + 1))) rfl Lt.out.2.2.1 src3.out (ints_one _) (by unfold maxLen; omega) (by omega) Hm6.out ?_)
        intro vC W7 own7 grow7 nil7 at7
        obtain ⟨gC, cC, rfl⟩ := own_form own7 (by omega)
        have k7 := grownBy_keeps' grow7 [W4.heap.size] (fun r e => .inl (by simp only [Value.ownBlock, Option.some.injEq] at e; simp [e]))
        have hd7 := hM6.head.keeps k7 (by have := Hm4.out; simp; omega)
        have tr7 := ownsRow_kept hM6.truth k7 (fun q hq x => by
          have h1 := own_lt hM4.truth q hq
          simp only [List.mem_singleton] at x
          omega)
        have ow7 := ownsRow_kept Own6.out k7 (fun q hq x => by
          simp only [Value.ownBlock, Option.some.injEq] at hq
          simp only [List.mem_singleton] at x
          have := HA5.out
          omega)
        have hmC := (own_base own7 gC rfl).1
        have e3 := hd7.cell 3
        have f3 := hd7.frozen 3
        simp at e3
        have s7 := hd7.setCell 3 (.slice (some ⟨gC, 0, none⟩) (i + (L - (i + 1))) cC)
        have s7' : CellsAt (W7.setCell ⟨m.mb, 3, none⟩ (.slice (some ⟨gC, 0, none⟩) (i + (L - (i + 1))) cC)) m.mb #[.pointer (some ⟨m.b.k, 0, none⟩), .int .i64 M.n, .int .i64 (2 ^ M.n : Nat), .slice (some ⟨gC, 0, none⟩) (i + (L - (i + 1))) cC, .slice (some ⟨m.gt, 0, none⟩) M.fs.length m.ct, .int .i64 M.last] := by simpa using s7
        have k7s := Keeps.setCell W7 ⟨m.mb, 3, none⟩ (.slice (some ⟨gC, 0, none⟩) (i + (L - (i + 1))) cC)
        have up7 : ∀ q, m.mb + 1 ≤ q → q ∉ [m.mb] := fun q hq x => by simp only [List.mem_singleton] at x; omega
        have fs8 := hide (ownsRow_kept own7 k7s (fun q hq => up7 q (own_base own7 q hq).1))
        have tr8 := ownsRow_kept tr7 k7s (fun q hq => up7 q (own_base tr7 q hq).1)
        have ow8 := ownsRow_kept ow7 k7s (fun q hq => up7 q (own_base ow7 q hq).1)
        have d4 : (W7.setCell ⟨m.mb, 3, none⟩ (.slice (some ⟨gC, 0, none⟩) (i + (L - (i + 1))) cC)).cell? ⟨m.mb, 4, none⟩ = some (.slice (some ⟨m.gt, 0, none⟩) L m.ct) := (s7'.cell 4).trans (by rw [HL.out]; rfl)
        have Hm7 : Hid (m.mb + 1 ≤ (W7.setCell ⟨m.mb, 3, none⟩ (.slice (some ⟨gC, 0, none⟩) (i + (L - (i + 1))) cC)).heap.size) := hide (by have := Hm6.out; have := k7.size; have := k7s.size; omega)
        have Ow8 := hide ow8
        have Tr8 := hide tr8
        clear own7 grow7 nil7 at7 g36 src3 tr7 ow7 ow8 tr8 s7
        by_cases hct1 : m.ct = i + 1
        · have src4 := hide (fun (j : Nat) (u : Value) (hu : (tabV M.n (m.tbs.drop (i + 1)))[j]? = some u) => (by
            exfalso
            have h1 := (List.getElem?_eq_some_iff.1 hu).1
            have h2 := Lt.out.2.2.2
            rw [h2] at h1
            omega : (W7.setCell ⟨m.mb, 3, none⟩ (.slice (some ⟨gC, 0, none⟩) (i + (L - (i + 1))) cC)).cell? ((⟨m.gt, 0, none⟩ : Addr).add j) = some u))
          go_wp2_with (at_builtin; refine wpList_append_own_at _ rfl _ _ 32 rfl (m.mb + 1) 47 i7 (.slice none 0 0) 1 24 Try.underlying32 hi7 hy0 hy1 hy2 rfl (by decide) _ i (tabV M.n (m.tbs.take i)) rfl Ow8.out ⟨m.gt, 0, none⟩ (L - (i + 1)) _ (tabV M.n (m.tbs.drop (i + 1))) rfl Lt.out.2.2.2 src4.out (tabV_one _ _) (by unfold maxLen; omega) (by omega) Hm7.out ?_)
          intro vD W9 own9 grow9 nil9 at9
          obtain ⟨gD, cD, rfl⟩ := own_form own9 (by omega)
          have k9 := grownBy_keeps' grow9 [W5.heap.size] (fun r e => .inl (by simp only [Value.ownBlock, Option.some.injEq] at e; simp [e]))
          have h5m : m.mb < W5.heap.size := by have := Hm5.out; omega
          have hd9 := s7'.keeps k9 (by simp; omega)
          have e4 := hd9.cell 4
          have f4 := hd9.frozen 4
          simp at e4
          have s9 := hd9.setCell 4 (.slice (some ⟨gD, 0, none⟩) (i + (L - (i + 1))) cD)
          have k9s := Keeps.setCell W9 ⟨m.mb, 4, none⟩ (.slice (some ⟨gD, 0, none⟩) (i + (L - (i + 1))) cD)
          have fs9 := ownsRow_kept fs8.out k9 (fun q hq x => by
            obtain ⟨cs, tg⟩ := own_tag fs8.out q hq
            obtain ⟨cs', tg'⟩ := own_tag Ow8.out W5.heap.size rfl
            simp only [List.mem_singleton] at x
            rw [x, tg'] at tg
            cases tg)
          have fs10 := hide (ownsRow_kept fs9 k9s (fun q hq => up7 q (own_base fs9 q hq).1))
          have tr10 := hide (ownsRow_kept own9 k9s (fun q hq => up7 q (own_base own9 q hq).1))
          clear own9 grow9 nil9 at9 d4 src4 fs9
          go_wp2_with fail
          go_ret
          have hLL : i + (L - (i + 1)) = (M.less i).fs.length := by
            have h1 := outAt_length M.fs i (by rw [← HLf.out]; exact hi)
            show _ = (outAt M.fs i).length
            have := HLf.out
            omega
          have kk : Keeps [m.mb, W4.heap.size, W5.heap.size] W4 (W9.setCell ⟨m.mb, 4, none⟩ (.slice (some ⟨gD, 0, none⟩) (i + (L - (i + 1))) cD)) :=
            (((((k5.mono (by simp)).trans (k6.mono (by simp))).trans (k7.mono (by simp))).trans (k7s.mono (by simp))).trans (k9.mono (by simp))).trans (k9s.mono (by simp))
          have hbm := hM4.below
          refine ⟨rfl, ⟨m.mb, gC, cC, gD, cD, outAt m.tbs i, m.b⟩, M.less i, K', ⟨⟨?_, ?_, hbm, ?_, ?_, ?_, ?_⟩, R.know.less R.mill.kern.roots.nodup hfi (by omega) hri dr, rfl, rfl, rfl, by rw [dr.next]; omega, by rw [dr.nx]; omega, ?_⟩⟩
          · show CellsAt _ m.mb #[_, _, _, .slice (some ⟨gC, 0, none⟩) (M.less i).fs.length cC, .slice (some ⟨gD, 0, none⟩) (M.less i).fs.length cD, _]
            rw [← hLL]
            simpa [ML.less] using s9
          · exact hM4.kern.keeps kk (fun q hq x => by
              have := hbm q hq
              have := Hm4.out
              simp only [List.mem_cons, List.not_mem_nil, or_false] at x
              omega)
          · show World.ownsRow _ _ _ _ (.slice (some ⟨gC, 0, none⟩) (M.less i).fs.length cC) (M.less i).fs.length (ints (outAt M.fs i))
            rw [← hLL, show ints (outAt M.fs i) = ints (M.fs.take i) ++ ints (M.fs.drop (i + 1)) by unfold ints outAt; rw [List.map_append]]
            exact fs10.out
          · show World.ownsRow _ _ _ _ (.slice (some ⟨gD, 0, none⟩) (M.less i).fs.length cD) (M.less i).fs.length (tabV M.n (outAt m.tbs i))
            rw [← hLL, show tabV M.n (outAt m.tbs i) = tabV M.n (m.tbs.take i) ++ tabV M.n (m.tbs.drop (i + 1)) by unfold tabV outAt; rw [List.map_append]]
            exact tr10.out
          · show (outAt m.tbs i).length = (outAt M.fs i).length
            have h1 := outAt_length M.fs i (by rw [← HLf.out]; exact hi)
            have h3 := outAt_length m.tbs i (by rw [R.mill.lens, ← HLf.out]; exact hi)
            have := R.mill.lens
            omega
          · intro k p t hp ht
            have hp' : (outAt m.tbs i)[k]? = some p := hp
            have ht' : (outAt M.truth i)[k]? = some t := ht
            rw [outAt_get _ _ (by rw [R.mill.lens, ← HLf.out]; exact hi)] at hp'
            rw [outAt_get _ _ (by rw [R.know.len, ← HLf.out]; exact hi)] at ht'
            have key : m.mb + 1 ≤ p.1 ∧ TableIs W4 p.1 t := by
              split at hp'
              · rename_i hk
                rw [if_pos hk] at ht'
                exact hM4.tables k p t hp' ht'
              · rename_i hk
                rw [if_neg hk] at ht'
                exact hM4.tables (k + 1) p t hp' ht'
            refine ⟨key.1, key.2.keeps kk (fun x => ?_)⟩
            have h1 := key.2.lt
            have := k5.size
            have h0 : m.mb + 1 ≤ p.1 := key.1
            simp only [List.mem_cons, List.not_mem_nil, or_false] at x
            omega
          · have hs : base ≤ w.heap.size := by have := R.mill.head.lt; have := R.low; omega
            refine (k04.below hs R.own).trans (kk.below (by have := k04.size; omega) (fun q hq => ?_))
            have := R.low
            have := Hm4.out
            simp only [List.mem_cons, List.not_mem_nil, or_false] at hq
            omega
        · have src4 := hide (own_part Tr8.out (i + 1) (tabV M.n (m.tbs.drop (i + 1))) Sb.out.2.2)
          go_wp2_with (at_builtin; refine wpList_append_own_at _ rfl _ _ 32 rfl (m.mb + 1) 47 i7 (.slice none 0 0) 1 24 Try.underlying32 hi7 hy0 hy1 hy2 rfl (by decide) _ i (tabV M.n (m.tbs.take i)) rfl Ow8.out ⟨m.gt, i + 1, none⟩ (L - (i + 1)) _ (tabV M.n (m.tbs.drop (i + 1))) rfl Lt.out.2.2.2 src4.out (tabV_one _ _) (by unfold maxLen; omega) (by omega) Hm7.out ?_)
          intro vD W9 own9 grow9 nil9 at9
          obtain ⟨gD, cD, rfl⟩ := own_form own9 (by omega)
          have k9 := grownBy_keeps' grow9 [W5.heap.size] (fun r e => .inl (by simp only [Value.ownBlock, Option.some.injEq] at e; simp [e]))
          have h5m : m.mb < W5.heap.size := by have := Hm5.out; omega
          have hd9 := s7'.keeps k9 (by simp; omega)
          have e4 := hd9.cell 4
          have f4 := hd9.frozen 4
          simp at e4
          have s9 := hd9.setCell 4 (.slice (some ⟨gD, 0, none⟩) (i + (L - (i + 1))) cD)
          have k9s := Keeps.setCell W9 ⟨m.mb, 4, none⟩ (.slice (some ⟨gD, 0, none⟩) (i + (L - (i + 1))) cD)
          have fs9 := ownsRow_kept fs8.out k9 (fun q hq x => by
            obtain ⟨cs, tg⟩ := own_tag fs8.out q hq
            obtain ⟨cs', tg'⟩ := own_tag Ow8.out W5.heap.size rfl
            simp only [List.mem_singleton] at x
            rw [x, tg'] at tg
            cases tg)
          have fs10 := hide (ownsRow_kept fs9 k9s (fun q hq => up7 q (own_base fs9 q hq).1))
          have tr10 := hide (ownsRow_kept own9 k9s (fun q hq => up7 q (own_base own9 q hq).1))
          clear own9 grow9 nil9 at9 d4 src4 fs9
          go_wp2_with fail
          go_ret
          have hLL : i + (L - (i + 1)) = (M.less i).fs.length := by
            have h1 := outAt_length M.fs i (by rw [← HLf.out]; exact hi)
            show _ = (outAt M.fs i).length
            have := HLf.out
            omega
          have kk : Keeps [m.mb, W4.heap.size, W5.heap.size] W4 (W9.setCell ⟨m.mb, 4, none⟩ (.slice (some ⟨gD, 0, none⟩) (i + (L - (i + 1))) cD)) :=
            (((((k5.mono (by simp)).trans (k6.mono (by simp))).trans (k7.mono (by simp))).trans (k7s.mono (by simp))).trans (k9.mono (by simp))).trans (k9s.mono (by simp))
          have hbm := hM4.below
          refine ⟨rfl, ⟨m.mb, gC, cC, gD, cD, outAt m.tbs i, m.b⟩, M.less i, K', ⟨⟨?_, ?_, hbm, ?_, ?_, ?_, ?_⟩, R.know.less R.mill.kern.roots.nodup hfi (by omega) hri dr, rfl, rfl, rfl, by rw [dr.next]; omega, by rw [dr.nx]; omega, ?_⟩⟩
          · show CellsAt _ m.mb #[_, _, _, .slice (some ⟨gC, 0, none⟩) (M.less i).fs.length cC, .slice (some ⟨gD, 0, none⟩) (M.less i).fs.length cD, _]
            rw [← hLL]
            simpa [ML.less] using s9
          · exact hM4.kern.keeps kk (fun q hq x => by
              have := hbm q hq
              have := Hm4.out
              simp only [List.mem_cons, List.not_mem_nil, or_false] at x
              omega)
          · show World.ownsRow _ _ _ _ (.slice (some ⟨gC, 0, none⟩) (M.less i).fs.length cC) (M.less i).fs.length (ints (outAt M.fs i))
            rw [← hLL, show ints (outAt M.fs i) = ints (M.fs.take i) ++ ints (M.fs.drop (i + 1)) by unfold ints outAt; rw [List.map_append]]
            exact fs10.out
          · show World.ownsRow _ _ _ _ (.slice (some ⟨gD, 0, none⟩) (M.less i).fs.length cD) (M.less i).fs.length (tabV M.n (outAt m.tbs i))
            rw [← hLL, show tabV M.n (outAt m.tbs i) = tabV M.n (m.tbs.take i) ++ tabV M.n (m.tbs.drop (i + 1)) by unfold tabV outAt; rw [List.map_append]]
            exact tr10.out
          · show (outAt m.tbs i).length = (outAt M.fs i).length
            have h1 := outAt_length M.fs i (by rw [← HLf.out]; exact hi)
            have h3 := outAt_length m.tbs i (by rw [R.mill.lens, ← HLf.out]; exact hi)
            have := R.mill.lens
            omega
          · intro k p t hp ht
            have hp' : (outAt m.tbs i)[k]? = some p := hp
            have ht' : (outAt M.truth i)[k]? = some t := ht
            rw [outAt_get _ _ (by rw [R.mill.lens, ← HLf.out]; exact hi)] at hp'
            rw [outAt_get _ _ (by rw [R.know.len, ← HLf.out]; exact hi)] at ht'
            have key : m.mb + 1 ≤ p.1 ∧ TableIs W4 p.1 t := by
              split at hp'
              · rename_i hk
                rw [if_pos hk] at ht'
                exact hM4.tables k p t hp' ht'
              · rename_i hk
                rw [if_neg hk] at ht'
                exact hM4.tables (k + 1) p t hp' ht'
            refine ⟨key.1, key.2.keeps kk (fun x => ?_)⟩
            have h1 := key.2.lt
            have := k5.size
            have h0 : m.mb + 1 ≤ p.1 := key.1
            simp only [List.mem_cons, List.not_mem_nil, or_false] at x
            omega
          · have hs : base ≤ w.heap.size := by have := R.mill.head.lt; have := R.low; omega
            refine (k04.below hs R.own).trans (kk.below (by have := k04.size; omega) (fun q hq => ?_))
            have := R.low
            have := Hm4.out
            simp only [List.mem_cons, List.not_mem_nil, or_false] at hq
            omega
      · have src3 := hide (own_part hM6.fs (i + 1) (ints (M.fs.drop (i + 1))) Sb.out.2.1)
        go_wp2_with (at_builtin; refine wpList_append_own_at _ rfl _ _ 30 rfl (m.mb + 1) 3 i0 (.int .i64 0) 1 8 Try.underlying30 hi0 hz0 hz1 hz2 rfl (by decide) _ i (ints (M.fs.take i)) rfl own56.out ⟨m.gf, i + 1, none⟩ (L - (i + 1)) _ (ints (M.fs.drop (i + 1))) rfl Lt.out.2.2.1 src3.out (ints_one _) (by unfold maxLen; omega) (by omega) Hm6.out ?_)
        intro vC W7 own7 grow7 nil7 at7
        obtain ⟨gC, cC, rfl⟩ := own_form own7 (by omega)
        have k7 := grownBy_keeps' grow7 [W4.heap.size] (fun r e => .inl (by simp only [Value.ownBlock, Option.some.injEq] at e; simp [e]))
        have hd7 := hM6.head.keeps k7 (by have := Hm4.out; simp; omega)
        have tr7 := ownsRow_kept hM6.truth k7 (fun q hq x => by
          have h1 := own_lt hM4.truth q hq
          simp only [List.mem_singleton] at x
          omega)
        have ow7 := ownsRow_kept Own6.out k7 (fun q hq x => by
          simp only [Value.ownBlock, Option.some.injEq] at hq
          simp only [List.mem_singleton] at x
          have := HA5.out
          omega)
        have hmC := (own_base own7 gC rfl).1
        have e3 := hd7.cell 3
        have f3 := hd7.frozen 3
        simp at e3
        have s7 := hd7.setCell 3 (.slice (some ⟨gC, 0, none⟩) (i + (L - (i + 1))) cC)
        have s7' : CellsAt (W7.setCell ⟨m.mb, 3, none⟩ (.slice (some ⟨gC, 0, none⟩) (i + (L - (i + 1))) cC)) m.mb #[.pointer (some ⟨m.b.k, 0, none⟩), .int .i64 M.n, .int .i64 (2 ^ M.n : Nat), .slice (some ⟨gC, 0, none⟩) (i + (L - (i + 1))) cC, .slice (some ⟨m.gt, 0, none⟩) M.fs.length m.ct, .int .i64 M.last] := by simpa using s7
        have k7s := Keeps.setCell W7 ⟨m.mb, 3, none⟩ (.slice (some ⟨gC, 0, none⟩) (i + (L - (i + 1))) cC)
        have up7 : ∀ q, m.mb + 1 ≤ q → q ∉ [m.mb] := fun q hq x => by simp only [List.mem_singleton] at x; omega
        have fs8 := hide (ownsRow_kept own7 k7s (fun q hq => up7 q (own_base own7 q hq).1))
        have tr8 := ownsRow_kept tr7 k7s (fun q hq => up7 q (own_base tr7 q hq).1)
        have ow8 := ownsRow_kept ow7 k7s (fun q hq => up7 q (own_base ow7 q hq).1)
        have d4 : (W7.setCell ⟨m.mb, 3, none⟩ (.slice (some ⟨gC, 0, none⟩) (i + (L - (i + 1))) cC)).cell? ⟨m.mb, 4, none⟩ = some (.slice (some ⟨m.gt, 0, none⟩) L m.ct) := (s7'.cell 4).trans (by rw [HL.out]; rfl)
        have Hm7 : Hid (m.mb + 1 ≤ (W7.setCell ⟨m.mb, 3, none⟩ (.slice (some ⟨gC, 0, none⟩) (i + (L - (i + 1))) cC)).heap.size) := hide (by have := Hm6.out; have := k7.size; have := k7s.size; omega)
        have Ow8 := hide ow8
        have Tr8 := hide tr8
        clear own7 grow7 nil7 at7 g36 src3 tr7 ow7 ow8 tr8 s7
        by_cases hct1 : m.ct = i + 1
        · have src4 := hide (fun (j : Nat) (u : Value) (hu : (tabV M.n (m.tbs.drop (i + 1)))[j]? = some u) => (by
            exfalso
            have h1 := (List.getElem?_eq_some_iff.1 hu).1
            have h2 := Lt.out.2.2.2
            rw [h2] at h1
            omega : (W7.setCell ⟨m.mb, 3, none⟩ (.slice (some ⟨gC, 0, none⟩) (i + (L - (i + 1))) cC)).cell? ((⟨m.gt, 0, none⟩ : Addr).add j) = some u))
          go_wp2_with (at_builtin; refine wpList_append_own_at _ rfl _ _ 32 rfl (m.mb + 1) 47 i7 (.slice none 0 0) 1 24 Try.underlying32 hi7 hy0 hy1 hy2 rfl (by decide) _ i (tabV M.n (m.tbs.take i)) rfl Ow8.out ⟨m.gt, 0, none⟩ (L - (i + 1)) _ (tabV M.n (m.tbs.drop (i + 1))) rfl Lt.out.2.2.2 src4.out (tabV_one _ _) (by unfold maxLen; omega) (by omega) Hm7.out ?_)
          intro vD W9 own9 grow9 nil9 at9
          obtain ⟨gD, cD, rfl⟩ := own_form own9 (by omega)
          have k9 := grownBy_keeps' grow9 [W5.heap.size] (fun r e => .inl (by simp only [Value.ownBlock, Option.some.injEq] at e; simp [e]))
          have h5m : m.mb < W5.heap.size := by have := Hm5.out; omega
          have hd9 := s7'.keeps k9 (by simp; omega)
          have e4 := hd9.cell 4
          have f4 := hd9.frozen 4
          simp at e4
          have s9 := hd9.setCell 4 (.slice (some ⟨gD, 0, none⟩) (i + (L - (i + 1))) cD)
          have k9s := Keeps.setCell W9 ⟨m.mb, 4, none⟩ (.slice (some ⟨gD, 0, none⟩) (i + (L - (i + 1))) cD)
          have fs9 := ownsRow_kept fs8.out k9 (fun q hq x => by
            obtain ⟨cs, tg⟩ := own_tag fs8.out q hq
            obtain ⟨cs', tg'⟩ := own_tag Ow8.out W5.heap.size rfl
            simp only [List.mem_singleton] at x
            rw [x, tg'] at tg
            cases tg)
          have fs10 := hide (ownsRow_kept fs9 k9s (fun q hq => up7 q (own_base fs9 q hq).1))
          have tr10 := hide (ownsRow_kept own9 k9s (fun q hq => up7 q (own_base own9 q hq).1))
          clear own9 grow9 nil9 at9 d4 src4 fs9
          go_wp2_with fail
          go_ret
          have hLL : i + (L - (i + 1)) = (M.less i).fs.length := by
            have h1 := outAt_length M.fs i (by rw [← HLf.out]; exact hi)
            show _ = (outAt M.fs i).length
            have := HLf.out
            omega
          have kk : Keeps [m.mb, W4.heap.size, W5.heap.size] W4 (W9.setCell ⟨m.mb, 4, none⟩ (.slice (some ⟨gD, 0, none⟩) (i + (L - (i + 1))) cD)) :=
            (((((k5.mono (by simp)).trans (k6.mono (by simp))).trans (k7.mono (by simp))).trans (k7s.mono (by simp))).trans (k9.mono (by simp))).trans (k9s.mono (by simp))
          have hbm := hM4.below
          refine ⟨rfl, ⟨m.mb, gC, cC, gD, cD, outAt m.tbs i, m.b⟩, M.less i, K', ⟨⟨?_, ?_, hbm, ?_, ?_, ?_, ?_⟩, R.know.less R.mill.kern.roots.nodup hfi (by omega) hri dr, rfl, rfl, rfl, by rw [dr.next]; omega, by rw [dr.nx]; omega, ?_⟩⟩
          · show CellsAt _ m.mb #[_, _, _, .slice (some ⟨gC, 0, none⟩) (M.less i).fs.length cC, .slice (some ⟨gD, 0, none⟩) (M.less i).fs.length cD, _]
            rw [← hLL]
            simpa [ML.less] using s9
          · exact hM4.kern.keeps kk (fun q hq x => by
              have := hbm q hq
              have := Hm4.out
              simp only [List.mem_cons, List.not_mem_nil, or_false] at x
              omega)
          · show World.ownsRow _ _ _ _ (.slice (some ⟨gC, 0, none⟩) (M.less i).fs.length cC) (M.less i).fs.length (ints (outAt M.fs i))
            rw [← hLL, show ints (outAt M.fs i) = ints (M.fs.take i) ++ ints (M.fs.drop (i + 1)) by unfold ints outAt; rw [List.map_append]]
            exact fs10.out
          · show World.ownsRow _ _ _ _ (.slice (some ⟨gD, 0, none⟩) (M.less i).fs.length cD) (M.less i).fs.length (tabV M.n (outAt m.tbs i))
            rw [← hLL, show tabV M.n (outAt m.tbs i) = tabV M.n (m.tbs.take i) ++ tabV M.n (m.tbs.drop (i + 1)) by unfold tabV outAt; rw [List.map_append]]
            exact tr10.out
          · show (outAt m.tbs i).length = (outAt M.fs i).length
            have h1 := outAt_length M.fs i (by rw [← HLf.out]; exact hi)
            have h3 := outAt_length m.tbs i (by rw [R.mill.lens, ← HLf.out]; exact hi)
            have := R.mill.lens
            omega
          · intro k p t hp ht
            have hp' : (outAt m.tbs i)[k]? = some p := hp
            have ht' : (outAt M.truth i)[k]? = some t := ht
            rw [outAt_get _ _ (by rw [R.mill.lens, ← HLf.out]; exact hi)] at hp'
            rw [outAt_get _ _ (by rw [R.know.len, ← HLf.out]; exact hi)] at ht'
            have key : m.mb + 1 ≤ p.1 ∧ TableIs W4 p.1 t := by
              split at hp'
              · rename_i hk
                rw [if_pos hk] at ht'
                exact hM4.tables k p t hp' ht'
              · rename_i hk
                rw [if_neg hk] at ht'
                exact hM4.tables (k + 1) p t hp' ht'
            refine ⟨key.1, key.2.keeps kk (fun x => ?_)⟩
            have h1 := key.2.lt
            have := k5.size
            have h0 : m.mb + 1 ≤ p.1 := key.1
            simp only [List.mem_cons, List.not_mem_nil, or_false] at x
            omega
          · have hs : base ≤ w.heap.size := by have := R.mill.head.lt; have := R.low; omega
            refine (k04.below hs R.own).trans (kk.below (by have := k04.size; omega) (fun q hq => ?_))
            have := R.low
            have := Hm4.out
            simp only [List.mem_cons, List.not_mem_nil, or_false] at hq
            omega
        · have src4 := hide (own_part Tr8.out (i + 1) (tabV M.n (m.tbs.drop (i + 1))) Sb.out.2.2)
          go_wp2_with (at_builtin; refine wpList_append_own_at _ rfl _ _ 32 rfl (m.mb + 1) 47 i7 (.slice none 0 0) 1 24 Try.underlying32 hi7 hy0 hy1 hy2 rfl (by decide) _ i (tabV M.n (m.tbs.take i)) rfl Ow8.out ⟨m.gt, i + 1, none⟩ (L - (i + 1)) _ (tabV M.n (m.tbs.drop (i + 1))) rfl Lt.out.2.2.2 src4.out (tabV_one _ _) (by unfold maxLen; omega) (by omega) Hm7.out ?_)
          intro vD W9 own9 grow9 nil9 at9
          obtain ⟨gD, cD, rfl⟩ := own_form own9 (by omega)
          have k9 := grownBy_keeps' grow9 [W5.heap.size] (fun r e => .inl (by simp only [Value.ownBlock, Option.some.injEq] at e; simp [e]))
          have h5m : m.mb < W5.heap.size := by have := Hm5.out; omega
          have hd9 := s7'.keeps k9 (by simp; omega)
          have e4 := hd9.cell 4
          have f4 := hd9.frozen 4
          simp at e4
          have s9 := hd9.setCell 4 (.slice (some ⟨gD, 0, none⟩) (i + (L - (i + 1))) cD)
          have k9s := Keeps.setCell W9 ⟨m.mb, 4, none⟩ (.slice (some ⟨gD, 0, none⟩) (i + (L - (i + 1))) cD)
          have fs9 := ownsRow_kept fs8.out k9 (fun q hq x => by
            obtain ⟨cs, tg⟩ := own_tag fs8.out q hq
            obtain ⟨cs', tg'⟩ := own_tag Ow8.out W5.heap.size rfl
            simp only [List.mem_singleton] at x
            rw [x, tg'] at tg
            cases tg)
          have fs10 := hide (ownsRow_kept fs9 k9s (fun q hq => up7 q (own_base fs9 q hq).1))
          have tr10 := hide (ownsRow_kept own9 k9s (fun q hq => up7 q (own_base own9 q hq).1))
          clear own9 grow9 nil9 at9 d4 src4 fs9
          go_wp2_with fail
          go_ret
          have hLL : i + (L - (i + 1)) = (M.less i).fs.length := by
            have h1 := outAt_length M.fs i (by rw [← HLf.out]; exact hi)
            show _ = (outAt M.fs i).length
            have := HLf.out
            omega
          have kk : Keeps [m.mb, W4.heap.size, W5.heap.size] W4 (W9.setCell ⟨m.mb, 4, none⟩ (.slice (some ⟨gD, 0, none⟩) (i + (L - (i + 1))) cD)) :=
            (((((k5.mono (by simp)).trans (k6.mono (by simp))).trans (k7.mono (by simp))).trans (k7s.mono (by simp))).trans (k9.mono (by simp))).trans (k9s.mono (by simp))
          have hbm := hM4.below
          refine ⟨rfl, ⟨m.mb, gC, cC, gD, cD, outAt m.tbs i, m.b⟩, M.less i, K', ⟨⟨?_, ?_, hbm, ?_, ?_, ?_, ?_⟩, R.know.less R.mill.kern.roots.nodup hfi (by omega) hri dr, rfl, rfl, rfl, by rw [dr.next]; omega, by rw [dr.nx]; omega, ?_⟩⟩
          · show CellsAt _ m.mb #[_, _, _, .slice (some ⟨gC, 0, none⟩) (M.less i).fs.length cC, .slice (some ⟨gD, 0, none⟩) (M.less i).fs.length cD, _]
            rw [← hLL]
            simpa [ML.less] using s9
          · exact hM4.kern.keeps kk (fun q hq x => by
              have := hbm q hq
              have := Hm4.out
              simp only [List.mem_cons, List.not_mem_nil, or_false] at x
              omega)
          · show World.ownsRow _ _ _ _ (.slice (some ⟨gC, 0, none⟩) (M.less i).fs.length cC) (M.less i).fs.length (ints (outAt M.fs i))
            rw [← hLL, show ints (outAt M.fs i) = ints (M.fs.take i) ++ ints (M.fs.drop (i + 1)) by unfold ints outAt; rw [List.map_append]]
            exact fs10.out
          · show World.ownsRow _ _ _ _ (.slice (some ⟨gD, 0, none⟩) (M.less i).fs.length cD) (M.less i).fs.length (tabV M.n (outAt m.tbs i))
            rw [← hLL, show tabV M.n (outAt m.tbs i) = tabV M.n (m.tbs.take i) ++ tabV M.n (m.tbs.drop (i + 1)) by unfold tabV outAt; rw [List.map_append]]
            exact tr10.out
          · show (outAt m.tbs i).length = (outAt M.fs i).length
            have h1 := outAt_length M.fs i (by rw [← HLf.out]; exact hi)
            have h3 := outAt_length m.tbs i (by rw [R.mill.lens, ← HLf.out]; exact hi)
            have := R.mill.lens
            omega
          · intro k p t hp ht
            have hp' : (outAt m.tbs i)[k]? = some p := hp
            have ht' : (outAt M.truth i)[k]? = some t := ht
            rw [outAt_get _ _ (by rw [R.mill.lens, ← HLf.out]; exact hi)] at hp'
            rw [outAt_get _ _ (by rw [R.know.len, ← HLf.out]; exact hi)] at ht'
            have key : m.mb + 1 ≤ p.1 ∧ TableIs W4 p.1 t := by
              split at hp'
              · rename_i hk
                rw [if_pos hk] at ht'
                exact hM4.tables k p t hp' ht'
              · rename_i hk
                rw [if_neg hk] at ht'
                exact hM4.tables (k + 1) p t hp' ht'
            refine ⟨key.1, key.2.keeps kk (fun x => ?_)⟩
            have h1 := key.2.lt
            have := k5.size
            have h0 : m.mb + 1 ≤ p.1 := key.1
            simp only [List.mem_cons, List.not_mem_nil, or_false] at x
            omega
          · have hs : base ≤ w.heap.size := by have := R.mill.head.lt; have := R.low; omega
            refine (k04.below hs R.own).trans (kk.below (by have := k04.size; omega) (fun q hq => ?_))
            have := R.low
            have := Hm4.out
            simp only [List.mem_cons, List.not_mem_nil, or_false] at hq
            omega

end Go.Proofs.Ytgjomknpjigkhaa
