/- The document's kernel: Replace. -/
import Derived.Test.YtgjomknpjigkhaaGreatDoorA4
namespace Go.Proofs.YtgjomknpjigkhaaGreatDoor
open Go.RowKit Go.Shelf

theorem cell_same {w w' : World} {g : Nat} (h : w'.heap[g]? = w.heap[g]?) (i : Nat) : w'.cell? ⟨g, i, none⟩ = w.cell? ⟨g, i, none⟩ := by simp [World.cell?, h]

/-- A slice of ints, as it reads. -/
def IntsIs (w : World) (v : Value) (L : List Int) : Prop :=
  (v = .slice none 0 0 ∧ L = []) ∨ ∃ g o c, v = .slice (some ⟨g, o, none⟩) L.length c ∧ L.length ≤ c ∧ ∀ (i : Nat) (x : Int), L[i]? = some x → w.cell? ⟨g, o + i, none⟩ = some (.int .i64 x)

theorem setN_code_up (σ : Int → Bool) (i : Nat) : setN (code σ i) i (σ i) = code σ (i + 1) := by
  rw [code_more]
  unfold setN
  rw [Nat.testBit_lt_two_pow (code_lt σ i)]
  simp

theorem bne_ne (z y : Int) : decide (z ≠ y) = (z != y) := by by_cases e : z = y <;> simp [e]

/-- So far as j no number like y. -/
def okJ (L : List Int) (n : Nat) (y : Int) (j : Nat) : Bool := (decide (0 ≤ y) && decide (y < n)) && (L.take j).all fun z => decide (z ≠ y)

theorem okJ_zero (L : List Int) (n : Nat) (y : Int) : okJ L n y 0 = (decide (0 ≤ y) && decide (y < n)) := by simp [okJ]
theorem okJ_succ {L : List Int} {n : Nat} {y z : Int} {j : Nat} (h : L[j]? = some z) : okJ L n y (j + 1) = (okJ L n y j && decide (z ≠ y)) := by
  unfold okJ
  rw [List.take_add_one, h]
  simp [List.all_append, Bool.and_assoc]

/-- The first i are variables, each once. -/
def PreOk (L : List Int) (n i : Nat) : Prop := ∀ k y, k < i → L[k]? = some y → okJ L n y k = true

theorem PreOk.each {L : List Int} {n : Nat} (hl : L.length = n) (h : PreOk L n n) : Each n L := by
  refine ⟨hl, fun u hu => ?_, ?_⟩
  · obtain ⟨k, hk, e⟩ := List.mem_iff_getElem.1 hu
    have := h k u (by omega) (by rw [List.getElem?_eq_getElem hk, e])
    unfold okJ at this
    simp only [Bool.and_eq_true, decide_eq_true_eq] at this
    exact this.1
  · refine List.pairwise_iff_getElem.2 fun i j hi hj hij e => ?_
    have e1 : L[j]? = some L[j] := List.getElem?_eq_getElem hj
    have := h j L[j] (by omega) e1
    unfold okJ at this
    simp only [Bool.and_eq_true, List.all_eq_true, decide_eq_true_eq] at this
    refine this.2 L[j] ?_ rfl
    refine List.mem_iff_getElem?.2 ⟨i, ?_⟩
    rw [List.getElem?_take, if_pos hij, List.getElem?_eq_getElem hi, e]

theorem Each.pre {L : List Int} {n : Nat} (h : Each n L) {k : Nat} {y : Int} (hy : L[k]? = some y) : okJ L n y k = true := by
  unfold okJ
  simp only [Bool.and_eq_true, decide_eq_true_eq, List.all_eq_true]
  refine ⟨h.range y (List.mem_of_getElem? hy), fun z hz e => ?_⟩
  subst e
  obtain ⟨i, hi⟩ := List.mem_iff_getElem?.1 hz
  rw [List.getElem?_take] at hi
  split at hi
  · rename_i hik
    obtain ⟨h1, e1⟩ := List.getElem?_eq_some_iff.1 hi
    obtain ⟨h2, e2⟩ := List.getElem?_eq_some_iff.1 hy
    exact List.pairwise_iff_getElem.1 h.nodup i k h1 h2 hik (by rw [e1, e2])
  · cases hi

set_option maxRecDepth 100000 in
set_option maxHeartbeats 1000000 in
theorem rreplace_len {w : World} {b : RB} {R : RS} (h : RefAt w b R) (f : Int) (v : Value) (L : List Int) (hv : IntsIs w v L) (hl : L.length ≠ R.n) : Calls Tryz.prog 106 #[.pointer (some ⟨b.r, 0, none⟩), .int .i64 f, v] w (RErr w 1) := by
  have c0 := h.head.cell 0
  simp at c0
  have hb := h.head.lt
  have hne : ((L.length : Int) != R.n) = true := by
    simp only [bne_iff_ne, ne_eq]
    omega
  have hn1 := h.n1
  rcases hv with ⟨rfl, rfl⟩ | ⟨g, o, c, rfl, _⟩
  · have hne2 : ((0 : Int) != R.n) = true := by
      simp only [bne_iff_ne, ne_eq]
      omega
    go_enter Tryz.func106, Tryz.ntmps106
    go_wp2_with fail
    go_ret2
    exact ⟨rfl, Keeps.refl _ _⟩
  · go_enter Tryz.func106, Tryz.ntmps106
    go_wp2_with fail
    go_ret2
    exact ⟨rfl, Keeps.refl _ _⟩

set_option maxRecDepth 100000 in
set_option maxHeartbeats 2000000 in
theorem rreplace_calls {w : World} {b : RB} {R : RS} (h : RefAt w b R) (hf : R.Fit) (f : Int) (g o c : Nat) (L : List Int) (hc : R.n ≤ c) (hL : ∀ (i : Nat) (x : Int), L[i]? = some x → w.cell? ⟨g, o + i, none⟩ = some (.int .i64 x)) (hg : g < w.heap.size) (hl : L.length = R.n) (t : List Bool) (hlen : t.length = 2 ^ R.n)
    (hat : ∀ x, R.look f = some x → Each R.n L → ∀ a : Nat, a < 2 ^ R.n → ∃ p, x[(code (fun k : Int => asg (a : Int) (L.getD k.toNat 0)) R.n : Nat)]? = some p ∧ t[a]? = some p) :
    Calls Tryz.prog 106 #[.pointer (some ⟨b.r, 0, none⟩), .int .i64 f, .slice (some ⟨g, o, none⟩) R.n c] w fun e w' => (¬ Each R.n L → RErr w 1 e w') ∧ (Each R.n L → R.look f = none → RErr w 2 e w') ∧ (Each R.n L → (R.look f).isSome = true → RGives b R w t e w') := by
  obtain ⟨ways, hw⟩ : ∃ ways, ways = 2 ^ R.n := ⟨_, rfl⟩
  have n8 := h.n8
  have w256 : ways ≤ 256 := by rw [hw]; exact Nat.pow_le_pow_right (n := 2) (by decide) n8
  rw [← hw] at hlen hat
  have c1 : ∀ wr : World, Keeps [] w wr → wr.cell? ⟨b.r, 1, none⟩ = some (.int .i64 (ways : Int)) := fun _ k => by
    have := (h.keeps0 k).head.cell 1
    rw [hw]
    simpa using this
  have c0 : ∀ wr : World, Keeps [] w wr → wr.cell? ⟨b.r, 0, none⟩ = some (.int .i64 (R.n : Int)) := fun _ k => (h.keeps0 k).head.cell 0
  have cL : ∀ (wr : World), Keeps [] w wr → ∀ (i : Nat) (x : Int), L[i]? = some x → wr.cell? ⟨g, o + i, none⟩ = some (.int .i64 x) := fun wr k i x hx => by
    rw [← hL i x hx]
    exact cell_same (k.block g hg (by simp)) _
  have hgv := hide (fun (wr : World) (k : Keeps [] w wr) => give_calls (h.keeps0 k) t hf.lo hf.hi)
  have Hgoal := hide (fun (wr w' : World) (e : Ending) (k : Keeps [] w wr) (g : RGives b R wr t e w') => g.of k)
  have hrb := h.head.lt
  have C1 := hide c1
  have C0 := hide c0
  have CL := hide cL
  have Hl := hide hl
  have Hlen := hide hlen
  have Hat := hide hat
  have Hw := hide hw
  have d0 := c0 _ (Keeps.refl _ w)
  have hcI : (R.n : Int) ≤ c := by omega
  clear hlen hat hw c1 c0 cL hL
  go_enter Tryz.func106, Tryz.ntmps106
  go_wp2_with fail
  go_loopw [8] (fun y wr => ∃ i : Nat, y = .int .i64 i ∧ i ≤ R.n ∧ PreOk L R.n i ∧ ∃ m, wr = w.drewN m) (fun y _ => ((R.n : Int) - intOf y).toNat)
  case atStart => exact ⟨0, rfl, by omega, fun k y hk => by omega, 0, rfl⟩
  case round =>
    obtain ⟨i, rfl, hi, hpre, m, hwr⟩ := hrel
    have kr : Keeps [] w wr := by rw [hwr]; exact Keeps.drewN [] w m
    have Hwr := hide hwr
    clear hwr
    have e0 := C0.out _ kr
    have eL := CL.out _ kr
    by_cases hil : i < R.n
    · have hiI : (i : Int) < R.n := by omega
      obtain ⟨y, hy⟩ : ∃ y, L[i]? = some y := ⟨_, List.getElem?_eq_getElem (by rw [Hl.out]; exact hil)⟩
      have ey := eL i y hy
      have hz := okJ_zero L R.n y
      have hcase : (okJ L R.n y 0 = true ∧ 0 ≤ y ∧ y < R.n) ∨ (okJ L R.n y 0 = false ∧ y < 0) ∨ (okJ L R.n y 0 = false ∧ 0 ≤ y ∧ (R.n : Int) ≤ y) := by
        rw [hz]
        by_cases a1 : 0 ≤ y
        · by_cases a2 : y < (R.n : Int)
          · exact .inl ⟨by simp [a1, a2], a1, a2⟩
          · exact .inr (.inr ⟨by simp [a1, a2], a1, by omega⟩)
        · exact .inr (.inl ⟨by simp [a1], by omega⟩)
      clear hz
      have Hy := hide hy
      clear hy eL
      rcases hcase with ⟨hz, a1, a2⟩ | ⟨hz, a1⟩ | ⟨hz, a1, a2⟩
      · have Hz := hide hz
        clear hz
        go_wp2_with fail
        go_quiet (fail)
        go_wp2_with fail
        revert nq
        intro nq
        have Hpre := hide hpre
        clear hpre ey e0
        go_loopw [9, 10] (fun x z wr' => ∃ j : Nat, x = .bool (okJ L R.n y j) ∧ z = .int .i64 j ∧ j ≤ i ∧ ∃ m', wr' = w.drewN m') (fun _ z _ => ((i : Int) - intOf z).toNat)
        case atStart => exact ⟨0, by rw [Hz.out], rfl, by omega, m + nq, by rw [Hwr.out]; simp [World.drewN, Nat.add_assoc]⟩
        case round =>
          clear Hz Hwr kr
          obtain ⟨j, rfl, rfl, hj, m', hwr'⟩ := hrel
          rename_i wr' _
          have kr : Keeps [] w wr := by rw [hwr']; exact Keeps.drewN [] w m'
          have Hwr := hide hwr'
          clear hwr'
          have ey := CL.out _ kr i y Hy.out
          by_cases hji : j < i
          · have hjI : (j : Int) < i := by omega
            have hjn : (j : Int) < R.n := by omega
            obtain ⟨z, hz⟩ : ∃ z, L[j]? = some z := ⟨_, List.getElem?_eq_getElem (by rw [Hl.out]; omega)⟩
            have ez := CL.out _ kr j z hz
            have hs := okJ_succ (n := R.n) (y := y) hz
            have Hs := hide hs
            clear hz hs
            cases hok : okJ L R.n y j
            · go_wp2_with fail
              go_quiet (fail)
              go_wp2_with fail
              go_roundw
              · exact ⟨j + 1, by rw [Hs.out, hok]; rfl, by simp, by omega, m' + nq, by rw [Hwr.out]; simp [World.drewN, Nat.add_assoc]⟩
              · simp only [intOf]; omega
            · go_wp2_with fail
              go_quiet (fail)
              go_wp2_with fail
              go_roundw
              · exact ⟨j + 1, by rw [Hs.out, hok, Bool.true_and, bne_ne], by simp, by omega, m' + nq, by rw [Hwr.out]; simp [World.drewN, Nat.add_assoc]⟩
              · simp only [intOf]; omega
          · have hjI : ¬ (j : Int) < i := by omega
            have ej : j = i := by omega
            subst ej
            cases hok : okJ L R.n y j
            · go_wp2_with fail
              go_ret2
              have hno : ¬ Each R.n L := fun hE => by have := hE.pre Hy.out; rw [hok] at this; cases this
              exact ⟨fun _ => ⟨rfl, kr⟩, fun hE => absurd hE hno, fun hE => absurd hE hno⟩
            · go_wp2_with fail
              go_roundw
              · refine ⟨j + 1, by simp, by omega, fun k u hk hu => ?_, m', Hwr.out⟩
                by_cases e : k = j
                · subst e
                  rw [Hy.out] at hu
                  cases hu
                  exact hok
                · exact Hpre.out k u (by omega) hu
              · simp only [intOf]; omega
      · have Hz := hide hz
        have q1 : decide (0 ≤ y) = false := by simp; omega
        clear hz
        go_wp2_with fail
        go_quiet (fail)
        go_wp2_with fail
        revert nq
        intro nq
        have Hpre := hide hpre
        clear hpre ey e0
        go_loopw [9, 10] (fun x z wr' => ∃ j : Nat, x = .bool (okJ L R.n y j) ∧ z = .int .i64 j ∧ j ≤ i ∧ ∃ m', wr' = w.drewN m') (fun _ z _ => ((i : Int) - intOf z).toNat)
        case atStart => exact ⟨0, by rw [Hz.out], rfl, by omega, m + nq, by rw [Hwr.out]; simp [World.drewN, Nat.add_assoc]⟩
        case round =>
          clear Hz Hwr kr
          obtain ⟨j, rfl, rfl, hj, m', hwr'⟩ := hrel
          rename_i wr' _
          have kr : Keeps [] w wr := by rw [hwr']; exact Keeps.drewN [] w m'
          have Hwr := hide hwr'
          clear hwr'
          have ey := CL.out _ kr i y Hy.out
          by_cases hji : j < i
          · have hjI : (j : Int) < i := by omega
            have hjn : (j : Int) < R.n := by omega
            obtain ⟨z, hz⟩ : ∃ z, L[j]? = some z := ⟨_, List.getElem?_eq_getElem (by rw [Hl.out]; omega)⟩
            have ez := CL.out _ kr j z hz
            have hs := okJ_succ (n := R.n) (y := y) hz
            have Hs := hide hs
            clear hz hs
            cases hok : okJ L R.n y j
            · go_wp2_with fail
              go_quiet (fail)
              go_wp2_with fail
              go_roundw
              · exact ⟨j + 1, by rw [Hs.out, hok]; rfl, by simp, by omega, m' + nq, by rw [Hwr.out]; simp [World.drewN, Nat.add_assoc]⟩
              · simp only [intOf]; omega
            · go_wp2_with fail
              go_quiet (fail)
              go_wp2_with fail
              go_roundw
              · exact ⟨j + 1, by rw [Hs.out, hok, Bool.true_and, bne_ne], by simp, by omega, m' + nq, by rw [Hwr.out]; simp [World.drewN, Nat.add_assoc]⟩
              · simp only [intOf]; omega
          · have hjI : ¬ (j : Int) < i := by omega
            have ej : j = i := by omega
            subst ej
            cases hok : okJ L R.n y j
            · go_wp2_with fail
              go_ret2
              have hno : ¬ Each R.n L := fun hE => by have := hE.pre Hy.out; rw [hok] at this; cases this
              exact ⟨fun _ => ⟨rfl, kr⟩, fun hE => absurd hE hno, fun hE => absurd hE hno⟩
            · go_wp2_with fail
              go_roundw
              · refine ⟨j + 1, by simp, by omega, fun k u hk hu => ?_, m', Hwr.out⟩
                by_cases e : k = j
                · subst e
                  rw [Hy.out] at hu
                  cases hu
                  exact hok
                · exact Hpre.out k u (by omega) hu
              · simp only [intOf]; omega
      · have Hz := hide hz
        have q2 : decide (y < (R.n : Int)) = false := by simp; omega
        clear hz
        go_wp2_with fail
        go_quiet (fail)
        go_wp2_with fail
        revert nq
        intro nq
        have Hpre := hide hpre
        clear hpre ey e0
        go_loopw [9, 10] (fun x z wr' => ∃ j : Nat, x = .bool (okJ L R.n y j) ∧ z = .int .i64 j ∧ j ≤ i ∧ ∃ m', wr' = w.drewN m') (fun _ z _ => ((i : Int) - intOf z).toNat)
        case atStart => exact ⟨0, by rw [Hz.out], rfl, by omega, m + nq, by rw [Hwr.out]; simp [World.drewN, Nat.add_assoc]⟩
        case round =>
          clear Hz Hwr kr
          obtain ⟨j, rfl, rfl, hj, m', hwr'⟩ := hrel
          rename_i wr' _
          have kr : Keeps [] w wr := by rw [hwr']; exact Keeps.drewN [] w m'
          have Hwr := hide hwr'
          clear hwr'
          have ey := CL.out _ kr i y Hy.out
          by_cases hji : j < i
          · have hjI : (j : Int) < i := by omega
            have hjn : (j : Int) < R.n := by omega
            obtain ⟨z, hz⟩ : ∃ z, L[j]? = some z := ⟨_, List.getElem?_eq_getElem (by rw [Hl.out]; omega)⟩
            have ez := CL.out _ kr j z hz
            have hs := okJ_succ (n := R.n) (y := y) hz
            have Hs := hide hs
            clear hz hs
            cases hok : okJ L R.n y j
            · go_wp2_with fail
              go_quiet (fail)
              go_wp2_with fail
              go_roundw
              · exact ⟨j + 1, by rw [Hs.out, hok]; rfl, by simp, by omega, m' + nq, by rw [Hwr.out]; simp [World.drewN, Nat.add_assoc]⟩
              · simp only [intOf]; omega
            · go_wp2_with fail
              go_quiet (fail)
              go_wp2_with fail
              go_roundw
              · exact ⟨j + 1, by rw [Hs.out, hok, Bool.true_and, bne_ne], by simp, by omega, m' + nq, by rw [Hwr.out]; simp [World.drewN, Nat.add_assoc]⟩
              · simp only [intOf]; omega
          · have hjI : ¬ (j : Int) < i := by omega
            have ej : j = i := by omega
            subst ej
            cases hok : okJ L R.n y j
            · go_wp2_with fail
              go_ret2
              have hno : ¬ Each R.n L := fun hE => by have := hE.pre Hy.out; rw [hok] at this; cases this
              exact ⟨fun _ => ⟨rfl, kr⟩, fun hE => absurd hE hno, fun hE => absurd hE hno⟩
            · go_wp2_with fail
              go_roundw
              · refine ⟨j + 1, by simp, by omega, fun k u hk hu => ?_, m', Hwr.out⟩
                by_cases e : k = j
                · subst e
                  rw [Hy.out] at hu
                  cases hu
                  exact hok
                · exact Hpre.out k u (by omega) hu
              · simp only [intOf]; omega
    · have hiI : ¬ (i : Int) < R.n := by omega
      have ei : i = R.n := by omega
      have hE : Each R.n L := PreOk.each Hl.out (ei ▸ hpre)
      clear hpre ei
      cases hlk : R.look f with
      | none =>
        have gx := hide (rget_none (h.keeps0 kr) f hlk)
        go_wp2_with fail
        refine gx.out.mono ?_
        rintro e w' ⟨rfl, rfl⟩
        go_wp2_with fail
        go_ret2
        exact ⟨fun hn => absurd hE hn, fun _ _ => ⟨rfl, kr⟩, fun _ hs => by rw [hlk] at hs; cases hs⟩
      | some x =>
        have gx := hide (rget_some (h.keeps0 kr) f x hlk)
        have hbit := hide (fun (w : World) (a q i : Nat) (ha : a < ways) (hi : i < R.n) (hq : a / 2 ^ i % 2 = q) => rbit_calls (w := w) a i q (by omega) (by omega) hq)
        have hset := hide (fun (w : World) (a i r : Nat) (v : Bool) (ha : a < 256) (hi : i < R.n) (hr : setN a i v = r) => rset_calls (w := w) a i r v (by omega) (by omega) hr)
        have Hx := hide (Hat.out x hlk hE)
        have HE := hide hE
        clear hE eL
        go_wp2_with fail
        refine gx.out.mono ?_
        rintro e w1 ⟨rfl, k1⟩
        have kr1 := kr.trans k1
        have d1 := C1.out _ kr1
        have hmk := run_makeBytes w1 ways (by omega)
        have kx := kr1.trans (Keeps.alloc [] w1 (.cells (madeCells #[.int .u8 0] ways) 5))
        have fx := made_fillB w1 t ways Hlen.out
        have hsz := kr1.size
        go_wp2_with fail
        generalize w1.alloc (.cells (madeCells #[.int .u8 0] ways) 5) = W at kx fx ⊢
        go_loopw [14] (fun y wr => ∃ a : Nat, y = .int .i64 a ∧ a ≤ ways ∧ FillB wr w1.heap.size t a ∧ Keeps [] w wr) (fun y _ => ((ways : Int) - intOf y).toNat)
        case atStart => exact ⟨0, rfl, by omega, fx, kx⟩
        case round =>
          clear gx Hwr kr k1 kr1 d1 hmk kx fx
          obtain ⟨a, rfl, ha, fr, kr⟩ := hrel
          have e1 := C1.out _ kr
          by_cases hal : a < ways
          · have haI : (a : Int) < ways := by omega
            go_wp2_with fail
            go_loopw [15, 16] (fun y z wr' => ∃ i : Nat, y = .int .i64 ((code (fun k : Int => asg (a : Int) (L.getD k.toNat 0)) i : Nat) : Int) ∧ z = .int .i64 i ∧ i ≤ R.n ∧ wr' = wr) (fun _ z _ => ((R.n : Int) - intOf z).toNat)
            case atStart => exact ⟨0, rfl, rfl, by omega, rfl⟩
            case round =>
              obtain ⟨k, rfl, rfl, hk, rfl⟩ := hrel
              have e0 := C0.out _ kr
              by_cases hkn : k < R.n
              · have hkI : (k : Int) < R.n := by omega
                obtain ⟨y, hy⟩ : ∃ y, L[k]? = some y := ⟨_, List.getElem?_eq_getElem (by rw [Hl.out]; exact hkn)⟩
                have ey := CL.out _ kr k y hy
                have hyr := HE.out.range y (List.mem_of_getElem? hy)
                obtain ⟨yn, rfl⟩ := Int.eq_ofNat_of_zero_le hyr.1
                have hyn : yn < R.n := by omega
                obtain ⟨q, hq⟩ : ∃ q, a / 2 ^ yn % 2 = q := ⟨_, rfl⟩
                have hq1 : (q : Int) = ni (asg (a : Int) (yn : Int)) := by
                  rw [← asg_div a yn q hq]
                  have : q = 0 ∨ q = 1 := by omega
                  rcases this with rfl | rfl <;> rfl
                have hb := hide (hbit.out wr a q yn hal hyn hq)
                have hnx : setN (code (fun k : Int => asg (a : Int) (L.getD k.toNat 0)) k) k (asg (a : Int) (yn : Int)) = code (fun k : Int => asg (a : Int) (L.getD k.toNat 0)) (k + 1) := by
                  rw [← setN_code_up]
                  congr 2
                  show (yn : Int) = L.getD k 0
                  rw [List.getD_eq_getElem?_getD, hy]
                  rfl
                have hlt : code (fun k : Int => asg (a : Int) (L.getD k.toNat 0)) k < 256 := Nat.lt_of_lt_of_le (code_lt _ k) (Nat.pow_le_pow_right (n := 2) (by decide) (by omega : k ≤ 8))
                have hs := hide (hset.out wr _ k _ _ hlt hkn hnx)
                rw [← hq1] at hs
                clear hy hyr hq hq1 hnx hlt
                generalize code (fun k : Int => asg (a : Int) (L.getD k.toNat 0)) k = C0' at hs ⊢
                generalize hC : code (fun k : Int => asg (a : Int) (L.getD k.toNat 0)) (k + 1) = C1' at hs
                have HC := hide hC
                clear hC
                go_wp2_with fail
                refine hb.out.mono ?_
                rintro e w' ⟨rfl, rfl⟩
                go_wp2_with fail
                refine hs.out.mono ?_
                rintro e w' ⟨rfl, rfl⟩
                go_wp2_with fail
                go_roundw
                · exact ⟨k + 1, by rw [HC.out], by simp, by omega, by trivial⟩
                · simp only [intOf]; omega
              · have hkI : ¬ (k : Int) < R.n := by omega
                have ek : k = R.n := by omega
                have hfz := fr.frozen a
                obtain ⟨v0, hcl⟩ := fr.cell (i := a) (by rw [Hlen.out]; exact hal)
                obtain ⟨p, hp, htt⟩ := Hx.out a hal
                rw [← ek] at hp
                have ix := fun w => bts_index hp w
                have Htt := hide htt
                clear hp htt
                generalize code (fun k : Int => asg (a : Int) (L.getD k.toNat 0)) k = C0' at ix ⊢
                go_wp2_with fail
                go_roundw
                · exact ⟨a + 1, by simp, by omega, fr.next Htt.out, fill_keeps kr hsz⟩
                · simp only [intOf]; omega
          · have haI : ¬ (a : Int) < ways := by omega
            have ht := fr.text (by rw [Hlen.out]; omega) ways
            rw [Hlen.out] at ht
            have hgv' := hide (hgv.out wr kr)
            go_wp2_with fail
            refine hgv'.out.mono ?_
            rintro e w' ⟨b', rfl, g1, g2, g3⟩
            go_wp2_with fail
            go_ret2
            exact ⟨fun hn => absurd HE.out hn, fun _ hn => (by rw [hlk] at hn; cases hn), fun _ _ => Hgoal.out wr w' _ kr ⟨b', rfl, g1, g2, g3⟩⟩

end Go.Proofs.YtgjomknpjigkhaaGreatDoor
