/- The document's kernel: Not, Apply. -/
import Derived.Test.YtgjomknpjigkhaaGreatDoorA4
namespace Go.Proofs.YtgjomknpjigkhaaGreatDoor
open Go.RowKit Go.Shelf

set_option maxHeartbeats 1000000 in
theorem rnot_bad {w : World} {b : RB} {R : RS} (h : RefAt w b R) (f : Int) (hbad : R.look f = none) : Calls Tryz.prog 96 #[.pointer (some ⟨b.r, 0, none⟩), .int .i64 f] w (RErr w 2) := by
  have hc := hide (rite_bad h f 0 1 (.inl hbad))
  go_enter Tryz.func96, Tryz.ntmps96
  go_wp2_with fail
  refine hc.out.mono ?_
  rintro e w' ⟨rfl, k⟩
  go_wp2_with fail
  go_ret2
  exact ⟨rfl, k⟩

set_option maxHeartbeats 1000000 in
theorem rnot_calls {w : World} {b : RB} {R : RS} (h : RefAt w b R) (hf : R.Fit) (f : Int) (x t : List Bool) (hx : R.look f = some x) (hlen : t.length = 2 ^ R.n) (hat : ∀ a, a < 2 ^ R.n → ∃ p, x[a]? = some p ∧ t[a]? = some (!p)) :
    Calls Tryz.prog 96 #[.pointer (some ⟨b.r, 0, none⟩), .int .i64 f] w (RGives b R w t) := by
  have hc := hide (rite_calls h hf f 0 1 x (tab R.n fun _ => false) (tab R.n fun _ => true) t hx (by simp [RS.look]) (by simp [RS.look]) hlen (fun a ha => by
    obtain ⟨p, h1, h2⟩ := hat a ha
    exact ⟨p, false, true, h1, tab_get ha, tab_get ha, by rw [h2]; cases p <;> rfl⟩))
  clear hat
  unfold RGives at hc ⊢
  generalize R.give t = G at hc ⊢
  go_enter Tryz.func96, Tryz.ntmps96
  go_wp2_with fail
  refine hc.out.mono ?_
  rintro e w' ⟨b', rfl, g1, g2, g3⟩
  go_wp2_with fail
  go_ret2
  exact ⟨b', rfl, g1, g2, g3⟩

set_option maxRecDepth 100000 in
set_option maxHeartbeats 1000000 in
theorem rapply_arg {w : World} {b : RB} {R : RS} (h : RefAt w b R) (op f g : Int) (hop : op < 0 ∨ 3 < op) : Calls Tryz.prog 98 #[.pointer (some ⟨b.r, 0, none⟩), .int .i64 op, .int .i64 f, .int .i64 g] w (RErr w 1) := by
  have := h.head.lt
  by_cases i0 : op < 0
  · go_enter Tryz.func98, Tryz.ntmps98
    go_wp2_with fail
    go_ret2
    exact ⟨rfl, Keeps.refl _ _⟩
  · have i1 : 3 < op := by omega
    go_enter Tryz.func98, Tryz.ntmps98
    go_wp2_with fail
    go_ret2
    exact ⟨rfl, Keeps.refl _ _⟩

set_option maxRecDepth 100000 in
set_option maxHeartbeats 2000000 in
theorem rapply_bad {w : World} {b : RB} {R : RS} (h : RefAt w b R) (op f g : Int) (o0 : 0 ≤ op) (o3 : op ≤ 3) (hbad : R.look f = none ∨ R.look g = none) : Calls Tryz.prog 98 #[.pointer (some ⟨b.r, 0, none⟩), .int .i64 op, .int .i64 f, .int .i64 g] w (RErr w 2) := by
  have hg := hide (fun (w' : World) (kk : Keeps [] w w') (f : Int) => rget_any (h.keeps0 kk) f)
  have n0 : ¬ op < 0 := by omega
  have n3 : ¬ 3 < op := by omega
  have Hbad := hide hbad
  clear hbad
  go_enter Tryz.func98, Tryz.ntmps98
  go_wp2_with fail
  refine (hg.out _ (Keeps.refl _ _) f).mono ?_
  rintro e w1 ⟨s1, o1, rfl, h1, k1⟩
  have H1 := hide h1
  clear h1
  go_wp2_with fail
  refine (hg.out _ k1 g).mono ?_
  rintro e w2 ⟨s2, o2, rfl, h2, k2⟩
  have H2 := hide h2
  clear h2
  have hno : ¬ (o1 = true ∧ o2 = true) := by
    rintro ⟨a1, a2⟩
    have b1 := H1.out
    have b2 := H2.out
    rcases Hbad.out with x | x
    · rw [x, a1] at b1; cases b1
    · rw [x, a2] at b2; cases b2
  have kk := k1.trans k2
  clear H1 H2
  cases o1 <;> cases o2
  case true.true => exact absurd ⟨rfl, rfl⟩ hno
  all_goals
    clear hno
    go_wp2_with fail
    go_ret2
    exact ⟨rfl, kk⟩

set_option maxRecDepth 100000 in
set_option maxHeartbeats 2000000 in
theorem rapply_calls {w : World} {b : RB} {R : RS} (h : RefAt w b R) (hf : R.Fit) (op f g : Int) (hop : op = 0 ∨ op = 1 ∨ op = 2 ∨ op = 3) (x y t : List Bool) (hx : R.look f = some x) (hy : R.look g = some y) (hlen : t.length = 2 ^ R.n)
    (hat : ∀ a, a < 2 ^ R.n → ∃ p q, x[a]? = some p ∧ y[a]? = some q ∧ t[a]? = some (opB op p q)) :
    Calls Tryz.prog 98 #[.pointer (some ⟨b.r, 0, none⟩), .int .i64 op, .int .i64 f, .int .i64 g] w (RGives b R w t) := by
  obtain ⟨ways, hw⟩ : ∃ ways, ways = 2 ^ R.n := ⟨_, rfl⟩
  have n8 := h.n8
  have w256 : ways ≤ 256 := by rw [hw]; exact Nat.pow_le_pow_right (n := 2) (by decide) n8
  rw [← hw] at hlen hat
  have c1 : ∀ wr : World, Keeps [] w wr → wr.cell? ⟨b.r, 1, none⟩ = some (.int .i64 (ways : Int)) := fun _ k => by
    have := (h.keeps0 k).head.cell 1
    rw [hw]
    simpa using this
  have hgv := hide (fun (wr : World) (k : Keeps [] w wr) => give_calls (h.keeps0 k) t hf.lo hf.hi)
  have Hgoal := hide (fun (wr w' : World) (e : Ending) (k : Keeps [] w wr) (g : RGives b R wr t e w') => g.of k)
  have hrb := h.head.lt
  have gx := hide (fun (w' : World) (kk : Keeps [] w w') => rget_some (h.keeps0 kk) f x hx)
  have gy := hide (fun (w' : World) (kk : Keeps [] w w') => rget_some (h.keeps0 kk) g y hy)
  have C1 := hide c1
  unfold RGives at Hgoal ⊢
  generalize R.give t = G at hgv Hgoal ⊢
  have Hlen := hide hlen
  have Hat := hide hat
  have Hw := hide hw
  clear hlen hat hw c1 hx hy
  have hopB : ∀ p q, opB op p q = opB op p q := fun _ _ => rfl
  clear hopB
  rcases hop with rfl | rfl | rfl | rfl
  all_goals
    go_enter Tryz.func98, Tryz.ntmps98
    go_wp2_with fail
    refine (gx.out _ (Keeps.refl _ _)).mono ?_
    rintro e w1 ⟨rfl, k1⟩
    go_wp2_with fail
    refine (gy.out _ k1).mono ?_
    rintro e w2 ⟨rfl, k2⟩
    have k12 := k1.trans k2
    have k0 := k12
    clear k1 k2 k12 gx gy
    have d1 := C1.out _ k0
    have hmk := run_makeBytes w2 ways (by omega)
    have kx := k0.trans (Keeps.alloc [] w2 (.cells (madeCells #[.int .u8 0] ways) 5))
    have fx := made_fillB w2 t ways Hlen.out
    have hsz := k0.size
    go_wp2_with fail
    generalize w2.alloc (.cells (madeCells #[.int .u8 0] ways) 5) = W at kx fx ⊢
    go_loopw [15] (fun y wr => ∃ a : Nat, y = .int .i64 a ∧ a ≤ ways ∧ FillB wr w2.heap.size t a ∧ Keeps [] w wr) (fun y _ => ((ways : Int) - intOf y).toNat)
    case atStart => exact ⟨0, rfl, by omega, fx, kx⟩
    case round =>
      obtain ⟨a, rfl, ha, fr, kr⟩ := hrel
      have e1 := C1.out _ kr
      by_cases hal : a < ways
      · have haI : (a : Int) < ways := by omega
        have hfz := fr.frozen a
        obtain ⟨v0, hcl⟩ := fr.cell (i := a) (by rw [Hlen.out]; exact hal)
        obtain ⟨p, q, hp, hq, htt⟩ := Hat.out a hal
        have ix := fun w => bts_index hp w
        have iy := fun w => bts_index hq w
        have hone := bi_one p
        have hone2 := bi_one q
        have Htt := hide htt
        clear hp hq htt
        cases p <;> cases q
        all_goals
          go_wp2_with fail
          refine (truth_calls _).mono ?_
          rintro e w' ⟨rfl, rfl⟩
          go_wp2_with fail
          go_roundw
          · exact ⟨a + 1, by simp, by omega, fr.next Htt.out, fill_keeps kr hsz⟩
          · simp only [intOf]; omega
      · have haI : ¬ (a : Int) < ways := by omega
        have ht := fr.text (by rw [Hlen.out]; omega) ways
        rw [Hlen.out] at ht
        have hgv' := hide (hgv.out wr kr)
        go_wp2_with fail
        refine hgv'.out.mono ?_
        rintro e w' ⟨b', rfl, g1, g2, g3⟩
        go_wp2_with fail
        go_ret2
        exact Hgoal.out wr w' _ kr ⟨b', rfl, g1, g2, g3⟩

end Go.Proofs.YtgjomknpjigkhaaGreatDoor
