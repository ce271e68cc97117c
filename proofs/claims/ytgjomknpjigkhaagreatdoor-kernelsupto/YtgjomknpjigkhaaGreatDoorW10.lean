/- W10. -/
import Derived.Test.YtgjomknpjigkhaaGreatDoorMFold
import Derived.Test.YtgjomknpjigkhaaGreatDoorMSwap
namespace Go.Proofs.YtgjomknpjigkhaaGreatDoor
open Go.RowKit

/-- What the closure of 'Substitute' has captured. -/
def RpC (B : SB) (p q bt ct : Nat) (to : List Int) (w : World) : Prop := CellsAt w p #[.pointer (some ⟨B.b, 0, none⟩)] ∧ CellsAt w q #[.slice (some ⟨bt, 0, none⟩) to.length ct] ∧ RowIs w bt to

theorem RowIs.keeps {w w' : World} {b : Nat} {xs : List Int} {T : List Nat} (h : RowIs w b xs) (k : Keeps T w w') (hb : b ∉ T) : RowIs w' b xs := h.of_heap (k.block b h.lt hb)

theorem rp_cells {B : SB} {p q bt ct : Nat} {to : List Int} {w : World} (h : RpC B p q bt ct to w) {i : Nat} {u : Int} (hu : to[i]? = some u) :
    w.cell? ⟨p, 0, none⟩ = some (.pointer (some ⟨B.b, 0, none⟩)) ∧ w.cell? ⟨q, 0, none⟩ = some (.slice (some ⟨bt, 0, none⟩) to.length ct) ∧ w.cell? ⟨bt, i, none⟩ = some (.int .i64 u) :=
  ⟨h.1.cell 0, h.2.1.cell 0, h.2.2.cell hu⟩

/-- The functions that come in the places of the variables: those of other variables. -/
structure ByOf (to bys : List Int) (S : ST) : Prop where
  len : bys.length = to.length
  each : ∀ (i : Nat) (u b : Int), to[i]? = some u → bys[i]? = some b → S.ok b ∧ ∀ σ : Int → Bool, S.den b σ = σ u

theorem ByOf.ext {to bys : List Int} {S S' : ST} (h : ByOf to bys S) (x : Ext S S') (hw : WF S) (hw' : WF S') : ByOf to bys S' :=
  ⟨h.len, fun i u b h1 h2 => by
    obtain ⟨a1, a2⟩ := h.each i u b h1 h2
    exact ⟨x.ok a1, fun σ => by rw [x.den hw hw' a1, a2]⟩⟩

set_option maxHeartbeats 800000 in
theorem sb_join {B : SB} {w : World} {S : ST} {p q bt ct : Nat} {to bys : List Int} (f v l h rl rh u y : Int) (hS : StoreAt w B S) (hw : WF S) (hk : KOK S) (hC : RpC B p q bt ct bys w) (hp : p ∉ B.own) (hq : q ∉ B.own) (hbt : bt ∉ B.own)
    (hlen : to.length = S.n) (hby : ByOf to bys S) (hu : to[v.toNat]? = some u) (hy : bys[v.toNat]? = some y) (ht : get S.N f = some (v, l, h)) (al : RpR to S l rl) (ah : RpR to S h rh) (hlim : S.next + cst S.n < lim) :
    Calls Tryz.prog 211 #[.int .i64 v, .int .i64 rl, .int .i64 rh, .pointer (some ⟨p, 0, none⟩), .pointer (some ⟨q, 0, none⟩)] w fun e w' => ∃ r S', e = .returned (.int .i64 r) ∧ StoreAt w' B S' ∧ Keeps B.own w w' ∧ Ext S S' ∧ WF S' ∧ KOK S' ∧ RpR to S' f r ∧ S'.next ≤ S.next + cst S.n := by
  obtain ⟨x1, x2, v0, v1, x5, okl, okh, pll, plh⟩ := hw.node f v l h ht
  have hvl : v < bys.length := by rw [hby.len, hlen]; exact v1
  have okf : S.ok f := .inr (.inr ⟨x1, _, ht⟩)
  have hyy := hby.each _ u y hu hy
  have hc := hide (fun (w : World) (h : StoreAt w B S) => ite_calls y rh rl h hw hk hyy.1 ah.1 al.1 hlim)
  have Ht := hide ht
  have Hlim := hide hlim
  have Hu := hide hu
  have Hy := hide hy
  have Hlen := hide hlen
  have Hyy := hide hyy
  have g0 := rp_cells hC hy
  have hC2 : RpC B p q bt ct bys w.drew := ⟨hC.1.of_heap rfl, hC.2.1.of_heap rfl, hC.2.2.of_heap rfl⟩
  have hS2 := hS.drew
  clear ht hlim x1 x2 x5 pll plh hu hlen hy hyy
  go_enter Tryz.func211, Tryz.ntmps211
  go_wp2
  go_region_held3 (fun w' => w'.cell? ⟨p, 0, none⟩ = some (.pointer (some ⟨B.b, 0, none⟩)) ∧ w'.cell? ⟨q, 0, none⟩ = some (.slice (some ⟨bt, 0, none⟩) bys.length ct) ∧ w'.cell? ⟨bt, v.toNat, none⟩ = some (.int .i64 y)) (first | exact rp_cells hC2 Hy.out | exact rp_cells hC3 Hy.out)
    (first
      | (go_at_call 141
         refine (hc.out _ hS2).mono ?_
         rintro e W3 ⟨r, S2, rfl, hS4, k4, p2⟩
         have hC3 : RpC B p q bt ct bys W3 := ⟨hC2.1.keeps k4 hp, hC2.2.1.keeps k4 hq, hC2.2.2.keeps k4 hbt⟩))
  all_goals
    go_wp2
    go_ret
    refine ⟨r, S2, rfl, hS4, (Keeps.drew _ _).trans k4, p2.ext, p2.wf, p2.known, ⟨p2.ok, fun σ => ?_⟩, p2.next⟩
    rw [p2.den, Hyy.out.2, ah.2, al.2, p2.ext.den hw p2.wf okf, den_node hw Ht.out]
    simp only [Hu.out, Option.getD_some]

theorem subst_env (B : SB) (rd p q bt ct n : Nat) (to bys : List Int) (hr : rd ∉ B.own) (hp : p ∉ rd :: B.own) (hq : q ∉ rd :: B.own) (hb : bt ∉ rd :: B.own) (hlen : to.length = n) :
    FoldEnv B rd 211 (fun v rl rh => #[.int .i64 v, .int .i64 rl, .int .i64 rh, .pointer (some ⟨p, 0, none⟩), .pointer (some ⟨q, 0, none⟩)]) (RpC B p q bt ct bys) (fun S => S.n = n ∧ ByOf to bys S) (RpR to) (cst n) where
  sep := hr
  keepC w w' h k := ⟨h.1.keeps k hp, h.2.1.keeps k hq, h.2.2.keeps k hb⟩
  mono S S' f r okf x hw hw' _ _ h := RpR.mono S S' f r okf x hw hw' h
  cost := cst_nonneg n
  join w S f v l h rl rh hS hw hk hi hC ht al ah hlim := by
    obtain ⟨hi, hby⟩ := hi
    subst hi
    obtain ⟨x1, x2, v0, v1, _⟩ := hw.node f v l h ht
    have hl : v.toNat < to.length := by omega
    have hl2 : v.toNat < bys.length := by rw [hby.len]; exact hl
    exact (sb_join f v l h rl rh _ _ hS hw hk hC (fun x => hp (List.mem_cons_of_mem _ x)) (fun x => hq (List.mem_cons_of_mem _ x)) (fun x => hb (List.mem_cons_of_mem _ x)) hlen hby (List.getElem?_eq_getElem hl) (List.getElem?_eq_getElem hl2) ht al ah hlim).mono fun e w' ⟨r, S', a1, a2, a3, a4, a5, a6, a7, a8⟩ => ⟨r, S', a1, a2, a3, a4, a5, a6, ⟨a4.n, hby.ext a4 hw a5⟩, a7, a8⟩

attribute [local go_sem] ins_first ins_second

set_option maxHeartbeats 800000 in
theorem subst_calls {B : SB} {w : World} {S : ST} (f : Int) (bt ct : Nat) (to bys : List Int) (hS : StoreAt w B S) (hw : WF S) (hk : KOK S) (okf : S.ok f) (hrow : RowIs w bt bys) (hbt : bt ∉ B.own) (hlen : to.length = S.n) (hby : ByOf to bys S) (hlim : S.next + fc (cst S.n) S.n < lim) :
    Calls Tryz.prog 146 #[.pointer (some ⟨B.b, 0, none⟩), .int .i64 f, .slice (some ⟨bt, 0, none⟩) bys.length ct] w (RelGives B w S (RpR to) f (fc (cst S.n) S.n)) := by
  have hmm := @run_makeMap Tryz.prog
  have hbl := hrow.lt
  have E := subst_env B (w.heap.size + 1 + 1) w.heap.size (w.heap.size + 1) bt ct S.n to bys (hS.fresh (by omega)) (not_cons (by omega) (hS.fresh (by omega))) (not_cons (by omega) (hS.fresh (by omega))) (not_cons (by omega) hbt) hlen
  have hc := hide (fold_says211 E S.n)
  have Hlim := hide hlim
  have Hlen := hide hlen
  have Hby := hide hby
  clear hlim E hlen hbl hby
  go_enter Tryz.func146, Tryz.ntmps146
  go_wp2_with fail
  have s1 := size_alloc w (.cells #[.pointer (some ⟨B.b, 0, none⟩)] 135)
  have s2 := size_alloc (w.alloc (.cells #[.pointer (some ⟨B.b, 0, none⟩)] 135)) (.cells #[.slice (some ⟨bt, 0, none⟩) bys.length ct] 40)
  have a1 := CellsAt.new w #[.pointer (some ⟨B.b, 0, none⟩)] 135
  have a2 := CellsAt.new (w.alloc (.cells #[.pointer (some ⟨B.b, 0, none⟩)] 135)) #[.slice (some ⟨bt, 0, none⟩) bys.length ct] 40
  have a3 := ins_is ((w.alloc (.cells #[.pointer (some ⟨B.b, 0, none⟩)] 135)).alloc (.cells #[.slice (some ⟨bt, 0, none⟩) bys.length ct] 40)) 0 0 1 1 (by decide)
  have k1 := Keeps.alloc [] w (.cells #[.pointer (some ⟨B.b, 0, none⟩)] 135)
  have k2 := Keeps.alloc [] (w.alloc (.cells #[.pointer (some ⟨B.b, 0, none⟩)] 135)) (.cells #[.slice (some ⟨bt, 0, none⟩) bys.length ct] 40)
  have k3 := Keeps.alloc [] ((w.alloc (.cells #[.pointer (some ⟨B.b, 0, none⟩)] 135)).alloc (.cells #[.slice (some ⟨bt, 0, none⟩) bys.length ct] 40)) (.map #[{ key := .int .i64 0, val := .int .i64 0, born := 0 }, { key := .int .i64 1, val := .int .i64 1, born := 1 }] 2)
  have b1 := (a1.keeps k2 (by simp)).keeps k3 (by simp)
  have b2 := a2.keeps k3 (by simp)
  rw [s1] at b2 s2
  rw [s2] at a3
  have kk := (k1.trans k2).trans k3
  have hS3 := hS.keeps kk (by simp)
  have hrow3 := hrow.keeps kk (by simp)
  refine (hc.out _ S [(0, 0), (1, 1)] f hS3 hw hk ⟨rfl, Hby.out⟩ ⟨b1, b2, hrow3⟩ a3 ⟨?_, rfl, rfl⟩ okf ?_ Hlim.out).mono ?_
  · intro g r hg
    have hm := get_some_mem hg
    simp only [List.mem_cons, Prod.mk.injEq, List.not_mem_nil, or_false] at hm
    rcases hm with ⟨rfl, rfl⟩ | ⟨rfl, rfl⟩
    · exact ⟨ok_zero S, RpR.const to S (.inl rfl)⟩
    · exact ⟨ok_one S, RpR.const to S (.inr rfl)⟩
  · have := (lev_range hw okf).1; omega
  rintro e w' ⟨r, S', D', rfl, hs, hd, hkp, hC', p⟩
  go_wp2
  go_ret
  refine ⟨r, S', rfl, hs, (kk.mono (by simp)).trans_new hkp ?_, p.ext, p.wf, p.known, p.rel, p.next⟩
  intro i hi
  rcases List.mem_cons.1 hi with e | x
  · exact .inr (by omega)
  · exact .inl x

theorem fc_more {c : Int} : ∀ k : Nat, fc c k + k ≤ fc (c + 1) k
  | 0 => by simp [fc]
  | k + 1 => by
    have := fc_more (c := c) k
    simp only [fc]
    omega

theorem made_ints (n i : Nat) (h : i < n) : (madeCells #[.int .i64 0] n)[i]? = some (.int .i64 0) := by
  have := toList_madeCells_one (.int .i64 0) n
  rw [← Array.getElem?_toList, this, List.getElem?_replicate, if_pos h]

theorem run_makeInts (w : World) (n : Nat) (hn : n ≤ 1000) : (Instr.makeSlice 40 (.int .i64 (n : Int)) (.int .i64 (n : Int))).run Tryz.prog w = .ok (.slice (some ⟨w.heap.size, 0, none⟩) n n) (w.alloc (.cells (madeCells #[.int .i64 0] n) 3)) := by
  obtain ⟨i0, hi0, hz0, hz1, hz2⟩ := info_parts info3
  have := run_make (P := Tryz.prog) w 40 3 i0 (.int .i64 0) Tryz.underlying40 hi0 hz0 .i64 .i64 n n (by omega) (by omega) (by rw [hz2]; omega) (by omega)
  rw [this, hz1]
  simp [Value.cells]

set_option maxRecDepth 100000 in
set_option maxHeartbeats 1000000 in
theorem replace_calls {B : SB} {w : World} {S : ST} (f : Int) (bt ct : Nat) (to : List Int) (hS : StoreAt w B S) (hw : WF S) (hk : KOK S) (okf : S.ok f) (hrow : RowIs w bt to) (hbt : bt ∉ B.own) (hlen : to.length = S.n) (hto : ∀ (i : Nat) (u : Int), to[i]? = some u → 0 ≤ u ∧ u < S.n) (n8 : S.n ≤ 8) (hlim : S.next + fc (cst S.n + 1) S.n < lim) :
    Calls Tryz.prog 176 #[.pointer (some ⟨B.b, 0, none⟩), .int .i64 f, .slice (some ⟨bt, 0, none⟩) to.length ct] w (RelGives B w S (RpR to) f (fc (cst S.n + 1) S.n)) := by
  have hfm := fc_more (c := cst S.n) S.n
  have hmk := run_makeInts w to.length (by omega)
  have hrow1 : RowIs (w.alloc (.cells (madeCells #[.int .i64 0] to.length) 3)) w.heap.size (List.replicate to.length 0) := by
    refine ⟨_, CellsAt.new _ _ _, fun i x hx => ?_⟩
    rw [List.getElem?_replicate] at hx
    split at hx
    · rename_i hi
      cases hx
      exact made_ints _ _ hi
    · cases hx
  have kA := Keeps.alloc [] w (.cells (madeCells #[.int .i64 0] to.length) 3)
  have Hlim := hide hlim
  have Hfm := hide hfm
  have Hlen := hide hlen
  have ln8 : to.length ≤ 8 := by omega
  clear hlim hfm hlen n8
  have hbl := hrow.lt
  have hfresh := hS.fresh (Nat.le_refl _)
  go_enter Tryz.func176, Tryz.ntmps176
  go_wp2_with fail
  go_loopw [15] (fun v wr => ∃ (j : Nat) (bys : List Int) (S1 : ST), v = .int .i64 j ∧ j ≤ to.length ∧ RowIs wr w.heap.size bys ∧ StoreAt wr B S1 ∧ Ext S S1 ∧ WF S1 ∧ KOK S1 ∧ S1.next ≤ S.next + j ∧ bys.length = to.length ∧ (∀ (i : Nat) (u b : Int), i < j → to[i]? = some u → bys[i]? = some b → S1.ok b ∧ ∀ σ : Int → Bool, S1.den b σ = σ u) ∧ Keeps B.own w wr) (fun v _ => ((to.length : Int) - intOf v).toNat)
  case atStart => exact ⟨0, List.replicate to.length 0, S, rfl, by omega, hrow1, hS.keeps kA (by simp), Ext.refl S, hw, hk, by omega, by simp, fun i u b h => by omega, kA.mono (by simp)⟩
  case round =>
    obtain ⟨j, bys, S1, rfl, hj, hr, hSr, x1, w1, k1, hnx, hbl1, heach, hkr⟩ := hrel
    have Hx := hide hnx
    have Hbl1 := hide hbl1
    clear hnx hbl1
    have hrowr : RowIs wr bt to := hrow.keeps hkr hbt
    by_cases hjl : j < to.length
    · have hjI : (j : Int) < to.length := by omega
      have hu : to[j]? = some to[j] := List.getElem?_eq_getElem hjl
      have hur := hto _ _ hu
      generalize to[j] = u at hu hur
      have hcell := hrowr.cell hu
      have hc := hide (var_calls u hSr w1 k1 hur.1 (by rw [x1.n]; exact hur.2) (by have := Hlim.out; have := Hfm.out; have := Hx.out; have := fc_nonneg (cst_nonneg S.n) S.n; have := Hlen.out; omega))
      have Hu := hide hu
      clear hu
      go_wp2_with fail
      refine hc.out.mono ?_
      rintro e W3 ⟨y, S2, rfl, hS3, k3, p⟩
      have hr3 : RowIs W3 w.heap.size bys := hr.keeps k3 hfresh
      have hfz := hr3.frozen j
      have hbl2 := Hbl1.out
      have hold : ∃ z, bys[j]? = some z := ⟨bys[j]'(by omega), List.getElem?_eq_getElem _⟩
      obtain ⟨z, hz⟩ := hold
      have hcz := hr3.cell hz
      clear hbl2
      go_wp2_with fail
      go_roundw
      · have kS := Keeps.setCell W3 ⟨w.heap.size, j, none⟩ (.int .i64 y)
        refine ⟨j + 1, bys.set j y, S2, by simp, by omega, hr3.set j y, hS3.keeps kS (fun i hi x => ?_), x1.trans p.ext, p.wf, p.known, by have := p.next; have := Hx.out; omega, by simp [Hbl1.out], fun i u' b h1 h2 h3 => ?_, ?_⟩
        · simp only [List.mem_singleton] at x
          subst x
          exact hfresh hi
        · by_cases e : i = j
          · subst e
            rw [Hu.out] at h2
            have e1 := Option.some.inj h2
            rw [List.getElem?_set, if_pos rfl, if_pos (by rw [Hbl1.out]; exact hjl)] at h3
            have e2 := Option.some.inj h3
            subst e1 e2
            exact ⟨p.ok, p.den⟩
          · rw [List.getElem?_set, if_neg (fun h => e h.symm)] at h3
            obtain ⟨g1, g2⟩ := heach i u' b (by omega) h2 h3
            exact ⟨p.ext.ok g1, fun σ => by rw [p.ext.den w1 p.wf g1, g2]⟩
        · refine (hkr.trans k3).trans_new kS (fun i hi => ?_)
          simp only [List.mem_singleton] at hi
          exact .inr (by omega)
      · simp only [intOf]; omega
    · have hjI : ¬ (j : Int) < to.length := by omega
      have hby : ByOf to bys S1 := ⟨Hbl1.out, fun i u b h1 h2 => heach i u b (by have := (List.getElem?_eq_some_iff.1 h1).1; omega) h1 h2⟩
      have hc := hide (subst_calls (ct := to.length) f w.heap.size to bys hSr w1 k1 (x1.ok okf) hr hfresh (by rw [x1.n]; exact Hlen.out) hby (by rw [x1.n]; have := Hlim.out; have := Hfm.out; have := Hx.out; have := Hlen.out; omega))
      rw [Hbl1.out] at hc
      go_wp2_with fail
      refine hc.out.mono ?_
      rintro e W3 ⟨r, S2, rfl, hS3, k3, p⟩
      go_wp2_with fail
      go_ret
      refine ⟨r, S2, rfl, hS3, hkr.trans k3, x1.trans p.ext, p.wf, p.known, ⟨p.rel.1, fun σ => ?_⟩, ?_⟩
      · rw [p.rel.2, (x1.trans p.ext).den hw p.wf okf]
      · have a := p.next; rw [x1.n] at a; have := Hfm.out; have := Hx.out; have := Hlen.out; omega

end Go.Proofs.YtgjomknpjigkhaaGreatDoor
