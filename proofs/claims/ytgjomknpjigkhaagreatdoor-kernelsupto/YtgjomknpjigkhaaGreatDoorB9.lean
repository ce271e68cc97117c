/- Support, Size, Total, Swap, Sift, Drop, New, on both sides. -/
import Derived.Test.YtgjomknpjigkhaaGreatDoorB8
namespace Go.Proofs.YtgjomknpjigkhaaGreatDoor
open Go.RowKit Go.Shelf

theorem supT_bit (n : Nat) (x : List Bool) (k : Nat) : ∀ i, (supT n x i).testBit k = (decide (k < i) && decide (fixT n x k false ≠ fixT n x k true))
  | 0 => by simp [supT]
  | i + 1 => by
    have h := supT_lt n x i
    have ih := supT_bit n x k i
    unfold supT
    by_cases e : fixT n x i false = fixT n x i true
    · rw [if_pos e, Nat.add_zero, ih]
      by_cases hk : k = i
      · subst hk; simp [e]
      · congr 1
        simp only [decide_eq_decide]
        omega
    · rw [if_neg e]
      have e2 := Nat.two_pow_add_eq_or_of_lt h 1
      rw [Nat.mul_one] at e2
      rw [Nat.add_comm, e2, Nat.testBit_or, ih]
      by_cases hk : k = i
      · subst hk; simp [e]
      · have : ¬ i = k := fun x => hk x.symm
        simp only [Nat.testBit_two_pow, this, decide_false, Bool.false_or]
        congr 1
        simp only [decide_eq_decide]
        omega

theorem sup_eq {S : ST} (hw : WF S) (n8 : S.n ≤ 8) {r : Int} (okr : S.ok r) {xs : List (Int × Tri)} {s : Int} (hg : GoodNodes S [r] xs) (hs : SupOf xs s) : s = (supT S.n (S.T r) S.n : Nat) := by
  obtain ⟨s0, s1, hb⟩ := hs
  obtain ⟨a, rfl⟩ := Int.eq_ofNat_of_zero_le s0
  congr 1
  apply Nat.eq_of_testBit_eq
  intro k
  rw [supT_bit]
  have hlt : supT S.n (S.T r) S.n < 2 ^ S.n := supT_lt _ _ _
  by_cases hk8 : k < 8
  · have hbk := hb k (by omega) (by omega)
    rw [bitB_nat] at hbk
    by_cases hk : k < S.n
    · have hl : Loc S.n (S.den r) := den_loc hw okr
      have key : (∃ x ∈ xs, x.2.1 = (k : Int)) ↔ fixT S.n (S.T r) k false ≠ fixT S.n (S.T r) k true := by
        unfold ST.T
        rw [fix_tab hl hk, fix_tab hl hk]
        constructor
        · rintro ⟨x, hx, e⟩ heq
          obtain ⟨f, v, l, h⟩ := x
          have e' : v = (k : Int) := e
          subst e'
          obtain ⟨σ, hσ⟩ := hangs_on hw okr ((hg.iff f).1 (List.mem_map.2 ⟨_, hx, rfl⟩)) (hg.at_ _ hx)
          apply hσ
          have h1 := congrArg (fun l : List Bool => l[code σ S.n]?) heq
          rw [show (tab S.n fun σ => S.den r (upd σ k false))[code σ S.n]? = _ from tab_get (code_lt σ S.n), show (tab S.n fun σ => S.den r (upd σ k true))[code σ S.n]? = _ from tab_get (code_lt σ S.n)] at h1
          have h2 := Option.some.inj h1
          have hc : ∀ c, S.den r (upd (asg (code σ S.n)) k c) = S.den r (upd σ k c) := fun c => hl _ _ fun v v0 v1 => by
            unfold upd
            split
            · rfl
            · exact asg_code σ S.n v0 v1
          rw [hc, hc] at h2
          exact h2.symm
        · intro hne
          apply Classical.byContradiction
          intro hno
          apply hne
          congr 1
          funext σ
          refine hangs_not hw okr (v := k) (fun f l h hr ht => hno ?_) σ false true
          obtain ⟨x, hx, ex⟩ := List.mem_map.1 ((hg.iff f).2 hr)
          refine ⟨x, hx, ?_⟩
          have := hg.at_ x hx
          rw [ex, ht] at this
          rw [← Option.some.inj this]
      cases ha : a.testBit k
      · have : ¬ fixT S.n (S.T r) k false ≠ fixT S.n (S.T r) k true := fun h => by
          have := hbk.2 (key.2 h)
          rw [ha] at this
          cases this
        simp [this]
      · simp [hk, key.1 (hbk.1 ha)]
    · have : a.testBit k = false := by
        cases ha : a.testBit k
        · rfl
        · obtain ⟨x, hx, e⟩ := hbk.1 ha
          have h1 := hg.at_ x hx
          obtain ⟨f, v, l, h⟩ := x
          have := hw.node f v l h h1
          have e' : v = (k : Int) := e
          omega
      simp [hk, this]
  · have : a < 2 ^ k := Nat.lt_of_lt_of_le (by omega : a < 2 ^ 8) (Nat.pow_le_pow_right (by decide) (by omega))
    rw [Nat.testBit_lt_two_pow this]
    simp
    omega

section
variable {w : World} {b : KB} {K : KS} {R : RS} {rb : RB}

/-- Support. -/
def RS.sups (R : RS) (f : Int) : Int × Int := match R.look f with
  | some x => ((supT R.n x R.n : Nat), 0)
  | none => (0, 2)

theorem xsupport (hK : KernelAt w b K) (T : Twin K R) (f : Int) : Calls Tryz.prog 111 #[.pointer (some ⟨b.k, 0, none⟩), .int .i64 f] w fun e w' => e = .returned (.tuple #[.int .i64 (R.sups f).1, .int .i64 (R.sups f).2]) ∧ KernelAt w' b K ∧ Keeps b.own w w' := by
  unfold RS.sups
  rw [T.n]
  cases hf : get K.R f with
  | none =>
    rw [(T.none_iff f).2 hf]
    exact (ksupport_bad hK f hf).mono fun e w' ⟨a, c⟩ => ⟨a, c ▸ hK, c ▸ Keeps.refl _ _⟩
  | some r =>
    rw [T.some_of hf]
    refine (ksupport_calls hK T.inv f r hf).mono fun e w' ⟨s, xs, a, hg, hs, c, d⟩ => ⟨?_, c, d.mono (by simp)⟩
    rw [a, sup_eq T.inv.wf T.inv.n8 (T.inv.ok f r hf) hg hs]
theorem ysupport (h : RefAt w rb R) (T : Twin K R) (f : Int) : Calls Tryz.prog 112 #[.pointer (some ⟨rb.r, 0, none⟩), .int .i64 f] w fun e w' => e = .returned (.tuple #[.int .i64 (R.sups f).1, .int .i64 (R.sups f).2]) ∧ Keeps [] w w' := by
  unfold RS.sups
  cases hf : R.look f with
  | none => exact (rsupport_bad h f hf).mono fun e w' ⟨a, c⟩ => ⟨a, c⟩
  | some x => exact rsupport_calls h f x hf (RS.look_len T.ok hf)

/-- Size. -/
def RS.sizes (R : RS) (f : Int) : Int × Int := match R.look f with
  | some x => (((nodesT R.n R.ord [x]).length : Nat), 0)
  | none => (0, 2)

theorem xsize (hK : KernelAt w b K) (T : Twin K R) (f : Int) : Calls Tryz.prog 113 #[.pointer (some ⟨b.k, 0, none⟩), .int .i64 f] w fun e w' => e = .returned (.tuple #[.int .i64 (R.sizes f).1, .int .i64 (R.sizes f).2]) ∧ KernelAt w' b K ∧ Keeps b.own w w' := by
  unfold RS.sizes
  rw [T.n, T.ord]
  cases hf : get K.R f with
  | none =>
    rw [(T.none_iff f).2 hf]
    exact (ksize_bad hK f hf).mono fun e w' ⟨a, c⟩ => ⟨a, c ▸ hK, c ▸ Keeps.refl _ _⟩
  | some r =>
    rw [T.some_of hf]
    refine (ksize_calls hK T.inv f r hf).mono fun e w' ⟨xs, a, hg, c, d⟩ => ⟨?_, c, d.mono (by simp)⟩
    have := nodes_count (roots := [r]) T.inv.wf (fun q hq => by simp at hq; rw [hq]; exact T.inv.ok f r hf) hg.nodup hg.iff
    rw [List.length_map] at this
    rw [a, ← this]
    rfl
theorem ysize (h : RefAt w rb R) (T : Twin K R) (f : Int) : Calls Tryz.prog 114 #[.pointer (some ⟨rb.r, 0, none⟩), .int .i64 f] w fun e w' => e = .returned (.tuple #[.int .i64 (R.sizes f).1, .int .i64 (R.sizes f).2]) ∧ Keeps [] w w' := by
  unfold RS.sizes
  cases hf : R.look f with
  | none => exact (rsize_bad h f hf).mono fun e w' ⟨a, c⟩ => ⟨a, c⟩
  | some x => exact rsize_calls h T.ok f x hf

/-- All nodes, counted as the document does. -/
theorem Twin.total (T : Twin K R) (hN : (K.S.N.map Prod.fst).Nodup) : K.S.N.length = R.tot R.ord := by
  have hroot : ∀ p ∈ R.hs, ∃ r, get K.R p.1 = some r ∧ p.2 = K.S.T r := fun p hp => T.at_ hp
  let roots := R.hs.map fun p => (get K.R p.1).getD 0
  have hmap : roots.map K.S.T = R.hs.map Prod.snd := by
    simp only [roots, List.map_map]
    refine List.map_congr_left fun p hp => ?_
    obtain ⟨r, hr, e⟩ := hroot p hp
    simp [hr, e]
  have hok : RootsOk K.S roots := by
    intro q hq
    obtain ⟨p, hp, rfl⟩ := List.mem_map.1 hq
    obtain ⟨r, hr, e⟩ := hroot p hp
    rw [hr]
    exact T.inv.ok _ r hr
  have hreach : ∀ f, f ∈ K.S.N.map Prod.fst ↔ Reach K.S roots f := by
    intro f
    constructor
    · intro hf
      obtain ⟨p, hp, rfl⟩ := List.mem_map.1 hf
      have h1 := T.inv.reach p.1 p.2 (get_of_mem hN hp)
      refine h1.weaken fun q hq q2 => ?_
      obtain ⟨a, ha⟩ := (get_mem_map T.nd q).1 hq
      have ha2 : a ≠ 0 ∧ a ≠ 1 := by
        constructor <;> intro e <;> subst e
        · rw [T.inv.zero] at ha; cases ha; omega
        · rw [T.inv.one] at ha; cases ha; omega
      have hl := T.some_of ha
      unfold RS.look at hl
      rw [if_neg ha2.1, if_neg ha2.2] at hl
      refine Reach.root (List.mem_map.2 ⟨_, get_some_mem hl, ?_⟩) q2
      simp [ha]
    · intro hf
      obtain ⟨t, ht⟩ := hf.node T.inv.wf hok
      exact List.mem_map.2 ⟨_, get_some_mem ht, rfl⟩
  have := nodes_count T.inv.wf hok hN hreach
  rw [List.length_map] at this
  unfold RS.tot
  rw [T.n, T.ord, ← hmap, this]

theorem xtotal (hK : KernelAt w b K) (T : Twin K R) : Calls Tryz.prog 115 #[.pointer (some ⟨b.k, 0, none⟩)] w fun e w' => e = .returned (.int .i64 (R.tot R.ord : Nat)) ∧ w' = w := by
  rw [← T.total hK.store.nodes.nodup]
  exact ktotal_calls hK
theorem ytotal (h : RefAt w rb R) (T : Twin K R) : Calls Tryz.prog 116 #[.pointer (some ⟨rb.r, 0, none⟩)] w fun e w' => e = .returned (.int .i64 (R.tot R.ord : Nat)) ∧ Keeps [] w w' := rtotal_calls h T.ok

/-- What a call leaves that answers an error alone. -/
def XSays (b : KB) (w : World) (K : KS) (a : Int × RS) (e : Ending) (w' : World) : Prop :=
  ∃ K', e = .returned (.int .i64 a.1) ∧ KernelAt w' b K' ∧ Twin K' a.2 ∧ Keeps b.own w w' ∧ K'.S.next ≤ K.S.next + costs
def YSays (b : RB) (w : World) (a : Int × RS) (e : Ending) (w' : World) : Prop :=
  ∃ b', e = .returned (.int .i64 a.1) ∧ RefAt w' b' a.2 ∧ b.to b' w ∧ Keeps b.own w w'

theorem XSays.err (hK : KernelAt w b K) (T : Twin K R) {x : Int} {e : Ending} {w' : World} (g : e = .returned (.int .i64 x) ∧ w' = w) : XSays b w K (x, R) e w' := by
  obtain ⟨rfl, rfl⟩ := g
  exact ⟨K, rfl, hK, T, Keeps.refl _ _, by unfold costs; omega⟩
theorem YSays.err (h : RefAt w rb R) {x : Int} {e : Ending} {w' : World} (g : e = .returned (.int .i64 x) ∧ Keeps [] w w') : YSays rb w (x, R) e w' := by
  obtain ⟨rfl, k⟩ := g
  exact ⟨rb, rfl, h.keeps0 k, rb.to_refl w, k.mono (by simp)⟩

/-- Swap. -/
def RS.swaps (R : RS) (lv : Int) : Int × RS := if lv < 0 ∨ (R.n : Int) - 2 < lv then (1, R) else (0, { R with ord := swapAt R.ord lv.toNat })

theorem xswap (hK : KernelAt w b K) (T : Twin K R) (hr : Room K) (lv : Int) : Calls Tryz.prog 120 #[.pointer (some ⟨b.k, 0, none⟩), .int .i64 lv] w (XSays b w K (R.swaps lv)) := by
  have h1 := swc_le T.inv.n8
  have h2 := hr.next
  unfold costs at h2
  unfold RS.swaps
  have hTn := T.n
  by_cases hl : lv < 0 ∨ (R.n : Int) - 2 < lv
  · rw [if_pos hl]
    exact (kswap_bad hK T.inv.n8 lv (by omega)).mono fun e w' g => XSays.err hK T g
  rw [if_neg hl]
  refine (kSwap_yes hK T.inv lv (by omega) (by omega) (by omega)).mono fun e w' ⟨a, K', c, d, f, g⟩ => ⟨K', a, c, ?_, g, by have := d.next; unfold costs; omega⟩
  have := T.same d.inv d.R d.nx d.n d.den
  rw [f, ← T.ord] at this
  exact this
theorem yswap (h : RefAt w rb R) (lv : Int) : Calls Tryz.prog 121 #[.pointer (some ⟨rb.r, 0, none⟩), .int .i64 lv] w (YSays rb w (R.swaps lv)) := by
  unfold RS.swaps
  by_cases hl : lv < 0 ∨ (R.n : Int) - 2 < lv
  · rw [if_pos hl]
    exact (rswap_bad h lv hl).mono fun e w' ⟨a, c⟩ => YSays.err h ⟨a, c ▸ Keeps.refl _ _⟩
  rw [if_neg hl]
  obtain ⟨n, rfl⟩ := Int.eq_ofNat_of_zero_le (show 0 ≤ lv by omega)
  exact (rswap_calls h n (by omega)).mono fun e w' ⟨a, b', c, d, f⟩ => ⟨b', a, c, d, f⟩

/-- Sift: to the first of the places that are best. -/
def SiftTo (R : RS) (i : Int) (a : Int × RS) : Prop := (i < 0 ∨ (R.n : Int) ≤ i) ∧ a = (1, R) ∨ (0 ≤ i ∧ i < R.n) ∧ ∃ p, Least (fun p => R.tot (ordAt (rest R.ord i) i p)) R.n p ∧ a = (0, { R with ord := ordAt (rest R.ord i) i p })

theorem Least.unique {N : Nat → Nat} {a p q : Nat} (h : Least N a p) (k : Least N a q) : p = q := by
  have h1 := h.le q k.lt
  have h2 := k.le p h.lt
  omega
theorem SiftTo.unique {i : Int} {a c : Int × RS} (h : SiftTo R i a) (k : SiftTo R i c) : a = c := by
  rcases h with ⟨h1, rfl⟩ | ⟨h1, p, h2, rfl⟩
  · rcases k with ⟨_, rfl⟩ | ⟨k1, _⟩
    · rfl
    · omega
  · rcases k with ⟨k1, rfl⟩ | ⟨k1, q, k2, rfl⟩
    · omega
    · rw [h2.unique k2]

theorem moved_ordAt {K K' : KS} {v c : Int} (M : Moved K K' v c) (v0 : 0 ≤ v) (v1 : v < K.S.n) : K'.S.order = ordAt (rest K.S.order v) v (K'.S.pl v).toNat := by
  have hn : K'.S.n = K.S.n := M.re.n
  have := (rest_at M.re.inv.wf v0 (by rw [hn]; exact v1)).1
  rw [M.rest] at this
  unfold ordAt
  rw [List.append_assoc, List.singleton_append]
  exact this

theorem Twin.moved {K' : KS} {v c : Int} (T : Twin K R) (M : Moved K K' v c) : Twin K' { R with ord := K'.S.order } := T.same M.re.inv M.re.R M.re.nx M.re.n M.re.den

/-- The totals by place are the document's. -/
theorem Twin.totAt (T : Twin K R) {v : Int} (v0 : 0 ≤ v) (v1 : v < K.S.n) {p : Int} {t : Nat} (h : TotAt K v p t) : t = R.tot (ordAt (rest R.ord v) v p.toNat) := by
  obtain ⟨K', c, d, M, hp, ht⟩ := h
  have T' := T.moved M
  have := T'.total d.N
  rw [← ht, this]
  show R.tot K'.S.order = _
  rw [moved_ordAt M v0 v1, hp, T.ord]

theorem xsift (hK : KernelAt w b K) (T : Twin K R) (hr : Room K) (i : Int) : Calls Tryz.prog 122 #[.pointer (some ⟨b.k, 0, none⟩), .int .i64 i] w fun e w' => ∃ a, SiftTo R i a ∧ XSays b w K a e w' := by
  have h1 := swc_le T.inv.n8
  have h2 := hr.next
  unfold costs at h2
  by_cases hl : i < 0 ∨ (K.S.n : Int) ≤ i
  · exact (ksift_bad hK i hl).mono fun e w' g => ⟨_, .inl ⟨by rw [T.n]; exact hl, rfl⟩, XSays.err hK T g⟩
  refine (ksift_calls hK T.inv i (by omega) (by omega) (by omega)).mono fun e w' ⟨a, p, K', c, M, hp, hb, k⟩ => ?_
  have i0 : 0 ≤ i := by omega
  have i1 : i < K.S.n := by omega
  obtain ⟨hex, p0, p1, t0, ht0, hmin⟩ := hb
  refine ⟨(0, { R with ord := K'.S.order }), .inr ⟨⟨i0, by rw [T.n]; exact i1⟩, p.toNat, ⟨by rw [T.n]; omega, fun q hq => ?_⟩, ?_⟩, K', a, c, T.moved M, k, by have := M.re.next; unfold costs; omega⟩
  · rw [T.n] at hq
    obtain ⟨t, ht⟩ := hex q (by omega) (by omega)
    have e0 := T.totAt i0 i1 ht0
    have e1 := T.totAt i0 i1 ht
    have := hmin q t (by omega) (by omega) ht
    rw [Int.toNat_natCast] at e1
    show R.tot _ < R.tot _ ∨ R.tot _ = R.tot _ ∧ _
    rw [← e0, ← e1]
    omega
  · rw [moved_ordAt M i0 i1, hp, T.ord]
theorem ysift (h : RefAt w rb R) (T : Twin K R) (i : Int) : Calls Tryz.prog 123 #[.pointer (some ⟨rb.r, 0, none⟩), .int .i64 i] w fun e w' => ∃ a, SiftTo R i a ∧ YSays rb w a e w' := by
  by_cases hl : i < 0 ∨ (R.n : Int) ≤ i
  · exact (rsift_bad h i hl).mono fun e w' ⟨a, c⟩ => ⟨_, .inl ⟨hl, rfl⟩, YSays.err h ⟨a, c ▸ Keeps.refl _ _⟩⟩
  have hm : (rest R.ord i).length + 1 = R.n := by
    rw [T.ord, T.n]
    exact (rest_at T.inv.wf (by omega) (by rw [← T.n]; omega)).2
  exact (rsift_calls h T.ok i (by omega) (by omega) hm).mono fun e w' ⟨a, b', p, hL, c, d, f⟩ => ⟨_, .inr ⟨by omega, p, hL, rfl⟩, b', a, c, d, f⟩

/-- Drop. -/
def RS.drops (R : RS) (f : Int) : Int × RS := if (del R.hs f).length = R.hs.length then (2, R) else (0, { R with hs := del R.hs f })

theorem del_len {hs : List (Int × List Bool)} (hn : (hs.map Prod.fst).Nodup) (f : Int) : (del hs f).length = hs.length ↔ get hs f = none := by
  constructor
  · intro h
    cases hg : get hs f with
    | none => rfl
    | some x => have := length_del hn hg; omega
  · intro h
    rw [del_absent h]

theorem Twin.low (T : Twin K R) {f : Int} (h : f < 2) : get R.hs f = none := by
  cases hg : get R.hs f with
  | none => rfl
  | some x => have := T.two _ (get_some_mem hg); dsimp only at this; omega

theorem Twin.hs_of (T : Twin K R) {f : Int} (h : 2 ≤ f) : get R.hs f = (get K.R f).map K.S.T := by
  have := T.look f
  unfold RS.look at this
  rw [if_neg (by omega), if_neg (by omega)] at this
  exact this

theorem xdrop (hK : KernelAt w b K) (T : Twin K R) (f : Int) : Calls Tryz.prog 124 #[.pointer (some ⟨b.k, 0, none⟩), .int .i64 f] w (XSays b w K (R.drops f)) := by
  unfold RS.drops
  cases hf : get K.R f with
  | none =>
    have h0 : get R.hs f = none := by
      by_cases f2 : f < 2
      · exact T.low f2
      · rw [T.hs_of (by omega), hf]; rfl
    rw [if_pos ((del_len T.nodup f).2 h0)]
    exact (kdrop_bad hK f hf).mono fun e w' g => XSays.err hK T g
  | some r =>
    by_cases f2 : f < 2
    · rw [if_pos ((del_len T.nodup f).2 (T.low f2))]
      exact (kdrop_no hK f r hf f2).mono fun e w' g => XSays.err hK T g
    · have hs : get R.hs f = some (K.S.T r) := by rw [T.hs_of (by omega), hf]; rfl
      rw [if_neg (fun e => by rw [(del_len T.nodup f).1 e] at hs; cases hs)]
      refine (kdrop_yes hK T.inv f r hf (by omega)).mono fun e w' ⟨a, K', c, d, g⟩ => ⟨K', a, c, ?_, g, by rw [d.next]; unfold costs; omega⟩
      have hn' : K'.S.n = K.S.n := by unfold ST.n; rw [d.order]
      refine ⟨d.inv, by rw [d.R]; exact nodup_del T.nd f, by show R.n = _; rw [hn']; exact T.n, by show R.ord = _; rw [d.order]; exact T.ord, by show _ = R.last + 1; rw [d.nx]; exact T.last, fun q => ?_, fun p hp => T.two p (List.mem_filter.1 hp).1, nodup_del T.nodup f, ?_⟩
      · have hl := T.look q
        unfold RS.look at hl ⊢
        show (if q = 0 then some (tab R.n fun _ => false) else if q = 1 then some (tab R.n fun _ => true) else get (del R.hs f) q) = _
        rw [d.R, get_del, get_del]
        by_cases e : q = f
        · rw [if_pos e, if_pos e, if_neg (by omega), if_neg (by omega)]
          rfl
        · rw [if_neg e, if_neg e, hl]
          cases hq : get K.R q with
          | none => rfl
          | some s =>
            simp only [Option.map_some, Option.some.injEq]
            unfold ST.T
            rw [hn']
            congr 1
            funext σ
            exact (d.den q s hq e σ).symm
      · show (del R.hs f).length + 2 = _
        have h1 := length_del T.nodup hs
        have h2 := length_del T.nd hf
        have h3 := T.len
        rw [d.R]
        omega
theorem ydrop (h : RefAt w rb R) (f : Int) : Calls Tryz.prog 125 #[.pointer (some ⟨rb.r, 0, none⟩), .int .i64 f] w (YSays rb w (R.drops f)) := by
  unfold RS.drops
  by_cases he : (del R.hs f).length = R.hs.length
  · rw [if_pos he]
    exact (rdrop_calls h f).mono fun e w' ⟨g, _⟩ => YSays.err h (g he)
  · rw [if_neg he]
    exact (rdrop_calls h f).mono fun e w' ⟨_, g⟩ => by
      obtain ⟨a, b', c, d, k⟩ := g he
      exact ⟨b', a, c, d, k⟩

theorem new_twin {n : Nat} (n1 : 1 ≤ n) (n8 : n ≤ 8) : Twin (KS.new n) (RS.new n) := by
  have hn : (KS.new n).S.n = n := by show (rng n).length = n; exact rng_length n
  refine ⟨knew_inv n1 n8, by simp [KS.new], hn.symm, rfl, rfl, fun f => ?_, by simp [RS.new], by simp [RS.new], rfl⟩
  show (if f = 0 then some (tab n fun _ => false) else if f = 1 then some (tab n fun _ => true) else get [] f) = (get ([(0, 0), (1, 1)] : List (Int × Int)) f).map (KS.new n).S.T
  rw [get01]
  by_cases h0 : f = 0
  · rw [if_pos h0, if_pos h0, Option.map_some, T_zero, hn]
  · rw [if_neg h0, if_neg h0]
    by_cases h1 : f = 1
    · rw [if_pos h1, if_pos h1, Option.map_some, T_one, hn]
    · rw [if_neg h1, if_neg h1]
      rfl

end
end Go.Proofs.YtgjomknpjigkhaaGreatDoor
