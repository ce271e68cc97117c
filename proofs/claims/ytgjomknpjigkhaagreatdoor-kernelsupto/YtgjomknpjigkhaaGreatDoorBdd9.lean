/- Bdd9. -/
import Derived.Test.YtgjomknpjigkhaaGreatDoorMBdd
import Derived.Test.YtgjomknpjigkhaaGreatDoorR5
import Derived.Test.YtgjomknpjigkhaaGreatDoorMFold
namespace Go.Proofs.YtgjomknpjigkhaaGreatDoor

/-- The number of an assignment. -/
def code (σ : Int → Bool) : Nat → Nat
  | 0 => 0
  | n + 1 => code σ n ||| (if σ n then 2 ^ n else 0)

theorem code_lt (σ : Int → Bool) : ∀ n, code σ n < 2 ^ n
  | 0 => by simp [code]
  | n + 1 => by
    have := code_lt σ n
    unfold code
    refine Nat.or_lt_two_pow ?_ ?_
    · exact Nat.lt_of_lt_of_le this (Nat.pow_le_pow_right (by decide) (by omega))
    · split
      · exact Nat.pow_lt_pow_right (by decide) (by omega)
      · exact Nat.two_pow_pos _

theorem code_bit (σ : Int → Bool) (k : Nat) : ∀ n, (code σ n).testBit k = (decide (k < n) && σ k)
  | 0 => by simp [code]
  | n + 1 => by
    unfold code
    rw [Nat.testBit_or, code_bit σ k n]
    by_cases e : k = n
    · subst e
      cases h : σ k <;> simp
    · have e2 : (if σ n then 2 ^ n else 0).testBit k = false := by
        have e3 : ¬ n = k := fun x => e x.symm
        split
        · simp [e3]
        · simp
      rw [e2, Bool.or_false]
      congr 1
      simp only [decide_eq_decide]
      omega

theorem asg_code (σ : Int → Bool) (n : Nat) {v : Int} (v0 : 0 ≤ v) (v1 : v < n) : asg (code σ n) v = σ v := by
  obtain ⟨k, rfl⟩ := Int.eq_ofNat_of_zero_le v0
  unfold asg
  rw [bitB_nat, code_bit]
  have : k < n := by omega
  simp [this]

theorem den_asg {S : ST} (hw : WF S) {f : Int} (okf : S.ok f) (σ : Int → Bool) : S.den f (asg (code σ S.n)) = S.den f σ :=
  den_congr hw okf _ _ fun _ v0 v1 _ => asg_code σ S.n v0 v1

/-- A function's table. -/
def tab (n : Nat) (F : (Int → Bool) → Bool) : List Bool := (List.range (2 ^ n)).map fun a : Nat => F (asg (a : Int))

theorem tab_length (n : Nat) (F : (Int → Bool) → Bool) : (tab n F).length = 2 ^ n := by simp [tab]
theorem tab_get {n : Nat} {F : (Int → Bool) → Bool} {a : Nat} (h : a < 2 ^ n) : (tab n F)[a]? = some (F (asg (a : Int))) := by simp [tab, h]

theorem tab_inj {S S' : ST} (hw : WF S) (hw' : WF S') (hn : S'.n = S.n) {f g : Int} (okf : S.ok f) (okg : S'.ok g) (h : tab S.n (S'.den g) = tab S.n (S.den f)) : ∀ σ, S'.den g σ = S.den f σ := by
  intro σ
  have h1 := congrArg (fun l : List Bool => l[code σ S.n]?) h
  rw [show (tab S.n (S'.den g))[code σ S.n]? = _ from tab_get (code_lt σ S.n), show (tab S.n (S.den f))[code σ S.n]? = _ from tab_get (code_lt σ S.n)] at h1
  have := Option.some.inj h1
  rw [den_asg hw okf] at this
  rw [← this, ← den_asg hw' okg, hn]

/-- The first k variables of a number, the rest of an assignment. -/
def mix (k a : Nat) (σ : Int → Bool) : Int → Bool := fun v => if 0 ≤ v ∧ v < k then asg (a : Int) v else σ v

theorem mix_false (k a : Nat) (ha : a < 2 ^ k) (σ : Int → Bool) : mix (k + 1) a σ = mix k a (upd σ k false) := by
  funext v
  unfold mix upd
  by_cases h1 : 0 ≤ v ∧ v < k
  · rw [if_pos ⟨h1.1, by omega⟩, if_pos h1]
  · rw [if_neg h1]
    by_cases h2 : v = k
    · subst h2
      rw [if_pos ⟨by omega, by omega⟩, if_pos rfl]
      unfold asg
      rw [bitB_nat]
      exact Nat.testBit_lt_two_pow ha
    · rw [if_neg h2, if_neg (by omega)]

theorem mix_true (k a : Nat) (ha : a < 2 ^ k) (σ : Int → Bool) : mix (k + 1) (2 ^ k + a) σ = mix k a (upd σ k true) := by
  funext v
  unfold mix upd
  by_cases h1 : 0 ≤ v ∧ v < k
  · rw [if_pos ⟨h1.1, by omega⟩, if_pos h1]
    obtain ⟨j, rfl⟩ := Int.eq_ofNat_of_zero_le h1.1
    unfold asg
    rw [bitB_nat, bitB_nat]
    exact Nat.testBit_two_pow_add_gt (by omega) a
  · rw [if_neg h1]
    by_cases h2 : v = k
    · subst h2
      rw [if_pos ⟨by omega, by omega⟩, if_pos rfl]
      unfold asg
      rw [bitB_nat, Nat.testBit_two_pow_add_eq, Nat.testBit_lt_two_pow ha]
      rfl
    · rw [if_neg h2, if_neg (by omega)]

theorem cntV_is (F : (Int → Bool) → Bool) : ∀ (k : Nat) (σ : Int → Bool), cntV k F σ = ((List.range (2 ^ k)).filter fun a => F (mix k a σ)).length
  | 0, σ => by
    have e : mix 0 0 σ = σ := by funext v; unfold mix; rw [if_neg (by omega)]
    simp only [cntV, Nat.pow_zero, List.range_one, List.filter_cons, List.filter_nil, e]
    split <;> rfl
  | k + 1, σ => by
    have e : 2 ^ (k + 1) = 2 ^ k + 2 ^ k := by rw [Nat.pow_succ]; omega
    unfold cntV
    rw [cntV_is F k, cntV_is F k, e, List.range_add, List.filter_append, List.length_append]
    congr 1
    · congr 1
      refine List.filter_congr fun a ha => ?_
      rw [mix_false k a (List.mem_range.1 ha)]
    · rw [List.filter_map, List.length_map]
      congr 1
      refine List.filter_congr fun a ha => ?_
      show F (mix k a (upd σ k true)) = F (mix (k + 1) (2 ^ k + a) σ)
      rw [mix_true k a (List.mem_range.1 ha)]

/-- How many are true: so many as the table has. -/
theorem cnt_tab {S : ST} (hw : WF S) {f : Int} (okf : S.ok f) : cntV S.n (S.den f) (fun _ => false) = ((tab S.n (S.den f)).filter id).length := by
  rw [cntV_is]
  unfold tab
  rw [List.filter_map, List.length_map]
  congr 1
  refine List.filter_congr fun a _ => ?_
  show S.den f (mix S.n a fun _ => false) = S.den f (asg (a : Int))
  exact den_congr hw okf _ _ fun v v0 v1 _ => by unfold mix; rw [if_pos ⟨v0, v1⟩]

/-- The way from a function down to a node of it. -/
theorem way {S : ST} (hw : WF S) {r : Int} (okr : S.ok r) {f : Int} (h : Reach S [r] f) : S.ok f ∧ ∃ τ : Int → Bool, ∀ ρ : Int → Bool, (∀ v : Int, 0 ≤ v → v < S.n → S.pl v < S.lev f → ρ v = τ v) → S.den r ρ = S.den f ρ := by
  refine h (fun f => S.ok f ∧ ∃ τ : Int → Bool, ∀ ρ : Int → Bool, (∀ v : Int, 0 ≤ v → v < S.n → S.pl v < S.lev f → ρ v = τ v) → S.den r ρ = S.den f ρ) ?_ ?_
  · intro x hx _
    simp only [List.mem_singleton] at hx
    subst hx
    exact ⟨okr, fun _ => false, fun _ _ => rfl⟩
  · rintro f u l hh ⟨okf, τ, hτ⟩ ht
    obtain ⟨_, _, u0, u1, _, okl, okh, pl, ph⟩ := hw.node f u l hh ht
    have hlev := lev_node hw ht
    dsimp only at hlev
    have step : ∀ (c : Int) (b : Bool), S.pl u < S.lev c → (∀ ρ : Int → Bool, ρ u = b → S.den f ρ = S.den c ρ) → ∃ τ' : Int → Bool, ∀ ρ : Int → Bool, (∀ v : Int, 0 ≤ v → v < S.n → S.pl v < S.lev c → ρ v = τ' v) → S.den r ρ = S.den c ρ := by
      intro c b hc hd
      refine ⟨upd τ u b, fun ρ hρ => ?_⟩
      have hu : ρ u = b := by rw [hρ u u0 u1 hc]; simp [upd]
      rw [← hd ρ hu]
      refine hτ ρ fun v v0 v1 hv => ?_
      have hne : v ≠ u := fun e => by rw [e] at hv; omega
      rw [hρ v v0 v1 (by omega)]
      simp [upd, hne]
    refine ⟨fun _ => ⟨okl, step l false pl fun ρ hρ => ?_⟩, fun _ => ⟨okh, step hh true ph fun ρ hρ => ?_⟩⟩
    · rw [den_node hw ht, hρ]; simp
    · rw [den_node hw ht, hρ]; simp

/-- A function hangs on the variables of its nodes, -/
theorem hangs_on {S : ST} (hw : WF S) {r : Int} (okr : S.ok r) {f v l h : Int} (hr : Reach S [r] f) (ht : get S.N f = some (v, l, h)) : ∃ σ, S.den r (upd σ v true) ≠ S.den r (upd σ v false) := by
  obtain ⟨okf, τ, hτ⟩ := way hw okr hr
  obtain ⟨_, _, v0, v1, _⟩ := hw.node f v l h ht
  have hlev := lev_node hw ht
  dsimp only at hlev
  apply Classical.byContradiction
  intro hno
  refine hangs hw ht fun σ => ?_
  have hno' : ∀ ρ, S.den r (upd ρ v true) = S.den r (upd ρ v false) := fun ρ => Classical.byContradiction fun hc => hno ⟨ρ, hc⟩
  have key : ∀ b, S.den r (upd (fun x => if S.pl x < S.lev f then τ x else σ x) v b) = S.den f (upd σ v b) := by
    intro b
    rw [hτ _ (fun x x0 x1 hx => by
      have hne : x ≠ v := fun e => by rw [e] at hx; omega
      simp [upd, hne, hx])]
    refine den_congr hw okf _ _ fun x x0 x1 hx => ?_
    unfold upd
    by_cases e : x = v
    · simp [e]
    · simp only [e, if_false]
      rw [if_neg (by omega)]
  rw [← key, ← key]
  exact hno' _

/-- .. and on no others. -/
theorem hangs_not {S : ST} (hw : WF S) {r : Int} (okr : S.ok r) {v : Int} (hno : ∀ f l h, Reach S [r] f → get S.N f ≠ some (v, l, h)) (σ : Int → Bool) (b c : Bool) : S.den r (upd σ v b) = S.den r (upd σ v c) := by
  have main := node_induct hw (p := fun f => (2 ≤ f → Reach S [r] f) → S.den f (upd σ v b) = S.den f (upd σ v c)) (fun _ => by rw [den_zero, den_zero]) (fun _ => by rw [den_one, den_one]) ?_ r okr
  · exact main fun h2 => Reach.root (by simp) h2
  · intro f u l h ht okl okh il ih hf
    have hr := hf (hw.node f u l h ht).1
    have hne : u ≠ v := fun e => hno f l h hr (by rw [ht, e])
    rw [den_node hw ht, den_node hw ht, il (fun h2 => hr.low ht h2), ih (fun h2 => hr.high ht h2)]
    simp [upd, hne]

end Go.Proofs.YtgjomknpjigkhaaGreatDoor
