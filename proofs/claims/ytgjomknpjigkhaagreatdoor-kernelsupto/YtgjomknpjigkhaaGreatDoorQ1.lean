/- Nodes as the document counts them: functions that come of fixing the first variables. -/
import Derived.Test.YtgjomknpjigkhaaGreatDoorBdd9
namespace Go.Proofs.YtgjomknpjigkhaaGreatDoor

/-- A list with one more, if it is not in it. -/
def ins {α : Type} [DecidableEq α] (l : List α) (x : α) : List α := if x ∈ l then l else l ++ [x]

theorem ins_mem {α : Type} [DecidableEq α] (l : List α) (x y : α) : y ∈ ins l x ↔ y ∈ l ∨ y = x := by
  unfold ins
  split
  · rename_i h
    exact ⟨.inl, fun | .inl a => a | .inr e => e ▸ h⟩
  · simp

theorem ins_nodup {α : Type} [DecidableEq α] {l : List α} (h : l.Nodup) (x : α) : (ins l x).Nodup := by
  unfold ins
  split
  · exact h
  · rename_i hx
    rw [List.nodup_append]
    refine ⟨h, by simp, fun a ha b hb => ?_⟩
    simp only [List.mem_singleton] at hb
    subst hb
    exact fun e => hx (e ▸ ha)

theorem ins_map {α β : Type} [DecidableEq α] [DecidableEq β] (f : α → β) (l : List α) (x : α) (h : ∀ y ∈ l, f y = f x → y = x) : ins (l.map f) (f x) = (ins l x).map f := by
  unfold ins
  by_cases hx : x ∈ l
  · rw [if_pos hx, if_pos (List.mem_map.2 ⟨x, hx, rfl⟩)]
  · rw [if_neg hx, if_neg, List.map_append]
    · rfl
    · intro hm
      obtain ⟨y, hy, e⟩ := List.mem_map.1 hm
      exact hx (h y hy e ▸ hy)

theorem ins_length {α : Type} [DecidableEq α] (l : List α) (x : α) : (ins l x).length ≤ l.length + 1 := by
  unfold ins
  split <;> simp

theorem code_more (σ : Int → Bool) (n : Nat) : code σ (n + 1) = code σ n + (if σ n then 2 ^ n else 0) := by
  have h := code_lt σ n
  show code σ n ||| _ = _
  split
  · have := Nat.two_pow_add_eq_or_of_lt h 1
    rw [Nat.mul_one] at this
    rw [Nat.or_comm, ← this, Nat.add_comm]
  · simp

/-- An assignment with a variable's value. -/
def setN (a i : Nat) (b : Bool) : Nat := a - (if a.testBit i then 2 ^ i else 0) + (if b then 2 ^ i else 0)

theorem setN_code (n a i : Nat) (ha : a < 2 ^ n) (hi : i < n) (b : Bool) : setN a i b = code (upd (asg (a : Int)) i b) n := by
  have e1 : a = code (asg (a : Int)) n := by
    refine Nat.eq_of_testBit_eq fun k => ?_
    rw [code_bit]
    by_cases hk : k < n
    · simp [hk, asg, bitB_nat]
    · simp only [hk, decide_false, Bool.false_and]
      exact Nat.testBit_lt_two_pow (Nat.lt_of_lt_of_le ha (Nat.pow_le_pow_right (by decide) (by omega)))
  have key : ∀ (σ : Int → Bool), code (upd σ i b) n = code σ n - (if σ i then 2 ^ i else 0) + (if b then 2 ^ i else 0) ∧ (if σ i then 2 ^ i else 0) ≤ code σ n := by
    intro σ
    clear e1
    have h0 : ∀ m, m ≤ i → code (upd σ i b) m = code σ m := by
      intro m hm
      refine Nat.eq_of_testBit_eq fun k => ?_
      rw [code_bit, code_bit]
      by_cases hk : k < m
      · have : (k : Int) ≠ i := by omega
        simp [hk, upd, this]
      · simp [hk]
    have hadd := code_more
    have h1 : ∀ m, i < m → code (upd σ i b) m = code σ m - (if σ i then 2 ^ i else 0) + (if b then 2 ^ i else 0) ∧ (if σ i then 2 ^ i else 0) ≤ code σ m := by
      intro m
      induction m with
      | zero => intro h; omega
      | succ m ih =>
        intro h
        rw [hadd, hadd]
        by_cases e : m = i
        · subst e
          rw [h0 m (Nat.le_refl _), upd_same]
          refine ⟨?_, by omega⟩
          omega
        · have h2 := ih (by omega)
          rw [upd_ne σ b (by omega : (m : Int) ≠ i)]
          obtain ⟨h3, h4⟩ := h2
          refine ⟨?_, by omega⟩
          rw [h3]
          omega
    exact h1 n hi
  have k1 := (key (asg (a : Int))).1
  rw [← e1] at k1
  rw [k1]
  unfold setN
  have : asg (a : Int) i = a.testBit i := by simp [asg, bitB_nat]
  rw [this]

theorem setN_lt (n a i : Nat) (ha : a < 2 ^ n) (hi : i < n) (b : Bool) : setN a i b < 2 ^ n := by
  rw [setN_code n a i ha hi]
  exact code_lt _ _

/-- A table with a variable fixed. -/
def fixT (n : Nat) (t : List Bool) (i : Nat) (b : Bool) : List Bool := (List.range (2 ^ n)).map fun a => (t[setN a i b]?).getD false

theorem fix_tab {n : Nat} {F : (Int → Bool) → Bool} (hF : ∀ σ τ : Int → Bool, (∀ v : Int, 0 ≤ v → v < n → σ v = τ v) → F σ = F τ) {i : Nat} (hi : i < n) (b : Bool) : fixT n (tab n F) i b = tab n (fun σ => F (upd σ i b)) := by
  unfold fixT tab
  refine List.map_congr_left fun a ha => ?_
  have ha := List.mem_range.1 ha
  rw [show ((List.range (2 ^ n)).map fun a : Nat => F (asg (a : Int)))[setN a i b]? = _ from tab_get (setN_lt n a i ha hi b)]
  show F _ = F _
  refine hF _ _ fun v v0 v1 => ?_
  rw [setN_code n a i ha hi, asg_code _ _ v0 v1]

theorem den_loc {S : ST} (hw : WF S) {f : Int} (okf : S.ok f) : ∀ σ τ : Int → Bool, (∀ v : Int, 0 ≤ v → v < S.n → σ v = τ v) → S.den f σ = S.den f τ :=
  fun σ τ h => den_congr hw okf σ τ fun v v0 v1 _ => h v v0 v1

/-- One level. -/
def lvl (n : Nat) (ord : List Int) (s : Nat) : List (List Bool) → List (List Bool) → List (List Bool) → List (List Bool) × List (List Bool)
  | [], all, next => (all, next)
  | f :: l, all, next =>
    if f = tab n (fun _ => false) ∨ f = tab n (fun _ => true) then lvl n ord s l all next
    else if s < n then lvl n ord s l (ins all f) (ins (ins next (fixT n f (ord.getD s 0).toNat false)) (fixT n f (ord.getD s 0).toNat true))
    else lvl n ord s l (ins all f) next

/-- So many levels, from one on. -/
def lvls (n : Nat) (ord : List Int) : Nat → Nat → List (List Bool) → List (List Bool) → List (List Bool)
  | 0, _, _, all => all
  | k + 1, s, l, all => lvls n ord k (s + 1) (lvl n ord s l all []).2 (lvl n ord s l all []).1

def nodesT (n : Nat) (ord : List Int) (l : List (List Bool)) : List (List Bool) := lvls n ord (n + 1) 0 l []

theorem Reach.weaken {S : ST} {r r' : List Int} (h : ∀ x ∈ r, 2 ≤ x → Reach S r' x) {f : Int} (hf : Reach S r f) : Reach S r' f :=
  hf (Reach S r') h fun _ _ _ _ a ht => ⟨fun h2 => a.low ht h2, fun h2 => a.high ht h2⟩

section
variable {S : ST} {roots : List Int}

/-- What is so amid a level. -/
structure Lv (S : ST) (roots : List Int) (s : Nat) (gs xs nx : List Int) : Prop where
  ok : ∀ g ∈ gs, S.ok g ∧ (s : Int) ≤ S.lev g ∧ (2 ≤ g → Reach S roots g)
  nd : xs.Nodup
  all : ∀ x ∈ xs, 2 ≤ x ∧ S.ok x ∧ Reach S roots x
  nxt : ∀ g ∈ nx, S.ok g ∧ (s : Int) + 1 ≤ S.lev g ∧ (2 ≤ g → Reach S roots g)
  full : ∀ f, Reach S roots f → f ∈ xs ∨ Reach S (gs ++ nx) f

abbrev ST.T (S : ST) (g : Int) : List Bool := tab S.n (S.den g)

theorem T_inj (hw : WF S) {f g : Int} (hf : S.ok f) (hg : S.ok g) (e : S.T g = S.T f) : g = f :=
  den_inj hw hg hf (tab_inj hw hw rfl hf hg e)

theorem T_const (hw : WF S) {g : Int} (hg : S.ok g) : (S.T g = tab S.n (fun _ => false) ∨ S.T g = tab S.n (fun _ => true)) ↔ g < 2 := by
  have e0 : tab S.n (fun _ => false) = S.T 0 := by unfold ST.T; congr 1; funext σ; rw [den_zero]
  have e1 : tab S.n (fun _ => true) = S.T 1 := by unfold ST.T; congr 1; funext σ; rw [den_one]
  rw [e0, e1]
  constructor
  · rintro (h | h)
    · have := T_inj hw (.inl rfl) hg h; omega
    · have := T_inj hw (.inr (.inl rfl)) hg h; omega
  · intro h
    rcases hg with rfl | rfl | ⟨h2, _⟩
    · exact .inl rfl
    · exact .inr rfl
    · omega

theorem Lv.go (hw : WF S) {s : Nat} (hs : s ≤ S.n) : ∀ (gs xs nx : List Int), Lv S roots s gs xs nx →
    ∃ xs' nx', lvl S.n S.order s (gs.map S.T) (xs.map S.T) (nx.map S.T) = (xs'.map S.T, nx'.map S.T) ∧ Lv S roots s [] xs' nx' := by
  intro gs
  induction gs with
  | nil => intro xs nx h; exact ⟨xs, nx, rfl, h⟩
  | cons g gs ih =>
    intro xs nx h
    obtain ⟨hg, hlv, hrg⟩ := h.ok g (by simp)
    simp only [List.map_cons, lvl]
    by_cases h2 : g < 2
    · rw [if_pos ((T_const hw hg).2 h2)]
      refine ih xs nx ⟨fun x hx => h.ok x (by simp [hx]), h.nd, h.all, h.nxt, fun f hf => ?_⟩
      rcases h.full f hf with a | a
      · exact .inl a
      · refine .inr (a.weaken fun x hx x2 => ?_)
        simp only [List.cons_append, List.mem_cons] at hx
        rcases hx with rfl | hx
        · omega
        · exact Reach.root hx x2
    · rw [if_neg (fun e => h2 ((T_const hw hg).1 e))]
      have g2 : 2 ≤ g := by omega
      have hlt := (lev_lt_iff hw hg).2 g2
      have hsn : s < S.n := by omega
      rw [if_pos hsn]
      have hget : S.order[s]? = some (S.order.getD s 0) := by
        rw [List.getD_eq_getElem?_getD, List.getElem?_eq_getElem hsn]; rfl
      obtain ⟨u0, u1, up⟩ := hw.ord.op s _ hget
      have hpl : S.pl (S.order.getD s 0) = s := by unfold ST.pl; rw [up]; rfl
      generalize S.order.getD s 0 = u at u0 u1 hpl
      obtain ⟨c1, c2, c3, c4, c5, c6, c7⟩ := cof_spec hw hg u0 u1 (by rw [hpl]; exact hlv)
      have hun : (u.toNat : Int) = u := by omega
      have f0 : fixT S.n (S.T g) u.toNat false = S.T (S.cof g u).1 := by
        unfold ST.T
        rw [fix_tab (den_loc hw hg) (by unfold ST.n; omega)]
        congr 1
        funext σ
        rw [hun, c7, upd_same, if_neg (by simp)]
        exact den_upd_above hw c1 u0 u1 c3 σ false
      have f1 : fixT S.n (S.T g) u.toNat true = S.T (S.cof g u).2 := by
        unfold ST.T
        rw [fix_tab (den_loc hw hg) (by unfold ST.n; omega)]
        congr 1
        funext σ
        rw [hun, c7, upd_same, if_pos rfl]
        exact den_upd_above hw c2 u0 u1 c4 σ true
      have inj : ∀ (l : List Int), (∀ y ∈ l, S.ok y) → ∀ x, S.ok x → ∀ y ∈ l, S.T y = S.T x → y = x := fun l hl x hx y hy e => T_inj hw hx (hl y hy) e
      rw [f0, f1, ins_map S.T xs g (inj xs (fun y hy => (h.all y hy).2.1) g hg), ins_map S.T nx _ (inj nx (fun y hy => (h.nxt y hy).1) _ c1),
        ins_map S.T (ins nx _) _ (inj _ (fun y hy => by rcases (ins_mem _ _ _).1 hy with a | rfl; exact (h.nxt y a).1; exact c1) _ c2)]
      have hchild : ∀ c, (c = (S.cof g u).1 ∨ c = (S.cof g u).2) → 2 ≤ c → Reach S roots c := by
        intro c hc c2'
        have hr := hrg g2
        obtain ⟨t, ht⟩ : ∃ t, get S.N g = some t := by
          rcases hg with rfl | rfl | ⟨_, t, ht⟩
          · omega
          · omega
          · exact ⟨t, ht⟩
        obtain ⟨v, l, hh⟩ := t
        unfold ST.cof at hc
        simp only [ht] at hc
        by_cases hv : 1 < g ∧ v = u
        · simp only [hv, and_self, if_true] at hc
          rcases hc with rfl | rfl
          · exact hr.low ht c2'
          · exact hr.high ht c2'
        · rw [if_neg hv] at hc
          have : c = g := by rcases hc with e | e <;> exact e
          rw [this]; exact hr
      refine ih _ _ ⟨fun x hx => h.ok x (by simp [hx]), ins_nodup h.nd g, fun x hx => ?_, fun x hx => ?_, fun f hf => ?_⟩
      · rcases (ins_mem _ _ _).1 hx with a | rfl
        · exact h.all x a
        · exact ⟨g2, hg, hrg g2⟩
      · rcases (ins_mem _ _ _).1 hx with a | rfl
        · rcases (ins_mem _ _ _).1 a with b | rfl
          · exact h.nxt x b
          · exact ⟨c1, by omega, hchild _ (.inl rfl)⟩
        · exact ⟨c2, by omega, hchild _ (.inr rfl)⟩
      · rcases h.full f hf with a | a
        · exact .inl ((ins_mem _ _ _).2 (.inl a))
        · have key : f = g ∨ Reach S (gs ++ ins (ins nx (S.cof g u).1) (S.cof g u).2) f := by
            have m1 : ∀ x, x ∈ gs ∨ x ∈ nx ∨ x = (S.cof g u).1 ∨ x = (S.cof g u).2 → x ∈ gs ++ ins (ins nx (S.cof g u).1) (S.cof g u).2 := by
              intro x hx
              rw [List.mem_append, ins_mem, ins_mem]
              rcases hx with hx | hx | hx | hx
              · exact .inl hx
              · exact .inr (.inl (.inl hx))
              · exact .inr (.inl (.inr hx))
              · exact .inr (.inr hx)
            refine a (fun f => f = g ∨ Reach S (gs ++ ins (ins nx (S.cof g u).1) (S.cof g u).2) f) (fun x hx x2 => ?_) (fun y v l hh hy ht => ?_)
            · simp only [List.cons_append, List.mem_cons, List.mem_append] at hx
              rcases hx with rfl | hx | hx
              · exact .inl rfl
              · exact .inr (Reach.root (m1 x (.inl hx)) x2)
              · exact .inr (Reach.root (m1 x (.inr (.inl hx))) x2)
            · rcases hy with rfl | hy
              · have hc : S.cof y u = (l, hh) ∨ S.cof y u = (y, y) := by
                  unfold ST.cof
                  simp only [ht]
                  by_cases hv : 1 < y ∧ v = u
                  · exact .inl (by simp [hv])
                  · exact .inr (by rw [if_neg hv])
                rcases hc with hc | hc
                · rw [hc] at m1
                  rw [hc]
                  exact ⟨fun l2 => .inr (Reach.root (m1 l (.inr (.inr (.inl rfl)))) l2), fun l2 => .inr (Reach.root (m1 hh (.inr (.inr (.inr rfl)))) l2)⟩
                · rw [hc] at m1
                  rw [hc]
                  have hy := Reach.root (S := S) (m1 y (.inr (.inr (.inl rfl)))) g2
                  exact ⟨fun l2 => .inr (hy.low ht l2), fun l2 => .inr (hy.high ht l2)⟩
              · exact ⟨fun l2 => .inr (hy.low ht l2), fun l2 => .inr (hy.high ht l2)⟩
          rcases key with rfl | key
          · exact .inl ((ins_mem _ _ _).2 (.inr rfl))
          · exact .inr key

theorem lvls_go (hw : WF S) : ∀ (k s : Nat) (gs xs : List Int), s + k = S.n + 1 → Lv S roots s gs xs [] → ∃ xs' : List Int, lvls S.n S.order k s (gs.map S.T) (xs.map S.T) = xs'.map S.T ∧ xs'.Nodup ∧ (∀ f, f ∈ xs' ↔ Reach S roots f) := by
  intro k
  induction k with
  | zero =>
    intro s gs xs hs h
    refine ⟨xs, rfl, h.nd, fun f => ⟨fun a => (h.all f a).2.2, fun a => ?_⟩⟩
    rcases h.full f a with b | b
    · exact b
    · refine (b (fun _ => False) (fun x hx x2 => ?_) (fun _ _ _ _ e _ => e.elim)).elim
      rw [List.append_nil] at hx
      obtain ⟨h1, h2, _⟩ := h.ok x hx
      have := lev_range hw h1
      omega
  | succ k ih =>
    intro s gs xs hs h
    obtain ⟨xs', nx', e, hL⟩ := Lv.go hw (by omega : s ≤ S.n) gs xs [] h
    rw [List.map_nil] at e
    unfold lvls
    rw [e]
    exact ih (s + 1) nx' xs' (by omega) ⟨fun g hg => by obtain ⟨a, b, c⟩ := hL.nxt g hg; exact ⟨a, by omega, c⟩, hL.nd, hL.all, by simp, fun f hf => by have := hL.full f hf; simpa using this⟩

/-- The document's nodes are as many as the diagram's. -/
theorem nodes_count (hw : WF S) (hr : RootsOk S roots) {ys : List Int} (hy : ys.Nodup) (hi : ∀ f, f ∈ ys ↔ Reach S roots f) : (nodesT S.n S.order (roots.map S.T)).length = ys.length := by
  obtain ⟨xs, e, h1, h2⟩ := lvls_go (roots := roots) hw (S.n + 1) 0 roots [] (by omega) ⟨fun g hg => ⟨hr g hg, (lev_range hw (hr g hg)).1, fun g2 => Reach.root hg g2⟩, by simp, by simp, by simp, fun f hf => .inr (by simpa using hf)⟩
  unfold nodesT
  rw [List.map_nil] at e
  rw [e, List.length_map]
  have a := nodup_len xs ys h1 fun f hf => (hi f).2 ((h2 f).1 hf)
  have b := nodup_len ys xs hy fun f hf => (h2 f).2 ((hi f).1 hf)
  omega

end
end Go.Proofs.YtgjomknpjigkhaaGreatDoor
