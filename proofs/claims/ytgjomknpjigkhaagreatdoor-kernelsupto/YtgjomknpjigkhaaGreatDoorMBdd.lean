/- Assoc, Bdd, Bdd2, Bdd3, Bdd4, Bdd5, Bdd6, Bdd7, Bdd8. -/
namespace Go.Proofs.YtgjomknpjigkhaaGreatDoor

section
variable {α β : Type} [DecidableEq α]

def get (L : List (α × β)) (k : α) : Option β := (L.find? (fun p => decide (p.1 = k))).map Prod.snd

def put (L : List (α × β)) (k : α) (v : β) : List (α × β) :=
  if (get L k).isSome then L.map (fun p => if p.1 = k then (k, v) else p) else L ++ [(k, v)]

def del (L : List (α × β)) (k : α) : List (α × β) := L.filter (fun p => decide (p.1 ≠ k))

theorem get_nil (k : α) : get ([] : List (α × β)) k = none := rfl

theorem get_cons (p : α × β) (L : List (α × β)) (k : α) : get (p :: L) k = if p.1 = k then some p.2 else get L k := by
  unfold get
  by_cases h : p.1 = k <;> simp [h]

theorem get_none_iff {L : List (α × β)} {k : α} : get L k = none ↔ ∀ p ∈ L, p.1 ≠ k := by
  induction L with
  | nil => simp [get_nil]
  | cons p L ih =>
    rw [get_cons]
    by_cases h : p.1 = k
    · simp [h]
    · simp [h, ih]

theorem get_some_mem {L : List (α × β)} {k : α} {v : β} (h : get L k = some v) : (k, v) ∈ L := by
  induction L with
  | nil => simp [get_nil] at h
  | cons p L ih =>
    rw [get_cons] at h
    by_cases hp : p.1 = k
    · simp [hp] at h; subst h; subst hp; simp
    · simp [hp] at h; exact List.mem_cons_of_mem _ (ih h)

theorem get_of_mem {L : List (α × β)} (hn : (L.map Prod.fst).Nodup) {k : α} {v : β} (h : (k, v) ∈ L) : get L k = some v := by
  induction L with
  | nil => simp at h
  | cons p L ih =>
    rw [get_cons]
    simp only [List.map_cons, List.nodup_cons] at hn
    rcases List.mem_cons.1 h with rfl | h
    · simp
    · have : p.1 ≠ k := fun e => hn.1 (by rw [e]; exact List.mem_map.2 ⟨_, h, rfl⟩)
      simp [this, ih hn.2 h]

theorem get_append (L M : List (α × β)) (k : α) : get (L ++ M) k = (get L k).or (get M k) := by
  induction L with
  | nil => simp [get_nil]
  | cons p L ih =>
    rw [List.cons_append, get_cons, get_cons, ih]
    by_cases h : p.1 = k <;> simp [h]

theorem get_put (L : List (α × β)) (k : α) (v : β) (k' : α) : get (put L k v) k' = if k' = k then some v else get L k' := by
  unfold put
  cases hk : (get L k).isSome with
  | true =>
    simp only [if_true]
    have key : ∀ M : List (α × β), get (M.map (fun p => if p.1 = k then (k, v) else p)) k' = if k' = k then (if (get M k).isSome then some v else none) else get M k' := by
      intro M
      induction M with
      | nil => simp [get_nil]
      | cons p M ih =>
        rw [List.map_cons, get_cons, ih, get_cons, get_cons]
        by_cases hp : p.1 = k
        · simp only [hp, if_true]
          by_cases hkk : k = k'
          · subst hkk; simp
          · have : ¬ k' = k := fun e => hkk e.symm
            simp [hkk, this]
        · simp only [hp, if_false]
          by_cases hpk : p.1 = k'
          · have : ¬ k' = k := fun e => hp (hpk.trans e)
            simp [hpk, this]
          · simp [hpk]
    rw [key L]
    simp [hk]
  | false =>
    simp only [Bool.false_eq_true, if_false]
    rw [get_append, get_cons, get_nil]
    have hn : get L k = none := by simpa using hk
    by_cases h : k' = k
    · subst h; simp [hn]
    · have : ¬ k = k' := fun e => h e.symm
      simp [h, this]

theorem get_del (L : List (α × β)) (k k' : α) : get (del L k) k' = if k' = k then none else get L k' := by
  unfold del
  induction L with
  | nil => simp [get_nil]
  | cons p L ih =>
    by_cases hp : p.1 = k
    · rw [List.filter_cons_of_neg (by simp [hp]), ih, get_cons]
      by_cases h : k' = k
      · simp [h]
      · have : ¬ p.1 = k' := fun e => h (e.symm.trans hp)
        simp [h, this]
    · rw [List.filter_cons_of_pos (by simp [hp]), get_cons, ih, get_cons]
      by_cases h : p.1 = k'
      · have : ¬ k' = k := fun e => hp (h.trans e)
        simp [h, this]
      · simp [h]

theorem keys_put (L : List (α × β)) (k : α) (v : β) : (put L k v).map Prod.fst = if (get L k).isSome then L.map Prod.fst else L.map Prod.fst ++ [k] := by
  unfold put
  cases (get L k).isSome with
  | true =>
    simp only [if_true, List.map_map]
    apply List.map_congr_left
    intro p _
    by_cases h : p.1 = k <;> simp [h]
  | false => simp

theorem nodup_put {L : List (α × β)} (hn : (L.map Prod.fst).Nodup) (k : α) (v : β) : ((put L k v).map Prod.fst).Nodup := by
  rw [keys_put]
  cases hk : (get L k).isSome with
  | true => simpa using hn
  | false =>
    have h0 : get L k = none := by simpa using hk
    simp only [Bool.false_eq_true, if_false]
    rw [List.nodup_append]
    refine ⟨hn, by simp, fun a ha b hb => ?_⟩
    simp only [List.mem_singleton] at hb
    subst hb
    obtain ⟨p, hp, rfl⟩ := List.mem_map.1 ha
    exact get_none_iff.1 h0 p hp

theorem nodup_del {L : List (α × β)} (hn : (L.map Prod.fst).Nodup) (k : α) : ((del L k).map Prod.fst).Nodup :=
  List.Nodup.sublist (List.Sublist.map _ List.filter_sublist) hn

theorem length_put_le (L : List (α × β)) (k : α) (v : β) : (put L k v).length ≤ L.length + 1 := by
  unfold put; split <;> simp

theorem length_put_new {L : List (α × β)} {k : α} (v : β) (h : get L k = none) : (put L k v).length = L.length + 1 := by
  unfold put; simp [h]

theorem length_del {L : List (α × β)} (hn : (L.map Prod.fst).Nodup) {k : α} {v : β} (h : get L k = some v) : (del L k).length + 1 = L.length := by
  unfold del
  induction L with
  | nil => simp [get_nil] at h
  | cons p L ih =>
    rw [get_cons] at h
    simp only [List.map_cons, List.nodup_cons] at hn
    by_cases hp : p.1 = k
    · rw [List.filter_cons_of_neg (by simp [hp])]
      have : L.filter (fun p => decide (p.1 ≠ k)) = L := by
        rw [List.filter_eq_self]
        intro q hq
        have : q.1 ≠ k := fun e => hn.1 (by rw [hp, ← e]; exact List.mem_map.2 ⟨_, hq, rfl⟩)
        simpa using this
      rw [this, List.length_cons]
    · rw [List.filter_cons_of_pos (by simp [hp])]
      simp only [hp, if_false] at h
      rw [List.length_cons, ih hn.2 h, List.length_cons]

theorem put_replaces {L : List (α × β)} (hn : (L.map Prod.fst).Nodup) {a : α} {v : β} {j : Nat} (v' : β) (hj : L[j]? = some (a, v)) :
    L.map (fun p => if p.1 = a then (a, v') else p) = L.set j (a, v') := by
  induction L generalizing j with
  | nil => simp at hj
  | cons p L ih =>
    simp only [List.map_cons, List.nodup_cons] at hn
    cases j with
    | zero =>
      simp only [List.getElem?_cons_zero, Option.some.injEq] at hj
      subst hj
      simp only [List.map_cons, if_true, List.set_cons_zero, List.cons.injEq, true_and]
      conv => rhs; rw [← List.map_id L]
      apply List.map_congr_left
      intro q hq
      have : q.1 ≠ a := fun e => hn.1 (by rw [← e]; exact List.mem_map.2 ⟨_, hq, rfl⟩)
      simp [this]
    | succ j =>
      simp only [List.getElem?_cons_succ] at hj
      have : p.1 ≠ a := fun e => hn.1 (by rw [e]; exact List.mem_map.2 ⟨_, List.mem_of_getElem? hj, rfl⟩)
      simp only [List.map_cons, this, if_false, List.set_cons_succ, ih hn.2 hj]

theorem del_erases {L : List (α × β)} (hn : (L.map Prod.fst).Nodup) {a : α} {v : β} {j : Nat} (hj : L[j]? = some (a, v)) : del L a = L.eraseIdx j := by
  unfold del
  induction L generalizing j with
  | nil => simp at hj
  | cons p L ih =>
    simp only [List.map_cons, List.nodup_cons] at hn
    cases j with
    | zero =>
      simp only [List.getElem?_cons_zero, Option.some.injEq] at hj
      subst hj
      rw [List.filter_cons_of_neg (by simp), List.eraseIdx_cons_zero, List.filter_eq_self]
      intro q hq
      have : q.1 ≠ a := fun e => hn.1 (by rw [← e]; exact List.mem_map.2 ⟨_, hq, rfl⟩)
      simpa using this
    | succ j =>
      simp only [List.getElem?_cons_succ] at hj
      have : p.1 ≠ a := fun e => hn.1 (by rw [e]; exact List.mem_map.2 ⟨_, List.mem_of_getElem? hj, rfl⟩)
      rw [List.filter_cons_of_pos (by simpa using this), List.eraseIdx_cons_succ, ih hn.2 hj]

theorem del_absent {L : List (α × β)} {a : α} (h : get L a = none) : del L a = L := by
  unfold del
  rw [List.filter_eq_self]
  intro q hq
  simpa using get_none_iff.1 h q hq

end

end Go.Proofs.YtgjomknpjigkhaaGreatDoor

namespace Go.Proofs.YtgjomknpjigkhaaGreatDoor

abbrev Tri := Int × Int × Int

/-- What a store holds. -/
structure ST where
  order : List Int
  place : List Int
  N : List (Int × Tri)
  U : List (Tri × Int)
  next : Int
  K : List (Tri × Int)

def ST.n (S : ST) : Nat := S.order.length
def ST.pl (S : ST) (v : Int) : Int := (S.place[v.toNat]?).getD 0
def ST.lev (S : ST) (f : Int) : Int := if f ≤ 1 then S.n else match get S.N f with | some t => S.pl t.1 | none => 0
def ST.ok (S : ST) (f : Int) : Prop := f = 0 ∨ f = 1 ∨ (2 ≤ f ∧ ∃ t, get S.N f = some t)

/-- An order and its places. -/
structure Ordered (order place : List Int) : Prop where
  len : place.length = order.length
  op : ∀ (i : Nat) (v : Int), order[i]? = some v → 0 ≤ v ∧ v < order.length ∧ place[v.toNat]? = some (i : Int)
  po : ∀ (v : Nat) (p : Int), place[v]? = some p → 0 ≤ p ∧ p < order.length ∧ order[p.toNat]? = some (v : Int)

structure WF (S : ST) : Prop where
  ord : Ordered S.order S.place
  two : 2 ≤ S.next
  node : ∀ f v l h, get S.N f = some (v, l, h) → 2 ≤ f ∧ f < S.next ∧ 0 ≤ v ∧ v < S.n ∧ l ≠ h ∧ S.ok l ∧ S.ok h ∧ S.pl v < S.lev l ∧ S.pl v < S.lev h
  inv : ∀ t f, get S.U t = some f ↔ get S.N f = some t

def ev (N : List (Int × Tri)) : Nat → Int → (Int → Bool) → Bool
  | 0, f, _ => decide (f = 1)
  | k + 1, f, σ => if f ≤ 1 then decide (f = 1) else match get N f with
    | none => false
    | some t => if σ t.1 then ev N k t.2.2 σ else ev N k t.2.1 σ

def ST.den (S : ST) (f : Int) (σ : Int → Bool) : Bool := ev S.N S.n f σ

section
variable {S : ST}

theorem WF.pl_range (h : WF S) {v : Int} (h0 : 0 ≤ v) (h1 : v < S.n) : 0 ≤ S.pl v ∧ S.pl v < S.n ∧ S.order[(S.pl v).toNat]? = some v ∧ S.place[v.toNat]? = some (S.pl v) := by
  have hl : v.toNat < S.place.length := by rw [h.ord.len]; unfold ST.n at h1; omega
  have e : S.place[v.toNat]? = some (S.place[v.toNat]) := List.getElem?_eq_getElem hl
  obtain ⟨a, b, c⟩ := h.ord.po _ _ e
  have ep : S.pl v = S.place[v.toNat] := by unfold ST.pl; rw [e]; rfl
  rw [ep]
  refine ⟨a, b, ?_, e⟩
  rw [c]; congr 1; omega

theorem WF.pl_inj (h : WF S) {u v : Int} (u0 : 0 ≤ u) (u1 : u < S.n) (v0 : 0 ≤ v) (v1 : v < S.n) (e : S.pl u = S.pl v) : u = v := by
  obtain ⟨_, _, a, _⟩ := h.pl_range u0 u1
  obtain ⟨_, _, b, _⟩ := h.pl_range v0 v1
  rw [e, b] at a
  exact (Option.some.inj a).symm

theorem lev_low {f : Int} (h : f ≤ 1) : S.lev f = S.n := by simp [ST.lev, h]
theorem lev_node (hw : WF S) {f : Int} {t : Tri} (h : get S.N f = some t) : S.lev f = S.pl t.1 := by
  obtain ⟨v, l, r⟩ := t
  have := (hw.node f v l r h).1
  have : ¬ f ≤ 1 := by omega
  simp [ST.lev, this, h]

theorem lev_range (hw : WF S) {f : Int} (h : S.ok f) : 0 ≤ S.lev f ∧ S.lev f ≤ S.n := by
  rcases h with rfl | rfl | ⟨_, t, ht⟩
  · rw [lev_low (by omega)]; omega
  · rw [lev_low (by omega)]; omega
  · rw [lev_node hw ht]
    obtain ⟨v, l, r⟩ := t
    obtain ⟨_, _, a, b, _⟩ := hw.node f v l r ht
    have := hw.pl_range a b
    dsimp only
    exact ⟨this.1, by omega⟩

theorem lev_lt_iff (hw : WF S) {f : Int} (h : S.ok f) : S.lev f < S.n ↔ 2 ≤ f := by
  rcases h with rfl | rfl | ⟨h2, t, ht⟩
  · rw [lev_low (by omega)]; omega
  · rw [lev_low (by omega)]; omega
  · rw [lev_node hw ht]
    obtain ⟨v, l, r⟩ := t
    obtain ⟨_, _, a, b, _⟩ := hw.node f v l r ht
    have := hw.pl_range a b
    exact ⟨fun _ => h2, fun _ => this.2.1⟩

/-- More fuel than is wanted changes nothing. -/
theorem ev_fuel (hw : WF S) : ∀ (k : Nat) (f : Int) (σ : Int → Bool), S.ok f → (S.n : Int) - S.lev f ≤ k → ev S.N (k + 1) f σ = ev S.N k f σ
  | 0, f, σ, hf, hk => by
    rcases hf with rfl | rfl | ⟨h2, t, ht⟩
    · simp [ev]
    · simp [ev]
    · exfalso
      have := (lev_lt_iff hw (.inr (.inr ⟨h2, t, ht⟩))).2 h2
      omega
  | k + 1, f, σ, hf, hk => by
    rcases hf with rfl | rfl | ⟨h2, t, ht⟩
    · simp [ev]
    · simp [ev]
    · have h1 : ¬ f ≤ 1 := by omega
      obtain ⟨v, l, r⟩ := t
      have hn := hw.node f v l r ht
      rw [lev_node hw ht] at hk
      dsimp only at hk
      rw [ev, ev]
      simp only [h1, if_false, ht]
      rw [ev_fuel hw k r σ hn.2.2.2.2.2.2.1 (by omega), ev_fuel hw k l σ hn.2.2.2.2.2.1 (by omega)]

theorem ev_enough (hw : WF S) {k : Nat} {f : Int} (σ : Int → Bool) (hf : S.ok f) (hk : (S.n : Int) - S.lev f ≤ k) : ∀ (m : Nat), ev S.N (k + m) f σ = ev S.N k f σ
  | 0 => rfl
  | m + 1 => by rw [← Nat.add_assoc, ev_fuel hw (k + m) f σ hf (by omega), ev_enough hw σ hf hk m]

theorem den_zero (σ : Int → Bool) : S.den 0 σ = false := by unfold ST.den; cases S.n <;> simp [ev]
theorem den_one (σ : Int → Bool) : S.den 1 σ = true := by unfold ST.den; cases S.n <;> simp [ev]

theorem den_node (hw : WF S) {f v l h : Int} (ht : get S.N f = some (v, l, h)) (σ : Int → Bool) : S.den f σ = if σ v then S.den h σ else S.den l σ := by
  have hn := hw.node f v l h ht
  have hp := hw.pl_range hn.2.2.1 hn.2.2.2.1
  have h1 : ¬ f ≤ 1 := by omega
  unfold ST.den
  obtain ⟨m, hm⟩ : ∃ m, S.n = m + 1 := ⟨S.n - 1, by omega⟩
  have el : ev S.N S.n l σ = ev S.N m l σ := by rw [hm]; exact ev_fuel hw m l σ hn.2.2.2.2.2.1 (by omega)
  have eh : ev S.N S.n h σ = ev S.N m h σ := by rw [hm]; exact ev_fuel hw m h σ hn.2.2.2.2.2.2.1 (by omega)
  rw [el, eh, hm, ev]
  simp only [h1, if_false, ht]

/-- Induction from the constants upwards. -/
theorem node_induct (hw : WF S) {p : Int → Prop} (p0 : p 0) (p1 : p 1) (step : ∀ f v l h, get S.N f = some (v, l, h) → S.ok l → S.ok h → p l → p h → p f) : ∀ f, S.ok f → p f := by
  have key : ∀ (m : Nat) (f : Int), S.ok f → (S.n : Int) - S.lev f ≤ m → p f := by
    intro m
    induction m with
    | zero =>
      intro f hf hm
      rcases hf with rfl | rfl | ⟨h2, t, ht⟩
      · exact p0
      · exact p1
      · exfalso
        have := (lev_lt_iff hw (.inr (.inr ⟨h2, t, ht⟩))).2 h2
        omega
    | succ m ih =>
      intro f hf hm
      rcases hf with rfl | rfl | ⟨h2, t, ht⟩
      · exact p0
      · exact p1
      · obtain ⟨v, l, h⟩ := t
        have hn := hw.node f v l h ht
        rw [lev_node hw ht] at hm
        dsimp only at hm
        exact step f v l h ht hn.2.2.2.2.2.1 hn.2.2.2.2.2.2.1 (ih l hn.2.2.2.2.2.1 (by omega)) (ih h hn.2.2.2.2.2.2.1 (by omega))
  intro f hf
  exact key S.n f hf (by have := (lev_range hw hf).1; omega)

/-- A function hangs on nothing above its level. -/
theorem den_congr (hw : WF S) {f : Int} (hf : S.ok f) : ∀ (σ τ : Int → Bool), (∀ v : Int, 0 ≤ v → v < S.n → S.lev f ≤ S.pl v → σ v = τ v) → S.den f σ = S.den f τ := by
  refine node_induct hw (p := fun f => ∀ (σ τ : Int → Bool), (∀ v : Int, 0 ≤ v → v < S.n → S.lev f ≤ S.pl v → σ v = τ v) → S.den f σ = S.den f τ) ?_ ?_ ?_ f hf
  · intro σ τ _; rw [den_zero, den_zero]
  · intro σ τ _; rw [den_one, den_one]
  · intro f v l h ht hl hh il ih σ τ hst
    have hn := hw.node f v l h ht
    rw [lev_node hw ht] at hst
    dsimp only at hst
    rw [den_node hw ht, den_node hw ht, hst v hn.2.2.1 hn.2.2.2.1 (Int.le_refl _)]
    rw [ih σ τ (fun u u0 u1 u2 => hst u u0 u1 (by omega)), il σ τ (fun u u0 u1 u2 => hst u u0 u1 (by omega))]

def upd (σ : Int → Bool) (v : Int) (b : Bool) : Int → Bool := fun u => if u = v then b else σ u

theorem den_upd_above (hw : WF S) {f v : Int} (hf : S.ok f) (v0 : 0 ≤ v) (v1 : v < S.n) (hv : S.pl v < S.lev f) (σ : Int → Bool) (b : Bool) : S.den f (upd σ v b) = S.den f σ :=
  den_congr hw hf _ _ fun u u0 u1 u2 => by
    have : u ≠ v := fun e => by subst e; omega
    simp [upd, this]

/-- One function has one number. -/
theorem canon (hw : WF S) : ∀ (m : Nat) (f g : Int), S.ok f → S.ok g → (S.n : Int) - S.lev f ≤ m ∧ (S.n : Int) - S.lev g ≤ m → (∀ σ, S.den f σ = S.den g σ) → f = g := by
  intro m
  induction m with
  | zero =>
    intro f g hf hg hm he
    have a := lev_range hw hf
    have b := lev_range hw hg
    have f2 : ¬ 2 ≤ f := fun h => by have := (lev_lt_iff hw hf).2 h; omega
    have g2 : ¬ 2 ≤ g := fun h => by have := (lev_lt_iff hw hg).2 h; omega
    have := he (fun _ => true)
    rcases hf with rfl | rfl | ⟨h2, _⟩
    · rcases hg with rfl | rfl | ⟨h2, _⟩
      · rfl
      · rw [den_zero, den_one] at this; cases this
      · exact absurd h2 g2
    · rcases hg with rfl | rfl | ⟨h2, _⟩
      · rw [den_zero, den_one] at this; cases this
      · rfl
      · exact absurd h2 g2
    · exact absurd h2 f2
  | succ m ih =>
    intro f g hf hg hm he
    have a := lev_range hw hf
    have b := lev_range hw hg
    -- one that lies strictly above the other has two branches that are the same
    have strict : ∀ f g, S.ok f → S.ok g → S.lev f < S.lev g → (S.n : Int) - S.lev f ≤ m + 1 ∧ (S.n : Int) - S.lev g ≤ m + 1 → (∀ σ, S.den f σ = S.den g σ) → False := by
      intro f g hf hg hlt hm he
      have b := lev_range hw hg
      have f2 := (lev_lt_iff hw hf).1 (by omega)
      rcases hf with rfl | rfl | ⟨_, t, ht⟩
      · omega
      · omega
      · obtain ⟨v, l, h⟩ := t
        have hn := hw.node f v l h ht
        rw [lev_node hw ht] at hlt hm
        dsimp only at hlt hm
        obtain ⟨_, _, v0, v1, lh, okl, okh, pll, plh⟩ := hn
        have hll := lev_range hw okl
        have hlh := lev_range hw okh
        refine lh (ih l h okl okh (by omega) fun σ => ?_)
        have e1 := he (upd σ v false)
        have e2 := he (upd σ v true)
        rw [den_node hw ht, den_upd_above hw hg v0 v1 hlt] at e1 e2
        rw [show upd σ v false v = false by simp [upd]] at e1
        rw [show upd σ v true v = true by simp [upd], if_pos rfl] at e2
        have e3 := den_upd_above hw okl v0 v1 pll σ false
        have e4 := den_upd_above hw okh v0 v1 plh σ true
        simp only [Bool.false_eq_true, if_false] at e1
        rw [e3] at e1
        rw [e4] at e2
        rw [e1, e2]
    rcases Int.lt_trichotomy (S.lev f) (S.lev g) with hlt | heq | hgt
    · exact (strict f g hf hg hlt hm he).elim
    · by_cases f2 : 2 ≤ f
      · have hfl := (lev_lt_iff hw hf).2 f2
        have g2 := (lev_lt_iff hw hg).1 (by omega)
        rcases hf with rfl | rfl | ⟨_, t, ht⟩
        · omega
        · omega
        rcases hg with rfl | rfl | ⟨_, u, hu⟩
        · omega
        · omega
        obtain ⟨v, l, h⟩ := t
        obtain ⟨v', l', h'⟩ := u
        have hn := hw.node f v l h ht
        have hn' := hw.node g v' l' h' hu
        rw [lev_node hw ht, lev_node hw hu] at heq
        rw [lev_node hw ht, lev_node hw hu] at hm
        dsimp only at heq hm
        obtain ⟨_, _, v0, v1, lh, okl, okh, pll, plh⟩ := hn
        obtain ⟨_, _, v0', v1', lh', okl', okh', pll', plh'⟩ := hn'
        have ev := hw.pl_inj v0 v1 v0' v1' heq
        subst ev
        have hll := lev_range hw okl
        have hlh := lev_range hw okh
        have hll' := lev_range hw okl'
        have hlh' := lev_range hw okh'
        have el : l = l' := ih l l' okl okl' (by omega) fun σ => by
          have e1 := he (upd σ v false)
          rw [den_node hw ht, den_node hw hu] at e1
          have e3 := den_upd_above hw okl v0 v1 pll σ false
          have e4 := den_upd_above hw okl' v0 v1 pll' σ false
          rw [← e3, ← e4]
          simpa [upd] using e1
        have eh : h = h' := ih h h' okh okh' (by omega) fun σ => by
          have e1 := he (upd σ v true)
          rw [den_node hw ht, den_node hw hu] at e1
          have e3 := den_upd_above hw okh v0 v1 plh σ true
          have e4 := den_upd_above hw okh' v0 v1 plh' σ true
          rw [← e3, ← e4]
          simpa [upd] using e1
        subst el; subst eh
        have i1 := (hw.inv _ _).2 ht
        have i2 := (hw.inv _ _).2 hu
        rw [i1] at i2
        exact Option.some.inj i2
      · have g2 : ¬ 2 ≤ g := fun h => by
          have := (lev_lt_iff hw hg).2 h
          have := (lev_lt_iff hw hf).1 (by omega)
          omega
        have := he (fun _ => true)
        rcases hf with rfl | rfl | ⟨h2, _⟩
        · rcases hg with rfl | rfl | ⟨h2, _⟩
          · rfl
          · rw [den_zero, den_one] at this; cases this
          · exact absurd h2 g2
        · rcases hg with rfl | rfl | ⟨h2, _⟩
          · rw [den_zero, den_one] at this; cases this
          · rfl
          · exact absurd h2 g2
        · exact absurd h2 f2
    · exact (strict g f hg hf hgt (by omega) fun σ => (he σ).symm).elim

theorem den_inj (hw : WF S) {f g : Int} (hf : S.ok f) (hg : S.ok g) (he : ∀ σ, S.den f σ = S.den g σ) : f = g :=
  canon hw S.n f g hf hg ⟨by have := (lev_range hw hf).1; omega, by have := (lev_range hw hg).1; omega⟩ he

/-- More nodes; what was there is there. -/
structure Sub (S S' : ST) : Prop where
  order : S'.order = S.order
  place : S'.place = S.place
  next : S.next ≤ S'.next
  node : ∀ f t, get S.N f = some t → get S'.N f = some t

theorem Sub.refl (S : ST) : Sub S S := ⟨rfl, rfl, Int.le_refl _, fun _ _ h => h⟩
theorem Sub.trans {A B C : ST} (h : Sub A B) (k : Sub B C) : Sub A C := ⟨k.order.trans h.order, k.place.trans h.place, Int.le_trans h.next k.next, fun f t ht => k.node f t (h.node f t ht)⟩

variable {S' : ST}
theorem Sub.n (h : Sub S S') : S'.n = S.n := by unfold ST.n; rw [h.order]
theorem Sub.pl (h : Sub S S') (v : Int) : S'.pl v = S.pl v := by unfold ST.pl; rw [h.place]
theorem Sub.ok (h : Sub S S') {f : Int} (hf : S.ok f) : S'.ok f := by
  rcases hf with h0 | h0 | ⟨h2, t, ht⟩
  · exact .inl h0
  · exact .inr (.inl h0)
  · exact .inr (.inr ⟨h2, t, h.node f t ht⟩)
theorem Sub.lev (h : Sub S S') {f : Int} (hf : S.ok f) : S'.lev f = S.lev f := by
  rcases hf with rfl | rfl | ⟨h2, t, ht⟩
  · rw [lev_low (by omega), lev_low (by omega), h.n]
  · rw [lev_low (by omega), lev_low (by omega), h.n]
  · have : ¬ f ≤ 1 := by omega
    simp only [ST.lev, this, if_false, ht, h.node f t ht, h.pl]
theorem Sub.den (h : Sub S S') (hw : WF S) (hw' : WF S') {f : Int} (hf : S.ok f) (σ : Int → Bool) : S'.den f σ = S.den f σ := by
  refine node_induct hw (p := fun f => S'.den f σ = S.den f σ) ?_ ?_ ?_ f hf
  · rw [den_zero, den_zero]
  · rw [den_one, den_one]
  · intro f v l h' ht _ _ il ih
    rw [den_node hw ht, den_node hw' (h.node _ _ ht), il, ih]

end

/-- .. and as many nodes more as numbers were given. -/
structure Ext (S S' : ST) : Prop extends Sub S S' where
  len : (S'.N.length : Int) - S'.next = (S.N.length : Int) - S.next

theorem Ext.refl (S : ST) : Ext S S := ⟨Sub.refl S, rfl⟩
theorem Ext.trans {A B C : ST} (h : Ext A B) (k : Ext B C) : Ext A C := ⟨h.toSub.trans k.toSub, k.len.trans h.len⟩

/-- A node more. -/
def ST.add (S : ST) (t : Tri) : ST := { S with N := put S.N S.next t, U := put S.U t S.next, next := S.next + 1 }

theorem add_ext {S : ST} (hw : WF S) (t : Tri) : Ext S (S.add t) := by
  have hnone : get S.N S.next = none := by
    cases hg : get S.N S.next with
    | none => rfl
    | some u => obtain ⟨a, b, c⟩ := u; have := hw.node _ a b c hg; omega
  refine ⟨⟨rfl, rfl, by simp [ST.add]; omega, fun f u hu => ?_⟩, ?_⟩
  · obtain ⟨v, l, h⟩ := u
    have := hw.node f v l h hu
    have hne : f ≠ S.next := by omega
    simp [ST.add, get_put, hne, hu]
  · have e := length_put_new t hnone
    simp only [ST.add]
    rw [e]
    omega

theorem add_wf {S : ST} (hw : WF S) {v l h : Int} (v0 : 0 ≤ v) (v1 : v < S.n) (hlh : l ≠ h) (okl : S.ok l) (okh : S.ok h) (pl : S.pl v < S.lev l) (ph : S.pl v < S.lev h) (hnew : get S.U (v, l, h) = none) :
    WF (S.add (v, l, h)) ∧ get (S.add (v, l, h)).N S.next = some (v, l, h) := by
  have hx := add_ext hw (v, l, h)
  have hat : get (S.add (v, l, h)).N S.next = some (v, l, h) := by simp [ST.add, get_put]
  have hnone : get S.N S.next = none := by
    cases hg : get S.N S.next with
    | none => rfl
    | some u => obtain ⟨a, b, c⟩ := u; have := hw.node _ a b c hg; omega
  refine ⟨⟨hw.ord, by have := hw.two; simp [ST.add]; omega, ?_, ?_⟩, hat⟩
  · intro f a b c hg
    have hn : (S.add (v, l, h)).n = S.n := rfl
    have hp : ∀ u, (S.add (v, l, h)).pl u = S.pl u := fun _ => rfl
    have hnx : (S.add (v, l, h)).next = S.next + 1 := rfl
    by_cases hf : f = S.next
    · subst hf
      rw [hat] at hg
      have e := Option.some.inj hg
      simp only [Prod.mk.injEq] at e
      obtain ⟨rfl, rfl, rfl⟩ := e
      rw [hn, hp, hx.lev okl, hx.lev okh, hnx]
      exact ⟨hw.two, by omega, v0, v1, hlh, hx.ok okl, hx.ok okh, pl, ph⟩
    · have hg' : get S.N f = some (a, b, c) := by simpa [ST.add, get_put, hf] using hg
      obtain ⟨x1, x2, x3, x4, x5, x6, x7, x8, x9⟩ := hw.node f a b c hg'
      rw [hn, hp, hx.lev x6, hx.lev x7, hnx]
      exact ⟨x1, by omega, x3, x4, x5, hx.ok x6, hx.ok x7, x8, x9⟩
  · intro t f
    simp only [ST.add, get_put]
    by_cases ht : t = (v, l, h)
    · subst ht
      simp only [if_true, Option.some.injEq]
      constructor
      · intro e; subst e; simp
      · intro e
        by_cases hf : f = S.next
        · exact hf.symm
        · simp only [hf, if_false] at e
          rw [(hw.inv _ _).2 e] at hnew
          cases hnew
    · simp only [ht, if_false]
      rw [hw.inv]
      by_cases hf : f = S.next
      · subst hf
        rw [hnone]
        simp only [if_true, Option.some.injEq]
        exact ⟨fun e => (nomatch e), fun e => absurd e.symm ht⟩
      · simp [hf]

/-- What a function is where a variable is false and where it is true (no variable above that one may be in it). -/
def ST.cof (S : ST) (f u : Int) : Int × Int := match get S.N f with
  | some t => if 1 < f ∧ t.1 = u then (t.2.1, t.2.2) else (f, f)
  | none => (f, f)

theorem cof_low {S : ST} (hw : WF S) {f : Int} (u : Int) (hf : f ≤ 1) : S.cof f u = (f, f) := by
  unfold ST.cof
  cases hg : get S.N f with
  | none => rfl
  | some t => obtain ⟨a, b, c⟩ := t; have := hw.node f a b c hg; omega

theorem cof_spec {S : ST} (hw : WF S) {f u : Int} (hf : S.ok f) (u0 : 0 ≤ u) (u1 : u < S.n) (hu : S.pl u ≤ S.lev f) :
    S.ok (S.cof f u).1 ∧ S.ok (S.cof f u).2 ∧ S.pl u < S.lev (S.cof f u).1 ∧ S.pl u < S.lev (S.cof f u).2 ∧ S.lev f ≤ S.lev (S.cof f u).1 ∧ S.lev f ≤ S.lev (S.cof f u).2 ∧
      ∀ σ, S.den f σ = if σ u then S.den (S.cof f u).2 σ else S.den (S.cof f u).1 σ := by
  have hpu := hw.pl_range u0 u1
  by_cases hlow : f ≤ 1
  · rw [cof_low hw u hlow, lev_low hlow]
    exact ⟨hf, hf, hpu.2.1, hpu.2.1, Int.le_refl _, Int.le_refl _, fun σ => by simp⟩
  · have hf' := hf
    rcases hf' with rfl | rfl | ⟨h2, ⟨v, l, h⟩, ht⟩
    · omega
    · omega
    obtain ⟨x1, x2, x3, x4, x5, x6, x7, x8, x9⟩ := hw.node f v l h ht
    have hl := lev_node hw ht
    dsimp only at hl
    by_cases hv : v = u
    · subst hv
      have e : S.cof f v = (l, h) := by
        have : 1 < f := by omega
        simp [ST.cof, ht, this]
      rw [e, hl]
      exact ⟨x6, x7, x8, x9, by dsimp only; omega, by dsimp only; omega, fun σ => den_node hw ht σ⟩
    · have e : S.cof f u = (f, f) := by simp [ST.cof, ht, hv]
      have hne : S.pl u ≠ S.lev f := fun e2 => hv (hw.pl_inj x3 x4 u0 u1 (by rw [← hl, e2]))
      rw [e]
      exact ⟨hf, hf, by dsimp only; omega, by dsimp only; omega, Int.le_refl _, Int.le_refl _, fun σ => by simp⟩

/-- What was answered stands for what was asked. -/
def KOK (S : ST) : Prop := ∀ f g h r, get S.K (f, g, h) = some r → S.ok f ∧ S.ok g ∧ S.ok h ∧ S.ok r ∧ (∀ σ, S.den r σ = if S.den f σ then S.den g σ else S.den h σ) ∧
  ∀ m, m ≤ S.lev f → m ≤ S.lev g → m ≤ S.lev h → m ≤ S.lev r

theorem KOK.ext {S S' : ST} (h : KOK S) (x : Ext S S') (hw : WF S) (hw' : WF S') (e : S'.K = S.K) : KOK S' := by
  intro f g k r hg
  rw [e] at hg
  obtain ⟨a, b, c, d, den, lv⟩ := h f g k r hg
  refine ⟨x.ok a, x.ok b, x.ok c, x.ok d, fun σ => ?_, fun m => ?_⟩
  · rw [x.den hw hw' d, x.den hw hw' a, x.den hw hw' b, x.den hw hw' c]; exact den σ
  · rw [x.lev a, x.lev b, x.lev c, x.lev d]; exact lv m

/-- How many numbers a question takes at most. -/
def cst : Nat → Int
  | 0 => 0
  | k + 1 => 2 * cst k + 1

theorem cst_nonneg : ∀ k, 0 ≤ cst k
  | 0 => by simp [cst]
  | k + 1 => by have := cst_nonneg k; simp only [cst]; omega

theorem cst_mono {j k : Nat} (h : j ≤ k) : cst j ≤ cst k := by
  induction h with
  | refl => exact Int.le_refl _
  | step h ih => rename_i m; have := cst_nonneg m; simp only [cst]; omega

structure NumPost (S S' : ST) (v l h r : Int) : Prop where
  ext : Ext S S'
  wf : WF S'
  known : S'.K = S.K
  ok : S'.ok r
  den : ∀ σ, S'.den r σ = if σ v then S.den h σ else S.den l σ
  next : S'.next ≤ S.next + 1
  lev : ∀ m, m ≤ S.pl v → m ≤ S.lev l → m ≤ S.lev h → m ≤ S'.lev r

theorem numPost_same {S : ST} (hw : WF S) (v l : Int) (okl : S.ok l) : NumPost S S v l l l :=
  ⟨Ext.refl S, hw, rfl, okl, fun σ => by simp, by omega, fun m _ h _ => h⟩

theorem numPost_found {S : ST} (hw : WF S) {v l h f : Int} (hg : get S.U (v, l, h) = some f) : NumPost S S v l h f := by
  have ht := (hw.inv _ _).1 hg
  have hn := hw.node f v l h ht
  exact ⟨Ext.refl S, hw, rfl, .inr (.inr ⟨hn.1, _, ht⟩), fun σ => den_node hw ht σ, by omega, fun m h1 _ _ => by rw [lev_node hw ht]; exact h1⟩

theorem numPost_new {S : ST} (hw : WF S) {v l h : Int} (v0 : 0 ≤ v) (v1 : v < S.n) (hlh : l ≠ h) (okl : S.ok l) (okh : S.ok h) (pl : S.pl v < S.lev l) (ph : S.pl v < S.lev h) (hnew : get S.U (v, l, h) = none) :
    NumPost S (S.add (v, l, h)) v l h S.next := by
  obtain ⟨hw', hat⟩ := add_wf hw v0 v1 hlh okl okh pl ph hnew
  have hx := add_ext hw (v, l, h)
  refine ⟨hx, hw', rfl, .inr (.inr ⟨hw.two, _, hat⟩), fun σ => ?_, Int.le_refl _, fun m h1 _ _ => ?_⟩
  · rw [den_node hw' hat, hx.den hw hw' okl, hx.den hw hw' okh]
  · rw [lev_node hw' hat, hx.pl]; exact h1

structure ItePost (S S' : ST) (f g h r : Int) (k : Nat) : Prop where
  ext : Ext S S'
  wf : WF S'
  known : KOK S'
  ok : S'.ok r
  den : ∀ σ, S'.den r σ = if S.den f σ then S.den g σ else S.den h σ
  next : S'.next ≤ S.next + cst k
  lev : ∀ m, m ≤ S.lev f → m ≤ S.lev g → m ≤ S.lev h → m ≤ S'.lev r

theorem itePost_stays {S : ST} (hw : WF S) (hk : KOK S) {f g h r : Int} (k : Nat) (okr : S.ok r) (den : ∀ σ, S.den r σ = if S.den f σ then S.den g σ else S.den h σ)
    (lev : ∀ m, m ≤ S.lev f → m ≤ S.lev g → m ≤ S.lev h → m ≤ S.lev r) : ItePost S S f g h r k :=
  ⟨Ext.refl S, hw, hk, okr, den, by have := cst_nonneg k; omega, lev⟩

end Go.Proofs.YtgjomknpjigkhaaGreatDoor

namespace Go.Proofs.YtgjomknpjigkhaaGreatDoor

def ST.withK (S : ST) (K : List (Tri × Int)) : ST := { S with K := K }

theorem withK_wf {S : ST} (h : WF S) (K : List (Tri × Int)) : WF (S.withK K) := ⟨h.ord, h.two, h.node, h.inv⟩
theorem withK_ext {S S' : ST} (h : Ext S S') (K : List (Tri × Int)) : Ext S (S'.withK K) := ⟨⟨h.order, h.place, h.next, h.node⟩, h.len⟩

/-- The two branches of a function at the topmost variable. -/
structure Cof (S : ST) (f top f0 f1 : Int) : Prop where
  ok0 : S.ok f0
  ok1 : S.ok f1
  lt0 : S.pl top < S.lev f0
  lt1 : S.pl top < S.lev f1
  le0 : S.lev f ≤ S.lev f0
  le1 : S.lev f ≤ S.lev f1
  den : ∀ σ, S.den f σ = if σ top then S.den f1 σ else S.den f0 σ

theorem itePost_step {S S1 S2 S3 : ST} (hw : WF S) {f g h top f0 f1 g0 g1 h0 h1 r0 r1 x : Int} {k : Nat} (okf : S.ok f) (okg : S.ok g) (okh : S.ok h)
    (hm : min (min (S.lev f) (S.lev g)) (S.lev h) ≤ S.pl top) (cf : Cof S f top f0 f1) (cg : Cof S g top g0 g1) (ch : Cof S h top h0 h1)
    (p0 : ItePost S S1 f0 g0 h0 r0 k) (p1 : ItePost S1 S2 f1 g1 h1 r1 k) (p2 : NumPost S2 S3 top r0 r1 x) : ItePost S (S3.withK (put S3.K (f, g, h) x)) f g h x (k + 1) := by
  have x1 := p0.ext
  have x2 := x1.trans p1.ext
  have x3 := x2.trans p2.ext
  have den : ∀ σ, S3.den x σ = if S.den f σ then S.den g σ else S.den h σ := by
    intro σ
    rw [p2.den, p1.den, p1.ext.den p0.wf p1.wf p0.ok, p0.den, x1.den hw p0.wf cf.ok1, x1.den hw p0.wf cg.ok1, x1.den hw p0.wf ch.ok1, cf.den, cg.den, ch.den]
    cases σ top <;> simp
  have lev : ∀ m, m ≤ S.lev f → m ≤ S.lev g → m ≤ S.lev h → m ≤ S3.lev x := by
    intro m hf hg hh
    have a0 := p0.lev m (Int.le_trans hf cf.le0) (Int.le_trans hg cg.le0) (Int.le_trans hh ch.le0)
    have a1 := p1.lev m (by rw [x1.lev cf.ok1]; exact Int.le_trans hf cf.le1) (by rw [x1.lev cg.ok1]; exact Int.le_trans hg cg.le1) (by rw [x1.lev ch.ok1]; exact Int.le_trans hh ch.le1)
    refine p2.lev m ?_ (by rw [p1.ext.lev p0.ok]; exact a0) a1
    rw [x2.pl]
    omega
  refine ⟨withK_ext x3 _, withK_wf p2.wf _, ?_, p2.ok, den, ?_, lev⟩
  · have hk3 : KOK S3 := p1.known.ext p2.ext p1.wf p2.wf p2.known
    intro a b c r hg
    show S3.ok a ∧ S3.ok b ∧ S3.ok c ∧ S3.ok r ∧ (∀ σ, S3.den r σ = if S3.den a σ then S3.den b σ else S3.den c σ) ∧ ∀ m, m ≤ S3.lev a → m ≤ S3.lev b → m ≤ S3.lev c → m ≤ S3.lev r
    have hg' : (if (a, b, c) = (f, g, h) then some x else get S3.K (a, b, c)) = some r := by rw [← get_put]; exact hg
    by_cases e : (a, b, c) = (f, g, h)
    · rw [if_pos e] at hg'
      simp only [Prod.mk.injEq] at e
      obtain ⟨rfl, rfl, rfl⟩ := e
      have e2 := Option.some.inj hg'
      subst e2
      refine ⟨x3.ok okf, x3.ok okg, x3.ok okh, p2.ok, fun σ => ?_, fun m => ?_⟩
      · rw [den, x3.den hw p2.wf okf, x3.den hw p2.wf okg, x3.den hw p2.wf okh]
      · rw [x3.lev okf, x3.lev okg, x3.lev okh]; exact lev m
    · rw [if_neg e] at hg'
      exact hk3 a b c r hg'
  · show S3.next ≤ S.next + cst (k + 1)
    have a := p0.next
    have b := p1.next
    have c := p2.next
    simp only [cst]
    omega

end Go.Proofs.YtgjomknpjigkhaaGreatDoor

namespace Go.Proofs.YtgjomknpjigkhaaGreatDoor

/-- The bit of a number that belongs to a variable. -/
def bitB (a v : Int) : Bool := decide (a / 2 ^ v.toNat % 2 = 1)

/-- r stands for 'f for some values of the variables of X'. -/
def ExR (X : Int) (S : ST) (f r : Int) : Prop := S.ok r ∧ S.lev f ≤ S.lev r ∧
  ∀ σ, S.den r σ = true ↔ ∃ τ : Int → Bool, (∀ v : Int, 0 ≤ v → v < S.n → bitB X v = false → τ v = σ v) ∧ S.den f τ = true

theorem ExR.mono {X : Int} (S S' : ST) (f r : Int) (okf : S.ok f) (x : Ext S S') (hw : WF S) (hw' : WF S') (h : ExR X S f r) : ExR X S' f r := by
  obtain ⟨a, b, c⟩ := h
  refine ⟨x.ok a, by rw [x.lev okf, x.lev a]; exact b, fun σ => ?_⟩
  rw [x.den hw hw' a, c, x.n]
  constructor
  · rintro ⟨τ, h1, h2⟩; exact ⟨τ, h1, by rw [x.den hw hw' okf]; exact h2⟩
  · rintro ⟨τ, h1, h2⟩; exact ⟨τ, h1, by rw [x.den hw hw' okf] at h2; exact h2⟩

theorem ExR.const (X : Int) (S : ST) {f : Int} (h : f = 0 ∨ f = 1) : ExR X S f f := by
  refine ⟨by rcases h with rfl | rfl <;> simp [ST.ok], Int.le_refl _, fun σ => ?_⟩
  rcases h with rfl | rfl
  · simp [den_zero]
  · simp only [den_one, true_iff]; exact ⟨σ, fun _ _ _ _ => rfl, trivial⟩

theorem upd_same (σ : Int → Bool) (v : Int) (b : Bool) : upd σ v b v = b := by simp [upd]
theorem upd_ne (σ : Int → Bool) {v u : Int} (b : Bool) (h : u ≠ v) : upd σ v b u = σ u := by simp [upd, h]

theorem ExR.bit {X : Int} {S S' : ST} {f v l h rl rh r : Int} (hw : WF S) (hw' : WF S') (x : Ext S S') (ht : get S.N f = some (v, l, h)) (hb : bitB X v = true) (al : ExR X S l rl) (ah : ExR X S h rh)
    (ok : S'.ok r) (den : ∀ σ, S'.den r σ = (S.den rl σ || S.den rh σ)) (lev : min (S.lev rl) (S.lev rh) ≤ S'.lev r) : ExR X S' f r := by
  obtain ⟨x1, x2, v0, v1, x5, okl, okh, pll, plh⟩ := hw.node f v l h ht
  have okf : S.ok f := .inr (.inr ⟨x1, _, ht⟩)
  have hlf := lev_node hw ht
  dsimp only at hlf
  refine ⟨ok, ?_, fun σ => ?_⟩
  · rw [x.lev okf, hlf]; have := al.2.1; have := ah.2.1; omega
  · rw [den, x.n, Bool.or_eq_true, al.2.2, ah.2.2]
    constructor
    · rintro (⟨τ, h1, h2⟩ | ⟨τ, h1, h2⟩)
      · refine ⟨upd τ v false, fun u u0 u1 hu => ?_, ?_⟩
        · rw [upd_ne _ _ (fun e => by subst e; rw [hb] at hu; cases hu)]; exact h1 u u0 u1 hu
        · rw [x.den hw hw' okf, den_node hw ht, upd_same, den_upd_above hw okl v0 v1 pll]; exact h2
      · refine ⟨upd τ v true, fun u u0 u1 hu => ?_, ?_⟩
        · rw [upd_ne _ _ (fun e => by subst e; rw [hb] at hu; cases hu)]; exact h1 u u0 u1 hu
        · rw [x.den hw hw' okf, den_node hw ht, upd_same, den_upd_above hw okh v0 v1 plh]; exact h2
    · rintro ⟨τ, h1, h2⟩
      rw [x.den hw hw' okf, den_node hw ht] at h2
      cases hv : τ v with
      | true => rw [hv] at h2; exact .inr ⟨τ, h1, h2⟩
      | false => rw [hv] at h2; exact .inl ⟨τ, h1, h2⟩

theorem ExR.keep {X : Int} {S S' : ST} {f v l h rl rh r : Int} (hw : WF S) (ht : get S.N f = some (v, l, h)) (hb : bitB X v = false) (al : ExR X S l rl) (ah : ExR X S h rh) (p : NumPost S S' v rl rh r) : ExR X S' f r := by
  obtain ⟨x1, x2, v0, v1, x5, okl, okh, pll, plh⟩ := hw.node f v l h ht
  have okf : S.ok f := .inr (.inr ⟨x1, _, ht⟩)
  have hlf := lev_node hw ht
  dsimp only at hlf
  refine ⟨p.ok, ?_, fun σ => ?_⟩
  · rw [p.ext.lev okf, hlf]
    exact p.lev _ (Int.le_refl _) (by have := al.2.1; omega) (by have := ah.2.1; omega)
  · rw [p.den, p.ext.n]
    constructor
    · intro hr
      cases hv : σ v with
      | true =>
        rw [hv] at hr
        obtain ⟨τ, h1, h2⟩ := (ah.2.2 σ).1 hr
        refine ⟨τ, h1, ?_⟩
        rw [p.ext.den hw p.wf okf, den_node hw ht, h1 v v0 v1 hb, hv]; exact h2
      | false =>
        rw [hv] at hr
        obtain ⟨τ, h1, h2⟩ := (al.2.2 σ).1 hr
        refine ⟨τ, h1, ?_⟩
        rw [p.ext.den hw p.wf okf, den_node hw ht, h1 v v0 v1 hb, hv]; exact h2
    · rintro ⟨τ, h1, h2⟩
      rw [p.ext.den hw p.wf okf, den_node hw ht, h1 v v0 v1 hb] at h2
      cases hv : σ v with
      | true => rw [hv] at h2; exact (ah.2.2 σ).2 ⟨τ, h1, h2⟩
      | false => rw [hv] at h2; exact (al.2.2 σ).2 ⟨τ, h1, h2⟩

/-- r stands for 'f of other variables'. -/
def RpR (to : List Int) (S : ST) (f r : Int) : Prop := S.ok r ∧ ∀ σ : Int → Bool, S.den r σ = S.den f (fun v => σ ((to[v.toNat]?).getD 0))

theorem RpR.mono {to : List Int} (S S' : ST) (f r : Int) (okf : S.ok f) (x : Ext S S') (hw : WF S) (hw' : WF S') (h : RpR to S f r) : RpR to S' f r :=
  ⟨x.ok h.1, fun σ => by rw [x.den hw hw' h.1, h.2, x.den hw hw' okf]⟩

theorem RpR.const (to : List Int) (S : ST) {f : Int} (h : f = 0 ∨ f = 1) : RpR to S f f := by
  refine ⟨by rcases h with rfl | rfl <;> simp [ST.ok], fun σ => ?_⟩
  rcases h with rfl | rfl
  · rw [den_zero, den_zero]
  · rw [den_one, den_one]

/-! Counts. -/
def cntV : Nat → ((Int → Bool) → Bool) → (Int → Bool) → Nat
  | 0, F, σ => if F σ then 1 else 0
  | k + 1, F, σ => cntV k F (upd σ k false) + cntV k F (upd σ k true)

theorem cntV_congr {F G : (Int → Bool) → Bool} (h : ∀ σ, F σ = G σ) : ∀ k σ, cntV k F σ = cntV k G σ
  | 0, σ => by simp [cntV, h]
  | k + 1, σ => by simp [cntV, cntV_congr h k]

theorem upd_comm (σ : Int → Bool) {u v : Int} (h : u ≠ v) (a b : Bool) : upd (upd σ u a) v b = upd (upd σ v b) u a := by
  funext x
  unfold upd
  by_cases e1 : x = v
  · by_cases e2 : x = u
    · exact absurd (e2.symm.trans e1) h
    · subst e1; simp [e2]
  · simp [e1]

theorem upd_upd (σ : Int → Bool) (v : Int) (a b : Bool) : upd (upd σ v a) v b = upd σ v b := by
  funext x
  unfold upd
  by_cases e : x = v <;> simp [e]

/-- A variable that is not counted may be fixed ahead. -/
theorem cntV_upd (F : (Int → Bool) → Bool) (v : Int) (b : Bool) : ∀ (k : Nat), (k : Int) ≤ v → ∀ σ, cntV k F (upd σ v b) = cntV k (fun τ => F (upd τ v b)) σ
  | 0, _, σ => rfl
  | k + 1, hk, σ => by
    have hne : v ≠ (k : Int) := by omega
    simp only [cntV]
    rw [upd_comm σ hne, upd_comm σ hne, cntV_upd F v b k (by omega), cntV_upd F v b k (by omega)]

/-- Half of all assignments have a variable true. -/
theorem cntV_split (F : (Int → Bool) → Bool) (v : Int) (v0 : 0 ≤ v) : ∀ (k : Nat), v < k → ∀ σ, 2 * cntV k F σ = cntV k (fun τ => F (upd τ v false)) σ + cntV k (fun τ => F (upd τ v true)) σ
  | 0, h, _ => by omega
  | k + 1, h, σ => by
    by_cases e : v = k
    · subst e
      have a : ∀ b, cntV (k + 1) (fun τ => F (upd τ (k : Int) b)) σ = 2 * cntV k (fun τ => F (upd τ (k : Int) b)) σ := by
        intro b
        simp only [cntV]
        rw [cntV_upd _ _ _ k (Int.le_refl _), cntV_upd _ _ _ k (Int.le_refl _)]
        simp only [upd_upd]
        omega
      rw [a, a]
      simp only [cntV]
      rw [cntV_upd _ _ _ k (Int.le_refl _), cntV_upd _ _ _ k (Int.le_refl _)]
      omega
    · simp only [cntV]
      have i1 := cntV_split F v v0 k (by omega) (upd σ k false)
      have i2 := cntV_split F v v0 k (by omega) (upd σ k true)
      omega

theorem cntV_false : ∀ k σ, cntV k (fun _ => false) σ = 0
  | 0, σ => rfl
  | k + 1, σ => by simp [cntV, cntV_false k]
theorem cntV_true : ∀ k σ, cntV k (fun _ => true) σ = 2 ^ k
  | 0, σ => rfl
  | k + 1, σ => by simp only [cntV, cntV_true k]; rw [Nat.pow_succ]; omega
theorem cntV_le (F : (Int → Bool) → Bool) : ∀ k σ, cntV k F σ ≤ 2 ^ k
  | 0, σ => by simp only [cntV]; split <;> simp
  | k + 1, σ => by have := cntV_le F k (upd σ k false); have := cntV_le F k (upd σ k true); simp only [cntV]; rw [Nat.pow_succ]; omega

/-- A node's count is half of each branch's. -/
theorem cntV_node {n : Nat} {v : Int} (v0 : 0 ≤ v) (v1 : v < n) {F L H : (Int → Bool) → Bool} (hF : ∀ σ, F σ = if σ v then H σ else L σ) (hL : ∀ σ b, L (upd σ v b) = L σ) (hH : ∀ σ b, H (upd σ v b) = H σ) (σ : Int → Bool) :
    cntV n F σ = cntV n L σ / 2 + cntV n H σ / 2 := by
  have e1 := cntV_split F v v0 n v1 σ
  have a1 : cntV n (fun τ => F (upd τ v false)) σ = cntV n L σ := cntV_congr (fun τ => by rw [hF, upd_same]; simp [hL]) n σ
  have a2 : cntV n (fun τ => F (upd τ v true)) σ = cntV n H σ := cntV_congr (fun τ => by rw [hF, upd_same]; simp [hH]) n σ
  rw [a1, a2] at e1
  have e2 := cntV_split (fun τ => if τ v then false else L τ) v v0 n v1 σ
  have b1 : cntV n (fun τ => (fun τ => if τ v then false else L τ) (upd τ v false)) σ = cntV n L σ := cntV_congr (fun τ => by simp [upd_same, hL]) n σ
  have b2 : cntV n (fun τ => (fun τ => if τ v then false else L τ) (upd τ v true)) σ = 0 := by rw [← cntV_false n σ]; exact cntV_congr (fun τ => by simp [upd_same]) n σ
  rw [b1, b2] at e2
  omega

/-- r is of how many assignments f is true. -/
def CtR (S : ST) (f r : Int) : Prop := r = (cntV S.n (S.den f) (fun _ => false) : Nat)

theorem CtR.mono (S S' : ST) (f r : Int) (okf : S.ok f) (x : Ext S S') (hw : WF S) (hw' : WF S') (h : CtR S f r) : CtR S' f r := by
  unfold CtR at *
  rw [h, x.n]
  congr 1
  exact (cntV_congr (fun σ => x.den hw hw' okf σ) _ _).symm

theorem CtR.bounds {S : ST} {f r : Int} (h : CtR S f r) : 0 ≤ r ∧ r ≤ (2 ^ S.n : Nat) := by
  unfold CtR at h
  have := cntV_le (S.den f) S.n (fun _ => false)
  omega

theorem CtR.node {S : ST} {f v l h rl rh : Int} (hw : WF S) (ht : get S.N f = some (v, l, h)) (al : CtR S l rl) (ah : CtR S h rh) : CtR S f (rl / 2 + rh / 2) := by
  obtain ⟨x1, x2, v0, v1, x5, okl, okh, pll, plh⟩ := hw.node f v l h ht
  unfold CtR at *
  rw [cntV_node v0 v1 (fun σ => den_node hw ht σ) (fun σ b => den_upd_above hw okl v0 v1 pll σ b) (fun σ b => den_upd_above hw okh v0 v1 plh σ b), al, ah]
  omega

end Go.Proofs.YtgjomknpjigkhaaGreatDoor

namespace Go.Proofs.YtgjomknpjigkhaaGreatDoor

/-- Can be reached from the roots, by branches. -/
def Reach (S : ST) (roots : List Int) (f : Int) : Prop :=
  ∀ p : Int → Prop, (∀ r ∈ roots, 2 ≤ r → p r) → (∀ g v l h, p g → get S.N g = some (v, l, h) → (2 ≤ l → p l) ∧ (2 ≤ h → p h)) → p f

theorem Reach.root {S : ST} {roots : List Int} {r : Int} (h : r ∈ roots) (h2 : 2 ≤ r) : Reach S roots r := fun _ a _ => a r h h2
theorem Reach.low {S : ST} {roots : List Int} {f v l h : Int} (hr : Reach S roots f) (ht : get S.N f = some (v, l, h)) (h2 : 2 ≤ l) : Reach S roots l := fun p a b => (b f v l h (hr p a b) ht).1 h2
theorem Reach.high {S : ST} {roots : List Int} {f v l h : Int} (hr : Reach S roots f) (ht : get S.N f = some (v, l, h)) (h2 : 2 ≤ h) : Reach S roots h := fun p a b => (b f v l h (hr p a b) ht).2 h2

/-- Roots that are functions of the store. -/
def RootsOk (S : ST) (roots : List Int) : Prop := ∀ r ∈ roots, S.ok r

theorem Reach.ok {S : ST} (hw : WF S) {roots : List Int} (hr : RootsOk S roots) {f : Int} (h : Reach S roots f) : 2 ≤ f ∧ S.ok f :=
  h (fun f => 2 ≤ f ∧ S.ok f) (fun r hm h2 => ⟨h2, hr r hm⟩) (fun g v l h' hg ht => by
    have := hw.node g v l h' ht
    exact ⟨fun h2 => ⟨h2, this.2.2.2.2.2.1⟩, fun h2 => ⟨h2, this.2.2.2.2.2.2.1⟩⟩)

theorem Reach.node {S : ST} (hw : WF S) {roots : List Int} (hr : RootsOk S roots) {f : Int} (h : Reach S roots f) : ∃ t, get S.N f = some t := by
  obtain ⟨h2, hok⟩ := h.ok hw hr
  rcases hok with rfl | rfl | ⟨_, t, ht⟩
  · omega
  · omega
  · exact ⟨t, ht⟩

theorem nodup_len {α : Type} [DecidableEq α] : ∀ (l m : List α), l.Nodup → (∀ x ∈ l, x ∈ m) → l.length ≤ m.length
  | [], _, _, _ => by simp
  | a :: l, m, h, hm => by
    simp only [List.nodup_cons] at h
    have ha : a ∈ m := hm a (by simp)
    have hpos : 0 < m.length := List.length_pos_of_mem ha
    have := nodup_len l (m.erase a) h.2 (fun x hx => (List.mem_erase_of_ne (fun (e : x = a) => h.1 (e ▸ hx))).2 (hm x (List.mem_cons_of_mem _ hx)))
    rw [List.length_erase_of_mem ha] at this
    simp only [List.length_cons]
    omega

/-- The nodes beneath a function, written out by branches. -/
def tree (N : List (Int × Tri)) : Nat → Int → List Int
  | 0, _ => []
  | k + 1, f => if f ≤ 1 then [] else match get N f with
    | none => []
    | some t => f :: (tree N k t.2.1 ++ tree N k t.2.2)

theorem tree_length (N : List (Int × Tri)) : ∀ k f, ((tree N k f).length : Int) ≤ cst k
  | 0, f => by simp [tree, cst]
  | k + 1, f => by
    have hc := cst_nonneg k
    unfold tree
    split
    · simp only [List.length_nil, cst]; omega
    · split
      · simp only [List.length_nil, cst]; omega
      · rename_i t _
        have := tree_length N k t.2.1
        have := tree_length N k t.2.2
        simp only [List.length_cons, List.length_append, cst]
        omega

theorem tree_closed {S : ST} (hw : WF S) : ∀ (k : Nat) (f : Int), S.ok f → (S.n : Int) - S.lev f ≤ k → ∀ g v l h, g ∈ tree S.N k f → get S.N g = some (v, l, h) → (2 ≤ l → l ∈ tree S.N k f) ∧ (2 ≤ h → h ∈ tree S.N k f)
  | 0, _, _, _, _, _, _, _, hg, _ => by simp [tree] at hg
  | k + 1, f, okf, hk, g, v, l, h, hg, ht => by
    have head : ∀ (k : Nat) (c : Int), S.ok c → 2 ≤ c → (S.n : Int) - S.lev c ≤ k → c ∈ tree S.N k c := by
      intro k c okc c2 hk
      have hlt := (lev_lt_iff hw okc).2 c2
      cases k with
      | zero => omega
      | succ k =>
        rcases okc with rfl | rfl | ⟨_, t, hc⟩
        · omega
        · omega
        · have : ¬ c ≤ 1 := by omega
          simp [tree, this, hc]
    unfold tree at hg ⊢
    by_cases f1 : f ≤ 1
    · simp [f1] at hg
    · simp only [f1, if_false] at hg ⊢
      rcases okf with rfl | rfl | ⟨f2, ⟨a, b, c⟩, hf⟩
      · omega
      · omega
      rw [hf] at hg ⊢
      obtain ⟨x1, x2, x3, x4, x5, okb, okc, pb, pc⟩ := hw.node f a b c hf
      rw [lev_node hw hf] at hk
      dsimp only at hk hg ⊢
      rcases List.mem_cons.1 hg with e | hg
      · subst e
        rw [hf] at ht
        simp only [Option.some.injEq, Prod.mk.injEq] at ht
        obtain ⟨rfl, rfl, rfl⟩ := ht
        exact ⟨fun h2 => List.mem_cons_of_mem _ (List.mem_append.2 (.inl (head k _ okb h2 (by omega)))), fun h2 => List.mem_cons_of_mem _ (List.mem_append.2 (.inr (head k _ okc h2 (by omega))))⟩
      · rcases List.mem_append.1 hg with hg | hg
        · obtain ⟨i1, i2⟩ := tree_closed hw k b okb (by omega) g v l h hg ht
          exact ⟨fun h2 => List.mem_cons_of_mem _ (List.mem_append.2 (.inl (i1 h2))), fun h2 => List.mem_cons_of_mem _ (List.mem_append.2 (.inl (i2 h2)))⟩
        · obtain ⟨i1, i2⟩ := tree_closed hw k c okc (by omega) g v l h hg ht
          exact ⟨fun h2 => List.mem_cons_of_mem _ (List.mem_append.2 (.inr (i1 h2))), fun h2 => List.mem_cons_of_mem _ (List.mem_append.2 (.inr (i2 h2)))⟩

theorem tree_root {S : ST} (hw : WF S) {f : Int} (okf : S.ok f) (f2 : 2 ≤ f) : f ∈ tree S.N S.n f := by
  have hlt := (lev_lt_iff hw okf).2 f2
  have h0 := lev_range hw okf
  obtain ⟨k, hk⟩ : ∃ k, S.n = k + 1 := ⟨S.n - 1, by omega⟩
  rw [hk]
  rcases okf with rfl | rfl | ⟨_, t, hc⟩
  · omega
  · omega
  · have : ¬ f ≤ 1 := by omega
    simp [tree, this, hc]

theorem reach_tree {S : ST} (hw : WF S) {roots : List Int} (hr : RootsOk S roots) {f : Int} (h : Reach S roots f) : f ∈ roots.flatMap (tree S.N S.n) := by
  refine h (fun f => f ∈ roots.flatMap (tree S.N S.n)) (fun r hm h2 => List.mem_flatMap.2 ⟨r, hm, tree_root hw (hr r hm) h2⟩) ?_
  intro g v l h' hg ht
  obtain ⟨r, hm, hg⟩ := List.mem_flatMap.1 hg
  have h0 := lev_range hw (hr r hm)
  obtain ⟨i1, i2⟩ := tree_closed hw S.n r (hr r hm) (by omega) g v l h' hg ht
  exact ⟨fun h2 => List.mem_flatMap.2 ⟨r, hm, i1 h2⟩, fun h2 => List.mem_flatMap.2 ⟨r, hm, i2 h2⟩⟩

theorem flatMap_length (N : List (Int × Tri)) (k : Nat) : ∀ roots : List Int, ((roots.flatMap (tree N k)).length : Int) ≤ roots.length * cst k
  | [] => by simp
  | r :: roots => by
    have := tree_length N k r
    have := flatMap_length N k roots
    simp only [List.flatMap_cons, List.length_append, List.length_cons]
    have e : ((roots.length + 1 : Nat) : Int) * cst k = roots.length * cst k + cst k := by
      rw [Int.natCast_add, Int.add_mul]; simp
    rw [e]
    omega

/-- The nodes that an iterator over nodes gives. -/
structure GoodNodes (S : ST) (roots : List Int) (xs : List (Int × Tri)) : Prop where
  nodup : (xs.map Prod.fst).Nodup
  at_ : ∀ x ∈ xs, get S.N x.1 = some x.2
  iff : ∀ f, f ∈ xs.map Prod.fst ↔ Reach S roots f

/-- The store swept: of the nodes those that can be reached. -/
structure Swept (S S' : ST) (roots : List Int) : Prop where
  order : S'.order = S.order
  place : S'.place = S.place
  next : S'.next = S.next
  known : S'.K = []
  node : ∀ f t, get S'.N f = some t ↔ get S.N f = some t ∧ Reach S roots f
  number : ∀ t f, get S'.U t = some f ↔ get S.U t = some f ∧ Reach S roots f

theorem Swept.sub {S S' : ST} {roots : List Int} (h : Swept S S' roots) : Sub S' S := ⟨h.order.symm, h.place.symm, Int.le_of_eq h.next, fun f t ht => ((h.node f t).1 ht).1⟩

theorem Swept.ok_root {S S' : ST} {roots : List Int} (h : Swept S S' roots) (hr : RootsOk S roots) {r : Int} (hm : r ∈ roots) : S'.ok r := by
  rcases hr r hm with e | e | ⟨h2, t, ht⟩
  · exact .inl e
  · exact .inr (.inl e)
  · exact .inr (.inr ⟨h2, t, (h.node r t).2 ⟨ht, Reach.root hm h2⟩⟩)

theorem Swept.wf {S S' : ST} {roots : List Int} (hw : WF S) (h : Swept S S' roots) : WF S' := by
  have hsub := h.sub
  have okc : ∀ c, S.ok c → (2 ≤ c → Reach S roots c) → S'.ok c := by
    intro c hc hr
    rcases hc with e | e | ⟨h2, t, ht⟩
    · exact .inl e
    · exact .inr (.inl e)
    · exact .inr (.inr ⟨h2, t, (h.node c t).2 ⟨ht, hr h2⟩⟩)
  refine ⟨by rw [h.order, h.place]; exact hw.ord, by rw [h.next]; exact hw.two, ?_, ?_⟩
  · intro f v l hh ht
    obtain ⟨ht', hr⟩ := (h.node _ _).1 ht
    obtain ⟨x1, x2, x3, x4, x5, okl, okh, pl, ph⟩ := hw.node f v l hh ht'
    have ol := okc l okl (fun h2 => hr.low ht' h2)
    have oh := okc hh okh (fun h2 => hr.high ht' h2)
    refine ⟨x1, by rw [h.next]; exact x2, x3, by rw [← hsub.n]; exact x4, x5, ol, oh, ?_, ?_⟩
    · rw [← hsub.pl, ← hsub.lev ol]; exact pl
    · rw [← hsub.pl, ← hsub.lev oh]; exact ph
  · intro t f
    rw [h.number, h.node, hw.inv]

theorem Swept.den {S S' : ST} {roots : List Int} (hw : WF S) (h : Swept S S' roots) {f : Int} (hf : S'.ok f) (σ : Int → Bool) : S'.den f σ = S.den f σ := (h.sub.den (h.wf hw) hw hf σ).symm

theorem Swept.kok {S S' : ST} {roots : List Int} (h : Swept S S' roots) : KOK S' := by
  intro f g k r hg
  rw [h.known] at hg
  cases hg

theorem swept_length {S S' : ST} (hw : WF S) {roots : List Int} (hr : RootsOk S roots) (h : Swept S S' roots) (hn : (S'.N.map Prod.fst).Nodup) : (S'.N.length : Int) ≤ roots.length * cst S.n := by
  have h1 := flatMap_length S.N S.n roots
  have h2 := nodup_len (S'.N.map Prod.fst) (roots.flatMap (tree S.N S.n)) hn (fun f hf => by
    obtain ⟨p, hp, rfl⟩ := List.mem_map.1 hf
    exact reach_tree hw hr ((h.node p.1 p.2).1 (get_of_mem hn hp)).2)
  rw [List.length_map] at h2
  omega

end Go.Proofs.YtgjomknpjigkhaaGreatDoor

namespace Go.Proofs.YtgjomknpjigkhaaGreatDoor

structure NInv (S : ST) (roots ws : List Int) (xs : List (Int × Tri)) : Prop where
  nodup : (xs.map Prod.fst).Nodup
  at_ : ∀ x ∈ xs, get S.N x.1 = some x.2
  reach : ∀ x ∈ xs, Reach S roots x.1
  wok : ∀ f ∈ ws, S.ok f ∧ (2 ≤ f → Reach S roots f)
  roots : ∀ r ∈ roots, 2 ≤ r → r ∈ xs.map Prod.fst ∨ r ∈ ws
  closed : ∀ x ∈ xs, ∀ c, c = x.2.2.1 ∨ c = x.2.2.2 → 2 ≤ c → c ∈ xs.map Prod.fst ∨ c ∈ ws

theorem NInv.start {S : ST} {roots : List Int} (hr : RootsOk S roots) : NInv S roots roots [] :=
  ⟨by simp, by simp, by simp, fun f hf => ⟨hr f hf, fun h2 => Reach.root hf h2⟩, fun r hr _ => .inr hr, by simp⟩

theorem NInv.skip {S : ST} {roots ws : List Int} {f : Int} {xs : List (Int × Tri)} (h : NInv S roots (ws ++ [f]) xs) (hf : f ∈ xs.map Prod.fst ∨ f ≤ 1) : NInv S roots ws xs := by
  have key : ∀ c, 2 ≤ c → (c ∈ xs.map Prod.fst ∨ c ∈ ws ++ [f]) → c ∈ xs.map Prod.fst ∨ c ∈ ws := by
    intro c h2 hc
    rcases hc with hc | hc
    · exact .inl hc
    · rcases List.mem_append.1 hc with hc | hc
      · exact .inr hc
      · simp only [List.mem_singleton] at hc
        subst hc
        rcases hf with hf | hf
        · exact .inl hf
        · omega
  exact ⟨h.nodup, h.at_, h.reach, fun g hg => h.wok g (List.mem_append.2 (.inl hg)), fun r hr h2 => key r h2 (h.roots r hr h2), fun x hx c hc h2 => key c h2 (h.closed x hx c hc h2)⟩

theorem NInv.take {S : ST} (hw : WF S) {roots ws : List Int} {f : Int} {t : Tri} {xs : List (Int × Tri)} (h : NInv S roots (ws ++ [f]) xs) (hf : f ∉ xs.map Prod.fst) (f2 : 2 ≤ f) (ht : get S.N f = some t) :
    NInv S roots (ws ++ [t.2.2, t.2.1]) (xs ++ [(f, t)]) := by
  obtain ⟨v, l, r⟩ := t
  have hrf := (h.wok f (by simp)).2 f2
  have hn := hw.node f v l r ht
  have key : ∀ c, (c ∈ xs.map Prod.fst ∨ c ∈ ws ++ [f]) → c ∈ (xs ++ [(f, (v, l, r))]).map Prod.fst ∨ c ∈ ws ++ [r, l] := by
    intro c hc
    rcases hc with hc | hc
    · exact .inl (by simp only [List.map_append, List.mem_append]; exact .inl hc)
    · rcases List.mem_append.1 hc with hc | hc
      · exact .inr (List.mem_append.2 (.inl hc))
      · simp only [List.mem_singleton] at hc
        subst hc
        exact .inl (by simp)
  refine ⟨?_, ?_, ?_, ?_, fun q hq h2 => key q (h.roots q hq h2), ?_⟩
  · rw [List.map_append, List.nodup_append]
    refine ⟨h.nodup, by simp, fun a ha b hb => ?_⟩
    simp only [List.map_cons, List.map_nil, List.mem_singleton] at hb
    exact fun e => hf (by rw [← hb, ← e]; exact ha)
  · intro x hx
    rcases List.mem_append.1 hx with hx | hx
    · exact h.at_ x hx
    · simp only [List.mem_singleton] at hx; subst hx; exact ht
  · intro x hx
    rcases List.mem_append.1 hx with hx | hx
    · exact h.reach x hx
    · simp only [List.mem_singleton] at hx; subst hx; exact hrf
  · intro g hg
    rcases List.mem_append.1 hg with hg | hg
    · exact h.wok g (List.mem_append.2 (.inl hg))
    · simp only [List.mem_cons, List.not_mem_nil, or_false] at hg
      rcases hg with rfl | rfl
      · exact ⟨hn.2.2.2.2.2.2.1, fun h2 => hrf.high ht h2⟩
      · exact ⟨hn.2.2.2.2.2.1, fun h2 => hrf.low ht h2⟩
  · intro x hx c hc h2
    rcases List.mem_append.1 hx with hx | hx
    · exact key c (h.closed x hx c hc h2)
    · simp only [List.mem_singleton] at hx
      subst hx
      refine .inr (List.mem_append.2 (.inr ?_))
      rcases hc with rfl | rfl <;> simp

theorem NInv.done {S : ST} {roots : List Int} {xs : List (Int × Tri)} (h : NInv S roots [] xs) : GoodNodes S roots xs := by
  refine ⟨h.nodup, h.at_, fun f => ⟨fun hf => ?_, fun hr => ?_⟩⟩
  · obtain ⟨x, hx, rfl⟩ := List.mem_map.1 hf
    exact h.reach x hx
  · refine hr (fun f => f ∈ xs.map Prod.fst) (fun r hm h2 => by simpa using h.roots r hm h2) ?_
    intro g v l hh hg ht
    obtain ⟨x, hx, rfl⟩ := List.mem_map.1 hg
    have e := h.at_ x hx
    rw [ht] at e
    have e := Option.some.inj e
    constructor
    · intro h2; simpa using h.closed x hx l (.inl (by rw [← e])) h2
    · intro h2; simpa using h.closed x hx hh (.inr (by rw [← e])) h2

theorem NInv.length {S : ST} {roots ws : List Int} {xs : List (Int × Tri)} (h : NInv S roots ws xs) : xs.length ≤ S.N.length := by
  have := nodup_len (xs.map Prod.fst) (S.N.map Prod.fst) h.nodup (fun f hf => by
    obtain ⟨x, hx, rfl⟩ := List.mem_map.1 hf
    exact List.mem_map.2 ⟨_, get_some_mem (h.at_ x hx), rfl⟩)
  simpa using this

end Go.Proofs.YtgjomknpjigkhaaGreatDoor

namespace Go.Proofs.YtgjomknpjigkhaaGreatDoor

/-- Does a function start with a variable? -/
def Sts (S : ST) (f u : Int) : Prop := ∃ l h, get S.N f = some (u, l, h)

def Joint (S : ST) (u d : Int) (f : Int) : Prop := ∃ l h, get S.N f = some (u, l, h) ∧ (Sts S l d ∨ Sts S h d)

/-- x is the node 'u ? b : a', or a itself where both are one. -/
def IsUp (C : ST) (u x a b : Int) : Prop := (a = b ∧ x = a) ∨ (a ≠ b ∧ get C.N x = some (u, a, b))

/-- A swap of u (at place m) and d (at m + 1) under way: the joints of T are still to be turned. -/
structure Mid (S C : ST) (u d : Int) (m : Nat) (T : List Int) (hole : Option Tri) : Prop where
  n : C.order.length = S.order.length
  next : S.next ≤ C.next
  inv : ∀ t f, get C.U t = some f ↔ get C.N f = some t ∧ some t ≠ hole
  inj : ∀ t f g, get C.N f = some t → get C.N g = some t → f = g
  same : ∀ f t, get S.N f = some t → (f ∈ T ∨ ¬ Joint S u d f) → get C.N f = some t
  turned : ∀ f l h, get S.N f = some (u, l, h) → Joint S u d f → f ∉ T → ∃ x y, get C.N f = some (d, x, y) ∧ IsUp C u x (S.cof l d).1 (S.cof h d).1 ∧ IsUp C u y (S.cof l d).2 (S.cof h d).2
  only : ∀ f t, get C.N f = some t → (∃ t0, get S.N f = some t0) ∨ (S.next ≤ f ∧ f < C.next ∧ ∃ a b, t = (u, a, b) ∧ a ≠ b ∧ S.ok a ∧ S.ok b ∧ (m : Int) + 1 < S.lev a ∧ (m : Int) + 1 < S.lev b)

/-- What a swap is about. -/
structure Pair (S : ST) (u d : Int) (m : Nat) : Prop where
  u0 : 0 ≤ u
  u1 : u < S.n
  d0 : 0 ≤ d
  d1 : d < S.n
  pu : S.pl u = m
  pd : S.pl d = (m : Int) + 1

section
variable {S C : ST} {u d : Int} {m : Nat} {T : List Int} {hole : Option Tri}

theorem Pair.ne (p : Pair S u d m) : u ≠ d := fun e => by have := p.pu; have := p.pd; rw [e] at *; omega

theorem sts_lev (hw : WF S) {f v : Int} (h : Sts S f v) : S.lev f = S.pl v := by
  obtain ⟨l, h', ht⟩ := h
  exact lev_node hw ht

/-- Beneath a node of u: the branches at d. -/
theorem cof_deep (hw : WF S) (p : Pair S u d m) {c : Int} (okc : S.ok c) (hc : (m : Int) < S.lev c) :
    S.ok (S.cof c d).1 ∧ S.ok (S.cof c d).2 ∧ (m : Int) + 1 < S.lev (S.cof c d).1 ∧ (m : Int) + 1 < S.lev (S.cof c d).2 ∧ (Sts S c d → (S.cof c d).1 ≠ (S.cof c d).2) ∧ (¬ Sts S c d → S.cof c d = (c, c)) ∧ ∀ σ, S.den c σ = if σ d then S.den (S.cof c d).2 σ else S.den (S.cof c d).1 σ := by
  obtain ⟨a1, a2, a3, a4, _, _, a7⟩ := cof_spec hw okc p.d0 p.d1 (by rw [p.pd]; omega)
  rw [p.pd] at a3 a4
  refine ⟨a1, a2, a3, a4, ?_, ?_, a7⟩
  · rintro ⟨l, h, ht⟩
    have hn := hw.node c d l h ht
    have : 1 < c := by omega
    have e : S.cof c d = (l, h) := by simp [ST.cof, ht, this]
    rw [e]; exact hn.2.2.2.2.1
  · intro hs
    unfold ST.cof
    cases hg : get S.N c with
    | none => rfl
    | some t =>
      obtain ⟨v, l, h⟩ := t
      have : v ≠ d := fun e => hs ⟨l, h, by rw [hg, e]⟩
      simp [this]

/-- A node of u in the store under way, whose branches lie deep, is no joint of the old one. -/
theorem up_lev (hw : WF S) (p : Pair S u d m) (M : Mid S C u d m T hole) {x a b : Int} (hx : get C.N x = some (u, a, b)) (okx : S.ok x) : S.lev x ≤ m := by
  rcases M.only x _ hx with ⟨t0, h0⟩ | ⟨h1, _⟩
  · by_cases hj : x ∈ T ∨ ¬ Joint S u d x
    · have := M.same x t0 h0 hj
      rw [hx] at this
      have e := Option.some.inj this
      subst e
      rw [lev_node hw h0]; exact Int.le_of_eq p.pu
    · have hj1 : Joint S u d x := by
        apply Classical.byContradiction
        intro h
        exact hj (.inr h)
      obtain ⟨l, h, ht, _⟩ := hj1
      rw [lev_node hw ht]; exact Int.le_of_eq p.pu
  · rcases okx with rfl | rfl | ⟨_, t, ht⟩
    · have := hw.two; omega
    · have := hw.two; omega
    · obtain ⟨v, l, h⟩ := t
      have := hw.node x v l h ht
      omega

theorem isUp_inj (hw : WF S) (p : Pair S u d m) (M : Mid S C u d m T hole) {x a b a' b' : Int} (oka : S.ok a) (la : (m : Int) + 1 < S.lev a) (oka' : S.ok a') (la' : (m : Int) + 1 < S.lev a') (h : IsUp C u x a b) (h' : IsUp C u x a' b') : a = a' ∧ b = b' := by
  rcases h with ⟨e, ex⟩ | ⟨e, ex⟩
  · rcases h' with ⟨e', ex'⟩ | ⟨e', ex'⟩
    · exact ⟨by rw [← ex, ex'], by rw [← e, ← e', ← ex, ex']⟩
    · have := up_lev hw p M ex' (by rw [ex]; exact oka)
      rw [ex] at this
      omega
  · rcases h' with ⟨e', ex'⟩ | ⟨e', ex'⟩
    · have := up_lev hw p M ex (by rw [ex']; exact oka')
      rw [ex'] at this
      omega
    · rw [ex] at ex'
      simp only [Option.some.injEq, Prod.mk.injEq, true_and] at ex'
      exact ex'

/-- Two joints of like branches are one. -/
theorem joint_inj (hw : WF S) (p : Pair S u d m) {f g l h l' h' : Int} (hf : get S.N f = some (u, l, h)) (hg : get S.N g = some (u, l', h')) (e1 : S.cof l d = S.cof l' d) (e2 : S.cof h d = S.cof h' d) : f = g := by
  obtain ⟨x1, _, _, _, _, okl, okh, pl, ph⟩ := hw.node f u l h hf
  obtain ⟨y1, _, _, _, _, okl', okh', pl', ph'⟩ := hw.node g u l' h' hg
  rw [p.pu] at pl ph pl' ph'
  have a := (cof_deep hw p okl pl).2.2.2.2.2.2
  have b := (cof_deep hw p okh ph).2.2.2.2.2.2
  have c := (cof_deep hw p okl' pl').2.2.2.2.2.2
  have e := (cof_deep hw p okh' ph').2.2.2.2.2.2
  have el : l = l' := den_inj hw okl okl' fun σ => by rw [a, c, e1]
  have eh : h = h' := den_inj hw okh okh' fun σ => by rw [b, e, e2]
  subst el; subst eh
  have i1 := (hw.inv _ _).2 hf
  have i2 := (hw.inv _ _).2 hg
  rw [i1] at i2
  exact Option.some.inj i2

/-- What a joint becomes is no node yet. -/
theorem turn_new (hw : WF S) (p : Pair S u d m) (M : Mid S C u d m T hole) {f l h x y : Int} (hf : get S.N f = some (u, l, h)) (hT : f ∈ T) (hx : IsUp C u x (S.cof l d).1 (S.cof h d).1) (hy : IsUp C u y (S.cof l d).2 (S.cof h d).2) : get C.U (d, x, y) = none := by
  cases hU : get C.U (d, x, y) with
  | none => rfl
  | some g =>
    exfalso
    have hg := ((M.inv _ _).1 hU).1
    obtain ⟨x1, _, _, _, lh, okl, okh, pl, ph⟩ := hw.node f u l h hf
    rw [p.pu] at pl ph
    obtain ⟨ol1, ol2, ll1, ll2, _, _, dl⟩ := cof_deep hw p okl pl
    obtain ⟨oh1, oh2, lh1, lh2, _, _, dh⟩ := cof_deep hw p okh ph
    rcases M.only g _ hg with ⟨t0, h0⟩ | ⟨_, _, a, b, e, _⟩
    · by_cases hc : g ∈ T ∨ ¬ Joint S u d g
      · -- g is as it was: a node of d, whose branches lie deep
        have hs := M.same g t0 h0 hc
        rw [hg] at hs
        have e := Option.some.inj hs
        subst e
        obtain ⟨_, _, _, _, _, okx, oky, px, py⟩ := hw.node g d x y h0
        rw [p.pd] at px py
        have hxe : (S.cof l d).1 = (S.cof h d).1 := by
          rcases hx with ⟨e, _⟩ | ⟨_, ex⟩
          · exact e
          · have := up_lev hw p M ex okx; omega
        have hye : (S.cof l d).2 = (S.cof h d).2 := by
          rcases hy with ⟨e, _⟩ | ⟨_, ey⟩
          · exact e
          · have := up_lev hw p M ey oky; omega
        exact lh (den_inj hw okl okh fun σ => by rw [dl, dh, hxe, hye])
      · have hj1 : Joint S u d g := Classical.byContradiction fun h => hc (.inr h)
        have hgT : g ∉ T := fun h => hc (.inl h)
        obtain ⟨l', h', hg0, _⟩ := id hj1
        obtain ⟨x', y', hg', ux, uy⟩ := M.turned g l' h' hg0 hj1 hgT
        rw [hg] at hg'
        simp only [Option.some.injEq, Prod.mk.injEq, true_and] at hg'
        obtain ⟨rfl, rfl⟩ := hg'
        obtain ⟨_, _, _, _, _, okl', okh', pl', ph'⟩ := hw.node g u l' h' hg0
        rw [p.pu] at pl' ph'
        obtain ⟨ol1', ol2', ll1', ll2', _, _, _⟩ := cof_deep hw p okl' pl'
        have e1 := isUp_inj hw p M ol1 ll1 ol1' ll1' hx ux
        have e2 := isUp_inj hw p M ol2 ll2 ol2' ll2' hy uy
        have := joint_inj hw p hf hg0 (Prod.ext e1.1 e2.1) (Prod.ext e1.2 e2.2)
        subst this
        exact hgT hT
    · simp only [Prod.mk.injEq] at e
      exact p.ne e.1.symm

theorem turn_unlike (hw : WF S) (p : Pair S u d m) (M : Mid S C u d m T hole) {f l h x : Int} (hf : get S.N f = some (u, l, h)) (hj : Joint S u d f) (hx : IsUp C u x (S.cof l d).1 (S.cof h d).1) (hy : IsUp C u x (S.cof l d).2 (S.cof h d).2) : False := by
  obtain ⟨x1, _, _, _, lh, okl, okh, pl, ph⟩ := hw.node f u l h hf
  rw [p.pu] at pl ph
  obtain ⟨ol1, ol2, ll1, ll2, nl, _, _⟩ := cof_deep hw p okl pl
  obtain ⟨oh1, oh2, lh1, lh2, nh, _, _⟩ := cof_deep hw p okh ph
  have e := isUp_inj hw p M ol1 ll1 ol2 ll2 hx hy
  obtain ⟨l', h', hf', hs⟩ := hj
  rw [hf] at hf'
  simp only [Option.some.injEq, Prod.mk.injEq, true_and] at hf'
  obtain ⟨rfl, rfl⟩ := hf'
  rcases hs with hs | hs
  · exact nl hs e.1
  · exact nh hs e.2

theorem Mid.fresh (hw : WF S) (M : Mid S C u d m T hole) : get C.N C.next = none := by
  cases hg : get C.N C.next with
  | none => rfl
  | some t =>
    exfalso
    rcases M.only _ _ hg with ⟨⟨a, b, c⟩, h0⟩ | ⟨_, h, _⟩
    · have := hw.node _ a b c h0; have := M.next; omega
    · omega

theorem isUp_mono {C' : ST} {x a b : Int} (h : IsUp C u x a b) (hk : ∀ f t, get C.N f = some t → get C'.N f = some t) : IsUp C' u x a b := by
  rcases h with h | ⟨e, h⟩
  · exact .inl h
  · exact .inr ⟨e, hk _ _ h⟩

/-- A node 'u ? b : a' more. -/
theorem Mid.add (hw : WF S) (M : Mid S C u d m T hole) {a b : Int} (hab : a ≠ b) (oka : S.ok a) (okb : S.ok b) (la : (m : Int) + 1 < S.lev a) (lb : (m : Int) + 1 < S.lev b) (hnew : get C.U (u, a, b) = none) (hh : some (u, a, b) ≠ hole) :
    Mid S (C.add (u, a, b)) u d m T hole ∧ get (C.add (u, a, b)).N C.next = some (u, a, b) ∧ ∀ f t, get C.N f = some t → get (C.add (u, a, b)).N f = some t := by
  have hfr := M.fresh hw
  have hat : get (C.add (u, a, b)).N C.next = some (u, a, b) := by simp [ST.add, get_put]
  have hoth : ∀ f, f ≠ C.next → get (C.add (u, a, b)).N f = get C.N f := fun f h => by simp [ST.add, get_put, h]
  have hk : ∀ f t, get C.N f = some t → get (C.add (u, a, b)).N f = some t := by
    intro f t ht
    have : f ≠ C.next := fun e => by rw [e, hfr] at ht; cases ht
    rw [hoth f this]; exact ht
  have hno : ∀ g, get C.N g ≠ some (u, a, b) := fun g hg => by
    have := (M.inv _ _).2 ⟨hg, hh⟩
    rw [hnew] at this
    cases this
  refine ⟨⟨M.n, by have := M.next; simp only [ST.add]; omega, ?_, ?_, fun f t ht hc => hk f t (M.same f t ht hc), ?_, ?_⟩, hat, hk⟩
  · intro t f
    have eU : get (C.add (u, a, b)).U t = if t = (u, a, b) then some C.next else get C.U t := by simp [ST.add, get_put]
    rw [eU]
    by_cases et : t = (u, a, b)
    · subst et
      simp only [if_true, Option.some.injEq]
      constructor
      · rintro rfl; exact ⟨hat, hh⟩
      · rintro ⟨h, _⟩
        by_cases ef : f = C.next
        · exact ef.symm
        · rw [hoth f ef] at h; exact absurd h (hno f)
    · rw [if_neg et, M.inv]
      by_cases ef : f = C.next
      · subst ef
        rw [hfr, hat]
        simp only [Option.some.injEq]
        constructor
        · rintro ⟨h, _⟩; cases h
        · rintro ⟨h, _⟩; exact absurd h.symm et
      · rw [hoth f ef]
  · intro t f g hf hg
    by_cases ef : f = C.next
    · subst ef
      rw [hat] at hf
      by_cases eg : g = C.next
      · exact eg.symm
      · rw [hoth g eg, ← hf] at hg; exact absurd hg (hno g)
    · rw [hoth f ef] at hf
      by_cases eg : g = C.next
      · subst eg
        rw [hat] at hg
        rw [← hg] at hf
        exact absurd hf (hno f)
      · rw [hoth g eg] at hg
        exact M.inj t f g hf hg
  · intro f l h ht hj hT
    obtain ⟨x, y, h1, h2, h3⟩ := M.turned f l h ht hj hT
    exact ⟨x, y, hk _ _ h1, isUp_mono h2 hk, isUp_mono h3 hk⟩
  · intro f t ht
    by_cases ef : f = C.next
    · subst ef
      rw [hat] at ht
      exact .inr ⟨M.next, by simp only [ST.add]; omega, a, b, (Option.some.inj ht).symm, hab, oka, okb, la, lb⟩
    · rw [hoth f ef] at ht
      rcases M.only f t ht with h | ⟨h1, h2, h3⟩
      · exact .inl h
      · exact .inr ⟨h1, by simp only [ST.add]; omega, h3⟩

/-- A joint's old node is struck from the numbers. -/
theorem Mid.strike (M : Mid S C u d m T none) (t : Tri) : Mid S { C with U := YtgjomknpjigkhaaGreatDoor.del C.U t } u d m T (some t) := by
  refine ⟨M.n, M.next, ?_, M.inj, M.same, M.turned, M.only⟩
  intro t' f
  rw [get_del]
  by_cases e : t' = t
  · subst e; simp
  · rw [if_neg e, M.inv]
    simp [e]

/-- A joint is turned. -/
theorem Mid.turn (hw : WF S) (p : Pair S u d m) {f l h x y : Int} {T' : List Int} (M : Mid S C u d m (f :: T') (some (u, l, h))) (hf : get S.N f = some (u, l, h)) (hj : Joint S u d f) (hT : f ∉ T') (hx : IsUp C u x (S.cof l d).1 (S.cof h d).1) (hy : IsUp C u y (S.cof l d).2 (S.cof h d).2) :
    Mid S { C with N := put C.N f (d, x, y), U := put C.U (d, x, y) f } u d m T' none := by
  have hCf := M.same f _ hf (.inl (by simp))
  have hnew := turn_new hw p M hf (by simp) hx hy
  have hne : (d, x, y) ≠ (u, l, h) := fun e => by simp only [Prod.mk.injEq] at e; exact p.ne e.1.symm
  have hno : ∀ g, get C.N g ≠ some (d, x, y) := fun g hg => by
    have := (M.inv _ _).2 ⟨hg, fun e => hne (Option.some.inj e)⟩
    rw [hnew] at this
    cases this
  obtain ⟨x1, _, _, _, lh, okl, okh, pl, ph⟩ := hw.node f u l h hf
  -- f is no node 'u ? b : a' whose branches lie deep
  have hfx : ∀ z a b, S.ok a → S.ok b → (m : Int) + 1 < S.lev a → (m : Int) + 1 < S.lev b → get C.N z = some (u, a, b) → z ≠ f := by
    intro z a b _ _ la lb hz e
    subst e
    rw [hCf] at hz
    simp only [Option.some.injEq, Prod.mk.injEq, true_and] at hz
    obtain ⟨rfl, rfl⟩ := hz
    obtain ⟨l', h', hf', hs⟩ := hj
    rw [hf] at hf'
    simp only [Option.some.injEq, Prod.mk.injEq, true_and] at hf'
    obtain ⟨rfl, rfl⟩ := hf'
    rcases hs with hs | hs
    · have := sts_lev hw hs; have := p.pd; omega
    · have := sts_lev hw hs; have := p.pd; omega
  have up : ∀ z a b, S.ok a → S.ok b → (m : Int) + 1 < S.lev a → (m : Int) + 1 < S.lev b → IsUp C u z a b → IsUp { C with N := put C.N f (d, x, y), U := put C.U (d, x, y) f } u z a b := by
    intro z a b oa ob la lb hz
    rcases hz with hz | ⟨e, hz⟩
    · exact .inl hz
    · refine .inr ⟨e, ?_⟩
      show get (put C.N f (d, x, y)) z = _
      rw [get_put, if_neg (hfx z a b oa ob la lb hz)]
      exact hz
  refine ⟨M.n, M.next, ?_, ?_, ?_, ?_, ?_⟩
  · intro t g
    show get (put C.U (d, x, y) f) t = some g ↔ get (put C.N f (d, x, y)) g = some t ∧ some t ≠ none
    rw [get_put, get_put]
    simp only [ne_eq, reduceCtorEq, not_false_eq_true, and_true]
    by_cases et : t = (d, x, y)
    · subst et
      simp only [if_true, Option.some.injEq]
      by_cases eg : g = f
      · simp [eg]
      · rw [if_neg eg]
        exact ⟨fun e => absurd e.symm eg, fun e => absurd e (hno g)⟩
    · rw [if_neg et, M.inv]
      by_cases eg : g = f
      · subst eg
        simp only [if_true, Option.some.injEq]
        constructor
        · rintro ⟨h1, h2⟩
          rw [hCf] at h1
          exact absurd h1.symm h2
        · intro h1; exact absurd h1.symm et
      · rw [if_neg eg]
        constructor
        · exact fun h => h.1
        · intro h1
          refine ⟨h1, fun e => eg ?_⟩
          have e := Option.some.inj e
          rw [e] at h1
          exact M.inj _ _ _ h1 hCf
  · intro t g k hg hk
    have hg' : (if g = f then some (d, x, y) else get C.N g) = some t := by rw [← get_put]; exact hg
    have hk' : (if k = f then some (d, x, y) else get C.N k) = some t := by rw [← get_put]; exact hk
    by_cases eg : g = f
    · by_cases ek : k = f
      · rw [eg, ek]
      · rw [if_pos eg] at hg'
        rw [if_neg ek, ← hg'] at hk'
        exact absurd hk' (hno k)
    · by_cases ek : k = f
      · rw [if_pos ek] at hk'
        rw [if_neg eg, ← hk'] at hg'
        exact absurd hg' (hno g)
      · rw [if_neg eg] at hg'
        rw [if_neg ek] at hk'
        exact M.inj t g k hg' hk'
  · intro g t hg hc
    have eg : g ≠ f := fun e => by
      subst e
      rcases hc with hc | hc
      · exact hT hc
      · exact hc hj
    show get (put C.N f (d, x, y)) g = some t
    rw [get_put, if_neg eg]
    exact M.same g t hg (hc.imp (fun h => List.mem_cons_of_mem _ h) id)
  · intro g l' h' hg hj' hgT
    by_cases eg : g = f
    · subst eg
      rw [hf] at hg
      simp only [Option.some.injEq, Prod.mk.injEq, true_and] at hg
      obtain ⟨rfl, rfl⟩ := hg
      rw [p.pu] at pl ph
      obtain ⟨ol1, ol2, ll1, ll2, _, _, _⟩ := cof_deep hw p okl pl
      obtain ⟨oh1, oh2, lh1, lh2, _, _, _⟩ := cof_deep hw p okh ph
      refine ⟨x, y, ?_, up _ _ _ ol1 oh1 ll1 lh1 hx, up _ _ _ ol2 oh2 ll2 lh2 hy⟩
      show get (put C.N g (d, x, y)) g = some (d, x, y)
      rw [get_put, if_pos rfl]
    · obtain ⟨x', y', h1, h2, h3⟩ := M.turned g l' h' hg hj' (fun hm => (List.mem_cons.1 hm).elim eg hgT)
      obtain ⟨_, _, _, _, _, okl', okh', pl', ph'⟩ := hw.node g u l' h' hg
      rw [p.pu] at pl' ph'
      obtain ⟨ol1, ol2, ll1, ll2, _, _, _⟩ := cof_deep hw p okl' pl'
      obtain ⟨oh1, oh2, lh1, lh2, _, _, _⟩ := cof_deep hw p okh' ph'
      refine ⟨x', y', ?_, up _ _ _ ol1 oh1 ll1 lh1 h2, up _ _ _ ol2 oh2 ll2 lh2 h3⟩
      show get (put C.N f (d, x, y)) g = _
      rw [get_put, if_neg eg]
      exact h1
  · intro g t hg
    have hg' : (if g = f then some (d, x, y) else get C.N g) = some t := by rw [← get_put]; exact hg
    by_cases eg : g = f
    · exact .inl ⟨_, by rw [eg]; exact hf⟩
    · rw [if_neg eg] at hg'
      exact M.only g t hg'

end

end Go.Proofs.YtgjomknpjigkhaaGreatDoor

namespace Go.Proofs.YtgjomknpjigkhaaGreatDoor

section
variable {S C : ST} {u d : Int} {m : Nat}

theorem Mid.start (hw : WF S) (o p : List Int) (hl : o.length = S.order.length) (T : List Int) (hT : ∀ f, Joint S u d f → f ∈ T) : Mid S { S with order := o, place := p } u d m T none := by
  refine ⟨hl, Int.le_refl _, fun t f => by rw [show get ({ S with order := o, place := p } : ST).U t = get S.U t from rfl, hw.inv]; simp, ?_, fun f t h _ => h, fun f l h ht hj hn => absurd (hT f hj) hn, fun f t h => .inl ⟨t, h⟩⟩
  intro t f g hf hg
  have i1 := (hw.inv _ _).2 hf
  have i2 := (hw.inv _ _).2 hg
  rw [i1] at i2
  exact Option.some.inj i2

theorem Mid.done (hw : WF S) (p : Pair S u d m) (M : Mid S C u d m [] none) (ho : Ordered C.order C.place) (plu : C.pl u = (m : Int) + 1) (pld : C.pl d = m) (plo : ∀ v : Int, 0 ≤ v → v < S.n → v ≠ u → v ≠ d → C.pl v = S.pl v) :
    WF C ∧ (∀ f, S.ok f → C.ok f) ∧ ∀ f, S.ok f → ∀ σ, C.den f σ = S.den f σ := by
  have hn : C.n = S.n := M.n
  have old : ∀ f v l h, get S.N f = some (v, l, h) → (¬ Joint S u d f ∧ get C.N f = some (v, l, h)) ∨ (Joint S u d f ∧ v = u ∧ ∃ x y, get C.N f = some (d, x, y) ∧ IsUp C u x (S.cof l d).1 (S.cof h d).1 ∧ IsUp C u y (S.cof l d).2 (S.cof h d).2) := by
    intro f v l h ht
    by_cases hj : Joint S u d f
    · obtain ⟨l', h', ht', _⟩ := id hj
      rw [ht] at ht'
      simp only [Option.some.injEq, Prod.mk.injEq] at ht'
      obtain ⟨rfl, rfl, rfl⟩ := ht'
      exact .inr ⟨hj, rfl, M.turned f l h ht hj (by simp)⟩
    · exact .inl ⟨hj, M.same f _ ht (.inr hj)⟩
  have ok2 : ∀ f, S.ok f → C.ok f := by
    intro f hf
    rcases hf with e | e | ⟨h2, ⟨v, l, h⟩, ht⟩
    · exact .inl e
    · exact .inr (.inl e)
    · rcases old f v l h ht with ⟨_, h'⟩ | ⟨_, _, x, y, h', _⟩
      · exact .inr (.inr ⟨h2, _, h'⟩)
      · exact .inr (.inr ⟨h2, _, h'⟩)
  have lev0 : ∀ f t, 2 ≤ f → get C.N f = some t → C.lev f = C.pl t.1 := by
    intro f t h2 ht
    have : ¬ f ≤ 1 := by omega
    simp [ST.lev, this, ht]
  have levs : ∀ c, S.ok c → ((m : Int) + 1 < S.lev c → C.lev c = S.lev c) ∧ (S.lev c < m → C.lev c = S.lev c) ∧ ((m : Int) ≤ S.lev c → (m : Int) ≤ C.lev c) := by
    intro c hc
    rcases hc with rfl | rfl | ⟨h2, ⟨v, l, h⟩, ht⟩
    · have : C.lev 0 = S.lev 0 := by rw [lev_low (by omega), lev_low (by omega), hn]
      exact ⟨fun _ => this, fun _ => this, fun h => by rw [this]; exact h⟩
    · have : C.lev 1 = S.lev 1 := by rw [lev_low (by omega), lev_low (by omega), hn]
      exact ⟨fun _ => this, fun _ => this, fun h => by rw [this]; exact h⟩
    · obtain ⟨_, _, v0, v1, _⟩ := hw.node c v l h ht
      have hl := lev_node hw ht
      dsimp only at hl
      rcases old c v l h ht with ⟨_, h'⟩ | ⟨_, rfl, x, y, h', _⟩
      · have hc' := lev0 c _ h2 h'
        dsimp only at hc'
        by_cases eu : v = u
        · subst eu; rw [hl, hc', p.pu, plu]; omega
        · by_cases ed : v = d
          · subst ed; rw [hl, hc', p.pd, pld]; omega
          · rw [hl, hc', plo v v0 v1 eu ed]; omega
      · have hc' := lev0 c _ h2 h'
        dsimp only at hc'
        rw [hl, hc', p.pu, pld]; omega
  have deep : ∀ c, S.ok c → S.lev c = (m : Int) + 1 → Sts S c d := by
    intro c hc hl
    have c2 := (lev_lt_iff hw hc).1 (by have := p.d1; have := hw.pl_range p.d0 p.d1; have := p.pd; omega)
    rcases hc with rfl | rfl | ⟨_, ⟨v, l, h⟩, ht⟩
    · omega
    · omega
    · obtain ⟨_, _, v0, v1, _⟩ := hw.node c v l h ht
      rw [lev_node hw ht] at hl
      have := hw.pl_inj v0 v1 p.d0 p.d1 (by rw [p.pd]; exact hl)
      subst this
      exact ⟨l, h, ht⟩
  have upok : ∀ x a b, S.ok a → (m : Int) + 1 < S.lev a → IsUp C u x a b → C.ok x ∧ (m : Int) < C.lev x := by
    intro x a b oka la hx
    rcases hx with ⟨_, rfl⟩ | ⟨_, hx⟩
    · exact ⟨ok2 _ oka, by rw [(levs _ oka).1 la]; omega⟩
    · have x2 : 2 ≤ x := by
        rcases M.only x _ hx with ⟨⟨a', b', c'⟩, h0⟩ | ⟨h1, _⟩
        · exact (hw.node _ _ _ _ h0).1
        · have := hw.two; omega
      refine ⟨.inr (.inr ⟨x2, _, hx⟩), ?_⟩
      rw [lev0 x _ x2 hx, plu]
      omega
  have wfC : WF C := by
    refine ⟨ho, by have := hw.two; have := M.next; omega, ?_, fun t f => by rw [M.inv]; simp⟩
    intro f v l h ht
    rw [hn]
    rcases M.only f _ ht with ⟨⟨v0, l0, h0⟩, hS⟩ | ⟨f1, f2, a, b, e, hab, oka, okb, la, lb⟩
    · obtain ⟨y1, y2, y3, y4, y5, okl, okh, pl, ph⟩ := hw.node f v0 l0 h0 hS
      have hnx := M.next
      rcases old f v0 l0 h0 hS with ⟨hj, h'⟩ | ⟨hj, rfl, x, y, h', ux, uy⟩
      · rw [ht] at h'
        simp only [Option.some.injEq, Prod.mk.injEq] at h'
        obtain ⟨rfl, rfl, rfl⟩ := h'
        have key : ∀ c, S.ok c → S.pl v < S.lev c → (v = u → ¬ Sts S c d) → C.pl v < C.lev c := by
          intro c okc hc hs
          obtain ⟨l1, l2, l3⟩ := levs c okc
          by_cases eu : v = u
          · have h1 : S.lev c ≠ (m : Int) + 1 := fun e => hs eu (deep c okc e)
            rw [eu] at hc ⊢
            rw [p.pu] at hc
            rw [plu, l1 (by omega)]; omega
          · by_cases ed : v = d
            · rw [ed] at hc ⊢
              rw [p.pd] at hc
              rw [pld, l1 hc]; omega
            · rw [plo v y3 y4 eu ed]
              have n1 : S.pl v ≠ m := fun e => eu (hw.pl_inj y3 y4 p.u0 p.u1 (by rw [p.pu]; exact e))
              have n2 : S.pl v ≠ (m : Int) + 1 := fun e => ed (hw.pl_inj y3 y4 p.d0 p.d1 (by rw [p.pd]; exact e))
              by_cases hlt : S.pl v < m
              · by_cases hc2 : S.lev c < m
                · rw [l2 hc2]; exact hc
                · have := l3 (by omega); omega
              · rw [l1 (by omega)]; exact hc
        refine ⟨y1, by omega, y3, y4, y5, ok2 _ okl, ok2 _ okh, key l okl pl (fun e hs => hj ⟨l, h, by rw [hS, e], .inl hs⟩), key h okh ph (fun e hs => hj ⟨l, h, by rw [hS, e], .inr hs⟩)⟩
      · rw [ht] at h'
        simp only [Option.some.injEq, Prod.mk.injEq] at h'
        obtain ⟨rfl, rfl, rfl⟩ := h'
        rw [p.pu] at pl ph
        obtain ⟨ol1, ol2, ll1, ll2, _, _, _⟩ := cof_deep hw p okl pl
        have a1 := upok _ _ _ ol1 ll1 ux
        have a2 := upok _ _ _ ol2 ll2 uy
        refine ⟨y1, by omega, p.d0, p.d1, fun e => ?_, a1.1, a2.1, by rw [pld]; exact a1.2, by rw [pld]; exact a2.2⟩
        subst e
        exact turn_unlike hw p M hS hj ux uy
    · simp only [Prod.mk.injEq] at e
      obtain ⟨rfl, rfl, rfl⟩ := e
      have := hw.two
      exact ⟨by omega, f2, p.u0, p.u1, hab, ok2 _ oka, ok2 _ okb, by rw [plu, (levs _ oka).1 la]; exact la, by rw [plu, (levs _ okb).1 lb]; exact lb⟩
  refine ⟨wfC, ok2, ?_⟩
  have updn : ∀ x a b, (∀ σ, C.den a σ = S.den a σ) → (∀ σ, C.den b σ = S.den b σ) → IsUp C u x a b → ∀ σ, C.den x σ = if σ u then S.den b σ else S.den a σ := by
    intro x a b ha hb hx σ
    rcases hx with ⟨e, rfl⟩ | ⟨_, hx⟩
    · rw [ha, ← e]; simp
    · rw [den_node wfC hx, ha, hb]
  intro f hf
  have main := node_induct hw (p := fun f => (∀ σ, C.den f σ = S.den f σ) ∧ ∀ v l h, get S.N f = some (v, l, h) → (∀ σ, C.den l σ = S.den l σ) ∧ ∀ σ, C.den h σ = S.den h σ)
    ⟨fun σ => by rw [den_zero, den_zero], fun v l h ht => by have := hw.node 0 v l h ht; omega⟩ ⟨fun σ => by rw [den_one, den_one], fun v l h ht => by have := hw.node 1 v l h ht; omega⟩ ?_ f hf
  · exact main.1
  · intro f v l h ht okl okh il ih
    refine ⟨fun σ => ?_, fun v' l' h' ht' => ?_⟩
    · obtain ⟨_, _, _, _, _, _, _, pl, ph⟩ := hw.node f v l h ht
      rcases old f v l h ht with ⟨_, h'⟩ | ⟨hj, rfl, x, y, h', ux, uy⟩
      · rw [den_node wfC h', den_node hw ht, il.1, ih.1]
      · rw [p.pu] at pl ph
        obtain ⟨_, _, _, _, _, nl, dl⟩ := cof_deep hw p okl pl
        obtain ⟨_, _, _, _, _, nh, dh⟩ := cof_deep hw p okh ph
        have cofd : ∀ c, ((∀ σ, C.den c σ = S.den c σ) ∧ ∀ v l h, get S.N c = some (v, l, h) → (∀ σ, C.den l σ = S.den l σ) ∧ ∀ σ, C.den h σ = S.den h σ) → (¬ Sts S c d → S.cof c d = (c, c)) → (∀ σ, C.den (S.cof c d).1 σ = S.den (S.cof c d).1 σ) ∧ ∀ σ, C.den (S.cof c d).2 σ = S.den (S.cof c d).2 σ := by
          intro c hc hns
          by_cases hs : Sts S c d
          · obtain ⟨l', h', hc'⟩ := hs
            have c1 := (hw.node c d l' h' hc').1
            have : 1 < c := by omega
            have e : S.cof c d = (l', h') := by simp [ST.cof, hc', this]
            rw [e]
            exact hc.2 d l' h' hc'
          · rw [hns hs]
            exact ⟨hc.1, hc.1⟩
        have cl := cofd l il nl
        have ch := cofd h ih nh
        rw [den_node wfC h', updn _ _ _ cl.1 ch.1 ux, updn _ _ _ cl.2 ch.2 uy, den_node hw ht, dl, dh]
        cases σ v <;> cases σ d <;> rfl
    · rw [ht] at ht'
      simp only [Option.some.injEq, Prod.mk.injEq] at ht'
      obtain ⟨rfl, rfl, rfl⟩ := ht'
      exact ⟨il.1, ih.1⟩

end

/-- Two neighbours of the order, and their places, changed. -/
theorem ordered_swap {order place : List Int} (h : Ordered order place) {m : Nat} {u d : Int} (hu : order[m]? = some u) (hd : order[m + 1]? = some d) :
    Ordered ((order.set m d).set (m + 1) u) ((place.set u.toNat ((m : Int) + 1)).set d.toNat m) := by
  obtain ⟨u0, u1, pu⟩ := h.op m u hu
  obtain ⟨d0, d1, pd⟩ := h.op (m + 1) d hd
  have hm1 : m + 1 < order.length := (List.getElem?_eq_some_iff.1 hd).1
  have hul : u.toNat < place.length := by rw [h.len]; omega
  have hdl : d.toNat < place.length := by rw [h.len]; omega
  have hne : u ≠ d := fun e => by rw [e, pd] at pu; simp only [Option.some.injEq] at pu; omega
  have hnt : u.toNat ≠ d.toNat := by omega
  have eo : ∀ i, ((order.set m d).set (m + 1) u)[i]? = if i = m + 1 then some u else if i = m then some d else order[i]? := by
    intro i
    rw [List.getElem?_set, List.getElem?_set]
    by_cases e1 : m + 1 = i
    · subst e1; simp [hm1]
    · have e1' : ¬ i = m + 1 := fun e => e1 e.symm
      rw [if_neg e1, if_neg e1']
      by_cases e2 : m = i
      · subst e2; simp; omega
      · have e2' : ¬ i = m := fun e => e2 e.symm
        rw [if_neg e2, if_neg e2']
  have ep : ∀ v, ((place.set u.toNat ((m : Int) + 1)).set d.toNat m)[v]? = if v = d.toNat then some (m : Int) else if v = u.toNat then some ((m : Int) + 1) else place[v]? := by
    intro v
    rw [List.getElem?_set, List.getElem?_set]
    by_cases e1 : d.toNat = v
    · subst e1; simp [hdl]
    · have e1' : ¬ v = d.toNat := fun e => e1 e.symm
      rw [if_neg e1, if_neg e1']
      by_cases e2 : u.toNat = v
      · subst e2; simp [hul]
      · have e2' : ¬ v = u.toNat := fun e => e2 e.symm
        rw [if_neg e2, if_neg e2']
  refine ⟨by simp [h.len], ?_, ?_⟩
  · intro i v hv
    rw [eo] at hv
    simp only [List.length_set]
    by_cases e1 : i = m + 1
    · subst e1
      simp only [if_true, Option.some.injEq] at hv
      subst hv
      refine ⟨u0, u1, ?_⟩
      rw [ep, if_neg hnt, if_pos rfl]
      simp
    · rw [if_neg e1] at hv
      by_cases e2 : i = m
      · subst e2
        simp only [if_true, Option.some.injEq] at hv
        subst hv
        refine ⟨d0, d1, ?_⟩
        rw [ep, if_pos rfl]
      · rw [if_neg e2] at hv
        obtain ⟨v0, v1, pv⟩ := h.op i v hv
        have n1 : v.toNat ≠ d.toNat := fun e => by rw [e, pd] at pv; simp only [Option.some.injEq] at pv; omega
        have n2 : v.toNat ≠ u.toNat := fun e => by rw [e, pu] at pv; simp only [Option.some.injEq] at pv; omega
        exact ⟨v0, v1, by rw [ep, if_neg n1, if_neg n2]; exact pv⟩
  · intro v q hq
    rw [ep] at hq
    simp only [List.length_set]
    by_cases e1 : v = d.toNat
    · rw [if_pos e1] at hq
      simp only [Option.some.injEq] at hq
      subst hq
      refine ⟨by omega, by omega, ?_⟩
      rw [eo, Int.toNat_natCast, if_neg (by omega), if_pos rfl, e1]
      congr 1; omega
    · rw [if_neg e1] at hq
      by_cases e2 : v = u.toNat
      · rw [if_pos e2] at hq
        simp only [Option.some.injEq] at hq
        subst hq
        refine ⟨by omega, by omega, ?_⟩
        have : ((m : Int) + 1).toNat = m + 1 := by omega
        rw [this, eo, if_pos rfl, e2]
        congr 1; omega
      · rw [if_neg e2] at hq
        obtain ⟨q0, q1, oq⟩ := h.po v q hq
        have n1 : q.toNat ≠ m + 1 := fun e => by rw [e, hd] at oq; simp only [Option.some.injEq] at oq; omega
        have n2 : q.toNat ≠ m := fun e => by rw [e, hu] at oq; simp only [Option.some.injEq] at oq; omega
        exact ⟨q0, q1, by rw [eo, if_neg n1, if_neg n2]; exact oq⟩

end Go.Proofs.YtgjomknpjigkhaaGreatDoor

namespace Go.Proofs.YtgjomknpjigkhaaGreatDoor

section
variable {S S' : ST}

theorem pl_of_order (hw : WF S) (hw' : WF S') (ho : S'.order = S.order) {v : Int} (v0 : 0 ≤ v) (v1 : v < S.n) : S'.pl v = S.pl v := by
  have hn : S'.n = S.n := by unfold ST.n; rw [ho]
  have h1 := hw.pl_range v0 v1
  have h2 := hw'.pl_range v0 (by rw [hn]; exact v1)
  rw [ho] at h2
  obtain ⟨_, _, h3⟩ := hw.ord.op _ _ h2.2.2.1
  rw [h1.2.2.2] at h3
  have := Option.some.inj h3
  omega

/-- A node hangs on its first variable. -/
theorem hangs (hw : WF S) {f v l h : Int} (ht : get S.N f = some (v, l, h)) : ¬ ∀ σ, S.den f (upd σ v true) = S.den f (upd σ v false) := by
  intro hc
  obtain ⟨_, _, v0, v1, lh, okl, okh, pl, ph⟩ := hw.node f v l h ht
  refine lh (den_inj hw okl okh fun σ => ?_)
  have := hc σ
  rw [den_node hw ht, den_node hw ht] at this
  simp only [upd, if_true] at this
  have e1 := den_upd_above hw okh v0 v1 ph σ true
  have e2 := den_upd_above hw okl v0 v1 pl σ false
  simp only [Bool.false_eq_true, if_false] at this
  rw [e1, e2] at this
  exact this.symm

theorem top_le (hw : WF S) (hw' : WF S') (ho : S'.order = S.order) {f g v l h : Int} (ht : get S.N f = some (v, l, h)) (okg : S'.ok g) (he : ∀ σ, S'.den g σ = S.den f σ) : S'.lev g ≤ S.pl v := by
  obtain ⟨_, _, v0, v1, _⟩ := hw.node f v l h ht
  have hn : S'.n = S.n := by unfold ST.n; rw [ho]
  apply Classical.byContradiction
  intro hc
  refine hangs hw ht fun σ => ?_
  have hv : S'.pl v < S'.lev g := by rw [pl_of_order hw hw' ho v0 v1]; omega
  rw [← he, ← he, den_upd_above hw' okg v0 (by rw [hn]; exact v1) hv, den_upd_above hw' okg v0 (by rw [hn]; exact v1) hv]

/-- Like functions under one order: like nodes. -/
theorem like_nodes (hw : WF S) (hw' : WF S') (ho : S'.order = S.order) {f g v l h v' l' h' : Int} (ht : get S.N f = some (v, l, h)) (ht' : get S'.N g = some (v', l', h')) (he : ∀ σ, S'.den g σ = S.den f σ) : v' = v ∧ (∀ σ, S'.den l' σ = S.den l σ) ∧ ∀ σ, S'.den h' σ = S.den h σ := by
  have hn : S'.n = S.n := by unfold ST.n; rw [ho]
  obtain ⟨f1, _, v0, v1, lh, okl, okh, pl, ph⟩ := hw.node f v l h ht
  obtain ⟨g1, _, v0', v1', lh', okl', okh', pl', ph'⟩ := hw'.node g v' l' h' ht'
  rw [hn] at v1'
  have okf : S.ok f := .inr (.inr ⟨f1, _, ht⟩)
  have okg : S'.ok g := .inr (.inr ⟨g1, _, ht'⟩)
  have a1 := top_le hw hw' ho ht okg he
  have a2 := top_le hw' hw ho.symm ht' okf (fun σ => (he σ).symm)
  rw [lev_node hw' ht'] at a1
  rw [lev_node hw ht] at a2
  dsimp only at a1 a2
  have b1 := pl_of_order hw hw' ho v0 v1
  have b2 := pl_of_order hw hw' ho v0' v1'
  have ev : v' = v := hw.pl_inj v0' v1' v0 v1 (by omega)
  subst ev
  have key : ∀ (σ : Int → Bool) (b : Bool), (if b then S'.den h' σ else S'.den l' σ) = if b then S.den h σ else S.den l σ := by
    intro σ b
    have := he (upd σ v' b)
    rw [den_node hw ht, den_node hw' ht'] at this
    have e1 := den_upd_above hw okh v0 v1 ph σ b
    have e2 := den_upd_above hw okl v0 v1 pl σ b
    have e3 := den_upd_above hw' okh' v0 (by rw [hn]; exact v1) ph' σ b
    have e4 := den_upd_above hw' okl' v0 (by rw [hn]; exact v1) pl' σ b
    rw [e1, e2, e3, e4] at this
    simpa [upd] using this
  exact ⟨rfl, fun σ => by simpa using key σ false, fun σ => by simpa using key σ true⟩

theorem like_big (hw : WF S) {f : Int} (okf : S.ok f) (f2 : 2 ≤ f) {g : Int} (okg : S'.ok g) (he : ∀ σ, S'.den g σ = S.den f σ) : 2 ≤ g ∧ ∃ t, get S'.N g = some t := by
  rcases okg with rfl | rfl | h
  · have : f = 0 := den_inj hw okf (.inl rfl) fun σ => by rw [← he, den_zero, den_zero]
    omega
  · have : f = 1 := den_inj hw okf (.inr (.inl rfl)) fun σ => by rw [← he, den_one, den_one]
    omega
  · exact h

theorem like_reach (hw : WF S) (hw' : WF S') (ho : S'.order = S.order) {roots roots' : List Int} (hr : RootsOk S roots) (hr' : RootsOk S' roots') (hl : ∀ r ∈ roots, ∃ r' ∈ roots', ∀ σ, S'.den r' σ = S.den r σ) {f : Int} (h : Reach S roots f) :
    ∃ g, 2 ≤ g ∧ Reach S' roots' g ∧ (∃ t, get S'.N g = some t) ∧ ∀ σ, S'.den g σ = S.den f σ := by
  have : 2 ≤ f ∧ S.ok f ∧ ∃ g, 2 ≤ g ∧ Reach S' roots' g ∧ (∃ t, get S'.N g = some t) ∧ ∀ σ, S'.den g σ = S.den f σ := by
    refine h (fun f => 2 ≤ f ∧ S.ok f ∧ ∃ g, 2 ≤ g ∧ Reach S' roots' g ∧ (∃ t, get S'.N g = some t) ∧ ∀ σ, S'.den g σ = S.den f σ) ?_ ?_
    · intro r hm r2
      obtain ⟨r', hm', he⟩ := hl r hm
      obtain ⟨g2, ht⟩ := like_big hw (hr r hm) r2 (hr' r' hm') he
      exact ⟨r2, hr r hm, r', g2, Reach.root hm' g2, ht, he⟩
    · rintro f v l hh ⟨f2, okf, g, g2, hg, ⟨⟨v', l', h'⟩, ht'⟩, he⟩ ht
      obtain ⟨_, el, eh⟩ := like_nodes hw hw' ho ht ht' he
      obtain ⟨_, _, _, _, _, okl, okh, _, _⟩ := hw.node f v l hh ht
      obtain ⟨_, _, _, _, _, okl', okh', _, _⟩ := hw'.node g v' l' h' ht'
      refine ⟨fun l2 => ?_, fun h2 => ?_⟩
      · obtain ⟨g3, ht3⟩ := like_big hw okl l2 okl' el
        exact ⟨l2, okl, l', g3, hg.low ht' g3, ht3, el⟩
      · obtain ⟨g3, ht3⟩ := like_big hw okh h2 okh' eh
        exact ⟨h2, okh, h', g3, hg.high ht' g3, ht3, eh⟩
  exact this.2.2

theorem like_length_le (hw : WF S) (hw' : WF S') (ho : S'.order = S.order) {roots roots' : List Int} (hr : RootsOk S roots) (hr' : RootsOk S' roots') (hl : ∀ r ∈ roots, ∃ r' ∈ roots', ∀ σ, S'.den r' σ = S.den r σ)
    {xs : List Int} (hx : xs.Nodup) (hxr : ∀ f ∈ xs, Reach S roots f) {ys : List Int} (hy : ∀ g, Reach S' roots' g → g ∈ ys) : xs.length ≤ ys.length := by
  have hch : ∀ f, ∃ g, Reach S roots f → g ∈ ys ∧ ∀ σ, S'.den g σ = S.den f σ := by
    intro f
    by_cases h : Reach S roots f
    · obtain ⟨g, g2, hg, ht, he⟩ := like_reach hw hw' ho hr hr' hl h
      exact ⟨g, fun _ => ⟨hy g hg, he⟩⟩
    · exact ⟨0, fun h' => absurd h' h⟩
  obtain ⟨φ, hφ⟩ := Classical.axiomOfChoice hch
  have hnd : (xs.map φ).Nodup := by
    clear hy
    induction xs with
    | nil => simp
    | cons f xs ih =>
      rw [List.map_cons, List.nodup_cons]
      rw [List.nodup_cons] at hx
      refine ⟨fun hm => ?_, ih hx.2 (fun f hf => hxr f (List.mem_cons_of_mem _ hf))⟩
      obtain ⟨f', hf', e⟩ := List.mem_map.1 hm
      have r1 := hxr f (by simp)
      have r2 := hxr f' (List.mem_cons_of_mem _ hf')
      have d1 := (hφ f r1).2
      have d2 := (hφ f' r2).2
      rw [e] at d2
      have : f = f' := den_inj hw (r1.ok hw hr).2 (r2.ok hw hr).2 fun σ => by rw [← d1, ← d2]
      subst this
      exact hx.1 hf'
  have := nodup_len (xs.map φ) ys hnd (fun g hg => by
    obtain ⟨f, hf, rfl⟩ := List.mem_map.1 hg
    exact (hφ f (hxr f hf)).1)
  rwa [List.length_map] at this

end

end Go.Proofs.YtgjomknpjigkhaaGreatDoor
