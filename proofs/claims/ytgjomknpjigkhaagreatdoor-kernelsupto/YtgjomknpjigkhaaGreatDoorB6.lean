/- The kernel and the document's, side by side. -/
import Derived.Test.YtgjomknpjigkhaaGreatDoorB4
import Derived.Test.YtgjomknpjigkhaaGreatDoorB5
namespace Go.Proofs.YtgjomknpjigkhaaGreatDoor
open Go.RowKit Go.Shelf

structure Twin (K : KS) (R : RS) : Prop where
  inv : KI K
  nd : (K.R.map Prod.fst).Nodup
  n : R.n = K.S.n
  ord : R.ord = K.S.order
  last : K.nx = R.last + 1
  look : ∀ f, R.look f = (get K.R f).map K.S.T
  two : ∀ p ∈ R.hs, 2 ≤ p.1
  nodup : (R.hs.map Prod.fst).Nodup
  len : R.hs.length + 2 = K.R.length

section
variable {K : KS} {R : RS}

theorem Twin.lo (T : Twin K R) : 1 ≤ R.last := by have := T.inv.nx2; have := T.last; omega
theorem Twin.ordOk (T : Twin K R) : ∀ x ∈ R.ord, 0 ≤ x ∧ x < R.n := by
  intro x hx
  rw [T.ord] at hx
  obtain ⟨i, hi⟩ := List.mem_iff_getElem?.1 hx
  have := T.inv.wf.ord.op i x hi
  rw [T.n]
  exact ⟨this.1, this.2.1⟩

theorem Twin.at_ (T : Twin K R) {p : Int × List Bool} (hp : p ∈ R.hs) : ∃ r, get K.R p.1 = some r ∧ p.2 = K.S.T r := by
  have h2 := T.two p hp
  have hl := T.look p.1
  unfold RS.look at hl
  rw [if_neg (by omega), if_neg (by omega), get_of_mem T.nodup (k := p.1) (v := p.2) hp] at hl
  cases hr : get K.R p.1 with
  | none => rw [hr] at hl; cases hl
  | some r => rw [hr] at hl; exact ⟨r, rfl, Option.some.inj hl⟩

theorem Twin.ok (T : Twin K R) : R.Ok := by
  refine ⟨T.ordOk, fun t ht => ?_⟩
  obtain ⟨p, hp, rfl⟩ := List.mem_map.1 ht
  obtain ⟨r, hr, e⟩ := T.at_ hp
  rw [e, T.n]
  exact tab_length _ _

theorem Twin.of_look (T : Twin K R) {f : Int} {t : List Bool} (h : R.look f = some t) : ∃ r, get K.R f = some r ∧ t = K.S.T r ∧ K.S.ok r := by
  rw [T.look] at h
  cases hr : get K.R f with
  | none => rw [hr] at h; cases h
  | some r => rw [hr] at h; exact ⟨r, rfl, (Option.some.inj h).symm, T.inv.ok f r hr⟩

theorem Twin.none_iff (T : Twin K R) (f : Int) : R.look f = none ↔ get K.R f = none := by
  rw [T.look]
  cases get K.R f <;> simp

theorem Twin.some_of (T : Twin K R) {f r : Int} (h : get K.R f = some r) : R.look f = some (K.S.T r) := by rw [T.look, h]; rfl

/-- One table has one handle. -/
theorem Twin.inj (T : Twin K R) {f g r s : Int} (hf : get K.R f = some r) (hg : get K.R g = some s) (e : K.S.T r = K.S.T s) : f = g := by
  have h1 := T_inj T.inv.wf (T.inv.ok g s hg) (T.inv.ok f r hf) e
  subst h1
  have a := (T.inv.inv r f).2 hf
  have b := (T.inv.inv r g).2 hg
  rw [a] at b
  exact Option.some.inj b

theorem T_zero (S : ST) : S.T 0 = tab S.n (fun _ => false) := by unfold ST.T; congr 1; funext σ; rw [den_zero]
theorem T_one (S : ST) : S.T 1 = tab S.n (fun _ => true) := by unfold ST.T; congr 1; funext σ; rw [den_one]

/-- What the document gives for a table that has a handle. -/
theorem Twin.give_old (T : Twin K R) {h r : Int} (hr : get K.R h = some r) : R.give (K.S.T r) = (h, 0, R) := by
  unfold RS.give
  rw [T.n]
  have z := T_zero K.S
  have o := T_one K.S
  by_cases e0 : K.S.T r = tab K.S.n (fun _ => false)
  · rw [if_pos e0]
    have := T.inj hr T.inv.zero (by rw [e0, z])
    rw [this]
  rw [if_neg e0]
  by_cases e1 : K.S.T r = tab K.S.n (fun _ => true)
  · rw [if_pos e1]
    have := T.inj hr T.inv.one (by rw [e1, o])
    rw [this]
  rw [if_neg e1]
  have h0 : h ≠ 0 := fun e => e0 (by rw [e, T.inv.zero] at hr; cases hr; exact z)
  have h1 : h ≠ 1 := fun e => e1 (by rw [e, T.inv.one] at hr; cases hr; exact o)
  have hl := T.some_of hr
  unfold RS.look at hl
  rw [if_neg h0, if_neg h1] at hl
  have hm := get_some_mem hl
  cases hq : R.hs.find? (fun p => decide (p.2 = K.S.T r)) with
  | none =>
    have := List.find?_eq_none.1 hq _ hm
    simp at this
  | some q =>
    have h2 := List.find?_some hq
    simp only [decide_eq_true_eq] at h2
    obtain ⟨s, hs, es⟩ := T.at_ (List.mem_of_find?_eq_some hq)
    have := T.inj hs hr (by rw [← es, h2])
    show (q.1, _, _) = _
    rw [this]

theorem Twin.give_none (T : Twin K R) {t : List Bool} (hno : ∀ f r, get K.R f = some r → t ≠ K.S.T r) : R.give t = if 100 ≤ R.hs.length then (0, 3, R) else (R.last + 1, 0, { R with hs := R.hs ++ [(R.last + 1, t)], last := R.last + 1 }) := by
  unfold RS.give
  rw [T.n]
  rw [if_neg (fun e => hno 0 0 T.inv.zero (by rw [e, T_zero])), if_neg (fun e => hno 1 1 T.inv.one (by rw [e, T_one]))]
  have : R.hs.find? (fun p => decide (p.2 = t)) = none := by
    rw [List.find?_eq_none]
    intro p hp
    simp only [decide_eq_true_eq]
    intro e
    obtain ⟨r, hr, er⟩ := T.at_ hp
    exact hno _ r hr (by rw [← e, er])
  rw [this]

/-- The kernel works on, its roots as they were. -/
theorem Twin.same {K' : KS} (T : Twin K R) (hi : KI K') (hR : K'.R = K.R) (hx : K'.nx = K.nx) (hn : K'.S.n = K.S.n) (hd : ∀ a r, get K.R a = some r → ∀ σ, K'.S.den r σ = K.S.den r σ) : Twin K' { R with ord := K'.S.order } := by
  refine ⟨hi, by rw [hR]; exact T.nd, by rw [hn]; exact T.n, rfl, by rw [hx]; exact T.last, fun f => ?_, T.two, T.nodup, by rw [hR]; exact T.len⟩
  have := T.look f
  show R.look f = _
  rw [this, hR]
  cases hr : get K.R f with
  | none => rfl
  | some r =>
    simp only [Option.map_some, Option.some.injEq]
    unfold ST.T
    rw [hn]
    congr 1
    funext σ
    exact (hd f r hr σ).symm

theorem Twin.ans {K' : KS} {F : (Int → Bool) → Bool} {h e c : Int} (T : Twin K R) (A : Ans K K' F h e c) : h = (R.give (tab K.S.n F)).1 ∧ e = (R.give (tab K.S.n F)).2.1 ∧ Twin K' (R.give (tab K.S.n F)).2.2 := by
  obtain ⟨S0, f0, w0, ok0, n0, d0⟩ := A.src
  have hF : F = S0.den f0 := by funext σ; exact (d0 σ).symm
  have hn' : K'.S.n = K.S.n := by unfold ST.n; rw [A.order]
  have hsame : K'.R = K.R → K'.nx = K.nx → Twin K' R := fun hR hx => by
    have := T.same A.inv hR hx hn' A.den
    rw [A.order, ← T.ord] at this
    exact this
  rcases A.out with ⟨r, hr, hd, he, hR, hx⟩ | ⟨hno, ⟨hl, hh, he, hR, hx⟩ | ⟨hl, hh, he, hx, r, hR, hd⟩⟩
  · have e1 : tab K.S.n F = K.S.T r := by unfold ST.T; congr 1; funext σ; exact (hd σ).symm
    rw [e1, T.give_old hr]
    exact ⟨rfl, he, hsame hR hx⟩
  all_goals
    have hno' : ∀ f r, get K.R f = some r → tab K.S.n F ≠ K.S.T r := by
      intro f r hr e1
      refine hno f r hr fun σ => ?_
      rw [hF] at e1 ⊢
      have := tab_inj (S := K.S) (S' := S0) T.inv.wf w0 n0 (T.inv.ok f r hr) ok0 e1 σ
      exact this.symm
    have hlen := T.len
    rw [T.give_none hno']
  · rw [if_pos (by omega)]
    exact ⟨hh, he, hsame hR hx⟩
  · have := T.inv.hundred
    rw [if_neg (by omega)]
    have hlast := T.last
    refine ⟨by rw [hh, hlast], he, ?_⟩
    have hnx : get K.R K.nx = none := by
      cases hq : get K.R K.nx with
      | none => rfl
      | some q => have := (T.inv.key _ _ hq).2; omega
    have hnew : get R.hs (R.last + 1) = none := by
      cases hq : get R.hs (R.last + 1) with
      | none => rfl
      | some q =>
        obtain ⟨s, hs, _⟩ := T.at_ (get_some_mem hq)
        have := (T.inv.key _ _ hs).2
        dsimp only at this
        omega
    have hlo := T.lo
    have hdr : ∀ q, K'.S.T q = tab K.S.n (K'.S.den q) := fun q => by unfold ST.T; rw [hn']
    refine ⟨A.inv, by rw [hR]; exact nodup_put T.nd _ _, by show R.n = _; rw [hn']; exact T.n, by show R.ord = _; rw [A.order]; exact T.ord, by show K'.nx = R.last + 1 + 1; rw [hx, hlast], fun f => ?_, fun p hp => ?_, ?_, ?_⟩
    · have hl0 := T.look f
      unfold RS.look at hl0 ⊢
      rw [hR, get_put]
      by_cases hf : f = K.nx
      · rw [if_pos hf, if_neg (by omega), if_neg (by omega)]
        show get (R.hs ++ [(R.last + 1, tab K.S.n F)]) f = _
        rw [get_append, hf, hlast, hnew]
        simp only [Option.none_or, get_cons, if_true, Option.map_some]
        rw [hdr]
        congr 2
        funext σ
        exact (hd σ).symm
      · rw [if_neg hf]
        have e2 : get (R.hs ++ [(R.last + 1, tab K.S.n F)]) f = get R.hs f := by
          rw [get_append, get_cons, if_neg (by show ¬ R.last + 1 = f; omega), get_nil]
          cases get R.hs f <;> rfl
        show (if f = 0 then some (tab R.n fun _ => false) else if f = 1 then some (tab R.n fun _ => true) else get (R.hs ++ [(R.last + 1, tab K.S.n F)]) f) = _
        rw [e2, hl0]
        cases hr : get K.R f with
        | none => rfl
        | some q =>
          simp only [Option.map_some, Option.some.injEq]
          rw [hdr]
          unfold ST.T
          congr 1
          funext σ
          exact (A.den f q hr σ).symm
    · have hp' : p ∈ R.hs ++ [(R.last + 1, tab K.S.n F)] := hp
      rcases List.mem_append.1 hp' with a | a
      · exact T.two p a
      · simp only [List.mem_singleton] at a
        rw [a]
        show 2 ≤ R.last + 1
        omega
    · show ((R.hs ++ [(R.last + 1, tab K.S.n F)]).map Prod.fst).Nodup
      rw [List.map_append, List.nodup_append]
      refine ⟨T.nodup, by simp, fun a ha b hb => ?_⟩
      simp only [List.map_cons, List.map_nil, List.mem_singleton] at hb
      subst hb
      obtain ⟨p, hp, rfl⟩ := List.mem_map.1 ha
      obtain ⟨s, hs, _⟩ := T.at_ hp
      have := (T.inv.key _ _ hs).2
      omega
    · show (R.hs ++ [(R.last + 1, tab K.S.n F)]).length + 2 = K'.R.length
      rw [hR, length_put_new r hnx]
      simp
      omega

end
end Go.Proofs.YtgjomknpjigkhaaGreatDoor
