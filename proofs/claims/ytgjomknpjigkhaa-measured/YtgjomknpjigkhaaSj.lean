/- How many nodes there are. -/
import Derived.Test.YtgjomknpjigkhaaMMill
namespace Go.Proofs.Ytgjomknpjigkhaa
open Go.RowKit Go.Shelf

theorem nodes_le {S : ST} {r : Int} {xs : List (Int × Tri)} (hg : GoodNodes S [r] xs) : xs.length ≤ S.N.length := by
  have := nodup_len (xs.map Prod.fst) (S.N.map Prod.fst) hg.nodup (fun x hx => by
    obtain ⟨p, hp, rfl⟩ := List.mem_map.1 hx
    exact List.mem_map.2 ⟨_, get_some_mem (hg.at_ p hp), rfl⟩)
  simpa using this

theorem nodes_none {S : ST} {r : Int} (hr : r < 2) {xs : List (Int × Tri)} (hg : GoodNodes S [r] xs) : xs.length = 0 := by
  cases xs with
  | nil => rfl
  | cons x l =>
    have h := (hg.iff x.1).1 (by simp)
    exact (h (fun _ => False) (fun q hq h2 => by simp only [List.mem_singleton] at hq; omega) (fun _ _ _ _ hf _ => hf.elim)).elim

theorem KI.small {K : KS} (h : KI K) {f r : Int} (hr : get K.R f = some r) (hf : f < 2) : r < 2 := by
  have h0 := (h.key f r hr).1
  have : f = 0 ∨ f = 1 := by omega
  rcases this with rfl | rfl
  · rw [h.zero] at hr; cases hr; omega
  · rw [h.one] at hr; cases hr; omega

theorem good_len {S : ST} {roots : List Int} {xs ys : List (Int × Tri)} (hx : GoodNodes S roots xs) (hy : GoodNodes S roots ys) : xs.length ≤ ys.length := by
  have := nodup_len (xs.map Prod.fst) (ys.map Prod.fst) hx.nodup (fun f hf => (hy.iff f).2 ((hx.iff f).1 hf))
  simpa using this

def cb (s : Int) (v : Nat) : Nat := ((List.range v).filter fun u : Nat => bitB s (u : Int)).length

theorem cb_succ (s : Int) (v : Nat) : cb s (v + 1) = cb s v + (if bitB s (v : Int) then 1 else 0) := by
  unfold cb
  rw [List.range_succ, List.filter_append, List.length_append]
  congr 1
  cases h : bitB s (v : Int) <;> simp [h]

theorem cb_le {xs : List (Int × Tri)} {s : Int} (h : SupOf xs s) {v : Nat} (hv : v ≤ 8) : cb s v ≤ xs.length := by
  have h1 : (((List.range v).filter fun u : Nat => bitB s (u : Int)).map fun u : Nat => (u : Int)).Nodup := by
    refine (List.Nodup.sublist List.filter_sublist List.nodup_range).map _ ?_ |> id
    intro a b hab e
    exact hab (by omega)
  have := nodup_len _ (xs.map fun x => x.2.1) h1 (fun x hx => by
    obtain ⟨u, hu, rfl⟩ := List.mem_map.1 hx
    obtain ⟨h2, h3⟩ := List.mem_filter.1 hu
    have h4 := List.mem_range.1 h2
    obtain ⟨y, hy, e⟩ := (h.2.2 u (by omega) (by omega)).1 h3
    exact List.mem_map.2 ⟨y, hy, e⟩)
  simpa [cb] using this

theorem reach_one {S : ST} {roots : List Int} {f : Int} (h : Reach S roots f) : ∃ r ∈ roots, Reach S [r] f :=
  h (fun g => ∃ r ∈ roots, Reach S [r] g) (fun r hr h2 => ⟨r, hr, Reach.root (by simp) h2⟩) (fun _ _ _ _ ⟨r, hr, hg⟩ ht => ⟨fun h2 => ⟨r, hr, hg.low ht h2⟩, fun h2 => ⟨r, hr, hg.high ht h2⟩⟩)

/-- All that the first i handles reach. -/
def Cover (M : ML) (K : KS) (i : Nat) (ys : List Int) : Prop := ∀ k, k < i → ∀ f r, M.fs[k]? = some f → get K.R f = some r → ∀ g, Reach K.S [r] g → g ∈ ys

theorem Cover.next {M : ML} {K : KS} {i : Nat} {ys : List Int} (h : Cover M K i ys) {f r : Int} (hf : M.fs[i]? = some f) (hr : get K.R f = some r) {xs : List (Int × Tri)} (hg : GoodNodes K.S [r] xs) : Cover M K (i + 1) (ys ++ xs.map Prod.fst) := by
  intro k hk f' r' hf' hr' g hgr
  by_cases e : k = i
  · subst e
    rw [hf] at hf'
    cases hf'
    rw [hr] at hr'
    cases hr'
    exact List.mem_append.2 (.inr ((hg.iff g).2 hgr))
  · exact List.mem_append.2 (.inl (h k (by omega) f' r' hf' hr' g hgr))

theorem Cover.all {M : ML} {K : KS} {ys : List Int} (I : MI M K) (hn : (K.R.map Prod.fst).Nodup) (hN : (K.S.N.map Prod.fst).Nodup) {i : Nat} (hi : M.fs.length ≤ i) (h : Cover M K i ys) : K.S.N.length ≤ ys.length := by
  have := nodup_len (K.S.N.map Prod.fst) ys hN (fun f hf => by
    obtain ⟨p, hp, rfl⟩ := List.mem_map.1 hf
    have h1 := I.inv.reach p.1 p.2 (get_of_mem hN hp)
    obtain ⟨r, hr, hr1⟩ := reach_one h1
    obtain ⟨a, ha⟩ := (get_mem_map hn r).1 hr
    obtain ⟨k, hk, ek⟩ := List.mem_iff_getElem.1 (I.all a r ha)
    exact h k (by omega) a r (by rw [List.getElem?_eq_getElem hk, ek]) ha p.1 hr1)
  simpa using this

end Go.Proofs.Ytgjomknpjigkhaa
