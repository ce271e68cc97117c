/- Orders, and places. -/
import Derived.Test.YtgjomknpjigkhaaSj
namespace Go.Proofs.Ytgjomknpjigkhaa
open Go.RowKit Go.Shelf

theorem swapAt_length (o : List Int) (m : Nat) : (swapAt o m).length = o.length := by
  unfold swapAt swapO
  simp

theorem swapAt_other {o : List Int} {m i : Nat} (h1 : i ≠ m) (h2 : i ≠ m + 1) : (swapAt o m)[i]? = o[i]? := by
  unfold swapAt swapO
  simp only [List.getElem?_set]
  split
  · omega
  · split
    · omega
    · rfl

theorem swapAt_twice {o : List Int} {m : Nat} (hl : m + 1 < o.length) : swapAt (swapAt o m) m = o := by
  have hl' : m + 1 < (swapAt o m).length := by rw [swapAt_length]; exact hl
  refine List.ext_getElem? fun i => ?_
  by_cases h1 : i = m
  · subst h1
    rw [(swapAt_get hl').1, (swapAt_get hl).2]
  · by_cases h2 : i = m + 1
    · subst h2
      rw [(swapAt_get hl').2, (swapAt_get hl).1]
    · rw [swapAt_other h1 h2, swapAt_other h1 h2]

/-- The least total, and where it is. -/
theorem Best.least {K K3 : KS} {v p c : Int} (v0 : 0 ≤ v) (v1 : v < K.S.n) (hb : Best K v p) (m3 : Moved K K3 v c) (d3 : Nd K3) (hp : K3.S.pl v = p) {q : Int} (q0 : 0 ≤ q) (q1 : q < K.S.n) {t : Nat} (ht : TotAt K v q t) :
    K3.S.N.length ≤ t ∧ (q < p → K3.S.N.length < t) ∧ (q = p → t = K3.S.N.length) := by
  obtain ⟨p0, p1, t0, h0, hall⟩ := hb
  have e : t0 = K3.S.N.length := TotAt.unique v0 v1 h0 ⟨K3, c, d3, m3, hp, rfl⟩
  subst e
  refine ⟨?_, ?_, ?_⟩
  · rcases hall q t q0 q1 ht with h | ⟨h, _⟩ <;> omega
  · intro hlt
    rcases hall q t q0 q1 ht with h | ⟨h, h2⟩ <;> omega
  · intro e
    subst e
    exact TotAt.unique v0 v1 ht h0

theorem Moved.refl {K : KS} (h : KI K) (v : Int) : Moved K K v 0 := ⟨Re.refl h, rfl⟩

theorem TotAt.here {K K' : KS} {v c : Int} (m : Moved K K' v c) (d : Nd K') : TotAt K v (K'.S.pl v) K'.S.N.length := ⟨K', c, d, m, rfl, rfl⟩

theorem Best.at {K K3 K4 : KS} {v p c c4 : Int} (v0 : 0 ≤ v) (v1 : v < K.S.n) (hb : Best K v p) (m3 : Moved K K3 v c) (d3 : Nd K3) (hp : K3.S.pl v = p) (m4 : Moved K K4 v c4) (d4 : Nd K4) {q : Int} (hq : K4.S.pl v = q) :
    K3.S.N.length ≤ K4.S.N.length ∧ (q < p → K3.S.N.length < K4.S.N.length) ∧ (q = p → K4.S.N.length = K3.S.N.length) := by
  have hn : K4.S.n = K.S.n := m4.re.n
  have h := m4.re.inv.wf.pl_range v0 (by rw [hn]; exact v1)
  subst hq
  exact hb.least v0 v1 m3 d3 hp h.1 (by have := h.2.1; rw [hn] at this; exact this) (TotAt.here m4 d4)

end Go.Proofs.Ytgjomknpjigkhaa
