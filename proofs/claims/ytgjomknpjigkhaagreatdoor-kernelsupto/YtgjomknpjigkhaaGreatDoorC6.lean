/- The law's world and step. -/
import Derived.Test.YtgjomknpjigkhaaGreatDoorC5
import Derived.Deep.RegionHeld3
namespace Go.Proofs.YtgjomknpjigkhaaGreatDoor
open Go.RowKit Go.Shelf

def pcells (ps : List Pr) : List Value := ps.flatMap fun p => [.pointer (some ⟨p.kb.k, 0, none⟩), .pointer (some ⟨p.rb.r, 0, none⟩)]
theorem pcells_get {ps : List Pr} {i : Nat} {p : Pr} (h : ps[i]? = some p) : (pcells ps)[i * 2]? = some (.pointer (some ⟨p.kb.k, 0, none⟩)) ∧ (pcells ps)[i * 2 + 1]? = some (.pointer (some ⟨p.rb.r, 0, none⟩)) := by
  induction ps generalizing i with
  | nil => cases h
  | cons q l ih =>
    cases i with
    | zero => cases h; exact ⟨rfl, rfl⟩
    | succ i =>
      have := ih (i := i) h
      have e : (i + 1) * 2 = i * 2 + 2 := by omega
      rw [e]
      exact this
theorem pcells_set {ps : List Pr} {i : Nat} {p p' : Pr} (h : ps[i]? = some p) (hk : p'.kb = p.kb) (hr : p'.rb.r = p.rb.r) : pcells (ps.set i p') = pcells ps := by
  induction ps generalizing i with
  | nil => cases h
  | cons q l ih =>
    cases i with
    | zero => cases h; simp [pcells, hk, hr]
    | succ i =>
      have := ih (i := i) h
      simp only [pcells, List.set_cons_succ, List.flatMap_cons] at this ⊢
      rw [this]

/-- All that a script has made. -/
structure WA (B : Nat) (w : World) (wb : Nat) (vk vi : Value) (ps : List Pr) (es : List (Nat × Nat × Nat)) (N : Nat) : Prop where
  mw : MW B w wb vk vi es
  ks : w.ownsRow B 111 2 vk ps.length (pcells ps)
  pairs : ∀ p ∈ ps, PairAt w p
  low : ∀ p ∈ ps, ∀ i ∈ p.own, B ≤ i
  dis : ∀ (i j : Nat) (p q : Pr), ps[i]? = some p → ps[j]? = some q → i ≠ j → ∀ x ∈ p.own, x ∉ q.own
  dk : ∀ p ∈ ps, ∀ i ∈ p.own, vk.ownBlock ≠ some i ∧ vi.ownBlock ≠ some i ∧ ∀ e ∈ es, e.1 ≠ i
  next : ∀ p ∈ ps, p.K.S.next ≤ 2 + N * costs
  nx : ∀ p ∈ ps, p.K.nx ≤ 2 + N
  plen : ps.length ≤ N
  e4 : es.length % 4 = 0
  elen : es.length ≤ 4 * N
  size : B ≤ w.heap.size

section
variable {B : Nat} {w w' : World} {wb : Nat} {vk vi : Value} {ps : List Pr} {es : List (Nat × Nat × Nat)} {N : Nat}

theorem WA.vk_form (h : WA B w wb vk vi ps es N) : ∃ a m d, vk = .slice a m d := by
  obtain ⟨a, c, e⟩ := own_len h.ks
  exact ⟨a, _, c, e⟩

theorem WA.kvi (h : WA B w wb vk vi ps es N) {i : Nat} (h1 : vk.ownBlock = some i) : vi.ownBlock ≠ some i := fun h2 => by
  obtain ⟨c1, t1⟩ := own_tag h.ks i h1
  obtain ⟨c2, t2⟩ := own_tag h.mw.is i h2
  rw [t1] at t2
  cases t2

theorem WA.wbp (h : WA B w wb vk vi ps es N) {p : Pr} (hp : p ∈ ps) : wb ∉ p.own := fun hm => by
  have := h.low p hp wb hm
  have := h.mw.wlt
  omega

theorem WA.marksLow (h : WA B w wb vk vi ps es N) : ∀ e ∈ es, B ≤ e.1 ∧ e.1 < w.heap.size := fun e he => by
  obtain ⟨k, hk⟩ := List.mem_iff_getElem?.1 he
  have := h.mw.marks k e.1 e.2.1 e.2.2 hk
  exact ⟨this.2.2.1, this.2.2.2.lt⟩

/-- Nothing that there was is written. -/
theorem WA.keeps0 (h : WA B w wb vk vi ps es N) (k : Keeps [] w w') : WA B w' wb vk vi ps es N :=
  ⟨h.mw.keeps k (by simp) (by simp) (by simp), ownsRow_kept h.ks k (by simp), fun p hp => (h.pairs p hp).keeps k (by simp), h.low, h.dis, h.dk, h.next, h.nx, h.plen, h.e4, h.elen, by have := k.size; have := h.size; omega⟩

theorem WA.more (h : WA B w wb vk vi ps es N) : WA B w wb vk vi ps es (N + 1) :=
  ⟨h.mw, h.ks, h.pairs, h.low, h.dis, h.dk, fun p hp => by have := h.next p hp; rw [Int.natCast_add, Int.add_mul]; unfold costs at *; omega, fun p hp => by have := h.nx p hp; omega, by have := h.plen; omega, h.e4, by have := h.elen; omega, h.size⟩

theorem WA.room (h : WA B w wb vk vi ps es N) (hN : N ≤ 10000000) {p : Pr} (hp : p ∈ ps) : Room p.K := by
  have h1 := h.next p hp
  have h2 := h.nx p hp
  refine ⟨?_, by omega⟩
  unfold costs at *
  unfold lim
  omega

/-- One pair has gone on. -/
theorem WA.goes (h : WA B w wb vk vi ps es N) {j : Nat} {p p' : Pr} (hj : ps[j]? = some p) (g : Goes w w' p p') : WA B w' wb vk vi (ps.set j p') es (N + 1) := by
  have hp : p ∈ ps := List.mem_of_getElem? hj
  have hjl : j < ps.length := (List.getElem?_eq_some_iff.1 hj).1
  have hsz := h.size
  have hmem : ∀ q ∈ ps.set j p', q = p' ∨ ∃ i, i ≠ j ∧ ps[i]? = some q := fun q hq => by
    obtain ⟨i, hi⟩ := List.mem_iff_getElem?.1 hq
    rw [List.getElem?_set] at hi
    split at hi
    · cases hi; exact .inl rfl
    · rename_i e
      exact .inr ⟨i, fun x => e x.symm, hi⟩
  have hother : ∀ i q, i ≠ j → ps[i]? = some q → ∀ x ∈ q.own, x ∉ p.own ∧ x ∉ p'.own := fun i q hij hq x hx => by
    have h1 := h.dis i j q p hq hj hij x hx
    refine ⟨h1, fun hm => ?_⟩
    rcases g.own x hm with a | a
    · exact h1 a
    · have := (h.pairs q (List.mem_of_getElem? hq)).lt x hx
      omega
  have hdk := h.dk p hp
  refine ⟨h.mw.keeps g.k (h.wbp hp) (fun i hi hm => (hdk i hm).2.1 hi) (fun e he hm => (hdk _ hm).2.2 e he rfl), ?_, ?_, ?_, ?_, ?_, ?_, ?_, ?_, h.e4, by have := h.elen; omega, by have := g.k.size; omega⟩
  · have := ownsRow_kept h.ks g.k (fun i hi hm => (hdk i hm).1 hi)
    rw [List.length_set, pcells_set hj g.kb g.r]
    exact this
  · intro q hq
    rcases hmem q hq with rfl | ⟨i, hij, hi⟩
    · exact g.pair
    · exact (h.pairs q (List.mem_of_getElem? hi)).keeps g.k fun x hx => (hother i q hij hi x hx).1
  · intro q hq x hx
    rcases hmem q hq with rfl | ⟨i, hij, hi⟩
    · rcases g.own x hx with a | a
      · exact h.low p hp x a
      · omega
    · exact h.low q (List.mem_of_getElem? hi) x hx
  · intro a b q r hq hr hab x hx
    rw [List.getElem?_set] at hq hr
    by_cases ha : j = a
    · rw [if_pos ha] at hq
      rw [if_pos hjl] at hq
      cases hq
      rw [if_neg (fun e => hab (by omega))] at hr
      exact fun hm => (hother b r (fun e => hab (by omega)) hr x hm).2 hx
    · rw [if_neg ha] at hq
      by_cases hb : j = b
      · rw [if_pos hb] at hr
        rw [if_pos hjl] at hr
        cases hr
        exact (hother a q (fun e => ha e.symm) hq x hx).2
      · rw [if_neg hb] at hr
        exact h.dis a b q r hq hr hab x hx
  · intro q hq x hx
    rcases hmem q hq with rfl | ⟨i, hij, hi⟩
    · rcases g.own x hx with a | a
      · exact hdk x a
      · refine ⟨fun e => ?_, fun e => ?_, fun e he e2 => ?_⟩
        · have := own_lt h.ks x e; omega
        · have := own_lt h.mw.is x e; omega
        · have := (h.marksLow e he).2; omega
    · exact h.dk q (List.mem_of_getElem? hi) x hx
  · intro q hq
    have e1 : ((N + 1 : Nat) : Int) * costs = N * costs + costs := by rw [Int.natCast_add, Int.add_mul]; simp
    rcases hmem q hq with rfl | ⟨i, hij, hi⟩
    · have := g.next; have := h.next p hp; omega
    · have := h.next q (List.mem_of_getElem? hi); unfold costs at *; omega
  · intro q hq
    rcases hmem q hq with rfl | ⟨i, hij, hi⟩
    · have := g.nx; have := h.nx p hp; omega
    · have := h.nx q (List.mem_of_getElem? hi); omega
  · rw [List.length_set]
    have := h.plen
    omega

/-- A list has come out. -/
theorem WA.listed (h : WA B w wb vk vi ps es N) {p : Pr} {vi' : Value} {es4 : List (Nat × Nat × Nat)} (g : Ordered' B w w' wb p vk vi vi' es es4) : WA B w' wb vk vi' ps (es ++ es4) (N + 1) := by
  have hsz := h.size
  have hT : ∀ q ∈ ps, ∀ i ∈ q.own, i ∉ wb :: vi.ownBlock.toList := fun q hq i hi hm => by
    rcases List.mem_cons.1 hm with e | e
    · exact h.wbp hq (e ▸ hi)
    · exact (h.dk q hq i hi).2.1 (by simpa using e)
  have hM := h.more
  refine ⟨g.mw, ownsRow_kept h.ks g.k (fun i hi hm => ?_), fun q hq => (h.pairs q hq).keeps g.k (hT q hq), h.low, h.dis, fun q hq i hi => ?_, hM.next, hM.nx, hM.plen, by rw [List.length_append, g.four]; have := h.e4; omega, by rw [List.length_append, g.four]; have := h.elen; omega, by have := g.k.size; omega⟩
  · rcases List.mem_cons.1 hm with e | e
    · have := (own_base h.ks i hi).1
      have := h.mw.wlt
      omega
    · exact h.kvi hi (by simpa using e)
  · obtain ⟨a, b, c⟩ := h.dk q hq i hi
    have hlt := (h.pairs q hq).lt i hi
    refine ⟨a, fun e => ?_, fun e he => ?_⟩
    · rcases g.stays with e2 | ⟨x, e2, hx⟩
      · exact b (e2 ▸ e)
      · rw [e2] at e
        cases e
        omega
    · rcases List.mem_append.1 he with he | he
      · exact c e he
      · have := g.new e he
        omega

end
end Go.Proofs.YtgjomknpjigkhaaGreatDoor
