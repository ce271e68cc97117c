/- Texts: PN PO. -/
import Derived.Test.YtgjomknpjigkhaaGreatDoorT18
namespace Go.Proofs.YtgjomknpjigkhaaGreatDoor
open Go.RowKit

theorem info251Q : (Tryz.prog.info? 251).map (fun i => (i.zero, i.size, i.bytes)) = some (some (.agg #[.int .i64 0, .slice none 0 0, .bool false, .int .i64 0]), 4, 48) := by kernel_rfl
theorem info254Q : (Tryz.prog.info? 254).map (fun i => (i.zero, i.size, i.bytes)) = some (some (.agg #[.int .i64 0, .slice none 0 0, .bool false, .int .i64 0, .slice none 0 0, .bool false]), 6, 80) := by kernel_rfl

/-! A clause's fault. -/
def clR (m : Mean) (a : AtomI) (ls : List LitI) : FltO × Scope := litsR m (atomR m (wrong none (decide (m.clauses.length = 52)) 6 a.name.line) [] a).1 (atomR m (wrong none (decide (m.clauses.length = 52)) 6 a.name.line) [] a).2 0 ls

theorem clR_err {m : Mean} {a : AtomI} {ls : List LitI} {fl : Flt} (ht : ∀ t ∈ a.terms, isTermG t.g = true) (hl : ∀ l ∈ ls, ∀ t ∈ l.atom.terms, isTermG t.g = true) (h : addClause m a ls = .error fl) : (clR m a ls).1 = some fl := by
  unfold addClause at h
  unfold clR
  split at h
  · rename_i h52
    cases h
    have hw : wrong none (decide (m.clauses.length = 52)) 6 a.name.line = some (6, a.name.line) := by simp [wrong, h52]
    rw [hw, atomR_some]
    exact litsR_some ..
  · rename_i h52
    have hw : wrong none (decide (m.clauses.length = 52)) 6 a.name.line = none := by simp [wrong, h52]
    rw [hw]
    have h1 := atom_same m [] a ht
    split at h
    · rename_i f hx
      cases h
      rw [hx] at h1
      simp only [Same] at h1
      rw [h1]
      exact litsR_some ..
    · rename_i x sc hx
      rw [hx] at h1
      simp only [Same] at h1
      rw [h1]
      have h2 := lits_same m sc 0 ls hl
      split at h
      · rename_i f hy
        cases h
        rw [hy] at h2
        exact h2
      · cases h
theorem clR_ok {m m' : Mean} {a : AtomI} {ls : List LitI} (ht : ∀ t ∈ a.terms, isTermG t.g = true) (hl : ∀ l ∈ ls, ∀ t ∈ l.atom.terms, isTermG t.g = true) (h : addClause m a ls = .ok m') : (clR m a ls).1 = none ∧ ∃ x xs sc sc', atomS m [] a = .ok (x, sc) ∧ litsS m sc 0 ls = .ok (xs, sc') ∧ m' = { m with clauses := m.clauses ++ [⟨x, xs, a.name.line⟩] } := by
  unfold addClause at h
  unfold clR
  split at h
  · cases h
  · rename_i h52
    have hw : wrong none (decide (m.clauses.length = 52)) 6 a.name.line = none := by simp [wrong, h52]
    rw [hw]
    have h1 := atom_same m [] a ht
    split at h
    · cases h
    · rename_i x sc hx
      rw [hx] at h1
      simp only [Same] at h1
      rw [h1]
      have h2 := lits_same m sc 0 ls hl
      split at h
      · cases h
      · rename_i xs sc' hy
        cases h
        rw [hy] at h2
        simp only [Same] at h2
        exact ⟨by rw [h2], x, xs, sc, sc', hx, hy, rfl⟩
theorem atomS_relS {m : Mean} {sc sc' : Scope} {a : AtomI} {x : AtomM} (h : atomS m sc a = .ok (x, sc')) : m.rel (txt a.name.g) = some x.rel := by
  unfold atomS at h
  split at h
  · cases h
  · rename_i r hr
    split at h
    · cases h
    · split at h
      · cases h
      · cases h
        exact hr

/-- A block of another kind. -/
def Tag (w : World) (j : Nat) (t : TypeId) : Prop := ∃ cs fr, w.heap[j]? = some (.cells cs t fr)
theorem own_tag2 {w : World} {base : Nat} {e : TypeId} {size n : Nat} {v : Value} {xs : List Value} (h : w.ownsRow base e size v n xs) : ∀ j ∈ ownL v, Tag w j e := by
  intro j hj
  rcases h.2 with ⟨rfl, _⟩ | ⟨g, cap, cur, rfl, _, hg, _⟩
  · simp [ownL, Value.ownBlock] at hj
  · have e1 : j = g := by simpa [ownL, Value.ownBlock] using hj
    subst e1
    exact ⟨cur, _, hg⟩
theorem Tag.eq {w : World} {j : Nat} {t t' : TypeId} (h : Tag w j t) (h' : Tag w j t') : t = t' := by
  obtain ⟨cs, fr, h⟩ := h
  obtain ⟨cs', fr', h'⟩ := h'
  rw [h] at h'
  simp at h'
  exact h'.2.1

/-- The lits so far. -/
def RLw (m : Mean) (w : World) (base : Nat) (X : List Nat) : List LitI → List Value → Prop
  | [], vs => vs = []
  | l :: ls, vs => ∃ v rest, vs = [.int .i64 (plInt (m.rel (txt l.atom.name.g))), v, .bool l.no, .int .i64 l.atom.name.line] ++ rest ∧ w.ownsRow base 245 4 v l.atom.terms.length (rtCs l.atom.terms) ∧ (∀ j ∈ ownL v, j ∉ X) ∧ RLw m w base X ls rest

theorem RLw.kept {m : Mean} {w w' : World} {base : Nat} {X T : List Nat} {ls : List LitI} {vs : List Value} (h : RLw m w base X ls vs) (k : Keeps T w w') (hT : ∀ j ∈ T, j ∈ X ∨ j < base ∨ w.heap.size ≤ j ∨ Tag w j 251) : RLw m w' base X ls vs := by
  induction ls generalizing vs with
  | nil => exact h
  | cons l ls ih =>
    obtain ⟨v, rest, e, ho, hX, hr⟩ := h
    refine ⟨v, rest, e, ownsRow_kept ho k (fun i hi hiT => ?_), hX, ih hr⟩
    have h1 := ownE_lt ho i hi
    have hi' : i ∈ ownL v := by simp [ownL, hi]
    rcases hT i hiT with q | q | q | q
    · exact hX i hi' q
    · omega
    · omega
    · exact absurd (q.eq (own_tag2 ho i hi')) (by decide)
theorem RLw.step {m : Mean} {w w' : World} {base : Nat} {X X' T : List Nat} {ls : List LitI} {vs : List Value} (h : RLw m w base X ls vs) (k : Keeps T w w') (hT : ∀ j ∈ T, j ∈ X ∨ j < base ∨ w.heap.size ≤ j ∨ Tag w j 251) (hX : ∀ j ∈ X', j < w.heap.size → base ≤ j → j ∈ X) : RLw m w' base X' ls vs := by
  have h' := h.kept k hT
  induction ls generalizing vs with
  | nil => exact h'
  | cons l ls ih =>
    obtain ⟨v, rest, e, ho, hx, hr⟩ := h
    obtain ⟨v', rest', e', ho', hx', hr'⟩ := h'
    rw [e] at e'
    simp at e'
    obtain ⟨rfl, rfl⟩ := e'
    refine ⟨v, rest, e, ho', fun j hj q => ?_, ih hr hr'⟩
    have := ownL_at ho j hj
    exact hx j hj (hX j q this.2 this.1)
theorem RLw.push {m : Mean} {w : World} {base : Nat} {X : List Nat} {ls : List LitI} {vs : List Value} (h : RLw m w base X ls vs) {l : LitI} {v : Value} (ho : w.ownsRow base 245 4 v l.atom.terms.length (rtCs l.atom.terms)) (hX : ∀ j ∈ ownL v, j ∉ X) : RLw m w base X (ls ++ [l]) (vs ++ [.int .i64 (plInt (m.rel (txt l.atom.name.g))), v, .bool l.no, .int .i64 l.atom.name.line]) := by
  induction ls generalizing vs with
  | nil => cases h; exact ⟨v, [], rfl, ho, hX, rfl⟩
  | cons x ls ih =>
    obtain ⟨u, rest, rfl, h1, h2, hr⟩ := h
    exact ⟨u, _, List.append_assoc .., h1, h2, ih hr⟩
theorem RLw.to {m : Mean} {w : World} {base base' : Nat} {X : List Nat} {ls : List LitI} {vs : List Value} (hb : base' ≤ base) {k : Nat} {sc sc' : Scope} {xs : List (AtomM × Bool)} (h : RLw m w base X ls vs) (hS : litsS m sc k ls = .ok (xs, sc')) : RLs w base' [] ls xs vs := by
  induction ls generalizing vs k sc xs with
  | nil =>
    simp only [litsS] at hS
    cases hS
    exact h
  | cons l ls ih =>
    obtain ⟨v, rest, rfl, ho, hX, hr⟩ := h
    simp only [litsS] at hS
    split at hS
    · cases hS
    · split at hS
      · cases hS
      · rename_i x sc2 hx
        split at hS
        · cases hS
        · rename_i ys sc3 hy
          cases hS
          refine ⟨v, rest, ?_, ownsRow_base ho hb, by simp, ih hr hy⟩
          rw [atomS_relS hx]
          rfl

/-- A clause under way. -/
structure ClR (w wr : World) (P V D C : Nat) (dv rv kv tkv : Value) (m : Mean) (f : FltO) (vts : List Tn) (ds : List Nat) (vv dd h0 hv h2 h3 : Value) (hts : List Tn) (ru : Bool) (ls : List LitI) (lv : Value) (lcs : List Value) : Prop where
  pw : P < w.heap.size
  cells : CellsAt wr P #[dv, rv, kv, tkv, .int .i64 (fC f).1, .int .i64 (fC f).2]
  sc : ScR wr w.heap.size V D vts ds vv dd
  cl : CellsAt wr C #[h0, hv, h2, h3, lv, .bool ru]
  hrow : wr.ownsRow w.heap.size 245 4 hv hts.length (rtCs hts)
  hX : ∀ j ∈ ownL hv, j ∉ C :: scF V D vv dd
  lrow : wr.ownsRow w.heap.size 251 4 lv ls.length lcs
  lX : ∀ j ∈ ownL lv, j ∉ C :: scF V D vv dd
  rls : RLw m wr w.heap.size (C :: scF V D vv dd) ls lcs
  keep : Keeps [P] w wr
  cC : w.heap.size ≤ C ∧ C ∉ scF V D vv dd

section
variable {w wr W : World} {P V D C : Nat} {dv rv kv tkv : Value} {m : Mean} {f f' : FltO} {vts vts' : List Tn} {ds ds' : List Nat} {vv dd vv' dd' h0 hv h2 h3 : Value} {hts : List Tn} {ru : Bool} {ls : List LitI} {lv : Value} {lcs : List Value}

theorem ClR.kept (h : ClR w wr P V D C dv rv kv tkv m f vts ds vv dd h0 hv h2 h3 hts ru ls lv lcs) (k : Keeps [] wr W) : ClR w W P V D C dv rv kv tkv m f vts ds vv dd h0 hv h2 h3 hts ru ls lv lcs :=
  ⟨h.pw, h.cells.keeps k (by simp), h.sc.keeps k (by simp), h.cl.keeps k (by simp), ownsRow_kept h.hrow k (by simp), h.hX, ownsRow_kept h.lrow k (by simp), h.lX, h.rls.kept k (by simp), h.keep.trans (k.mono (by simp)), h.cC⟩

/-- An atom read. -/
theorem ClR.step (h : ClR w wr P V D C dv rv kv tkv m f vts ds vv dd h0 hv h2 h3 hts ru ls lv lcs) (k : Keeps (P :: scF V D vv dd) wr W) (hc : CellsAt W P #[dv, rv, kv, tkv, .int .i64 (fC f').1, .int .i64 (fC f').2]) (hs : ScR W w.heap.size V D vts' ds' vv' dd') (hft : ∀ j, j ∈ ownL vv' ∨ j ∈ ownL dd' → j ∈ P :: scF V D vv dd ∨ wr.heap.size ≤ j) : ClR w W P V D C dv rv kv tkv m f' vts' ds' vv' dd' h0 hv h2 h3 hts ru ls lv lcs := by
  have hpw := h.pw
  have hVl := h.sc.v.lt
  have hDl := h.sc.d.lt
  have hCl := h.cl.lt
  have hC1 := h.cC.1
  have nP : ∀ j, w.heap.size ≤ j → j ∉ scF V D vv dd → j ∉ P :: scF V D vv dd := fun j h1 h2 q => by
    rcases List.mem_cons.1 q with q | q
    · omega
    · exact h2 q
  have new : ∀ j, j ∈ scF V D vv' dd' → j ∈ P :: scF V D vv dd ∨ wr.heap.size ≤ j := fun j hj => by
    rcases mem_scF.1 hj with q | q | q
    · exact .inl (List.mem_cons_of_mem _ (mem_scF.2 (.inl q)))
    · exact .inl (List.mem_cons_of_mem _ (mem_scF.2 (.inr (.inl q))))
    · exact hft j q
  have far : ∀ j, j < wr.heap.size → w.heap.size ≤ j → j ∉ scF V D vv dd → j ∉ scF V D vv' dd' := fun j h1 h2 h3 q => by
    rcases new j q with q | q
    · exact nP j h2 h3 q
    · omega
  have rowX : ∀ {e : TypeId} {n : Nat} {v : Value} {xs : List Value}, wr.ownsRow w.heap.size e 4 v n xs → (∀ j ∈ ownL v, j ∉ C :: scF V D vv dd) → ∀ j ∈ ownL v, j ∉ C :: scF V D vv' dd' := fun ho hX j hj q => by
    have hl := ownL_at ho j hj
    have h1 := hX j hj
    rcases List.mem_cons.1 q with q | q
    · exact h1 (by simp [q])
    · exact far j hl.2 hl.1 (fun q2 => h1 (List.mem_cons_of_mem _ q2)) q
  refine ⟨hpw, hc, hs, h.cl.keeps k (nP C hC1 h.cC.2), ownsRow_kept h.hrow k (fun j hj => ?_), rowX h.hrow h.hX, ownsRow_kept h.lrow k (fun j hj => ?_), rowX h.lrow h.lX, ?_, h.keep.trans_new k (fun j hj => ?_), hC1, far C hCl hC1 h.cC.2⟩
  · have hj' : j ∈ ownL hv := by simp [ownL, hj]
    exact nP j (ownL_at h.hrow j hj').1 (fun q => h.hX j hj' (List.mem_cons_of_mem _ q))
  · have hj' : j ∈ ownL lv := by simp [ownL, hj]
    exact nP j (ownL_at h.lrow j hj').1 (fun q => h.lX j hj' (List.mem_cons_of_mem _ q))
  · refine h.rls.step k (fun j hj => ?_) (fun j hj h1 h2 => ?_)
    · rcases List.mem_cons.1 hj with q | q
      · exact .inr (.inl (by omega))
      · exact .inl (List.mem_cons_of_mem _ q)
    · rcases List.mem_cons.1 hj with q | q
      · simp [q]
      · rcases new j q with q | q
        · rcases List.mem_cons.1 q with q | q
          · omega
          · exact List.mem_cons_of_mem _ q
        · omega
  · rcases List.mem_cons.1 hj with q | q
    · exact .inl (by simp [q])
    · exact .inr (h.sc.lt j q).1

/-- A fault kept. -/
theorem ClR.wronged (h : ClR w wr P V D C dv rv kv tkv m f vts ds vv dd h0 hv h2 h3 hts ru ls lv lcs) (k : Keeps [P] wr W) (hc : CellsAt W P #[dv, rv, kv, tkv, .int .i64 (fC f').1, .int .i64 (fC f').2]) : ClR w W P V D C dv rv kv tkv m f' vts ds vv dd h0 hv h2 h3 hts ru ls lv lcs :=
  h.step (k.mono (fun j hj => by have e : j = P := (by simpa using hj); simp [e])) hc (h.sc.keeps k (fun j hj q => by have e : j = P := (by simpa using q); have := (h.sc.lt j hj).1; have := h.pw; omega)) (fun j hj => .inl (List.mem_cons_of_mem _ (mem_scF.2 (.inr (.inr hj)))))

/-- The clause's own cells written. -/
theorem ClR.setC {h0' hv' h2' h3' : Value} {hts' : List Tn} {ru' : Bool} (h : ClR w wr P V D C dv rv kv tkv m f vts ds vv dd h0 hv h2 h3 hts ru ls lv lcs) (k : Keeps [C] wr W) (hc : CellsAt W C #[h0', hv', h2', h3', lv, .bool ru']) (hrow' : wr.ownsRow w.heap.size 245 4 hv' hts'.length (rtCs hts')) (hX' : ∀ j ∈ ownL hv', j ∉ C :: scF V D vv dd) : ClR w W P V D C dv rv kv tkv m f vts ds vv dd h0' hv' h2' h3' hts' ru' ls lv lcs := by
  have hpw := h.pw
  have hC1 := h.cC.1
  have one : ∀ j, j ≠ C → j ∉ [C] := fun j hj q => hj (by simpa using q)
  refine ⟨hpw, h.cells.keeps k (one _ (by omega)), h.sc.keeps k (fun j hj => one j (fun e => h.cC.2 (e ▸ hj))), hc, ownsRow_kept hrow' k (fun j hj => one j (fun e => hX' j (by simp [ownL, hj]) (by simp [e]))), hX', ownsRow_kept h.lrow k (fun j hj => one j (fun e => h.lX j (by simp [ownL, hj]) (by simp [e]))), h.lX, h.rls.kept k (fun j hj => .inl (by have e : j = C := (by simpa using hj); simp [e])), h.keep.trans_new k (fun j hj => .inr (by have e : j = C := (by simpa using hj); omega)), h.cC⟩

/-- A lit more. -/
theorem ClR.push {W4 W5 : World} {l : LitI} {v : Value} {g cap : Nat} (h : ClR w wr P V D C dv rv kv tkv m f vts ds vv dd h0 hv h2 h3 hts ru ls lv lcs) (hv1 : wr.ownsRow w.heap.size 245 4 v l.atom.terms.length (rtCs l.atom.terms)) (hv2 : ∀ j ∈ ownL v, j ∉ C :: scF V D vv dd) (k : Keeps [] wr W4) (hown : W5.ownsRow w.heap.size 251 4 (.slice (some ⟨g, 0, none⟩) (ls.length + 1) cap) (ls.length + 1) (lcs ++ [.int .i64 (plInt (m.rel (txt l.atom.name.g))), v, .bool l.no, .int .i64 l.atom.name.line])) (hg : W4.grownBy W5 lv.ownBlock) (hat : lv.ownBlock = some g ∨ g = W4.heap.size) : CellsAt W5 C #[h0, hv, h2, h3, lv, .bool ru] ∧ ClR w (W5.setCell ⟨C, 4, none⟩ (.slice (some ⟨g, 0, none⟩) (ls.length + 1) cap)) P V D C dv rv kv tkv m f vts ds vv dd h0 hv h2 h3 hts ru (ls ++ [l]) (.slice (some ⟨g, 0, none⟩) (ls.length + 1) cap) (lcs ++ [.int .i64 (plInt (m.rel (txt l.atom.name.g))), v, .bool l.no, .int .i64 l.atom.name.line]) := by
  have h4 := h.kept k
  have hv4 := ownsRow_kept hv1 k (by simp)
  have hpw := h.pw
  have hC1 := h.cC.1
  have hC2 := h.cC.2
  have k5 := grownBy_keeps' hg (ownL lv) (fun r e => .inl (by simp [ownL, e]))
  have kS := Keeps.setCell W5 ⟨C, 4, none⟩ (.slice (some ⟨g, 0, none⟩) (ls.length + 1) cap)
  have kall := (k5.mono (T' := C :: ownL lv) (fun i hi => by simp [hi])).trans (kS.mono (T' := C :: ownL lv) (fun i hi => by have e : i = C := (by simpa using hi); simp [e]))
  have hlv : ∀ j ∈ ownL lv, w.heap.size ≤ j ∧ j < W4.heap.size := ownL_at h4.lrow
  have hgn : ∀ j ∈ ownL (.slice (some ⟨g, 0, none⟩) (ls.length + 1) cap), j ∈ ownL lv ∨ j = W4.heap.size := own_new hat
  have hCl := h4.cl.lt
  have hc5 := h4.cl.keeps k5 (fun q => h.lX C q (by simp))
  have scout : ∀ j ∈ scF V D vv dd, j ∉ C :: ownL lv := fun j hj q => by
    rcases List.mem_cons.1 q with q | q
    · exact hC2 (q ▸ hj)
    · exact h.lX j q (List.mem_cons_of_mem _ hj)
  have rowout : ∀ {n : Nat} {u : Value} {xs : List Value}, W4.ownsRow w.heap.size 245 4 u n xs → (∀ j ∈ ownL u, j ∉ C :: scF V D vv dd) → ∀ j, u.ownBlock = some j → j ∉ C :: ownL lv := fun {_ u _} ho hX j hj q => by
    have hj' : j ∈ ownL u := by rw [ownL, hj]; simp
    rcases List.mem_cons.1 q with q | q
    · exact hX j hj' (by simp [q])
    · exact own_apart ho h4.lrow (by decide) j hj' q
  have hrl := h4.rls.push (l := l) hv4 hv2
  refine ⟨hc5, ⟨hpw, h4.cells.keeps kall (fun q => ?_), h4.sc.keeps kall scout, hc5.setCell 4 _, ownsRow_kept h4.hrow kall (rowout h4.hrow h.hX), h.hX, ?_, fun j hj q => ?_, hrl.kept kall (fun j hj => ?_), h4.keep.trans_new kall (fun j hj => ?_), h.cC⟩⟩
  · rcases List.mem_cons.1 q with q | q
    · omega
    · have := (hlv P q).1; omega
  · rw [List.length_append, List.length_singleton]
    refine ownsRow_kept hown kS (fun i hi q => ?_)
    have e : i = C := by simpa using q
    rcases hgn i (by rw [ownL, hi]; simp) with q | q
    · exact h.lX i q (by simp [e])
    · omega
  · rcases hgn j hj with q2 | q2
    · exact h.lX j q2 q
    · rcases List.mem_cons.1 q with q | q
      · omega
      · have := (h4.sc.lt j q).2; omega
  · rcases List.mem_cons.1 hj with q | q
    · exact .inl (by simp [q])
    · exact .inr (.inr (.inr (own_tag2 h4.lrow j q)))
  · rcases List.mem_cons.1 hj with q | q
    · exact .inr (by omega)
    · exact .inr (hlv j q).1

/-- An atom of a clause read into a variable of its own. -/
theorem ClR.lit {i : Nat} {a : AtomI} {ρ : Int} {r : FltO × Scope} {e : Ending} {os : Array Value} {t : TypeId} (h : ClR w wr P V D C dv rv kv tkv m f vts ds vv dd h0 hv h2 h3 hts ru ls lv lcs) (hat : AtRTo (wr.alloc (.cells os t)) P V D w.heap.size dv rv kv tkv vv dd i a ρ r e W) : ∃ va vc vts' vv' dd', e = .returned (.tuple #[.agg #[.int .i64 ρ, .slice va a.terms.length vc, .bool false, .int .i64 a.name.line], .int .i64 (atomEnd i a : Nat)]) ∧ CellsAt W wr.heap.size os ∧ vts'.map (fun t => txt t.g) = r.2.map Prod.fst ∧ ∀ W', Keeps [wr.heap.size] W W' → ClR w W' P V D C dv rv kv tkv m r.1 vts' (r.2.map Prod.snd) vv' dd' h0 hv h2 h3 hts ru ls lv lcs ∧ W'.ownsRow w.heap.size 245 4 (.slice va a.terms.length vc) a.terms.length (rtCs a.terms) ∧ ∀ j ∈ ownL (.slice va a.terms.length vc), j ∉ C :: scF V D vv' dd' := by
  obtain ⟨v, vts', vv', dd', he, hc, hs, hn, hrow, k, hft⟩ := hat
  obtain ⟨va, vc, rfl⟩ := ownE_len hrow
  have hpw := h.pw
  have hsz := h.keep.size
  have hVl := h.sc.v.lt
  have hDl := h.sc.d.lt
  have hCl := h.cl.lt
  have hold : ∀ j ∈ P :: scF V D vv dd, j < wr.heap.size := fun j hj => by
    rcases List.mem_cons.1 hj with q | q
    · omega
    · exact (h.sc.lt j q).2
  have kA := Keeps.alloc [] wr (.cells os t)
  have hA := (CellsAt.new wr os t).keeps k (fun q => by have := hold _ q; omega)
  refine ⟨va, vc, vts', vv', dd', he, hA, hn, fun W' k' => ?_⟩
  have one : ∀ j, j ≠ wr.heap.size → j ∉ [wr.heap.size] := fun j hj q => hj (by simpa using q)
  have hz : (wr.alloc (.cells os t)).heap.size = wr.heap.size + 1 := sizeE_alloc _ _
  have hsc' : ∀ j ∈ scF V D vv' dd', j < wr.heap.size ∨ (wr.heap.size + 1 ≤ j ∧ j ∉ ownL (.slice va a.terms.length vc)) := fun j hj => by
    rcases mem_scF.1 hj with q | q | q
    · exact .inl (by omega)
    · exact .inl (by omega)
    · rcases hft j q with q | q
      · exact .inl (hold j q)
      · exact .inr ⟨by omega, q.2⟩
  refine ⟨h.step ((kA.mono (by simp)).trans k |>.trans_new k' (fun j hj => .inr (by have e : j = wr.heap.size := (by simpa using hj); omega))) (hc.keeps k' (one _ (by omega))) (hs.keeps k' (fun j hj => one j (by rcases hsc' j hj with q | q <;> omega))) (fun j hj => ?_), ?_, fun j hj q => ?_⟩
  · rcases hft j hj with q | q
    · exact .inl q
    · exact .inr (by omega)
  · exact ownsRow_base (ownsRow_kept hrow k' (fun j hj => one j (by have := (ownE_lt hrow j hj).1; omega))) (by omega)
  · have hl := (ownL_at hrow j hj).1
    rcases List.mem_cons.1 q with q | q
    · omega
    · rcases hsc' j q with q | q
      · omega
      · exact q.2 hj
end

/-! Rows of other kinds. -/
theorem row_keptT {w w' : World} {base base' : Nat} {e t : TypeId} {size n : Nat} {v : Value} {xs : List Value} {T : List Nat} (h : w.ownsRow base e size v n xs) (hb : base' ≤ base) (k : Keeps T w w') (ht : t ≠ e) (hT : ∀ j ∈ T, j < base' ∨ Tag w j t) : w'.ownsRow base e size v n xs :=
  ownsRow_kept h k (fun i hi hiT => by
    have h1 := (ownE_lt h i hi).1
    rcases hT i hiT with q | q
    · omega
    · exact ht (q.eq (own_tag2 h i (by simp [ownL, hi]))))
theorem RRs.keptT {w w' : World} {base : Nat} {t : TypeId} {X T : List Nat} {rs : List (ByteArray × List Nat)} {vs : List Value} (h : RRs w base X rs vs) (k : Keeps T w w') (ht : t ≠ 3) (hT : ∀ j ∈ T, j < base ∨ Tag w j t) : RRs w' base X rs vs := by
  induction rs generalizing vs with
  | nil => exact h
  | cons x rs ih =>
    obtain ⟨v, rest, e, ho, hX, hr⟩ := h
    exact ⟨v, rest, e, row_keptT ho (Nat.le_refl _) k ht hT, hX, ih hr⟩
theorem RLs.keptT {w w' : World} {base : Nat} {t : TypeId} {X T : List Nat} {ls : List LitI} {xs : List (AtomM × Bool)} {vs : List Value} (h : RLs w base X ls xs vs) (k : Keeps T w w') (ht : t ≠ 245) (hT : ∀ j ∈ T, j < base ∨ Tag w j t) : RLs w' base X ls xs vs := by
  induction ls generalizing xs vs with
  | nil => cases xs with
    | nil => exact h
    | cons => exact h.elim
  | cons l ls ih => cases xs with
    | nil => exact h.elim
    | cons x xs =>
      obtain ⟨v, rest, e, ho, hX, hr⟩ := h
      exact ⟨v, rest, e, row_keptT ho (Nat.le_refl _) k ht hT, hX, ih hr⟩
theorem RCs.keptT {w w' : World} {base : Nat} {t : TypeId} {X T : List Nat} {ls : List (AtomI × List LitI)} {xs : List ClauseM} {vs : List Value} (h : RCs w base X ls xs vs) (k : Keeps T w w') (ht : t ≠ 245) (ht2 : t ≠ 251) (hT : ∀ j ∈ T, j < base ∨ Tag w j t) : RCs w' base X ls xs vs := by
  induction ls generalizing xs vs with
  | nil => cases xs with
    | nil => exact h
    | cons => exact h.elim
  | cons l ls ih => cases xs with
    | nil => exact h.elim
    | cons x xs =>
      obtain ⟨hv, lv, lcs, rest, ru, e, ho, hX, ho2, hX2, hl, hr⟩ := h
      exact ⟨hv, lv, lcs, rest, ru, e, row_keptT ho (Nat.le_refl _) k ht hT, hX, row_keptT ho2 (Nat.le_refl _) k ht2 hT, hX2, hl.keptT k ht hT, ih hr⟩
theorem RCs.push {w : World} {base : Nat} {cs : List (AtomI × List LitI)} {xs : List ClauseM} {vs : List Value} (h : RCs w base [] cs xs vs) {c : AtomI × List LitI} {x : ClauseM} {hv lv : Value} {lcs : List Value} {ru : Bool} (ho : w.ownsRow base 245 4 hv c.1.terms.length (rtCs c.1.terms)) (ho2 : w.ownsRow base 251 4 lv c.2.length lcs) (hl : RLs w base [] c.2 x.lits lcs) : RCs w base [] (cs ++ [c]) (xs ++ [x]) (vs ++ [.int .i64 (x.head.rel : Int), hv, .bool false, .int .i64 c.1.name.line, lv, .bool ru]) := by
  induction cs generalizing xs vs with
  | nil => cases xs with
    | nil => cases h; exact ⟨hv, lv, lcs, [], ru, rfl, ho, by simp, ho2, by simp, hl, rfl⟩
    | cons => exact h.elim
  | cons y cs ih => cases xs with
    | nil => exact h.elim
    | cons z xs =>
      obtain ⟨hv1, lv1, lcs1, rest, ru1, rfl, h1, h2, h3, h4, h5, hr⟩ := h
      exact ⟨hv1, lv1, lcs1, _, ru1, List.append_assoc .., h1, h2, h3, h4, h5, ih hr⟩

/-- What a clause leaves. -/
def ClTo (w' : World) (mb P : Nat) (dv rv tkv : Value) (rvs : List Value) (cs : List (AtomI × List LitI)) (a : AtomI) (ls : List LitI) : Except Flt Mean → Prop
  | .error fl => ∃ kv', CellsAt w' P #[dv, rv, kv', tkv, .int .i64 fl.1, .int .i64 fl.2]
  | .ok m' => ∃ kv' kcs', CellsAt w' P #[dv, rv, kv', tkv, .int .i64 0, .int .i64 0] ∧ RMn w' mb [] m' dv rv rvs ∧ w'.ownsRow mb 254 6 kv' (cs ++ [(a, ls)]).length kcs' ∧ RCs w' mb [] (cs ++ [(a, ls)]) m'.clauses kcs'

theorem clauseR_done {w wr W4 W5 : World} {P V D C mb g cap : Nat} {dv rv kv tkv : Value} {m : Mean} {f : FltO} {vts : List Tn} {ds : List Nat} {vv dd hv : Value} {a : AtomI} {ru : Bool} {ls : List LitI} {lv : Value} {lcs rvs kcs : List Value} {cs : List (AtomI × List LitI)}
    (h : ClR w wr P V D C dv rv kv tkv m f vts ds vv dd (.int .i64 (plInt (m.rel (txt a.name.g)))) hv (.bool false) (.int .i64 a.name.line) a.terms ru ls lv lcs) (hm : RMn w mb [] m dv rv rvs) (hPm : P < mb) (hmb : mb ≤ w.heap.size) (hkv : w.ownsRow mb 254 6 kv cs.length kcs) (hcs : RCs w mb [] cs m.clauses kcs) (ht : ∀ t ∈ a.terms, isTermG t.g = true) (hl : ∀ l ∈ ls, ∀ t ∈ l.atom.terms, isTermG t.g = true) (hf : (clR m a ls).1 = f)
    (k : Keeps [] wr W4) (hown : W5.ownsRow mb 254 6 (.slice (some ⟨g, 0, none⟩) (cs.length + 1) cap) (cs.length + 1) (kcs ++ [.int .i64 (plInt (m.rel (txt a.name.g))), hv, .bool false, .int .i64 a.name.line, lv, .bool ru])) (hg : W4.grownBy W5 kv.ownBlock) (hat : kv.ownBlock = some g ∨ g = W4.heap.size) :
    CellsAt W5 P #[dv, rv, kv, tkv, .int .i64 (fC f).1, .int .i64 (fC f).2] ∧ ClTo (W5.setCell ⟨P, 2, none⟩ (.slice (some ⟨g, 0, none⟩) (cs.length + 1) cap)) mb P dv rv tkv rvs cs a ls (addClause m a ls) ∧ Keeps (P :: ownL kv) w (W5.setCell ⟨P, 2, none⟩ (.slice (some ⟨g, 0, none⟩) (cs.length + 1) cap)) := by
  have h4 := h.kept k
  have k4 := h4.keep
  have one : ∀ j, mb ≤ j → j ∉ [P] := fun j hj q => by have e : j = P := (by simpa using q); omega
  have hkv4 := ownsRow_kept hkv k4 (fun j hj => one j (ownE_lt hkv j hj).1)
  have hlow : ∀ j ∈ [P], j ∈ ([] : List Nat) ∨ j < mb ∨ w.heap.size ≤ j := fun j hj => .inr (.inl (by have e : j = P := (by simpa using hj); omega))
  have hm4 := hm.kept k4 hlow
  have hcs4 := hcs.kept k4 hlow
  have k5 := grownBy_keeps' hg (ownL kv) (fun r e => .inl (by simp [ownL, e]))
  have kS := Keeps.setCell W5 ⟨P, 2, none⟩ (.slice (some ⟨g, 0, none⟩) (cs.length + 1) cap)
  have kall := (k5.mono (T' := P :: ownL kv) (fun i hi => by simp [hi])).trans (kS.mono (T' := P :: ownL kv) (fun i hi => by have e : i = P := (by simpa using hi); simp [e]))
  have hkl : ∀ j ∈ ownL kv, mb ≤ j := fun j hj => (ownL_at hkv4 j hj).1
  have hP5 := h4.cells.keeps k5 (fun q => by have := hkl P q; omega)
  have hgn : ∀ j ∈ ownL (.slice (some ⟨g, 0, none⟩) (cs.length + 1) cap), j ∈ ownL kv ∨ j = W4.heap.size := own_new hat
  have hT : ∀ j ∈ P :: ownL kv, j < mb ∨ Tag W4 j 254 := fun j hj => by
    rcases List.mem_cons.1 hj with q | q
    · exact .inl (by omega)
    · exact .inr (own_tag2 hkv4 j q)
  have hP6 := hP5.setCell 2 (.slice (some ⟨g, 0, none⟩) (cs.length + 1) cap)
  have hPl := h4.cells.lt
  refine ⟨hP5, ?_, (k4.mono (T' := P :: ownL kv) (fun i hi => by have e : i = P := (by simpa using hi); simp [e])).trans kall⟩
  cases hA : addClause m a ls with
  | error fl =>
    have := clR_err ht hl hA
    rw [hf] at this
    subst this
    exact ⟨_, hP6⟩
  | ok m' =>
    obtain ⟨hn, x, xs, sc, sc', hx, hy, rfl⟩ := clR_ok ht hl hA
    rw [hf] at hn
    subst hn
    refine ⟨_, kcs ++ [.int .i64 (x.rel : Int), hv, .bool false, .int .i64 a.name.line, lv, .bool ru], hP6, ⟨row_keptT hm4.doms (Nat.le_refl _) kall (by decide) hT, by simp, row_keptT hm4.rels (Nat.le_refl _) kall (by decide) hT, by simp, hm4.rrs.keptT kall (by decide) hT⟩, ?_, ?_⟩
    · rw [List.length_append, List.length_singleton]
      have hq := hown
      rw [atomS_relS hx] at hq
      refine ownsRow_kept hq kS (fun i hi => one i ?_)
      rcases hgn i (by rw [ownL, hi]; simp) with q | q
      · exact hkl i q
      · have := k4.size; omega
    · exact (hcs4.keptT kall (by decide) (by decide) hT).push (x := ⟨x, xs, a.name.line⟩) (c := (a, ls)) (ownsRow_base (row_keptT h4.hrow hmb kall (by decide) hT) hmb) (ownsRow_base (row_keptT h4.lrow hmb kall (by decide) hT) hmb) ((h4.rls.to hmb hy).keptT kall (by decide) hT)

end Go.Proofs.YtgjomknpjigkhaaGreatDoor

namespace Go.Proofs.YtgjomknpjigkhaaGreatDoor
open Go.RowKit

theorem ClR.start {w wd : World} {P : Nat} {dv rv kv tkv : Value} {m : Mean} {f : FltO} (hPw : P < w.heap.size) (k : Keeps [P] w wd) (hc : CellsAt wd P #[dv, rv, kv, tkv, .int .i64 (fC f).1, .int .i64 (fC f).2]) (hv : CellsAt wd w.heap.size #[.slice none 0 0]) (hd : CellsAt wd (w.heap.size + 1) #[.slice none 0 0]) : ClR w (wd.alloc (.cells #[.int .i64 0, .slice none 0 0, .bool false, .int .i64 0, .slice none 0 0, .bool false] 254)) P w.heap.size (w.heap.size + 1) wd.heap.size dv rv kv tkv m f [] [] (.slice none 0 0) (.slice none 0 0) (.int .i64 0) (.slice none 0 0) (.bool false) (.int .i64 0) [] false [] (.slice none 0 0) [] := by
  have kA := Keeps.alloc [] wd (.cells #[.int .i64 0, .slice none 0 0, .bool false, .int .i64 0, .slice none 0 0, .bool false] 254)
  have hDl := hd.lt
  have e0 : ∀ j, j ∉ ownL (.slice none 0 0) := fun j => by simp [ownL, Value.ownBlock]
  exact ⟨hPw, hc.keeps kA (by simp), ⟨hv.keeps kA (by simp), hd.keeps kA (by simp), World.ownsRow_nil .., World.ownsRow_nil .., ⟨Nat.le_refl _, by omega⟩, by omega, ⟨e0 _, e0 _⟩, ⟨e0 _, e0 _⟩⟩, CellsAt.new wd _ 254, World.ownsRow_nil .., fun j hj => absurd hj (e0 j), World.ownsRow_nil .., fun j hj => absurd hj (e0 j), rfl, k.trans (kA.mono (by simp)), ⟨by omega, fun q => by
    rcases mem_scF.1 q with q | q | q | q
    · omega
    · omega
    · exact e0 _ q
    · exact e0 _ q⟩⟩

/-- The head's atom. -/
theorem ClR.head {w wr W : World} {P V D C : Nat} {dv rv kv tkv : Value} {m : Mean} {f : FltO} {vts : List Tn} {ds : List Nat} {vv dd h0 hv h2 h3 : Value} {hts : List Tn} {ru : Bool} {ls : List LitI} {lv : Value} {lcs : List Value} {i : Nat} {a : AtomI} {ρ : Int} {r : FltO × Scope} {e : Ending} (h : ClR w wr P V D C dv rv kv tkv m f vts ds vv dd h0 hv h2 h3 hts ru ls lv lcs) (hat : AtRTo wr P V D w.heap.size dv rv kv tkv vv dd i a ρ r e W) : ∃ va vc vts' vv' dd', e = .returned (.tuple #[.agg #[.int .i64 ρ, .slice va a.terms.length vc, .bool false, .int .i64 a.name.line], .int .i64 (atomEnd i a : Nat)]) ∧ vts'.map (fun t => txt t.g) = r.2.map Prod.fst ∧ CellsAt W C #[h0, hv, h2, h3, lv, .bool ru] ∧ ∀ W', Keeps [C] W W' → CellsAt W' C #[.int .i64 ρ, .slice va a.terms.length vc, .bool false, .int .i64 a.name.line, lv, .bool ru] → ClR w W' P V D C dv rv kv tkv m r.1 vts' (r.2.map Prod.snd) vv' dd' (.int .i64 ρ) (.slice va a.terms.length vc) (.bool false) (.int .i64 a.name.line) a.terms ru ls lv lcs := by
  obtain ⟨v, vts', vv', dd', he, hc, hs, hn, hrow, k, hft⟩ := hat
  obtain ⟨va, vc, rfl⟩ := ownE_len hrow
  have hsz := h.keep.size
  have hVl := h.sc.v.lt
  have hDl := h.sc.d.lt
  have hCl := h.cl.lt
  have hpw := h.pw
  have hold : ∀ j ∈ P :: scF V D vv dd, j < wr.heap.size := fun j hj => by
    rcases List.mem_cons.1 hj with q | q
    · omega
    · exact (h.sc.lt j q).2
  have h1 := h.step k hc hs (fun j hj => by
    rcases hft j hj with q | q
    · exact .inl q
    · exact .inr q.1)
  refine ⟨va, vc, vts', vv', dd', he, hn, h1.cl, fun W' k' hc' => h1.setC k' hc' (ownsRow_base hrow hsz) (fun j hj q => ?_)⟩
  have hl := (ownL_at hrow j hj).1
  rcases List.mem_cons.1 q with q | q
  · omega
  · rcases mem_scF.1 q with q | q | q
    · omega
    · omega
    · rcases hft j q with q | q
      · have := hold j q; omega
      · exact q.2 hj

end Go.Proofs.YtgjomknpjigkhaaGreatDoor
