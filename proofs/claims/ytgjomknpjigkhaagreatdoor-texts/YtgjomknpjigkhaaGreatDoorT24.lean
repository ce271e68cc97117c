/- Texts: L2 K4 K6 K5 K7. -/
import Derived.Test.YtgjomknpjigkhaaGreatDoorT06
import Derived.Laws.IdiomStrings
import Derived.Test.YtgjomknpjigkhaaGreatDoorT16
import Derived.Test.YtgjomknpjigkhaaGreatDoorT15
namespace Go.Proofs.YtgjomknpjigkhaaGreatDoor
open Go.RowKit

/-- A byte as a text. -/
theorem byte_text (w : World) (x : Int) (b : UInt8) (hb : (b.toNat : Int) = x) : (convert 120 9 (.slice (some ⟨w.heap.size, 0, none⟩) 1 1)).run Tryz.prog (w.alloc (.cells #[.int .u8 x] 5)) = .ok (.string ⟨#[b]⟩) (w.alloc (.cells #[.int .u8 x] 5)) := by
  have := run_convert_bytes_back (P := Tryz.prog) (w.alloc (.cells #[.int .u8 x] 5)) 120 9 5 ⟨w.heap.size, 0, none⟩ 1 [b] Tryz.underlying120 Tryz.underlying5 Tryz.underlying9 (fun j hj => by
    have hj0 : j = 0 := by simp at hj; omega
    subst hj0
    rw [Addr.add_lit, Nat.zero_add, (CellsAt.new w #[.int .u8 x] 5).cell]
    simp [hb])
  exact this

theorem u8_nat {n : Nat} (h : n < 256) : n.toUInt8.toNat = n := by
  show (UInt8.ofNat n).toNat = n
  simp
  omega

set_option maxRecDepth 100000 in
set_option maxHeartbeats 1000000 in
theorem decimal_one {w : World} (n : Int) (h0 : 0 ≤ n) (h1 : n < 10) : Calls Tryz.prog 160 #[.int .i64 n] w fun e w' => e = .returned (.string (decG n)) ∧ Keeps [] w w' := by
  have hm : n.tmod 10 = n := by rw [Int.tmod_eq_emod_of_nonneg h0]; omega
  have hge : ¬ (10 : Int) ≤ n := by omega
  have hbt := byte_text w (48 + n) (48 + n % 10).toNat.toUInt8 (by rw [u8_nat (by omega)]; omega)
  have kA := Keeps.alloc [] w (.cells #[.int .u8 (48 + n)] 5)
  have hdec : decG n = ⟨#[(48 + n % 10).toNat.toUInt8]⟩ := by unfold decG; rw [if_neg hge]
  rw [hdec]
  generalize (48 + n % 10).toNat.toUInt8 = b at *
  go_enter Tryz.func160, Tryz.ntmps160
  go_wp2_with fail
  go_ret
  exact ⟨rfl, kA⟩

set_option maxRecDepth 100000 in
set_option maxHeartbeats 1000000 in
theorem decimal_two {w : World} (n : Int) (h0 : 10 ≤ n) (h1 : n < 100) : Calls Tryz.prog 160 #[.int .i64 n] w fun e w' => e = .returned (.string (decG n)) ∧ Keeps [] w w' := by
  have hm : n.tmod 10 = n % 10 := by rw [Int.tmod_eq_emod_of_nonneg (by omega)]
  have hq : n.tdiv 10 = n / 10 := by rw [Int.tdiv_eq_ediv_of_nonneg (by omega)]
  have hr : 0 ≤ n % 10 ∧ n % 10 < 10 := by omega
  have hr2 : 0 ≤ n / 10 ∧ n / 10 < 10 := by omega
  have hbt := byte_text w (48 + n % 10) (48 + n % 10).toNat.toUInt8 (by rw [u8_nat (by omega)]; omega)
  have hbt2 := byte_text (w.alloc (.cells #[.int .u8 (48 + n % 10)] 5)) (48 + n / 10) (48 + n / 10).toNat.toUInt8 (by rw [u8_nat (by omega)]; omega)
  rw [sizeE_alloc] at hbt2
  have kA := (Keeps.alloc [] w (.cells #[.int .u8 (48 + n % 10)] 5)).trans (Keeps.alloc [] _ (.cells #[.int .u8 (48 + n / 10)] 5))
  have hdec : decG n = ⟨#[(48 + n / 10).toNat.toUInt8]⟩ ++ ⟨#[(48 + n % 10).toNat.toUInt8]⟩ := by unfold decG; rw [if_pos h0]; rfl
  rw [hdec]
  generalize (48 + n % 10).toNat.toUInt8 = b at *
  generalize (48 + n / 10).toNat.toUInt8 = c at *
  generalize n % 10 = R at *
  generalize n / 10 = Q at *
  obtain ⟨r1, r2⟩ := hr
  obtain ⟨q1, q2⟩ := hr2
  go_enter Tryz.func160, Tryz.ntmps160
  go_wp2_with fail
  go_ret
  exact ⟨rfl, kA⟩

theorem decimal_calls {w : World} (n : Int) (h0 : 0 ≤ n) (h1 : n < 100) : Calls Tryz.prog 160 #[.int .i64 n] w fun e w' => e = .returned (.string (decG n)) ∧ Keeps [] w w' := by
  by_cases h : n < 10
  · exact decimal_one n h0 h
  · exact decimal_two n (by omega) h1

end Go.Proofs.YtgjomknpjigkhaaGreatDoor

namespace Go.Proofs.YtgjomknpjigkhaaGreatDoor
open Go.RowKit

def TermsFine (xs : List TermM) : Prop := NumOk xs ∧ xs.length ≤ 1000000
def ClauseFine (c : ClauseM) : Prop := TermsFine c.head.terms ∧ ∀ l ∈ c.lits, TermsFine l.1.terms

def litStep (p : Nat × Nat) (l : AtomM × Bool) : Nat × Nat := if l.2 then (p.1 ||| maskOf 0 l.1.terms, p.2) else (p.1, p.2 ||| maskOf 0 l.1.terms)
def masks (p : Nat × Nat) (ls : List (AtomM × Bool)) : Nat × Nat := ls.foldl litStep p
def askedL (ls : List (AtomM × Bool)) : List Int := (ls.filter (·.2)).flatMap fun l => varsM l.1.terms
def boundL (ls : List (AtomM × Bool)) : List Int := (ls.filter (fun l => !l.2)).flatMap fun l => varsM l.1.terms

theorem litStep_lt {p : Nat × Nat} (h : p.1 < 16 ∧ p.2 < 16) {l : AtomM × Bool} (hl : NumOk l.1.terms) : (litStep p l).1 < 16 ∧ (litStep p l).2 < 16 := by
  have hm := maskOf_lt (m := 0) (by omega) hl
  unfold litStep
  split
  · exact ⟨Nat.or_lt_two_pow (n := 4) h.1 hm, h.2⟩
  · exact ⟨h.1, Nat.or_lt_two_pow (n := 4) h.2 hm⟩
theorem masks_lt {p : Nat × Nat} (h : p.1 < 16 ∧ p.2 < 16) {ls : List (AtomM × Bool)} (hl : ∀ l ∈ ls, NumOk l.1.terms) : (masks p ls).1 < 16 ∧ (masks p ls).2 < 16 := by
  induction ls generalizing p with
  | nil => exact h
  | cons l ls ih => exact ih (litStep_lt h (hl l (by simp))) (fun x hx => hl x (by simp [hx]))
theorem masks_bit {p : Nat × Nat} {ls : List (AtomM × Bool)} (hl : ∀ l ∈ ls, NumOk l.1.terms) (i : Nat) : ((masks p ls).1.testBit i = true ↔ p.1.testBit i = true ∨ (i : Int) ∈ askedL ls) ∧ ((masks p ls).2.testBit i = true ↔ p.2.testBit i = true ∨ (i : Int) ∈ boundL ls) := by
  induction ls generalizing p with
  | nil => simp [masks, askedL, boundL]
  | cons l ls ih =>
    have h1 := ih (p := litStep p l) (fun x hx => hl x (by simp [hx]))
    have hb := maskOf_bit (hl l (by simp)) i
    have e : masks p (l :: ls) = masks (litStep p l) ls := rfl
    rw [e]
    cases h2 : l.2 with
    | true =>
      have e1 : litStep p l = (p.1 ||| maskOf 0 l.1.terms, p.2) := by unfold litStep; rw [h2]; rfl
      have e2 : askedL (l :: ls) = varsM l.1.terms ++ askedL ls := by simp [askedL, h2]
      have e3 : boundL (l :: ls) = boundL ls := by simp [boundL, h2]
      rw [e1] at h1
      rw [e1, e2, e3, List.mem_append, ← hb, ← or_assoc]
      simpa using h1
    | false =>
      have e1 : litStep p l = (p.1, p.2 ||| maskOf 0 l.1.terms) := by unfold litStep; rw [h2]; rfl
      have e2 : askedL (l :: ls) = askedL ls := by simp [askedL, h2]
      have e3 : boundL (l :: ls) = varsM l.1.terms ++ boundL ls := by simp [boundL, h2]
      rw [e1] at h1
      rw [e1, e2, e3, List.mem_append, ← hb, ← or_assoc]
      simpa using h1
theorem vars_nat {xs : List TermM} (h : NumOk xs) {n : Int} (hn : n ∈ varsM xs) : ∃ p : Nat, n = (p : Int) := by
  simp only [varsM, List.mem_map, List.mem_filter] at hn
  obtain ⟨x, ⟨hx, hv⟩, rfl⟩ := hn
  obtain ⟨p, hp, _⟩ := h x hx hv
  exact ⟨p, hp⟩

theorem unsafe_mask {c : ClauseM} (h : ClauseFine c) : unsafeM c = !decide (andN (masks (maskOf 0 c.head.terms, 0) c.lits).1 (masks (maskOf 0 c.head.terms, 0) c.lits).2 = 0) := by
  have hl : ∀ l ∈ c.lits, NumOk l.1.terms := fun l hl => (h.2 l hl).1
  have hm := maskOf_lt (m := 0) (by omega) h.1.1
  have hlt := masks_lt (p := (maskOf 0 c.head.terms, 0)) ⟨hm, Nat.zero_lt_succ 15⟩ hl
  have hbit : ∀ i, (andN (masks (maskOf 0 c.head.terms, 0) c.lits).1 (masks (maskOf 0 c.head.terms, 0) c.lits).2).testBit i = true ↔ (i : Int) ∈ askedM c ∧ (i : Int) ∉ boundM c := fun i => by
    obtain ⟨h1, h2⟩ := masks_bit (p := (maskOf 0 c.head.terms, 0)) hl i
    rw [andN_bit (by omega) (by omega), Bool.and_eq_true, h1, Bool.not_eq_true', ← Bool.not_eq_true, h2, maskOf_bit h.1.1]
    have e1 : askedM c = varsM c.head.terms ++ askedL c.lits := rfl
    have e2 : boundM c = boundL c.lits := rfl
    rw [e1, e2, List.mem_append]
    simp
  rw [Bool.eq_iff_iff]
  unfold unsafeM
  rw [List.any_eq_true]
  simp only [Bool.not_eq_true', decide_eq_false_iff_not]
  constructor
  · rintro ⟨n, hn, hb⟩ h0
    have hnat : ∃ p : Nat, n = (p : Int) := by
      have e1 : askedM c = varsM c.head.terms ++ askedL c.lits := rfl
      rw [e1, List.mem_append] at hn
      rcases hn with hn | hn
      · exact vars_nat h.1.1 hn
      · simp only [askedL, List.mem_flatMap, List.mem_filter] at hn
        obtain ⟨l, ⟨hl1, _⟩, hn⟩ := hn
        exact vars_nat (hl l hl1) hn
    obtain ⟨p, rfl⟩ := hnat
    have := (hbit p).2 ⟨hn, hb⟩
    rw [h0, Nat.zero_testBit] at this
    cases this
  · intro h0
    obtain ⟨i, hi⟩ := Nat.exists_testBit_of_ne_zero h0
    obtain ⟨h1, h2⟩ := (hbit i).1 hi
    exact ⟨(i : Int), h1, h2⟩

/-- A clause's cells in whatever world comes. -/
theorem mean_clause {w : World} {mb B : Nat} {m : Mean} (h : MeanAt w mb B m) : ∃ a cc la lc, B < w.heap.size ∧ (∀ c ∈ m.clauses, ∃ g g2, a = some ⟨g, 0, none⟩ ∧ g < w.heap.size ∧ la = some ⟨g2, 0, none⟩ ∧ g2 < w.heap.size) ∧ ∀ {W : World}, Keeps [] w W → W.cell? ⟨B, 6, none⟩ = some (.slice a m.clauses.length cc) ∧ W.cell? ⟨B, 7, none⟩ = some (.slice la m.clauses.length lc) ∧ (∀ (i g2 : Nat) (c : ClauseM), m.clauses[i]? = some c → la = some ⟨g2, 0, none⟩ → W.cell? ⟨g2, i, none⟩ = some (.int .i64 (c.line : Int))) ∧ ∀ (i g : Nat) (c : ClauseM), m.clauses[i]? = some c → a = some ⟨g, 0, none⟩ → ∃ ha hc va vc ls, W.cell? ⟨g, i * 3, none⟩ = some (.int .i64 (c.head.rel : Int)) ∧ W.cell? ⟨g, i * 3 + 1, none⟩ = some (.slice ha c.head.terms.length hc) ∧ W.cell? ⟨g, i * 3 + 2, none⟩ = some (.slice va c.lits.length vc) ∧ w.ownsRow mb 220 2 (.slice ha c.head.terms.length hc) c.head.terms.length (termCs c.head.terms) ∧ w.ownsRow mb 279 3 (.slice va c.lits.length vc) c.lits.length ls ∧ LitMs w mb [] c.lits ls := by
  obtain ⟨tD, mD, sz, tN, mN, co, cl, ln, cvs, kvs, hV⟩ := h
  obtain ⟨ak, ck, hk⟩ := ownE_len hV.cls
  subst hk
  obtain ⟨al, cl2, hk⟩ := ownE_len hV.lines
  subst hk
  refine ⟨ak, ck, al, cl2, hV.cells.lt, fun c hc => ?_, fun k => ⟨by rw [(hV.cells.keeps k (by simp)).cell]; rfl, by rw [(hV.cells.keeps k (by simp)).cell]; rfl, fun i g2 c hi hg => ?_, fun i g c hi hg => ?_⟩⟩
  · have hpos : 0 < m.clauses.length := List.length_pos_of_mem hc
    obtain ⟨g, hg⟩ := ownE_pos2 hV.cls hpos
    obtain ⟨g2, hg2⟩ := ownE_pos2 hV.lines hpos
    subst hg
    subst hg2
    exact ⟨g, g2, rfl, (ownE_lt hV.cls g rfl).2, rfl, (ownE_lt hV.lines g2 rfl).2⟩
  · subst hg
    refine ownE_cell (ownsRow_kept hV.lines k (by simp)) ?_
    simp [natsV, hi]
  · subst hg
    obtain ⟨hv, lv, ls, h1, h2, h3, h4⟩ := hV.clsA.at hi
    obtain ⟨ha, hc, e⟩ := ownE_len h2
    subst e
    obtain ⟨va, vc, e⟩ := ownE_len h3
    subst e
    have hcr := ownsRow_kept hV.cls k (by simp)
    have e0 := h1 0 (by omega)
    rw [Nat.add_zero] at e0
    exact ⟨ha, hc, va, vc, ls, ownE_cells hcr (by rw [e0]; rfl), ownE_cells hcr (by rw [h1 1 (by omega)]; rfl), ownE_cells hcr (by rw [h1 2 (by omega)]; rfl), h2, h3, h4.far (by simp)⟩

end Go.Proofs.YtgjomknpjigkhaaGreatDoor

namespace Go.Proofs.YtgjomknpjigkhaaGreatDoor
open Go.RowKit

abbrev Grow := List Nat → Nat → AtomM × Bool → Nat
structure GrowOk (cs : List ClauseM) (G : Grow) (U n : Nat) (Inv : List Nat → Prop) : Prop where
  len : ∀ {vals}, Inv vals → vals.length = n
  le : ∀ {vals}, Inv vals → ∀ v ∈ vals, v ≤ U
  grow : ∀ {vals} {c : ClauseM} {l : AtomM × Bool}, Inv vals → c ∈ cs → l ∈ c.lits → vals.getD c.head.rel 0 ≤ G vals (vals.getD c.head.rel 0) l
  keep : ∀ {vals} {c : ClauseM} {l : AtomM × Bool}, Inv vals → c ∈ cs → l ∈ c.lits → Inv (vals.set c.head.rel (G vals (vals.getD c.head.rel 0) l))
  rels : ∀ c ∈ cs, RelsOk n c

theorem sum_set (vals : List Nat) {h : Nat} (hh : h < vals.length) (x : Nat) : (vals.set h x).sum + vals.getD h 0 = vals.sum + x := by
  induction vals generalizing h with
  | nil => simp at hh
  | cons v vals ih =>
    cases h with
    | zero => simp; omega
    | succ h =>
      have := ih (h := h) (by simpa using hh)
      simp at this ⊢
      omega
theorem sum_le {vals : List Nat} {U : Nat} (h : ∀ v ∈ vals, v ≤ U) : vals.sum ≤ vals.length * U := by
  induction vals with
  | nil => simp
  | cons v vals ih =>
    have h1 := h v (by simp)
    have h2 := ih (fun x hx => h x (by simp [hx]))
    rw [List.sum_cons, List.length_cons, Nat.add_mul]
    omega

/-- A pass under way: from vals0 to vals; c: did something change? -/
def PassSt (G : Grow) (vals0 vals : List Nat) (c : Bool) (done : Nat → AtomM × Bool → Prop) : Prop := (c = true ∧ vals0.sum < vals.sum) ∨ (c = false ∧ vals = vals0 ∧ ∀ h l, done h l → G vals (vals.getD h 0) l = vals.getD h 0)

theorem PassSt.mono {G : Grow} {vals0 vals : List Nat} {c : Bool} {done done' : Nat → AtomM × Bool → Prop} (h : PassSt G vals0 vals c done) (hd : ∀ h l, done' h l → done h l) : PassSt G vals0 vals c done' := by
  rcases h with h | ⟨h1, h2, h3⟩
  · exact .inl h
  · exact .inr ⟨h1, h2, fun a l q => h3 a l (hd a l q)⟩

theorem PassSt.step {cs : List ClauseM} {G : Grow} {U n : Nat} {Inv : List Nat → Prop} (H : GrowOk cs G U n Inv) {vals0 vals : List Nat} {b : Bool} {done done' : Nat → AtomM × Bool → Prop} (h : PassSt G vals0 vals b done) (hI : Inv vals) {c : ClauseM} (hc : c ∈ cs) {l : AtomM × Bool} (hl : l ∈ c.lits) (hd : ∀ h x, done' h x → done h x ∨ (h = c.head.rel ∧ x = l)) : PassSt G vals0 (vals.set c.head.rel (G vals (vals.getD c.head.rel 0) l)) (b || (((G vals (vals.getD c.head.rel 0) l : Nat) : Int) != ((vals.getD c.head.rel 0 : Nat) : Int))) done' := by
  have hr : c.head.rel < vals.length := by rw [H.len hI]; exact (H.rels c hc).1
  have hs := sum_set vals hr (G vals (vals.getD c.head.rel 0) l)
  have hg := H.grow hI hc hl
  by_cases he : G vals (vals.getD c.head.rel 0) l = vals.getD c.head.rel 0
  · have hsame : vals.set c.head.rel (G vals (vals.getD c.head.rel 0) l) = vals := by
      rw [he]
      apply List.ext_getElem?
      intro i
      rw [List.getElem?_set]
      split
      · rename_i e
        subst e
        rw [List.getD_eq_getElem?_getD, List.getElem?_eq_getElem hr]
        rfl
      · rfl
    rw [hsame]
    have e0 : (((G vals (vals.getD c.head.rel 0) l : Nat) : Int) != ((vals.getD c.head.rel 0 : Nat) : Int)) = false := by rw [bne_eq_false_iff_eq, he]
    rw [e0, Bool.or_false]
    rcases h with h | ⟨h1, h2, h3⟩
    · exact .inl h
    · refine .inr ⟨h1, h2, fun a x hx => ?_⟩
      rcases hd a x hx with q | ⟨rfl, rfl⟩
      · exact h3 a x q
      · exact he
  · have e0 : (((G vals (vals.getD c.head.rel 0) l : Nat) : Int) != ((vals.getD c.head.rel 0 : Nat) : Int)) = true := by rw [bne_iff_ne]; omega
    rw [e0, Bool.or_true]
    left
    refine ⟨rfl, ?_⟩
    rcases h with ⟨_, h⟩ | ⟨_, h2, _⟩
    · omega
    · rw [← h2]; omega

/-- Values in a block. -/
def natC (vals : List Nat) : Array Value := (vals.map fun n : Nat => Value.int .i64 (n : Int)).toArray
theorem natC_at {vals : List Nat} {i : Nat} (h : i < vals.length) : (natC vals)[i]? = some (.int .i64 ((vals.getD i 0 : Nat) : Int)) := by
  simp [natC, List.getD_eq_getElem?_getD, h]
theorem natC_set (vals : List Nat) (i x : Nat) : (natC vals).setIfInBounds i (.int .i64 (x : Int)) = natC (vals.set i x) := by
  simp [natC, List.map_set]
def natOf : Value → Nat | .int _ v => v.toNat | _ => 0
def sumAt (w : World) (g : Nat) : Nat := match w.heap[g]? with | some (.cells cs _ _) => (cs.toList.map natOf).sum | _ => 0
theorem sumAt_of {w : World} {g : Nat} {vals : List Nat} (h : CellsAt w g (natC vals)) : sumAt w g = vals.sum := by
  obtain ⟨t, ht⟩ := h
  unfold sumAt
  rw [ht]
  simp only [natC]
  congr 1
  rw [List.map_map]
  conv => rhs; rw [← List.map_id vals]
  apply List.map_congr_left
  intro x _
  simp [natOf]

/-- Nothing grows any more. -/
def StableG (G : Grow) (cs : List ClauseM) (vals : List Nat) : Prop := ∀ c ∈ cs, ∀ l ∈ c.lits, G vals (vals.getD c.head.rel 0) l = vals.getD c.head.rel 0

/-! What hangs on what. -/
def hangG : Grow := fun vals v l => v ||| vals.getD l.1.rel 0
def HangI (E : Edges) (n : Nat) (vals : List Nat) : Prop := vals.length = n ∧ ∀ i, i < n → vals.getD i 0 < 2 ^ n ∧ (vals.getD i 0).testBit i = true ∧ ∀ j, (vals.getD i 0).testBit j = true → HangsOn E i j

theorem getD_set (vals : List Nat) {h : Nat} (hh : h < vals.length) (x i : Nat) : (vals.set h x).getD i 0 = if i = h then x else vals.getD i 0 := by
  rw [List.getD_eq_getElem?_getD, List.getElem?_set, List.getD_eq_getElem?_getD]
  by_cases e : h = i
  · subst e; simp [hh]
  · rw [if_neg e, if_neg (fun q => e q.symm)]

theorem hang_ok {cs : List ClauseM} {n : Nat} (hr : ∀ c ∈ cs, RelsOk n c) : GrowOk cs hangG (2 ^ n) n (HangI (edgesM cs) n) where
  len h := h.1
  le {vals} h v hv := by
    obtain ⟨i, hi⟩ := List.getElem?_of_mem hv
    have hil : i < vals.length := by
      rcases Nat.lt_or_ge i vals.length with q | q
      · exact q
      · rw [List.getElem?_eq_none q] at hi; cases hi
    have := (h.2 i (by rw [← h.1]; exact hil)).1
    rw [List.getD_eq_getElem?_getD, hi] at this
    exact Nat.le_of_lt this
  grow h hc hl := Nat.left_le_or
  keep {vals c l} h hc hl := by
    have hh : c.head.rel < vals.length := by rw [h.1]; exact (hr c hc).1
    have hlr : l.1.rel < n := (hr c hc).2 l hl
    refine ⟨by rw [List.length_set]; exact h.1, fun i hi => ?_⟩
    rw [getD_set vals hh]
    split
    · rename_i e
      subst e
      have h1 := h.2 c.head.rel hi
      have h2 := h.2 l.1.rel hlr
      refine ⟨Nat.or_lt_two_pow h1.1 h2.1, ?_, fun j hj => ?_⟩
      · show (vals.getD c.head.rel 0 ||| vals.getD l.1.rel 0).testBit _ = true
        rw [Nat.testBit_or, h1.2.1]; rfl
      · have hj' : (vals.getD c.head.rel 0 ||| vals.getD l.1.rel 0).testBit j = true := hj
        rw [Nat.testBit_or, Bool.or_eq_true] at hj'
        rcases hj' with q | q
        · exact h1.2.2 j q
        · have he : (c.head.rel, l.1.rel) ∈ edgesM cs := by
            simp only [edgesM, edgesC, List.mem_flatMap, List.mem_map]
            exact ⟨c, hc, l, hl, rfl⟩
          exact HangsOn.step he (h2.2.2 j q)
    · exact h.2 i hi
  rels := hr

theorem hang_done {cs : List ClauseM} {n : Nat} (hr : ∀ c ∈ cs, RelsOk n c) {vals : List Nat} (h : HangI (edgesM cs) n vals) (hs : StableG hangG cs vals) {a b : Nat} (ha : a < n) : (vals.getD a 0).testBit b = hangB n (edgesM cs) a b := by
  refine sets_reach (S := fun i j => (vals.getD i 0).testBit j) (edges_below hr) (fun i j hi hj => (h.2 i hi).2.2 j hj) (fun i hi => (h.2 i hi).2.1) (fun e he j hj => ?_) ha
  simp only [edgesM, edgesC, List.mem_flatMap, List.mem_map] at he
  obtain ⟨c, hc, l, hl, rfl⟩ := he
  have := hs c hc l hl
  show (vals.getD c.head.rel 0).testBit j = true
  rw [← this]
  show (vals.getD c.head.rel 0 ||| vals.getD l.1.rel 0).testBit j = true
  rw [Nat.testBit_or, Bool.or_eq_true]
  exact .inr hj

/-! The layers. -/
def layG : Grow := fun vals v l => max v (vals.getD l.1.rel 0 + (if l.2 then 1 else 0))
def LayI (cs : List ClauseM) (n : Nat) (vals : List Nat) : Prop := vals.length = n ∧ ∀ i, i < n → vals.getD i 0 + 1 ≤ reachCnt n (edgesM cs) i
theorem lay_ok {cs : List ClauseM} {n : Nat} (hr : ∀ c ∈ cs, RelsOk n c) (hc : ∀ c ∈ cs, circleC n (edgesM cs) c = false) : GrowOk cs layG n n (LayI cs n) where
  len h := h.1
  le {vals} h v hv := by
    obtain ⟨i, hi⟩ := List.getElem?_of_mem hv
    have hil : i < vals.length := by
      rcases Nat.lt_or_ge i vals.length with q | q
      · exact q
      · rw [List.getElem?_eq_none q] at hi; cases hi
    have := h.2 i (by rw [← h.1]; exact hil)
    rw [List.getD_eq_getElem?_getD, hi] at this
    have h2 := cnt_le n (hangB n (edgesM cs) i)
    have h3 : v + 1 ≤ reachCnt n (edgesM cs) i := this
    unfold reachCnt at h3
    omega
  grow h hc hl := Nat.le_max_left _ _
  keep {vals c l} h hcc hl := by
    have hh : c.head.rel < vals.length := by rw [h.1]; exact (hr c hcc).1
    have hlr : l.1.rel < n := (hr c hcc).2 l hl
    have he : (c.head.rel, l.1.rel) ∈ edgesM cs := by
      simp only [edgesM, edgesC, List.mem_flatMap, List.mem_map]
      exact ⟨c, hcc, l, hl, rfl⟩
    refine ⟨by rw [List.length_set]; exact h.1, fun i hi => ?_⟩
    rw [getD_set vals hh]
    split
    · rename_i e
      subst e
      have h1 := h.2 c.head.rel hi
      have h2 := h.2 l.1.rel hlr
      show max (vals.getD c.head.rel 0) (vals.getD l.1.rel 0 + (if l.2 then 1 else 0)) + 1 ≤ _
      have h3 := reachCnt_edge (edges_below hr) he
      cases h4 : l.2 with
      | false => simp only [Bool.false_eq_true, if_false]; omega
      | true =>
        have hn : hangB n (edgesM cs) l.1.rel c.head.rel = false := by
          have := hc c hcc
          unfold circleC at this
          rw [List.any_eq_false] at this
          have := this l hl
          rw [h4] at this
          simpa using this
        have h5 := reachCnt_not (edges_below hr) he hn
        simp only [if_true]
        omega
    · exact h.2 i hi
  rels := hr
theorem lay_first {cs : List ClauseM} {n : Nat} (hr : ∀ c ∈ cs, RelsOk n c) : LayI cs n (List.replicate n 0) := by
  refine ⟨by simp, fun i hi => ?_⟩
  have := reachCnt_pos (edges_below hr) hi
  rw [List.getD_eq_getElem?_getD, List.getElem?_replicate, if_pos hi]
  simpa using this

end Go.Proofs.YtgjomknpjigkhaaGreatDoor

namespace Go.Proofs.YtgjomknpjigkhaaGreatDoor
open Go.RowKit

def FirstTo (c : Nat) (R : Option Nat) (e : Ending) : Prop := match R with
  | some l => e = gaveUp c l
  | none => e = .returned (.tuple #[])

set_option maxRecDepth 100000 in
set_option maxHeartbeats 8000000 in
theorem unsafe_calls {w : World} {mb B : Nat} {m : Mean} (hm : MeanAt w mb B m) (hf : ∀ c ∈ m.clauses, ClauseFine c ∧ c.lits.length ≤ 4) (hl : m.clauses.length ≤ 52) : Calls Tryz.prog 136 #[.pointer (some ⟨B, 0, none⟩)] w fun e w' => FirstTo 12 (firstC unsafeM m.clauses) e ∧ Keeps [] w w' := by
  obtain ⟨a, cc, la, lc, hBl, hpos, hcl⟩ := mean_clause hm
  have b6 := (hcl (Keeps.refl [] w)).1
  have Hcl := hide (fun (W : World) (k : Keeps [] w W) => hcl k)
  have Hpos := hide hpos
  have Hf := hide hf
  have hgu := hide (fun (w : World) (l : Int) => giveUp_calls (w := w) 12 l)
  generalize hR : firstC unsafeM m.clauses = R
  have HR := hide hR
  clear hR hcl hpos hf hm
  go_enter Tryz.func136, Tryz.ntmps136
  go_wp2_with fail
  go_loopw [13] (fun x wr => ∃ i : Nat, x = .int .i64 i ∧ i ≤ m.clauses.length ∧ Keeps [] w wr ∧ firstC unsafeM (m.clauses.drop i) = R) (fun x _ => m.clauses.length - (intOf x).toNat)
  case atStart => exact ⟨0, rfl, by omega, Keeps.refl [] w, by rw [List.drop_zero]; exact HR.out⟩
  case round =>
    obtain ⟨i, rfl, hil, kr, hres⟩ := hrel
    clear b6 HR
    by_cases hlt : i < m.clauses.length
    · obtain ⟨c, hc⟩ : ∃ c, m.clauses[i]? = some c := ⟨_, List.getElem?_eq_getElem hlt⟩
      have hdi : m.clauses.drop i = c :: m.clauses.drop (i + 1) := by
        rw [List.drop_eq_getElem_cons hlt]
        congr 1
        rw [List.getElem?_eq_getElem hlt] at hc
        exact Option.some.inj hc
      rw [hdi, firstC] at hres
      have hcm := List.mem_of_getElem? hc
      obtain ⟨hfine, hl4⟩ := Hf.out c hcm
      obtain ⟨g, g2, hg, hgl, hg2, hg2l⟩ := Hpos.out c hcm
      subst hg
      subst hg2
      obtain ⟨_, b7, hlines, hcells⟩ := Hcl.out wr kr
      obtain ⟨ha, hc', va, vc, ls, c0, c1, c2, hrow, hlrow, hlits⟩ := hcells i g c hc rfl
      have hiI : (i : Int) < m.clauses.length := by omega
      have hsz := kr.size
      have kK := Keeps.alloc [] wr (.cells #[.int .i64 (c.head.rel : Int), .slice ha c.head.terms.length hc', .slice va c.lits.length vc] 154)
      have hK := CellsAt.new wr #[.int .i64 (c.head.rel : Int), .slice ha c.head.terms.length hc', .slice va c.lits.length vc] 154
      have hvc := hide (vars_calls (c.head.rel : Int) c.head.terms (ownsRow_kept hrow (kr.trans kK) (by simp)) hfine.1.1 hfine.1.2)
      have HK := hide hK
      have Hc := hide hc
      rw [unsafe_mask hfine] at hres
      have hm16 := maskOf_lt (m := 0) (by omega) hfine.1.1
      have Hfine := hide hfine
      have Hlr := hide hlrow
      have Hlits := hide hlits
      clear hdi hrow hlines hcells hK hc hfine b7 hlrow hlits
      go_wp2_with fail
      refine hvc.out.mono ?_
      rintro e w1 ⟨rfl, k1⟩
      have kw1 := (kr.trans kK).trans k1
      have hK1 := HK.out.keeps k1 (by simp)
      have e2 := hK1.cell 2
      have HK1 := hide hK1
      generalize hP : masks (maskOf 0 c.head.terms, 0) c.lits = PP at hres
      have HP := hide hP
      generalize maskOf 0 c.head.terms = M0 at *
      clear hP hvc HK hK1 kK kr c0 c1 c2
      go_wp2_with fail
      go_loopw [4, 5, 24] (fun y z x ws => ∃ (j A D : Nat), y = .int .i64 (A : Int) ∧ z = .int .i64 (D : Int) ∧ x = .int .i64 j ∧ j ≤ c.lits.length ∧ A < 16 ∧ D < 16 ∧ Keeps [] w1 ws ∧ masks (A, D) (c.lits.drop j) = PP) (fun _ _ x _ => c.lits.length - (intOf x).toNat)
      case atStart => exact ⟨0, M0, 0, rfl, rfl, rfl, by omega, hm16, by omega, Keeps.refl [] w1, by rw [List.drop_zero]; exact HP.out⟩
      case round =>
        obtain ⟨j, A, D, rfl, rfl, rfl, hjl, hA, hD, ks, hmk⟩ := hrel
        clear HP e2
        by_cases hjlt : j < c.lits.length
        · obtain ⟨l, hl⟩ : ∃ l, c.lits[j]? = some l := ⟨_, List.getElem?_eq_getElem hjlt⟩
          have hdj : c.lits.drop j = l :: c.lits.drop (j + 1) := by
            rw [List.drop_eq_getElem_cons hjlt]
            congr 1
            rw [List.getElem?_eq_getElem hjlt] at hl
            exact Option.some.inj hl
          have hmk' : masks (litStep (A, D) l) (c.lits.drop (j + 1)) = PP := by rw [← hmk, hdj]; rfl
          obtain ⟨v, hv1, hv2⟩ := Hlits.out.at hl
          obtain ⟨v1, v2, hvv⟩ := ownE_len hv2
          subst hvv
          have hcr := ownsRow_kept Hlr.out (kw1.trans ks) (by simp)
          obtain ⟨gt, hgt⟩ := ownE_pos2 hcr (by omega)
          subst hgt
          have d0 : wr.cell? ⟨gt, j * 3, none⟩ = some (.int .i64 (l.1.rel : Int)) := ownE_cells hcr (by have := hv1 0 (by omega); rw [Nat.add_zero] at this; rw [this]; rfl)
          have d1 : wr.cell? ⟨gt, j * 3 + 1, none⟩ = some (.slice v1 l.1.terms.length v2) := ownE_cells hcr (by rw [hv1 1 (by omega)]; rfl)
          have d2 : wr.cell? ⟨gt, j * 3 + 2, none⟩ = some (.bool l.2) := ownE_cells hcr (by rw [hv1 2 (by omega)]; rfl)
          have hgl : gt < wr.heap.size := (ownE_lt hcr gt rfl).2
          have hjI : (j : Int) < c.lits.length := by omega
          have kL := Keeps.alloc [] wr (.cells #[.int .i64 (l.1.rel : Int), .slice v1 l.1.terms.length v2, .bool l.2] 279)
          obtain ⟨hno, hlen⟩ := Hfine.out.2 l (List.mem_of_getElem? hl)
          have hvc := hide (vars_calls (l.1.rel : Int) l.1.terms (ownsRow_kept hv2 ((kw1.trans ks).trans kL) (by simp)) hno hlen)
          have hm2 := maskOf_lt (m := 0) (by omega) hno
          have hor1 := or_val (a := A) (b := maskOf 0 l.1.terms) (by omega) (by omega)
          have hor2 := or_val (a := D) (b := maskOf 0 l.1.terms) (by omega) (by omega)
          have hlt1 : A ||| maskOf 0 l.1.terms < 16 := Nat.or_lt_two_pow (n := 4) hA hm2
          have hlt2 : D ||| maskOf 0 l.1.terms < 16 := Nat.or_lt_two_pow (n := 4) hD hm2
          unfold litStep at hmk'
          generalize maskOf 0 l.1.terms = M at *
          clear hdj hmk hl hv1 hv2 hcr hno hlen
          cases hl2 : l.2 with
          | true =>
            rw [hl2] at hmk' d2 kL hvc
            have Hmk := hide hmk'
            clear hmk' hor2 hlt2 hl2
            go_wp2_with fail
            refine hvc.out.mono ?_
            rintro e w2 ⟨rfl, k2⟩
            go_wp2_with fail
            go_roundw
            · exact ⟨j + 1, A ||| M, D, rfl, rfl, by simp, by omega, hlt1, hD, (ks.trans kL).trans k2, Hmk.out⟩
            · simp only [intOf]; omega
          | false =>
            rw [hl2] at hmk' d2 kL hvc
            have Hmk := hide hmk'
            clear hmk' hor1 hlt1 hl2
            go_wp2_with fail
            refine hvc.out.mono ?_
            rintro e w2 ⟨rfl, k2⟩
            go_wp2_with fail
            go_roundw
            · exact ⟨j + 1, A, D ||| M, rfl, rfl, by simp, by omega, hA, hlt2, (ks.trans kL).trans k2, Hmk.out⟩
            · simp only [intOf]; omega
        · have hjI : ¬ (j : Int) < c.lits.length := by omega
          have hdz : c.lits.drop j = [] := List.drop_eq_nil_of_le (by omega)
          rw [hdz] at hmk
          have hPP : PP = (A, D) := hmk.symm
          subst hPP
          have han := andNot_val (a := A) (b := D) (by omega) (by omega)
          have kall := kw1.trans ks
          by_cases h0 : andN A D = 0
          · rw [h0] at han hres
            have hres' : firstC unsafeM (m.clauses.drop (i + 1)) = R := hres
            have Hres := hide hres'
            clear hres hres' h0 hmk hdz
            go_wp2_with fail
            go_roundw
            · exact ⟨i + 1, by simp, by omega, kall, Hres.out⟩
            · simp only [intOf]; omega
          · have hne : (((andN A D : Nat) : Int) != 0) = true := by rw [bne_iff_ne]; omega
            rw [decide_eq_false h0] at hres
            have hres' : some c.line = R := hres
            have Hres := hide hres'
            obtain ⟨_, b7, hlines, _⟩ := Hcl.out wr kall
            have hl7 := hlines i g2 c Hc.out rfl
            clear hres hres' h0 hmk hdz hlines
            go_wp2_with fail
            refine (hgu.out _ _).mono ?_
            rintro e w3 ⟨rfl, rfl⟩
            exact ⟨rfl, by rw [← Hres.out]; rfl, kall⟩
    · have hiI : ¬ (i : Int) < m.clauses.length := by omega
      have hdz : m.clauses.drop i = [] := List.drop_eq_nil_of_le (by omega)
      rw [hdz, firstC] at hres
      have Hres := hide hres
      clear hres hdz
      go_wp2_with fail
      go_end0
      exact ⟨by rw [← Hres.out]; rfl, kr⟩

end Go.Proofs.YtgjomknpjigkhaaGreatDoor

namespace Go.Proofs.YtgjomknpjigkhaaGreatDoor
open Go.RowKit

set_option maxRecDepth 100000 in
set_option maxHeartbeats 2000000 in
theorem hang1_calls {w : World} {g C n cc : Nat} {vals : List Nat} (hg : CellsAt w g (natC vals)) (hC : CellsAt w C #[.slice (some ⟨g, 0, none⟩) n cc]) (hn : vals.length = n) (v : Nat) (l : AtomM × Bool) (va : Option Addr) (vn vc : Nat) (hl : l.1.rel < n) (hv : v < 64) (hvl : vals.getD l.1.rel 0 < 64) : Calls Tryz.prog 256 #[.int .i64 (v : Int), .agg #[.int .i64 (l.1.rel : Int), .slice va vn vc, .bool l.2], .pointer (some ⟨C, 0, none⟩)] w fun e w' => e = .returned (.int .i64 ((hangG vals v l : Nat) : Int)) ∧ Keeps [] w w' := by
  have hgl := hg.lt
  have hCl := hC.lt
  have c0 := hC.cell 0
  have g0 : w.cell? ⟨g, l.1.rel, none⟩ = some (.int .i64 ((vals.getD l.1.rel 0 : Nat) : Int)) := by rw [hg.cell]; exact natC_at (by omega)
  have hor := or_val (a := v) (b := vals.getD l.1.rel 0) (by omega) (by omega)
  have hlI : (l.1.rel : Int) < n := by omega
  have hG : hangG vals v l = v ||| vals.getD l.1.rel 0 := rfl
  rw [hG]
  generalize vals.getD l.1.rel 0 = M at *
  have kA := Keeps.alloc [] w (.cells #[.int .i64 (l.1.rel : Int), .slice va vn vc, .bool l.2] 279)
  clear hg hC hG
  go_enter Tryz.func256, Tryz.ntmps256
  go_wp2_with fail
  go_ret
  exact ⟨rfl, kA⟩

theorem run_fn {o : Oper} {a : Act} {w : World} (f : Nat) (x : Operand) (xs : Array Operand) (tys : Array TypeId) (hop : o.op = .call { callee := .value x, args := xs, argTypes := tys }) (caps : List Value) (hcal : a.eval x = .func (.func f) #[] caps.toArray) (fn : Func) (hf : Tryz.prog.funcs[f]? = some fn) (hname : (fn.name == "runtime.NumGoroutine") = false) (hbody : fn.body.isNone = false) (vs : List Value) (hx : xs.toList.map a.eval ++ caps = vs) : (execOp a.eval o).run Tryz.prog w = .ok (.enter f vs.toArray) w := by
  have hx' : xs.map a.eval ++ caps.toArray = vs.toArray := by subst hx; apply Array.ext'; simp
  have hn' : ¬ fn.name = "runtime.NumGoroutine" := by simpa using hname
  have hb' : ¬ fn.body = none := by intro e; rw [e] at hbody; cases hbody
  simp only [execOp, hop, resolve, hcal, Deferred.ofValue, invoke, callFunc]
  simp [hf, hx']
  rw [if_neg hn', if_neg hb']

/-- A call of a function value as a step of a region that draws. -/
theorem step_fn {ops : Array Oper} {o : Oper} {a : Act} {w : World} {K : Act → World → Prop} {Q : Exit → Act → World → Prop} {E : Prop} (hg : o.guard = none) (f : Nat) (x : Operand) (xs : Array Operand) (tys : Array TypeId) (hop : o.op = .call { callee := .value x, args := xs, argTypes := tys }) (caps : List Value) (hcal : a.eval x = .func (.func f) #[] caps.toArray) (fn : Func) (hf : Tryz.prog.funcs[f]? = some fn) (hname : (fn.name == "runtime.NumGoroutine") = false) (hbody : fn.body.isNone = false) (vs : List Value) (hx : xs.toList.map a.eval ++ caps = vs)
    (h : Calls Tryz.prog f vs.toArray w fun
      | .returned v, w'' => K (a.put o.dst v) w''
      | .panicked chain, w'' => Q (.panic chain) a w''
      | .outgrown, _ => LetsOut Q) : if Region.wanted o (yielded ops a.tmps) = true then Oper.wp Tryz.prog o a w K Q else E := by
  have hw : Region.wanted o (yielded ops a.tmps) = true := by simp [Region.wanted, hg]
  rw [if_pos hw]
  unfold Oper.wp
  rw [run_fn f x xs tys hop caps hcal fn hf hname hbody vs hx]
  exact h

/-- The values while they grow. -/
structure Spr (w wr : World) (g C n cc : Nat) (Inv : List Nat → Prop) (vals : List Nat) : Prop where
  row : CellsAt wr g (natC vals)
  cap : CellsAt wr C #[.slice (some ⟨g, 0, none⟩) n cc]
  inv : Inv vals
  keep : Keeps [g] w wr

theorem Spr.go {w wr w' : World} {g C n cc : Nat} {Inv : List Nat → Prop} {vals : List Nat} (h : Spr w wr g C n cc Inv vals) (k : Keeps [] wr w') : Spr w w' g C n cc Inv vals := ⟨h.row.keeps k (by simp), h.cap.keeps k (by simp), h.inv, h.keep.trans (k.mono (by simp))⟩
theorem Spr.put {w wr : World} {g C n cc : Nat} {Inv : List Nat → Prop} {vals : List Nat} (h : Spr w wr g C n cc Inv vals) (hgC : C ≠ g) {i x : Nat} (hI : Inv (vals.set i x)) : Spr w (wr.setCell ⟨g, i, none⟩ (.int .i64 (x : Int))) g C n cc Inv (vals.set i x) := by
  have h1 := h.row.setCell i (.int .i64 (x : Int))
  rw [natC_set] at h1
  exact ⟨h1, h.cap.keeps (Keeps.setCell wr ⟨g, i, none⟩ _) (by simpa using hgC), hI, h.keep.trans (Keeps.setCell wr ⟨g, i, none⟩ _)⟩

theorem keepsG {w0 w wr : World} {g : Nat} (k0 : Keeps [] w0 w) (hg : w0.heap.size ≤ g) (k : Keeps [g] w wr) : Keeps [] w0 wr := k0.trans_new k (fun j hj => .inr (by have e : j = g := (by simpa using hj); omega))

def tv : Value → Nat | .bool true => 1 | _ => 0
def doneC (cs : List ClauseM) : Nat → AtomM × Bool → Prop := fun h l => ∃ c ∈ cs, c.head.rel = h ∧ l ∈ c.lits
def doneL (cs : List ClauseM) (r : Nat) (ls : List (AtomM × Bool)) : Nat → AtomM × Bool → Prop := fun h l => doneC cs h l ∨ (h = r ∧ l ∈ ls)
theorem done_start {cs : List ClauseM} {r : Nat} {ls : List (AtomM × Bool)} {h : Nat} {l : AtomM × Bool} (hd : doneL cs r (ls.take 0) h l) : doneC cs h l := by
  rcases hd with q | ⟨_, q⟩
  · exact q
  · simp at q
theorem done_next {cs : List ClauseM} {c : ClauseM} {h : Nat} {l : AtomM × Bool} (hd : doneC (cs ++ [c]) h l) : doneL cs c.head.rel (c.lits.take c.lits.length) h l := by
  obtain ⟨c', hc, h1, h2⟩ := hd
  rcases List.mem_append.1 hc with q | q
  · exact .inl ⟨c', q, h1, h2⟩
  · have e : c' = c := by simpa using q
    subst e
    exact .inr ⟨h1.symm, by rw [List.take_length]; exact h2⟩

set_option maxRecDepth 100000 in
set_option maxHeartbeats 16000000 in
theorem spread256_calls {w0 w : World} {mb B g C n cc U : Nat} {m : Mean} {Inv : List Nat → Prop} (hm : MeanAt w0 mb B m) (k0 : Keeps [] w0 w) (hg0 : w0.heap.size ≤ g) (hgC : C ≠ g) (H : GrowOk m.clauses hangG U n Inv) (h64 : ∀ vals, Inv vals → ∀ i, vals.getD i 0 < 64) (hl : m.clauses.length ≤ 52) (hl4 : ∀ c ∈ m.clauses, c.lits.length ≤ 4) {vals : List Nat} (h : Spr w w g C n cc Inv vals) : Calls Tryz.prog 255 #[.pointer (some ⟨B, 0, none⟩), .slice (some ⟨g, 0, none⟩) n cc, .func (.func 256) #[] #[.pointer (some ⟨C, 0, none⟩)]] w fun e w' => e = .returned (.tuple #[]) ∧ ∃ vals', Spr w w' g C n cc Inv vals' ∧ StableG hangG m.clauses vals' := by
  obtain ⟨a, ccl, la, lc, hBl, hpos, hcl⟩ := mean_clause hm
  have hsz0 := k0.size
  have Hcl := hide (fun (W : World) (k : Keeps [] w0 W) => hcl k)
  have Hpos := hide hpos
  have Hh := hide h
  have HH := hide H
  have H64 := hide h64
  have Hl4 := hide hl4
  have hglt := h.row.lt
  have hClt := h.cap.lt
  clear hcl hpos hm h H h64 hl4
  go_enter Tryz.func255, Tryz.ntmps255
  go_wp2_with fail
  go_loopw [6] (fun y wr => ∃ (b : Bool) (vs : List Nat), y = .bool b ∧ Spr w wr g C n cc Inv vs ∧ (b = false → StableG hangG m.clauses vs)) (fun y wr => 2 * (n * U - sumAt wr g) + tv y)
  case atStart => exact ⟨true, vals, rfl, Hh.out, by simp⟩
  case round =>
    obtain ⟨b, vs, rfl, hS, hst⟩ := hrel
    have HS := hide hS
    clear hS Hh
    cases b with
    | false =>
      have Hst := hide (hst rfl)
      clear hst
      go_wp2_with fail
      go_end0
      exact ⟨rfl, vs, HS.out, Hst.out⟩
    | true =>
      clear hst
      have kr := keepsG k0 hg0 HS.out.keep
      obtain ⟨b6, _⟩ := Hcl.out wr kr
      have hszr := HS.out.keep.size
      go_wp2_with fail
      go_loopw [6, 18] (fun y x wr => ∃ (i : Nat) (b : Bool) (v2 : List Nat), y = .bool b ∧ x = .int .i64 i ∧ i ≤ m.clauses.length ∧ Spr w wr g C n cc Inv v2 ∧ PassSt hangG vs v2 b (doneC (m.clauses.take i))) (fun _ x _ => m.clauses.length - (intOf x).toNat)
      case atStart => exact ⟨0, false, vs, rfl, rfl, by omega, HS.out, .inr ⟨rfl, rfl, fun h l hd => by obtain ⟨c, hc, _⟩ := hd; simp at hc⟩⟩
      case round =>
        clear b6 kr
        obtain ⟨i, b, v2, rfl, rfl, hil, hS2, hP2⟩ := hrel
        have kr2 := keepsG k0 hg0 hS2.keep
        have hsz2 := hS2.keep.size
        have HS2 := hide hS2
        have HP2 := hide hP2
        clear hS2 hP2
        by_cases hlt : i < m.clauses.length
        · obtain ⟨c, hc⟩ : ∃ c, m.clauses[i]? = some c := ⟨_, List.getElem?_eq_getElem hlt⟩
          have hcm := List.mem_of_getElem? hc
          obtain ⟨gk, g2, hgk, hgl, hg2, hg2l⟩ := Hpos.out c hcm
          subst hgk
          obtain ⟨_, _, _, hcells⟩ := Hcl.out _ kr2
          obtain ⟨ha, hc', va, vc, ls, c0, c1, c2, hrow, hlrow, hlits⟩ := hcells i gk c hc rfl
          have hiI : (i : Int) < m.clauses.length := by omega
          have Hlr := hide hlrow
          have Hlits := hide hlits
          have Htake : Hid (m.clauses.take (i + 1) = m.clauses.take i ++ [c]) := hide (by rw [List.take_add_one, hc]; rfl)
          have h4 := Hl4.out c hcm
          have Hcm := hide hcm
          have Hrl := hide (HH.out.rels c hcm)
          have kK := Keeps.alloc [] wr (.cells #[.int .i64 (c.head.rel : Int), .slice ha c.head.terms.length hc', .slice va c.lits.length vc] 154)
          have hK := CellsAt.new wr #[.int .i64 (c.head.rel : Int), .slice ha c.head.terms.length hc', .slice va c.lits.length vc] 154
          have e2 := hK.cell 2
          have HK := hide hK
          have hcb : ∀ j, j < w.heap.size → j ≠ wr.heap.size := fun j hj => by omega
          have hcbg := hcb g hglt
          have hcbC := hcb C hClt
          clear hcells hrow hlrow hlits hc hcm hK hcb
          generalize hcbn : wr.heap.size = cb at *
          go_wp2_with fail
          go_loopw [6, 25] (fun y x wr => ∃ (j : Nat) (b : Bool) (v3 : List Nat), y = .bool b ∧ x = .int .i64 j ∧ j ≤ c.lits.length ∧ Spr w wr g C n cc Inv v3 ∧ CellsAt wr cb #[.int .i64 (c.head.rel : Int), .slice ha c.head.terms.length hc', .slice va c.lits.length vc] ∧ PassSt hangG vs v3 b (doneL (m.clauses.take i) c.head.rel (c.lits.take j))) (fun _ x _ => c.lits.length - (intOf x).toNat)
          case atStart => exact ⟨0, b, v2, rfl, rfl, by omega, HS2.out.go kK, HK.out, HP2.out.mono (fun h l hd => done_start hd)⟩
          case round =>
            clear c0 c1 c2 kK HK e2 HS2 HP2 kr2
            obtain ⟨j, b, v3, rfl, rfl, hjl, hS3, hcl3, hP3⟩ := hrel
            have kr3 := keepsG k0 hg0 hS3.keep
            have hsz3 := hS3.keep.size
            have HS3 := hide hS3
            have HP3 := hide hP3
            have Hcl3 := hide hcl3
            have hcbl := hcl3.lt
            clear hS3 hP3 hcl3
            by_cases hjlt : j < c.lits.length
            · obtain ⟨l, hl⟩ : ∃ l, c.lits[j]? = some l := ⟨_, List.getElem?_eq_getElem hjlt⟩
              have hlm := List.mem_of_getElem? hl
              obtain ⟨v, hv1, hv2⟩ := Hlits.out.at hl
              obtain ⟨x1, x2, hvv⟩ := ownE_len hv2
              subst hvv
              have hcr := ownsRow_kept Hlr.out kr3 (by simp)
              obtain ⟨gt, hgt⟩ := ownE_pos2 hcr (by omega)
              subst hgt
              have d0 : wr.cell? ⟨gt, j * 3, none⟩ = some (.int .i64 (l.1.rel : Int)) := ownE_cells hcr (by have := hv1 0 (by omega); rw [Nat.add_zero] at this; rw [this]; rfl)
              have d1 : wr.cell? ⟨gt, j * 3 + 1, none⟩ = some (.slice x1 l.1.terms.length x2) := ownE_cells hcr (by rw [hv1 1 (by omega)]; rfl)
              have d2 : wr.cell? ⟨gt, j * 3 + 2, none⟩ = some (.bool l.2) := ownE_cells hcr (by rw [hv1 2 (by omega)]; rfl)
              have hgtl : gt < wr.heap.size := (ownE_lt hcr gt rfl).2
              have hjI : (j : Int) < c.lits.length := by omega
              have kL := Keeps.alloc [] wr (.cells #[.int .i64 (l.1.rel : Int), .slice x1 l.1.terms.length x2, .bool l.2] 279)
              have hLc := CellsAt.new wr #[.int .i64 (l.1.rel : Int), .slice x1 l.1.terms.length x2, .bool l.2] 279
              have hlen := HH.out.len HS3.out.inv
              have hhr : c.head.rel < v3.length := by rw [hlen]; exact Hrl.out.1
              have hlr2 : l.1.rel < n := Hrl.out.2 l hlm
              have hv64 := H64.out v3 HS3.out.inv
              have hS4 := HS3.out.go kL
              have hc4 := Hcl3.out.keeps kL (by simp)
              have f0 := hc4.cell 0
              have f1 : (wr.alloc (.cells #[.int .i64 (l.1.rel : Int), .slice x1 l.1.terms.length x2, .bool l.2] 279)).cell? ⟨g, c.head.rel, none⟩ = some (.int .i64 ((v3.getD c.head.rel 0 : Nat) : Int)) := by rw [hS4.row.cell]; exact natC_at hhr
              have l0 := hLc.cell 0
              have l1 := hLc.cell 1
              have l2 := hLc.cell 2
              have kLd := kL.trans (Keeps.drew [] _)
              have hS5 := HS3.out.go kLd
              have hcall := hide (hang1_calls hS5.row hS5.cap hlen (v3.getD c.head.rel 0) l x1 l.1.terms.length x2 hlr2 (hv64 _) (hv64 _))
              have hIn := hide (HH.out.keep HS3.out.inv Hcm.out hlm)
              have hPn := hide (HP3.out.step HH.out HS3.out.inv Hcm.out hlm (done' := doneL (m.clauses.take i) c.head.rel (c.lits.take (j + 1))) (fun h x hd => by
                rcases hd with q | ⟨q1, q2⟩
                · exact .inl (.inl q)
                · rw [List.take_add_one, hl] at q2
                  rcases List.mem_append.1 q2 with q | q
                  · exact .inl (.inr ⟨q1, q⟩)
                  · exact .inr ⟨q1, by simpa using q⟩))
              have hhI : (c.head.rel : Int) < n := by omega
              have HSd := hide (fun (W : World) (k : Keeps [] (wr.alloc (.cells #[.int .i64 (l.1.rel : Int), .slice x1 l.1.terms.length x2, .bool l.2] 279)).drew W) => hS5.go k)
              have Hcd := hide (fun (W : World) (k : Keeps [] (wr.alloc (.cells #[.int .i64 (l.1.rel : Int), .slice x1 l.1.terms.length x2, .bool l.2] 279)).drew W) => (hc4.keeps (Keeps.drew [] _) (by simp)).keeps k (by simp))
              have Hhr := hide hhr
              clear hv1 hv2 hcr hl hLc hS4 hS5 hv64 hlen hc4
              generalize hNew : hangG v3 (v3.getD c.head.rel 0) l = NV at *
              generalize hOld : v3.getD c.head.rel 0 = OV at *
              clear hNew
              go_upto_region 10 with fail
              go_cut [] (fun wd => Spr w wd g C n cc Inv (v3.set c.head.rel NV) ∧ CellsAt wd cb #[.int .i64 (c.head.rel : Int), .slice ha c.head.terms.length hc', .slice (some ⟨gt, 0, none⟩) c.lits.length vc])
              case first =>
                go_region_law (first
                  | (refine step_fn rfl 256 _ _ _ rfl [.pointer (some ⟨C, 0, none⟩)] rfl _ Tryz.func256 (by kernel_rfl) (by kernel_rfl) [.int .i64 (OV : Int), .agg #[.int .i64 (l.1.rel : Int), .slice x1 l.1.terms.length x2, .bool l.2], .pointer (some ⟨C, 0, none⟩)] rfl ?_
                     refine hcall.out.mono ?_
                     rintro e w4 ⟨rfl, k4⟩
                     have hS6 := HSd.out _ k4
                     have hc6 := Hcd.out _ k4
                     have p0 := hc6.cell 0
                     have p1 : w4.cell? ⟨g, c.head.rel, none⟩ = some (.int .i64 (OV : Int)) := by rw [hS6.row.cell, ← hOld]; exact natC_at Hhr.out
                     have p2 := hS6.row.frozen c.head.rel
                     have hEnd := hide (hS6.put hgC hIn.out)
                     have hEc := hide (hc6.keeps (Keeps.setCell w4 ⟨g, c.head.rel, none⟩ (.int .i64 (NV : Int))) (by simp; omega))
                     clear hS6 hc6))
                all_goals
                  go_wp2_with fail
                  go_meet
                  exact ⟨hEnd.out, hEc.out⟩
              case rest =>
                obtain ⟨hS7, hc7⟩ := hcut
                have r0 := hc7.cell 0
                have r1 : wc.cell? ⟨g, c.head.rel, none⟩ = some (.int .i64 (NV : Int)) := by
                  rw [hS7.row.cell, natC_at (by rw [List.length_set]; exact Hhr.out), getD_set v3 Hhr.out, if_pos rfl]
                have HS7 := hide hS7
                have Hc7 := hide hc7
                clear hS7 hc7 f0 f1 l0 l1 l2 hcall HSd Hcd hIn HS3 HP3
                cases b with
                | true =>
                  rw [Bool.true_or] at hPn
                  go_wp2_with fail
                  go_roundw
                  · exact ⟨j + 1, true, v3.set c.head.rel NV, rfl, by simp, by omega, HS7.out, Hc7.out, hPn.out⟩
                  · simp only [intOf]; omega
                | false =>
                  rw [Bool.false_or] at hPn
                  generalize hbb : ((NV : Int) != (OV : Int)) = bb at *
                  go_wp2_with fail
                  go_roundw
                  · exact ⟨j + 1, bb, v3.set c.head.rel NV, rfl, by simp, by omega, HS7.out, Hc7.out, hPn.out⟩
                  · simp only [intOf]; omega
            · have hjI : ¬ (j : Int) < c.lits.length := by omega
              have e : j = c.lits.length := by omega
              subst e
              go_wp2_with fail
              go_roundw
              · exact ⟨i + 1, b, v3, rfl, by simp, by omega, HS3.out, by rw [Htake.out]; exact HP3.out.mono (fun h l hd => done_next hd)⟩
              · simp only [intOf]; omega
        · have hiI : ¬ (i : Int) < m.clauses.length := by omega
          have e : i = m.clauses.length := by omega
          subst e
          have hsum := sumAt_of HS2.out.row
          have hsum0 := sumAt_of HS.out.row
          have hle := sum_le (HH.out.le HS2.out.inv)
          rw [HH.out.len HS2.out.inv] at hle
          have Hs : Hid (2 * (n * U - sumAt wr g) + tv (.bool b) < 2 * (n * U - vs.sum) + 1) := hide (by
            rw [hsum]
            generalize n * U = NU at *
            rcases HP2.out with ⟨h1, h2⟩ | ⟨h1, h2, _⟩
            · rw [h1]; simp only [tv]; omega
            · rw [h1, h2]; simp only [tv]; omega)
          clear hsum hle
          go_wp2_with fail
          go_roundw
          · refine ⟨b, v2, rfl, HS2.out, fun hb => ?_⟩
            rcases HP2.out with ⟨h1, _⟩ | ⟨_, _, h3⟩
            · rw [hb] at h1; cases h1
            · intro c hc l hl
              exact h3 c.head.rel l ⟨c, by rw [List.take_length]; exact hc, rfl, hl⟩
          · have := Hs.out
            rw [← hsum0] at this
            exact this

end Go.Proofs.YtgjomknpjigkhaaGreatDoor
