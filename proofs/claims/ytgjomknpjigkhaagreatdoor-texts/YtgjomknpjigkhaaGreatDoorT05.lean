/- Texts: F2 F3 E0 G2. -/
import Derived.Test.YtgjomknpjigkhaaGreatDoorT04
import Derived.Test.YtgjomknpjigkhaaGreatDoorT02
import Derived.Test.YtgjomknpjigkhaaGreatDoorT03
namespace Go.Proofs.YtgjomknpjigkhaaGreatDoor
open Go.RowKit

def tailS (s : ByteArray) (i : Nat) : ByteArray := s.extract i s.size
theorem rest_size (s : ByteArray) (i : Nat) : (tailS s i).size = s.size - i := size_rest s i
theorem rest_ltr (s : ByteArray) (i j : Nat) : ltr (tailS s i) j = ltr s (i + j) := ltr_rest s i j
theorem rest_rest (s : ByteArray) (i n : Nat) : (tailS s i).extract n (tailS s i).size = tailS s (i + n) := by
  unfold tailS
  rw [ByteArray.extract_extract, size_rest]
  rcases Nat.lt_or_ge s.size i with h | h
  · rw [show s.size - i = 0 by omega]
    apply ByteArray.ext_getElem
    · simp only [ByteArray.size_extract]; omega
    · intro j h1 h2; simp only [ByteArray.size_extract] at h1; omega
  · congr 1
    omega
theorem rest_pre (s : ByteArray) (i n : Nat) (h : i + n ≤ s.size) : (tailS s i).extract 0 n = s.extract i (i + n) := by
  unfold tailS
  rw [ByteArray.extract_extract]
  congr 1
  omega
theorem rest_mid (s : ByteArray) (i a n : Nat) (h : i + n ≤ s.size) : (tailS s i).extract a n = s.extract (i + a) (i + n) := by
  unfold tailS
  rw [ByteArray.extract_extract]
  congr 1
  omega

theorem cap_len (s : ByteArray) (i : Nat) (hi : i < s.size) : 1 + spanOf isDig ((tailS s i).extract 1 (min 2 (tailS s i).size)) = if i + 1 < s.size ∧ isDig (ltr s (i + 1)) = true then 2 else 1 := by
  rw [rest_size]
  by_cases h1 : i + 1 < s.size
  · have e : (tailS s i).extract 1 (min 2 (s.size - i)) = s.extract (i + 1) (i + 2) := by rw [show min 2 (s.size - i) = 2 by omega, rest_mid s i 1 2 (by omega)]
    rw [e]
    have hz : (s.extract (i + 1) (i + 2)).size = 1 := by rw [ByteArray.size_extract]; omega
    have hl : ltr (s.extract (i + 1) (i + 2)) 0 = ltr s (i + 1) := by
      unfold ltr
      rw [dif_pos (by omega), dif_pos h1, ByteArray.getElem_extract]
    unfold spanOf
    rw [hz]
    simp only [spanFrom, hl]
    cases isDig (ltr s (i + 1)) <;> simp [h1]
  · rw [if_neg (fun h => h1 h.1)]
    have hz : ((tailS s i).extract 1 (min 2 (s.size - i))).size = 0 := by rw [ByteArray.size_extract]; omega
    unfold spanOf
    rw [hz]
    rfl

theorem low_noMark {c : Int} (h : isLow c = true) : isCap c = false ∧ isDig c = false := by
  simp only [isLow, Bool.and_eq_true, decide_eq_true_eq] at h
  simp [isCap, isDig]; omega

theorem cutG_low {s : ByteArray} {i : Nat} (hi : i < s.size) (h : isLow (ltr s i) = true) : cutG (tailS s i) = if spanFrom isWord s (i + 1) (s.size - (i + 1)) - i ≤ 6 then some (wordG (s.extract i (spanFrom isWord s (i + 1) (s.size - (i + 1)))), spanFrom isWord s (i + 1) (s.size - (i + 1)) - i) else none := by
  have hl : ltr (tailS s i) 0 = ltr s i := rest_ltr s i 0
  have hs : i + spanOf isWord (tailS s i) = spanFrom isWord s (i + 1) (s.size - (i + 1)) := by
    have := spanOf_rest isWord s i
    rw [show s.size - i = (s.size - (i + 1)) + 1 by omega, spanFrom, if_pos (by unfold isWord; rw [h]; rfl)] at this
    exact this
  have hle := spanFrom_le isWord s (i + 1) (s.size - (i + 1))
  unfold cutG
  rw [hl, if_pos h]
  rw [← hs] at hle ⊢
  rw [show i + spanOf isWord (tailS s i) - i = spanOf isWord (tailS s i) by omega]
  rw [rest_pre s i _ (by omega)]

theorem cutG_dig {s : ByteArray} {i : Nat} (hi : i < s.size) (h : isDig (ltr s i) = true) : cutG (tailS s i) = if spanFrom isDig s i (s.size - i) - i ≤ 2 then some (.int (s.extract i (spanFrom isDig s i (s.size - i))), spanFrom isDig s i (s.size - i) - i) else none := by
  have hl : ltr (tailS s i) 0 = ltr s i := rest_ltr s i 0
  have hs : i + spanOf isDig (tailS s i) = spanFrom isDig s i (s.size - i) := spanOf_rest isDig s i
  have hle := spanFrom_le isDig s i (s.size - i)
  have h1 : isLow (ltr s i) = false ∧ isCap (ltr s i) = false := by
    simp only [isDig, Bool.and_eq_true, decide_eq_true_eq] at h
    simp [isCap, isLow]; omega
  unfold cutG
  rw [hl, if_neg (by rw [h1.1]; decide), if_neg (by rw [h1.2]; decide), if_pos h]
  rw [← hs] at hle ⊢
  rw [show i + spanOf isDig (tailS s i) - i = spanOf isDig (tailS s i) by omega]
  rw [rest_pre s i _ (by omega)]

theorem cutG_cap {s : ByteArray} {i : Nat} (hi : i < s.size) (h : isCap (ltr s i) = true) : cutG (tailS s i) = some (.var (s.extract i (i + if i + 1 < s.size ∧ isDig (ltr s (i + 1)) = true then 2 else 1)), if i + 1 < s.size ∧ isDig (ltr s (i + 1)) = true then 2 else 1) := by
  have hl : ltr (tailS s i) 0 = ltr s i := rest_ltr s i 0
  have h1 : isLow (ltr s i) = false := by
    simp only [isCap, Bool.and_eq_true, decide_eq_true_eq] at h
    simp [isLow]; omega
  unfold cutG
  rw [hl, if_neg (by rw [h1]; decide), if_pos h, cap_len s i hi]
  rw [rest_pre s i _ (by split <;> omega)]

theorem arrow_at {s : ByteArray} {i : Nat} : isArrow (tailS s i) = true ↔ i + 1 < s.size ∧ ltr s i = 58 ∧ ltr s (i + 1) = 45 := by
  unfold isArrow
  rw [rest_size]
  constructor
  · intro h
    simp only [Bool.and_eq_true, decide_eq_true_eq] at h
    obtain ⟨h1, h2⟩ := h
    rw [rest_pre s i 2 (by omega)] at h2
    have h3 := str_lit.1 h2
    have hz : (s.extract i (i + 2)).size = 2 := by rw [ByteArray.size_extract]; omega
    have a0 : ltr (s.extract i (i + 2)) 0 = ltr s i := by unfold ltr; rw [dif_pos (by omega), dif_pos (by omega), ByteArray.getElem_extract]; rfl
    have a1 : ltr (s.extract i (i + 2)) 1 = ltr s (i + 1) := by unfold ltr; rw [dif_pos (by omega), dif_pos (by omega), ByteArray.getElem_extract]
    rw [h3] at a0 a1
    exact ⟨by omega, a0.symm.trans (by rfl), a1.symm.trans (by rfl)⟩
  · rintro ⟨h1, h2, h3⟩
    simp only [Bool.and_eq_true, decide_eq_true_eq]
    refine ⟨by omega, ?_⟩
    rw [rest_pre s i 2 (by omega), str_lit]
    have hz : (s.extract i (i + 2)).size = 2 := by rw [ByteArray.size_extract]; omega
    apply ByteArray.ext_getElem
    · rw [hz]; rfl
    · intro j j1 j2
      rw [ByteArray.getElem_extract]
      have q0 := ltr_at (s := s) (i := i) (by omega)
      have q1 := ltr_at (s := s) (i := i + 1) h1
      rw [h2] at q0
      rw [h3] at q1
      rw [hz] at j1
      match j, j1 with
      | 0, _ =>
        have : s[i + 0] = (58 : UInt8) := UInt8.toNat_inj.1 (by show (s[i]).toNat = 58; omega)
        exact this
      | 1, _ =>
        have : s[i + 1] = (45 : UInt8) := UInt8.toNat_inj.1 (by show (s[i + 1]).toNat = 45; omega)
        exact this

theorem cutG_arrow {s : ByteArray} {i : Nat} (hi : i + 1 < s.size) (h1 : ltr s i = 58) (h2 : ltr s (i + 1) = 45) : cutG (tailS s i) = some (.arrow, 2) ∧ s.extract i (i + 2) = txt .arrow := by
  have hl : ltr (tailS s i) 0 = ltr s i := rest_ltr s i 0
  have ha := (arrow_at (s := s) (i := i)).2 ⟨hi, h1, h2⟩
  constructor
  · unfold cutG
    rw [hl, h1, if_neg (by decide), if_neg (by decide), if_neg (by decide), if_neg (by decide), if_pos ha]
  · unfold isArrow at ha
    simp only [Bool.and_eq_true, decide_eq_true_eq] at ha
    rw [rest_pre s i 2 (by omega)] at ha
    exact str_lit.1 ha.2

theorem cutG_mark {s : ByteArray} {i : Nat} (hi : i < s.size) (h : isMark (ltr s i) = true) : cutG (tailS s i) = some (markG (ltr s i), 1) ∧ s.extract i (i + 1) = txt (markG (ltr s i)) := by
  have hl : ltr (tailS s i) 0 = ltr s i := rest_ltr s i 0
  have hz : 0 < (tailS s i).size := by rw [rest_size]; omega
  have hm := mark_txt hz (by rw [hl]; exact h)
  rw [hl, rest_pre s i 1 (by omega)] at hm
  refine ⟨?_, hm.1.symm⟩
  have h3 : isLow (ltr s i) = false ∧ isCap (ltr s i) = false ∧ isDig (ltr s i) = false := by
    simp only [isMark, Bool.or_eq_true, beq_iff_eq] at h
    simp [isCap, isLow, isDig]; omega
  unfold cutG
  rw [hl, if_neg (by rw [h3.1]; decide), if_neg (by rw [h3.2.1]; decide), if_neg (by rw [h3.2.2]; decide), if_pos h]

theorem cutG_none {s : ByteArray} {i : Nat} (h1 : isLow (ltr s i) = false) (h2 : isCap (ltr s i) = false) (h3 : isDig (ltr s i) = false) (h4 : isMark (ltr s i) = false) (h5 : ¬ (i + 1 < s.size ∧ ltr s i = 58 ∧ ltr s (i + 1) = 45)) : cutG (tailS s i) = none := by
  have hl : ltr (tailS s i) 0 = ltr s i := rest_ltr s i 0
  have ha : isArrow (tailS s i) = false := by
    rw [← Bool.not_eq_true]
    intro h
    exact h5 (arrow_at.1 h)
  unfold cutG
  rw [hl, if_neg (by rw [h1]; decide), if_neg (by rw [h2]; decide), if_neg (by rw [h3]; decide), if_neg (by rw [h4]; decide), if_neg (by rw [ha]; decide)]

theorem scanT_eol {k : Nat} {s : ByteArray} {i l : Nat} (hi : i < s.size) (h : ltr s i = 10) : scanT (k + 1) (tailS s i) l = scanT k (tailS s (i + 1)) (l + 1) := by
  have hl : ltr (tailS s i) 0 = ltr s i := rest_ltr s i 0
  rw [scanT, if_neg (by rw [rest_size]; omega), hl, if_pos h, rest_rest]
theorem scanT_blank {k : Nat} {s : ByteArray} {i l : Nat} (hi : i < s.size) (h : ltr s i = 32 ∨ ltr s i = 9) : scanT (k + 1) (tailS s i) l = scanT k (tailS s (i + 1)) l := by
  have hl : ltr (tailS s i) 0 = ltr s i := rest_ltr s i 0
  rw [scanT, if_neg (by rw [rest_size]; omega), hl, if_neg (by omega), if_pos h, rest_rest]
theorem scanT_rem {k : Nat} {s : ByteArray} {i l : Nat} (hi : i < s.size) (h : ltr s i = 37) : scanT (k + 1) (tailS s i) l = scanT k (tailS s (spanFrom notEol s i (s.size - i))) l := by
  have hl : ltr (tailS s i) 0 = ltr s i := rest_ltr s i 0
  rw [scanT, if_neg (by rw [rest_size]; omega), hl, if_neg (by omega), if_neg (by omega), if_pos h, rest_rest]
  rw [show i + spanOf notEol (tailS s i) = spanFrom notEol s i (s.size - i) from spanOf_rest notEol s i]
theorem scanT_cut {k : Nat} {s : ByteArray} {i l : Nat} (hi : i < s.size) (h1 : ltr s i ≠ 10) (h2 : ltr s i ≠ 32) (h3 : ltr s i ≠ 9) (h4 : ltr s i ≠ 37) : scanT (k + 1) (tailS s i) l = match cutG (tailS s i) with
      | none => .inr l
      | some (g, n) => match scanT k (tailS s (i + n)) l with
        | .inl (ts, m) => .inl (⟨g, l⟩ :: ts, m)
        | .inr m => .inr m := by
  have hl : ltr (tailS s i) 0 = ltr s i := rest_ltr s i 0
  rw [scanT, if_neg (by rw [rest_size]; omega), hl, if_neg h1, if_neg (by omega), if_neg h4]
  simp only [rest_rest]
  cases cutG (tailS s i) with
  | none => rfl
  | some p =>
    obtain ⟨g, n⟩ := p
    cases scanT k (tailS s (i + n)) l <;> rfl
theorem scanT_nil {k : Nat} {s : ByteArray} {i l : Nat} (hi : ¬ i < s.size) : scanT k (tailS s i) l = .inl ([], l) := by
  cases k with
  | zero => rfl
  | succ k => rw [scanT, if_pos (by rw [rest_size]; omega)]
theorem rest_zero (s : ByteArray) : tailS s 0 = s := by unfold tailS; rw [ByteArray.extract_zero_size]

/-- The letter of a token's kind. -/
def rkind : Sg → Int
  | .dom => 119 | .rel => 119 | .name _ => 110 | .var _ => 118 | .int _ => 105 | .fin => 101 | _ => 115

theorem ltrG_ltr (s : ByteArray) (i : Nat) : ltrG s i = ltr s i := rfl
theorem valTo_pre {s : ByteArray} {i n : Nat} (hn : i + n ≤ s.size) {k : Nat} (hk : k < n) : valTo (s.extract i (i + n)) (k + 1) = 10 * valTo (s.extract i (i + n)) k + (ltr s (i + k) - 48) := by
  rw [valTo, ltrG_ltr]
  have : ltr (s.extract i (i + n)) k = ltr s (i + k) := by
    unfold ltr
    rw [dif_pos (by rw [ByteArray.size_extract]; omega), dif_pos (by omega), ByteArray.getElem_extract]
  rw [this]
theorem valTo_range {s : ByteArray} (h : ∀ i, i < s.size → isDig (ltr s i) = true) {k : Nat} (hk : k ≤ s.size) (h2 : s.size ≤ 2) : 0 ≤ valTo s k ∧ valTo s k < 100 := by
  have hd : ∀ i, i < s.size → 48 ≤ ltr s i ∧ ltr s i ≤ 57 := fun i hi => by
    have := h i hi
    simp only [isDig, Bool.and_eq_true, decide_eq_true_eq] at this
    exact this
  match k, hk with
  | 0, _ => simp [valTo]
  | 1, hk => have := hd 0 (by omega); simp only [valTo, ltrG_ltr]; omega
  | 2, hk => have := hd 0 (by omega); have := hd 1 (by omega); simp only [valTo, ltrG_ltr]; omega
  | k + 3, hk => omega

end Go.Proofs.YtgjomknpjigkhaaGreatDoor

namespace Go.Proofs.YtgjomknpjigkhaaGreatDoor
open Go.RowKit

def emptyM : Mean := ⟨[], [], []⟩

/-- Its tokens, and what they say. -/
def readS (s : ByteArray) : Except Flt (List Tn × Mean) :=
  if 1200 < s.size then .error (4, 0)
  else match scanT s.size s 1 with
    | .inr l => .error (5, l)
    | .inl (ts, m) => match itemsG (withEnd ts m).length (withEnd ts m) with
      | .error l => .error (5, l)
      | .ok is => match senseS emptyM is with
        | .error f => .error f
        | .ok me => match laterS me with
          | .error f => .error f
          | .ok _ => .ok (withEnd ts m, me)

theorem scanT_lines {k : Nat} {s : ByteArray} {l : Nat} (hl : 1 ≤ l) : match scanT k s l with
    | .inl (ts, m) => (∀ t ∈ ts, 1 ≤ t.line) ∧ 1 ≤ m
    | .inr m => 1 ≤ m := by
  induction k generalizing s l with
  | zero => exact ⟨fun t ht => (by cases ht), hl⟩
  | succ k ih =>
    simp only [scanT]
    split
    · rename_i h
      split at h
      · cases h; exact ⟨fun t ht => (by cases ht), hl⟩
      · split at h
        · have := ih (s := s.extract 1 s.size) (l := l + 1) (by omega); rw [h] at this; exact this
        · split at h
          · have := ih (s := s.extract 1 s.size) (l := l) hl; rw [h] at this; exact this
          · split at h
            · have := ih (s := s.extract (spanOf notEol s) s.size) (l := l) hl; rw [h] at this; exact this
            · split at h
              · cases h
              · rename_i g n hc
                have IH := ih (s := s.extract n s.size) (l := l) hl
                split at h
                · rename_i us m' hr
                  rw [hr] at IH
                  cases h
                  refine ⟨fun t ht => ?_, IH.2⟩
                  rcases List.mem_cons.1 ht with rfl | ht
                  · exact hl
                  · exact IH.1 t ht
                · cases h
    · rename_i h
      split at h
      · cases h
      · split at h
        · have := ih (s := s.extract 1 s.size) (l := l + 1) (by omega); rw [h] at this; exact this
        · split at h
          · have := ih (s := s.extract 1 s.size) (l := l) hl; rw [h] at this; exact this
          · split at h
            · have := ih (s := s.extract (spanOf notEol s) s.size) (l := l) hl; rw [h] at this; exact this
            · split at h
              · cases h; exact hl
              · rename_i g n hc
                have IH := ih (s := s.extract n s.size) (l := l) hl
                split at h
                · cases h
                · rename_i m' hr
                  rw [hr] at IH
                  cases h
                  exact IH

theorem scanT_len {k : Nat} {s : ByteArray} {l : Nat} {ts : List Tn} {m : Nat} (h : scanT k s l = .inl (ts, m)) : ts.length ≤ s.size ∧ m ≤ l + s.size ∧ (∀ t ∈ ts, t.line ≤ l + s.size) ∧ ∀ t ∈ ts, (txt t.g).size ≤ s.size := by
  induction k generalizing s l ts m with
  | zero => cases h; simp
  | succ k ih =>
    simp only [scanT] at h
    split at h
    · cases h; simp
    · rename_i hz
      have h0 : 0 < s.size := by omega
      have goes : ∀ (n l' : Nat), 1 ≤ n → l' ≤ l + 1 → (n = 0 ∨ l' ≤ l + n) → scanT k (s.extract n s.size) l' = .inl (ts, m) → ts.length ≤ s.size ∧ m ≤ l + s.size ∧ (∀ t ∈ ts, t.line ≤ l + s.size) ∧ ∀ t ∈ ts, (txt t.g).size ≤ s.size := by
        intro n l' hn hl' hln hr
        obtain ⟨a1, a2, a3, a4⟩ := ih hr
        rw [ByteArray.size_extract] at a1 a2 a3 a4
        rcases Nat.lt_or_ge s.size n with hsn | hsn
        · have e : min s.size s.size - n = 0 := by omega
          rw [e] at a1 a2 a3 a4
          exact ⟨by omega, by omega, fun t ht => by have := a3 t ht; omega, fun t ht => by have := a4 t ht; omega⟩
        · exact ⟨by omega, by omega, fun t ht => by have := a3 t ht; omega, fun t ht => by have := a4 t ht; omega⟩
      split at h
      · exact goes 1 (l + 1) (by omega) (by omega) (by omega) h
      · split at h
        · exact goes 1 l (by omega) (by omega) (by omega) h
        · split at h
          · rename_i h37
            have hp : 1 ≤ spanOf notEol s := spanOf_pos h0 (by rw [h37]; rfl)
            exact goes _ l hp (by omega) (by omega) h
          · obtain ⟨c1, c2⟩ := cutG_cut h0
            split at h
            · cases h
            · rename_i g n hc
              rw [hc] at c1
              obtain ⟨r1, r2⟩ := cutOf_range h0 c1.symm
              split at h
              · rename_i us m' hr
                cases h
                obtain ⟨a1, a2, a3, a4⟩ := ih hr
                rw [ByteArray.size_extract] at a1 a2 a3 a4
                refine ⟨by simp; omega, by omega, fun t ht => ?_, fun t ht => ?_⟩
                · rcases List.mem_cons.1 ht with rfl | ht
                  · simp
                  · have := a3 t ht; omega
                · rcases List.mem_cons.1 ht with rfl | ht
                  · show (txt g).size ≤ _
                    rw [c2 g n hc, ByteArray.size_extract]; omega
                  · have := a4 t ht; omega
              · cases h

end Go.Proofs.YtgjomknpjigkhaaGreatDoor

namespace Go.Proofs.YtgjomknpjigkhaaGreatDoor
open Go.RowKit

theorem sizeE_alloc (w : World) (o : Obj) : (w.alloc o).heap.size = w.heap.size + 1 := by simp
theorem ownE_len {w : World} {base : Nat} {e : TypeId} {size : Nat} {v : Value} {n : Nat} {xs : List Value} (h : w.ownsRow base e size v n xs) : ∃ a c, v = .slice a n c := by
  rcases h.2 with ⟨rfl, rfl⟩ | ⟨g, cap, cur, e, _⟩
  · exact ⟨_, _, rfl⟩
  · exact ⟨_, _, e⟩
theorem ownE_cell {w : World} {base : Nat} {e : TypeId} {size g n c : Nat} {xs : List Value} (h : w.ownsRow base e size (.slice (some ⟨g, 0, none⟩) n c) n xs) {i : Nat} {x : Value} (hx : xs[i]? = some x) : w.cell? ⟨g, i, none⟩ = some x := by
  have := World.ownsRow.cells h (g := g) rfl i x hx
  rw [Addr.add_lit, Nat.zero_add] at this
  exact this
theorem ownE_base {w : World} {base : Nat} {e : TypeId} {size n : Nat} {v : Value} {xs : List Value} (h : w.ownsRow base e size v n xs) : ∀ i, v.ownBlock = some i → base ≤ i ∧ ∃ cs t, w.heap[i]? = some (.cells cs t (0, 0)) := by
  intro i hi
  obtain ⟨_, ⟨rfl, _⟩ | ⟨g, cap, cur, rfl, hb, hg, _⟩⟩ := h
  · simp [Value.ownBlock] at hi
  · simp only [Value.ownBlock, Option.some.injEq] at hi
    subst hi
    exact ⟨hb, _, _, hg⟩

end Go.Proofs.YtgjomknpjigkhaaGreatDoor

namespace Go.Proofs.YtgjomknpjigkhaaGreatDoor

/-- What is wanted. -/
inductive Sm where
  | PROGRAM | COLUMNS | BODY | LITS | LIT | ATOM | TERMS
  | dom | rel | name | int | term | lp | rp | comma | semi | dot | arrow | bang

def expand : Sm → Sg → Option (List Sm)
  | .PROGRAM, .dom => some [.dom, .name, .int, .semi, .PROGRAM]
  | .PROGRAM, .rel => some [.rel, .name, .lp, .name, .COLUMNS, .rp, .semi, .PROGRAM]
  | .PROGRAM, .fin => some []
  | .PROGRAM, _ => some [.ATOM, .BODY, .dot, .PROGRAM]
  | .COLUMNS, .comma => some [.comma, .name, .COLUMNS]
  | .COLUMNS, _ => some []
  | .BODY, .arrow => some [.arrow, .LIT, .LITS]
  | .BODY, _ => some []
  | .LITS, .comma => some [.comma, .LIT, .LITS]
  | .LITS, _ => some []
  | .LIT, .bang => some [.bang, .ATOM]
  | .LIT, _ => some [.ATOM]
  | .ATOM, _ => some [.name, .lp, .term, .TERMS, .rp]
  | .TERMS, .comma => some [.comma, .term, .TERMS]
  | .TERMS, _ => some []
  | _, _ => none

def fitsG : Sm → Sg → Bool
  | .dom => isDomG | .rel => isRelG | .name => isNameG | .int => isIntG | .term => isTermG
  | .lp => isLpG | .rp => isRpG | .comma => isCommaG | .semi => isSemiG | .dot => isDotG | .arrow => isArrowG | .bang => isBangG
  | _ => fun _ => false

/-- In so many steps the line of the first token that cannot stand where it stands; 0: there is none. -/
inductive Form : Nat → List Sm → List Tn → Nat → Prop
  | done (ts : List Tn) : Form 0 [] ts 0
  | grow {n : Nat} {w : Sm} {m st : List Sm} {t : Tn} {ts : List Tn} {r : Nat} (h : expand w t.g = some m) (k : Form n (m ++ st) (t :: ts) r) : Form (n + 1) (w :: st) (t :: ts) r
  | bad {w : Sm} {st : List Sm} {t : Tn} {ts : List Tn} (h : expand w t.g = none) (f : fitsG w t.g = false) : Form 0 (w :: st) (t :: ts) t.line
  | take {n : Nat} {w : Sm} {st : List Sm} {t : Tn} {ts : List Tn} {r : Nat} (h : expand w t.g = none) (f : fitsG w t.g = true) (k : Form n st ts r) : Form (n + 1) (w :: st) (t :: ts) r

def FormP (st : List Sm) (ts : List Tn) (r c : Nat) : Prop := ∃ n, n ≤ 4 * ts.length + c ∧ Form n st ts r
theorem FormP.mono {st : List Sm} {ts : List Tn} {r c d : Nat} (h : FormP st ts r c) (hc : c ≤ d) : FormP st ts r d := by
  obtain ⟨n, hn, f⟩ := h
  exact ⟨n, by omega, f⟩
theorem FormP.grow {w : Sm} {m st : List Sm} {t : Tn} {ts : List Tn} {r c : Nat} (h : expand w t.g = some m) (k : FormP (m ++ st) (t :: ts) r c) : FormP (w :: st) (t :: ts) r (c + 1) := by
  obtain ⟨n, hn, f⟩ := k
  exact ⟨n + 1, by omega, .grow h f⟩

/-- A symbol that is a token. -/
def Lone (w : Sm) : Prop := ∀ g, expand w g = none
theorem FormP.take {w : Sm} (hw : Lone w) {st : List Sm} {ts us : List Tn} {t : Tn} {r c : Nat} (h : takeG (fitsG w) ts = .ok (t, us)) (k : FormP st us r (c + 3)) : FormP (w :: st) ts r c := by
  obtain ⟨n, hn, f⟩ := k
  cases ts with
  | nil => cases h
  | cons x ts =>
    simp only [takeG] at h
    split at h
    · rename_i hx
      cases h
      exact ⟨n + 1, by simp; omega, .take (hw _) hx f⟩
    · cases h
theorem FormP.bad {w : Sm} (hw : Lone w) {st : List Sm} {ts : List Tn} {l c : Nat} (e : Ended ts) (h : takeG (fitsG w) ts = .error l) : FormP (w :: st) ts l c := by
  obtain ⟨x, ts, rfl⟩ := e.cons
  simp only [takeG] at h
  split at h
  · cases h
  · rename_i hx
    cases h
    exact ⟨0, by omega, .bad (hw _) (by simpa using hx)⟩

theorem lone_dom : Lone .dom := fun g => by cases g <;> rfl
theorem lone_rel : Lone .rel := fun g => by cases g <;> rfl
theorem lone_name : Lone .name := fun g => by cases g <;> rfl
theorem lone_int : Lone .int := fun g => by cases g <;> rfl
theorem lone_term : Lone .term := fun g => by cases g <;> rfl
theorem lone_lp : Lone .lp := fun g => by cases g <;> rfl
theorem lone_rp : Lone .rp := fun g => by cases g <;> rfl
theorem lone_comma : Lone .comma := fun g => by cases g <;> rfl
theorem lone_semi : Lone .semi := fun g => by cases g <;> rfl
theorem lone_dot : Lone .dot := fun g => by cases g <;> rfl
theorem lone_arrow : Lone .arrow := fun g => by cases g <;> rfl
theorem lone_bang : Lone .bang := fun g => by cases g <;> rfl

/-- What a symbol's reading leads to. -/
def Leads {A : Type} (X : List Sm) (ts : List Tn) (c : Nat) : Except Nat (A × List Tn) → Prop
  | .ok (_, us) => ∀ st r, FormP st us r 3 → FormP (X ++ st) ts r c
  | .error l => ∀ st, FormP (X ++ st) ts l c

/-- A symbol that repeats behind ','. -/
structure Again (R : Sm) (one : Sm) : Prop where
  comma : ∀ g, isCommaG g = true → expand R g = some [.comma, one, R]
  other : ∀ g, isCommaG g = false → expand R g = some []
theorem again_columns : Again .COLUMNS .name where
  comma g h := by cases g <;> first | rfl | cases h
  other g h := by cases g <;> first | rfl | cases h
theorem again_terms : Again .TERMS .term where
  comma g h := by cases g <;> first | rfl | cases h
  other g h := by cases g <;> first | rfl | cases h
theorem again_lits : Again .LITS .LIT where
  comma g h := by cases g <;> first | rfl | cases h
  other g h := by cases g <;> first | rfl | cases h

theorem sees_cons {p : Sg → Bool} {ts : List Tn} (h : sees p ts = true) : ∃ t, ts = t :: ts.tail ∧ p t.g = true := by
  obtain ⟨t, h1, h2, _⟩ := takeG_sees h
  exact ⟨t, h1, h2⟩

theorem sees_take {p : Sg → Bool} {ts : List Tn} {t : Tn} (h : ts = t :: ts.tail) (hp : p t.g = true) : takeG p ts = .ok (t, ts.tail) := by
  obtain ⟨us, hu⟩ : ∃ us, us = ts.tail := ⟨_, rfl⟩
  rw [← hu] at h ⊢
  subst h
  simp only [takeG]
  rw [if_pos hp]

theorem rest_leads {R one : Sm} (hR : Again R one) (h1 : Lone one) (hn : NoFin (fitsG one)) {k : Nat} {ts : List Tn} (hk : ts.length ≤ k) (e : Ended ts) : Leads [R, .rp] ts 3 (restG (fitsG one) k ts) := by
  induction k generalizing ts with
  | zero =>
    obtain ⟨t, us, rfl⟩ := e.cons
    simp at hk
  | succ k ih =>
    simp only [restG]
    split
    · rename_i hc
      have g1 := sees_goes comma_noFin e hc
      obtain ⟨t, ht, htc⟩ := sees_cons hc
      have hcm : takeG (fitsG .comma) ts = .ok (t, ts.tail) := sees_take ht htc
      have start : ∀ st r, FormP (one :: R :: .rp :: st) ts.tail r 3 → FormP (R :: .rp :: st) ts r 3 := by
        intro st r h
        have := FormP.take lone_comma hcm (c := 2) (h.mono (by omega))
        rw [ht] at this ⊢
        exact FormP.grow (hR.comma _ htc) this
      split
      · rename_i l hl
        intro st
        exact start _ _ (FormP.bad h1 g1.2 hl)
      · rename_i x us hx
        have g2 := (takeG_goes hn g1.2 hx).1
        have IH := ih (ts := us) (by have := g1.1; have := g2.1; omega) g2.2
        split
        · rename_i l hl
          rw [hl] at IH
          intro st
          exact start _ _ (FormP.take h1 hx ((IH st).mono (by omega)))
        · rename_i r vs hr
          rw [hr] at IH
          intro st r' h
          exact start _ _ (FormP.take h1 hx ((IH st r' h).mono (by omega)))
    · rename_i hc
      obtain ⟨t, us, rfl⟩ := e.cons
      have hg := hR.other t.g (by simpa [sees] using hc)
      split
      · rename_i l hl
        intro st
        exact FormP.grow hg (FormP.bad (c := 2) lone_rp e hl)
      · rename_i x us' hx
        intro st r h
        exact FormP.grow hg (FormP.take (c := 2) lone_rp hx (h.mono (by omega)))

theorem list_leads {R one : Sm} (hR : Again R one) (h1 : Lone one) (hn : NoFin (fitsG one)) {ts : List Tn} (e : Ended ts) : Leads [.lp, one, R, .rp] ts 0 (listG (fitsG one) ts) := by
  unfold listG
  split
  · rename_i l hl
    intro st
    exact FormP.bad lone_lp e hl
  · rename_i t1 us1 e1
    have g1 := (takeG_goes lp_noFin e e1).1
    split
    · rename_i l hl
      intro st
      exact FormP.take lone_lp e1 (FormP.bad h1 g1.2 hl)
    · rename_i t2 us2 e2
      have g2 := (takeG_goes hn g1.2 e2).1
      have IH := rest_leads hR h1 hn (Nat.le_refl _) g2.2
      split
      · rename_i l hl
        rw [hl] at IH
        intro st
        exact FormP.take lone_lp e1 (FormP.take h1 e2 ((IH st).mono (by omega)))
      · rename_i r vs hr
        rw [hr] at IH
        intro st r' h
        exact FormP.take lone_lp e1 (FormP.take h1 e2 ((IH st r' h).mono (by omega)))

theorem atom_leads {ts : List Tn} (e : Ended ts) : Leads [.ATOM] ts 1 (atomG ts) := by
  have start : ∀ st r, FormP (.name :: .lp :: .term :: .TERMS :: .rp :: st) ts r 0 → FormP (.ATOM :: st) ts r 1 := by
    intro st r h
    obtain ⟨t, us, rfl⟩ := e.cons
    exact FormP.grow (m := [.name, .lp, .term, .TERMS, .rp]) (by cases t.g <;> rfl) h
  unfold atomG
  split
  · rename_i l hl
    intro st
    exact start _ _ (FormP.bad lone_name e hl)
  · rename_i t1 us1 e1
    have g1 := (takeG_goes name_noFin e e1).1
    have IH := list_leads again_terms lone_term rfl g1.2
    change Leads [.lp, .term, .TERMS, .rp] us1 0 (listG isTermG us1) at IH
    split
    · rename_i l hl
      rw [hl] at IH
      intro st
      exact start _ _ (FormP.take lone_name e1 ((IH st).mono (by omega)))
    · rename_i r vs hr
      rw [hr] at IH
      intro st r' h
      exact start _ _ (FormP.take lone_name e1 ((IH st r' h).mono (by omega)))

theorem lit_leads {ts : List Tn} (e : Ended ts) : Leads [.LIT] ts 2 (litG ts) := by
  unfold litG
  split
  · rename_i hc
    have g1 := sees_goes bang_noFin e hc
    obtain ⟨t, ht, htc⟩ := sees_cons hc
    have hcm : takeG (fitsG .bang) ts = .ok (t, ts.tail) := sees_take ht htc
    have start : ∀ st r, FormP (.ATOM :: st) ts.tail r 3 → FormP (.LIT :: st) ts r 2 := by
      intro st r h
      have := FormP.take lone_bang hcm (c := 1) (h.mono (by omega))
      rw [ht] at this ⊢
      refine FormP.grow (m := [.bang, .ATOM]) ?_ this
      cases hg : t.g <;> rw [hg] at htc <;> first | rfl | cases htc
    have IH := atom_leads g1.2
    split
    · rename_i l hl
      rw [hl] at IH
      intro st
      exact start _ _ ((IH st).mono (by omega))
    · rename_i r vs hr
      rw [hr] at IH
      intro st r' h
      exact start _ _ ((IH st r' h).mono (by omega))
  · rename_i hc
    have start : ∀ st r, FormP (.ATOM :: st) ts r 1 → FormP (.LIT :: st) ts r 2 := by
      intro st r h
      obtain ⟨t, us, rfl⟩ := e.cons
      refine FormP.grow (m := [.ATOM]) ?_ h
      simp [sees] at hc
      cases hg : t.g <;> rw [hg] at hc <;> first | rfl | cases hc
    have IH := atom_leads e
    split
    · rename_i l hl
      rw [hl] at IH
      intro st
      exact start _ _ (IH st)
    · rename_i r vs hr
      rw [hr] at IH
      intro st r' h
      exact start _ _ (IH st r' h)

theorem lits_leads {k : Nat} {ts : List Tn} (hk : ts.length ≤ k) (e : Ended ts) : Leads [.LITS, .dot] ts 3 (litsG k ts) := by
  induction k generalizing ts with
  | zero =>
    obtain ⟨t, us, rfl⟩ := e.cons
    simp at hk
  | succ k ih =>
    simp only [litsG]
    split
    · rename_i hc
      have g1 := sees_goes comma_noFin e hc
      obtain ⟨t, ht, htc⟩ := sees_cons hc
      have hcm : takeG (fitsG .comma) ts = .ok (t, ts.tail) := sees_take ht htc
      have start : ∀ st r, FormP (.LIT :: .LITS :: .dot :: st) ts.tail r 3 → FormP (.LITS :: .dot :: st) ts r 3 := by
        intro st r h
        have := FormP.take lone_comma hcm (c := 2) (h.mono (by omega))
        rw [ht] at this ⊢
        exact FormP.grow (again_lits.comma _ htc) this
      have IH1 := lit_leads g1.2
      split
      · rename_i l hl
        rw [hl] at IH1
        intro st
        exact start _ _ ((IH1 _).mono (by omega))
      · rename_i x us hx
        have g2 := litG_goes g1.2 hx
        rw [hx] at IH1
        have IH := ih (ts := us) (by have := g1.1; have := g2.1; omega) g2.2
        split
        · rename_i l hl
          rw [hl] at IH
          intro st
          exact start _ _ ((IH1 _ _ (IH st)).mono (by omega))
        · rename_i r vs hr
          rw [hr] at IH
          intro st r' h
          exact start _ _ ((IH1 _ _ (IH st r' h)).mono (by omega))
    · rename_i hc
      obtain ⟨t, us, rfl⟩ := e.cons
      have hg := again_lits.other t.g (by simpa [sees] using hc)
      split
      · rename_i l hl
        intro st
        exact FormP.grow hg (FormP.bad (c := 2) lone_dot e hl)
      · rename_i x us' hx
        intro st r h
        exact FormP.grow hg (FormP.take (c := 2) lone_dot hx (h.mono (by omega)))

theorem body_leads {ts : List Tn} (e : Ended ts) : Leads [.BODY, .dot] ts 3 (bodyG ts) := by
  unfold bodyG
  split
  · rename_i hc
    have g1 := sees_goes arrow_noFin e hc
    obtain ⟨t, ht, htc⟩ := sees_cons hc
    have hcm : takeG (fitsG .arrow) ts = .ok (t, ts.tail) := sees_take ht htc
    have start : ∀ st r, FormP (.LIT :: .LITS :: .dot :: st) ts.tail r 3 → FormP (.BODY :: .dot :: st) ts r 3 := by
      intro st r h
      have := FormP.take lone_arrow hcm (c := 2) (h.mono (by omega))
      rw [ht] at this ⊢
      refine FormP.grow (m := [.arrow, .LIT, .LITS]) ?_ this
      cases hg : t.g <;> rw [hg] at htc <;> first | rfl | cases htc
    have IH1 := lit_leads g1.2
    split
    · rename_i l hl
      rw [hl] at IH1
      intro st
      exact start _ _ ((IH1 _).mono (by omega))
    · rename_i x us hx
      have g2 := litG_goes g1.2 hx
      rw [hx] at IH1
      have IH := lits_leads (Nat.le_refl _) g2.2
      split
      · rename_i l hl
        rw [hl] at IH
        intro st
        exact start _ _ ((IH1 _ _ (IH st)).mono (by omega))
      · rename_i r vs hr
        rw [hr] at IH
        intro st r' h
        exact start _ _ ((IH1 _ _ (IH st r' h)).mono (by omega))
  · rename_i hc
    obtain ⟨t, us, rfl⟩ := e.cons
    have hg : expand .BODY t.g = some [] := by
      simp [sees] at hc
      cases hg : t.g <;> rw [hg] at hc <;> first | rfl | cases hc
    split
    · rename_i l hl
      intro st
      exact FormP.grow hg (FormP.bad (c := 2) lone_dot e hl)
    · rename_i x us' hx
      intro st r h
      exact FormP.grow hg (FormP.take (c := 2) lone_dot hx (h.mono (by omega)))

def LeadsI (ts : List Tn) : Except Nat (ItemI × List Tn) → Prop
  | .ok (_, us) => ∀ r, FormP [.PROGRAM] us r 3 → FormP [.PROGRAM] ts r 3
  | .error l => FormP [.PROGRAM] ts l 3

theorem item_leads {ts : List Tn} (e : Ended ts) (hf : sees isFinG ts = false) : LeadsI ts (itemG ts) := by
  unfold itemG
  split
  · rename_i hc
    have g1 := sees_goes dom_noFin e hc
    obtain ⟨t, ht, htc⟩ := sees_cons hc
    have hcm : takeG (fitsG .dom) ts = .ok (t, ts.tail) := sees_take ht htc
    have start : ∀ r, FormP [.name, .int, .semi, .PROGRAM] ts.tail r 3 → FormP [.PROGRAM] ts r 3 := by
      intro r h
      have := FormP.take lone_dom hcm (c := 2) (h.mono (by omega))
      rw [ht] at this ⊢
      refine FormP.grow (m := [.dom, .name, .int, .semi, .PROGRAM]) ?_ this
      cases hg : t.g <;> rw [hg] at htc <;> first | rfl | cases htc
    split
    · rename_i l hl
      exact start _ (FormP.bad lone_name g1.2 hl)
    · rename_i t2 us2 h2
      have g2 := (takeG_goes name_noFin g1.2 h2).1
      split
      · rename_i l hl
        exact start _ (FormP.take lone_name h2 (FormP.bad lone_int g2.2 hl))
      · rename_i t3 us3 h3
        have g3 := (takeG_goes int_noFin g2.2 h3).1
        split
        · rename_i l hl
          exact start _ (FormP.take lone_name h2 (FormP.take lone_int h3 (FormP.bad lone_semi g3.2 hl)))
        · rename_i t4 us4 h4
          intro r h
          exact start _ (FormP.take lone_name h2 (FormP.take lone_int h3 (FormP.take lone_semi h4 (h.mono (by omega)))))
  · rename_i hd
    split
    · rename_i hc
      have g1 := sees_goes rel_noFin e hc
      obtain ⟨t, ht, htc⟩ := sees_cons hc
      have hcm : takeG (fitsG .rel) ts = .ok (t, ts.tail) := sees_take ht htc
      have start : ∀ r, FormP [.name, .lp, .name, .COLUMNS, .rp, .semi, .PROGRAM] ts.tail r 3 → FormP [.PROGRAM] ts r 3 := by
        intro r h
        have := FormP.take lone_rel hcm (c := 2) (h.mono (by omega))
        rw [ht] at this ⊢
        refine FormP.grow (m := [.rel, .name, .lp, .name, .COLUMNS, .rp, .semi, .PROGRAM]) ?_ this
        cases hg : t.g <;> rw [hg] at htc <;> first | rfl | cases htc
      split
      · rename_i l hl
        exact start _ (FormP.bad lone_name g1.2 hl)
      · rename_i t2 us2 h2
        have g2 := (takeG_goes name_noFin g1.2 h2).1
        have IH := list_leads again_columns lone_name rfl g2.2
        change Leads [.lp, .name, .COLUMNS, .rp] us2 0 (listG isNameG us2) at IH
        split
        · rename_i l hl
          rw [hl] at IH
          exact start _ (FormP.take lone_name h2 ((IH [.semi, .PROGRAM]).mono (by omega)))
        · rename_i t3 us3 h3
          rw [h3] at IH
          have g3 := listG_goes name_noFin g2.2 h3
          split
          · rename_i l hl
            exact start _ (FormP.take lone_name h2 ((IH [.semi, .PROGRAM] _ (FormP.bad lone_semi g3.2 hl)).mono (by omega)))
          · rename_i t4 us4 h4
            intro r h
            exact start _ (FormP.take lone_name h2 ((IH [.semi, .PROGRAM] _ (FormP.take lone_semi h4 (h.mono (by omega)))).mono (by omega)))
    · rename_i hr
      have start : ∀ r, FormP [.ATOM, .BODY, .dot, .PROGRAM] ts r 2 → FormP [.PROGRAM] ts r 3 := by
        intro r h
        obtain ⟨t, us, rfl⟩ := e.cons
        refine FormP.grow (m := [.ATOM, .BODY, .dot, .PROGRAM]) ?_ h
        simp [sees] at hd hr hf
        cases hg : t.g <;> rw [hg] at hd hr hf <;> first | rfl | exact absurd hd (by decide) | exact absurd hr (by decide) | exact absurd hf (by decide)
      have IH := atom_leads e
      split
      · rename_i l hl
        rw [hl] at IH
        exact start _ ((IH [.BODY, .dot, .PROGRAM]).mono (by omega))
      · rename_i a us1 h1
        rw [h1] at IH
        have g1 := atomG_goes e h1
        have IH2 := body_leads g1.2
        split
        · rename_i l hl
          rw [hl] at IH2
          exact start _ ((IH [.BODY, .dot, .PROGRAM] _ (IH2 [.PROGRAM])).mono (by omega))
        · rename_i b us2 h2
          rw [h2] at IH2
          intro r h
          exact start _ ((IH [.BODY, .dot, .PROGRAM] _ (IH2 [.PROGRAM] _ h)).mono (by omega))

/-- The line of the first token that cannot stand where it stands. -/
def formLine {A : Type} : Except Nat A → Nat
  | .ok _ => 0
  | .error l => l

theorem items_form {k : Nat} {ts : List Tn} (hk : ts.length ≤ k) (e : Ended ts) : FormP [.PROGRAM] ts (formLine (itemsG k ts)) 3 := by
  induction k generalizing ts with
  | zero =>
    obtain ⟨t, us, rfl⟩ := e.cons
    simp at hk
  | succ k ih =>
    simp only [itemsG]
    split
    · rename_i hc
      obtain ⟨t, us, rfl⟩ := e.cons
      have hg : expand .PROGRAM t.g = some [] := by
        simp [sees] at hc
        cases hg : t.g <;> rw [hg] at hc <;> first | rfl | cases hc
      exact FormP.grow hg ⟨0, by omega, .done _⟩
    · rename_i hc
      have IH1 := item_leads e (by simpa using hc)
      split
      · rename_i l hl
        rw [hl] at IH1
        exact IH1
      · rename_i i us hi
        rw [hi] at IH1
        have g := itemG_goes e hi
        have IH := ih (ts := us) (by have := g.1; omega) g.2
        split
        · rename_i l hl
          rw [hl] at IH
          exact IH1 _ IH
        · rename_i r hr
          rw [hr] at IH
          exact IH1 _ IH

end Go.Proofs.YtgjomknpjigkhaaGreatDoor
