/- Texts: E5 E6 E8 G1 G3 G4. -/
import Derived.Test.YtgjomknpjigkhaaGreatDoorT02
namespace Go.Proofs.YtgjomknpjigkhaaGreatDoor
open Go.RowKit

def strVar : ByteArray := ⟨#[86, 65, 82]⟩
def strInt : ByteArray := ⟨#[73, 78, 84]⟩
def strArrow : ByteArray := ⟨#[58, 45]⟩

/-- Its kind and its length; none: it is no token. -/
def cutOf (s : ByteArray) : Option (ByteArray × Nat) :=
  if isLow (ltr s 0) then (if spanOf isWord s ≤ 6 then some (wordKind (s.extract 0 (spanOf isWord s)), spanOf isWord s) else none)
  else if isCap (ltr s 0) then some (strVar, 1 + spanOf isDig (s.extract 1 (min 2 s.size)))
  else if isDig (ltr s 0) then (if spanOf isDig s ≤ 2 then some (strInt, spanOf isDig s) else none)
  else if isMark (ltr s 0) then some (s.extract 0 1, 1)
  else if isArrow s then some (strArrow, 2) else none

def CutTo (r : Option (ByteArray × Nat)) (l : Int) (e : Ending) : Prop := match r with
  | some (k, n) => e = .returned (.tuple #[.string k, .int .i64 n])
  | none => e = gaveUp 5 l

set_option maxRecDepth 100000 in
set_option maxHeartbeats 1000000 in
theorem cut_calls {w : World} (s : ByteArray) (h0 : 0 < s.size) (hs : s.size ≤ 10000000) (l : Int) : Calls Tryz.prog 197 #[.string s, .int .i64 l] w fun e w' => CutTo (cutOf s) l e ∧ w' = w := by
  have hl := ltr_at h0
  have h0I : (0 : Int) < s.size := by omega
  have hL := hide (fun (w : World) (x : Int) => isSmall_calls (w := w) x)
  have hG := hide (fun (w : World) (x : Int) => isGreat_calls (w := w) x)
  have hD := hide (fun (w : World) (x : Int) => isDigit_calls (w := w) x)
  unfold cutOf
  cases h1 : isLow (ltr s 0) with
  | true =>
    rw [if_pos rfl]
    by_cases h6 : spanOf isWord s ≤ 6
    · rw [if_pos h6]
      have hc := hide (fun w => cutName_ok (w := w) s hs l h6)
      generalize spanOf isWord s = n at hc ⊢
      go_enter Tryz.func197, Tryz.ntmps197
      go_wp2_with fail
      refine (hL.out _ _).mono ?_
      rintro e w1 ⟨rfl, rfl⟩
      rw [h1]
      go_wp2_with fail
      refine (hc.out _).mono ?_
      rintro e w1 ⟨rfl, rfl⟩
      go_wp2_with fail
      go_ret2
      exact ⟨rfl, rfl⟩
    · rw [if_neg h6]
      have hc := hide (fun w => cutName_bad (w := w) s hs l (by omega))
      go_enter Tryz.func197, Tryz.ntmps197
      go_wp2_with fail
      refine (hL.out _ _).mono ?_
      rintro e w1 ⟨rfl, rfl⟩
      rw [h1]
      go_wp2_with fail
      refine (hc.out _).mono ?_
      rintro e w1 ⟨rfl, rfl⟩
      exact ⟨rfl, rfl, rfl⟩
  | false =>
    rw [if_neg (by simp)]
    cases h2 : isCap (ltr s 0) with
    | true =>
      rw [if_pos rfl]
      have hx := hide (fun w => span_isDig (w := w) (s.extract 1 (min 2 s.size)) (by rw [ByteArray.size_extract]; omega))
      have hnl := spanOf_le isDig (s.extract 1 (min 2 s.size))
      rw [ByteArray.size_extract] at hnl
      generalize spanOf isDig (s.extract 1 (min 2 s.size)) = n at hx hnl ⊢
      have hm : min 2 s.size ≤ s.size := Nat.min_le_right _ _
      have hm1 : 1 ≤ min 2 s.size := by omega
      have hmI : min (2 : Int) (s.size : Int) = ((min 2 s.size : Nat) : Int) := by omega
      go_enter Tryz.func197, Tryz.ntmps197
      go_wp2_with fail
      refine (hL.out _ _).mono ?_
      rintro e w1 ⟨rfl, rfl⟩
      rw [h1]
      go_wp2_with fail
      refine (hG.out _ _).mono ?_
      rintro e w1 ⟨rfl, rfl⟩
      rw [h2]
      go_wp2_with fail
      refine (hx.out _).mono ?_
      rintro e w1 ⟨rfl, rfl⟩
      go_wp2_with fail
      go_ret2
      exact ⟨rfl, rfl⟩
    | false =>
      rw [if_neg (by simp)]
      cases h3 : isDig (ltr s 0) with
      | true =>
        rw [if_pos rfl]
        have hx := hide (fun w => span_isDig (w := w) s hs)
        by_cases h6 : spanOf isDig s ≤ 2
        · rw [if_pos h6]
          have hf := hide (fun w => forbidLonger_ok (w := w) (spanOf isDig s) 2 l (by omega))
          generalize spanOf isDig s = n at hx hf ⊢
          go_enter Tryz.func197, Tryz.ntmps197
          go_wp2_with fail
          refine (hL.out _ _).mono ?_
          rintro e w1 ⟨rfl, rfl⟩
          rw [h1]
          go_wp2_with fail
          refine (hG.out _ _).mono ?_
          rintro e w1 ⟨rfl, rfl⟩
          rw [h2]
          go_wp2_with fail
          refine (hD.out _ _).mono ?_
          rintro e w1 ⟨rfl, rfl⟩
          rw [h3]
          go_wp2_with fail
          refine (hx.out _).mono ?_
          rintro e w1 ⟨rfl, rfl⟩
          go_wp2_with fail
          refine (hf.out _).mono ?_
          rintro e w1 ⟨rfl, rfl⟩
          go_wp2_with fail
          go_ret2
          exact ⟨rfl, rfl⟩
        · rw [if_neg h6]
          have hf := hide (fun w => forbidLonger_bad (w := w) (spanOf isDig s) 2 l (by omega))
          go_enter Tryz.func197, Tryz.ntmps197
          go_wp2_with fail
          refine (hL.out _ _).mono ?_
          rintro e w1 ⟨rfl, rfl⟩
          rw [h1]
          go_wp2_with fail
          refine (hG.out _ _).mono ?_
          rintro e w1 ⟨rfl, rfl⟩
          rw [h2]
          go_wp2_with fail
          refine (hD.out _ _).mono ?_
          rintro e w1 ⟨rfl, rfl⟩
          rw [h3]
          go_wp2_with fail
          refine (hx.out _).mono ?_
          rintro e w1 ⟨rfl, rfl⟩
          go_wp2_with fail
          refine (hf.out _).mono ?_
          rintro e w1 ⟨rfl, rfl⟩
          exact ⟨rfl, rfl, rfl⟩
      | false =>
        rw [if_neg (by simp)]
        have hi := hide (fun w => indexByte_calls (w := w) ⟨#[40, 41, 44, 59, 46, 33]⟩ (ltr s 0))
        have hiff := marks_iff (ltr s 0) (by rw [← hl]; omega) (by rw [← hl]; have := (s[0]'h0).toNat_lt; omega)
        generalize hr : Lib.indexByte (⟨#[40, 41, 44, 59, 46, 33]⟩ : ByteArray).data.toList (ltr s 0).toNat.toUInt8 = r at hi
        have hiff' : 0 ≤ r ↔ isMark (ltr s 0) = true := by rw [← hr]; exact hiff
        clear hiff hr
        cases h4 : isMark (ltr s 0) with
        | true =>
          rw [if_pos rfl]
          have hr0 : 0 ≤ r := hiff'.2 h4
          clear hiff'
          go_enter Tryz.func197, Tryz.ntmps197
          go_wp2_with fail
          refine (hL.out _ _).mono ?_
          rintro e w1 ⟨rfl, rfl⟩
          rw [h1]
          go_wp2_with fail
          refine (hG.out _ _).mono ?_
          rintro e w1 ⟨rfl, rfl⟩
          rw [h2]
          go_wp2_with fail
          refine (hD.out _ _).mono ?_
          rintro e w1 ⟨rfl, rfl⟩
          rw [h3]
          go_wp2_with fail
          refine (hi.out _).mono ?_
          rintro e w1 ⟨rfl, rfl⟩
          go_wp2_with fail
          go_ret2
          exact ⟨rfl, rfl⟩
        | false =>
          rw [if_neg (by simp)]
          have hr0 : ¬ 0 ≤ r := fun h => by rw [hiff'.1 h] at h4; cases h4
          clear hiff'
          have ha := hide (fun w => arrow_calls (w := w) s)
          have hg := hide (fun w => giveUp_calls (w := w) 5 l)
          cases h5 : isArrow s with
          | true =>
            rw [if_pos rfl]
            rw [h5] at ha
            go_enter Tryz.func197, Tryz.ntmps197
            go_wp2_with fail
            refine (hL.out _ _).mono ?_
            rintro e w1 ⟨rfl, rfl⟩
            rw [h1]
            go_wp2_with fail
            refine (hG.out _ _).mono ?_
            rintro e w1 ⟨rfl, rfl⟩
            rw [h2]
            go_wp2_with fail
            refine (hD.out _ _).mono ?_
            rintro e w1 ⟨rfl, rfl⟩
            rw [h3]
            go_wp2_with fail
            refine (hi.out _).mono ?_
            rintro e w1 ⟨rfl, rfl⟩
            go_wp2_with fail
            refine (ha.out _).mono ?_
            rintro e w1 ⟨rfl, rfl⟩
            go_wp2_with fail
            go_ret2
            exact ⟨rfl, rfl⟩
          | false =>
            rw [if_neg (by simp)]
            rw [h5] at ha
            go_enter Tryz.func197, Tryz.ntmps197
            go_wp2_with fail
            refine (hL.out _ _).mono ?_
            rintro e w1 ⟨rfl, rfl⟩
            rw [h1]
            go_wp2_with fail
            refine (hG.out _ _).mono ?_
            rintro e w1 ⟨rfl, rfl⟩
            rw [h2]
            go_wp2_with fail
            refine (hD.out _ _).mono ?_
            rintro e w1 ⟨rfl, rfl⟩
            rw [h3]
            go_wp2_with fail
            refine (hi.out _).mono ?_
            rintro e w1 ⟨rfl, rfl⟩
            go_wp2_with fail
            refine (ha.out _).mono ?_
            rintro e w1 ⟨rfl, rfl⟩
            go_wp2_with fail
            refine (hg.out _).mono ?_
            rintro e w1 ⟨rfl, rfl⟩
            exact ⟨rfl, rfl, rfl⟩

end Go.Proofs.YtgjomknpjigkhaaGreatDoor

namespace Go.Proofs.YtgjomknpjigkhaaGreatDoor
open Go.RowKit

/-- A token. -/
structure Tk where
  kind : ByteArray
  text : ByteArray
  line : Nat

/-- The tokens of a text and the line of its end; or the line of what is none. -/
def scanOf : Nat → ByteArray → Nat → (List Tk × Nat) ⊕ Nat
  | 0, _, l => .inl ([], l)
  | k + 1, s, l =>
    if s.size = 0 then .inl ([], l)
    else if ltr s 0 = 10 then scanOf k (s.extract 1 s.size) (l + 1)
    else if ltr s 0 = 32 ∨ ltr s 0 = 9 then scanOf k (s.extract 1 s.size) l
    else if ltr s 0 = 37 then scanOf k (s.extract (spanOf notEol s) s.size) l
    else match cutOf s with
      | none => .inr l
      | some (kd, n) => match scanOf k (s.extract n s.size) l with
        | .inl (ts, m) => .inl (⟨kd, s.extract 0 n, l⟩ :: ts, m)
        | .inr m => .inr m

theorem spanOf_pos {p : Int → Bool} {s : ByteArray} (h0 : 0 < s.size) (h : p (ltr s 0) = true) : 1 ≤ spanOf p s := by
  unfold spanOf
  obtain ⟨k, hk⟩ : ∃ k, s.size = k + 1 := ⟨s.size - 1, by omega⟩
  rw [hk, spanFrom, if_pos h]
  exact (spanFrom_le p s 1 k).1

theorem arrow_size {s : ByteArray} (h : isArrow s = true) : 2 ≤ s.size := by
  unfold isArrow at h
  simp at h
  exact h.1

theorem cutOf_range {s : ByteArray} (h0 : 0 < s.size) {k : ByteArray} {n : Nat} (h : cutOf s = some (k, n)) : 1 ≤ n ∧ n ≤ s.size := by
  unfold cutOf at h
  split at h
  · rename_i hl
    split at h
    · cases h
      exact ⟨spanOf_pos h0 (by unfold isWord; rw [hl]; rfl), spanOf_le _ _⟩
    · cases h
  · split at h
    · cases h
      have := spanOf_le isDig (s.extract 1 (min 2 s.size))
      rw [ByteArray.size_extract] at this
      omega
    · split at h
      · rename_i hd
        split at h
        · cases h
          exact ⟨spanOf_pos h0 hd, spanOf_le _ _⟩
        · cases h
      · split at h
        · cases h
          omega
        · split at h
          · rename_i ha
            cases h
            have := arrow_size ha
            omega
          · cases h

end Go.Proofs.YtgjomknpjigkhaaGreatDoor

namespace Go.Proofs.YtgjomknpjigkhaaGreatDoor
open Go.RowKit

theorem size_rest (s : ByteArray) (i : Nat) : (s.extract i s.size).size = s.size - i := by rw [ByteArray.size_extract]; omega

theorem ltr_rest (s : ByteArray) (i j : Nat) : ltr (s.extract i s.size) j = ltr s (i + j) := by
  unfold ltr
  by_cases h : i + j < s.size
  · have h' : j < (s.extract i s.size).size := by rw [size_rest]; omega
    rw [dif_pos h, dif_pos h', ByteArray.getElem_extract]
  · have h' : ¬ j < (s.extract i s.size).size := by rw [size_rest]; omega
    rw [dif_neg h, dif_neg h']

theorem spanFrom_rest (p : Int → Bool) (s : ByteArray) (i j k : Nat) : i + spanFrom p (s.extract i s.size) j k = spanFrom p s (i + j) k := by
  induction k generalizing j with
  | zero => rfl
  | succ k ih =>
    simp only [spanFrom, ltr_rest]
    split
    · exact ih (j + 1)
    · rfl

theorem spanOf_rest (p : Int → Bool) (s : ByteArray) (i : Nat) : i + spanOf p (s.extract i s.size) = spanFrom p s i (s.size - i) := by
  unfold spanOf
  rw [size_rest]
  exact spanFrom_rest p s i 0 (s.size - i)

end Go.Proofs.YtgjomknpjigkhaaGreatDoor

namespace Go.Proofs.YtgjomknpjigkhaaGreatDoor

/-- What a token is. -/
inductive Sg where
  | dom | rel | lp | rp | comma | semi | dot | bang | arrow | fin
  | name (s : ByteArray)
  | var (s : ByteArray)
  | int (s : ByteArray)

/-- A token. -/
structure Tn where
  g : Sg
  line : Nat

def isNameG : Sg → Bool | .name _ => true | _ => false
def isTermG : Sg → Bool | .var _ => true | .int _ => true | _ => false
def isIntG : Sg → Bool | .int _ => true | _ => false
def isVarG : Sg → Bool | .var _ => true | _ => false
def isDomG : Sg → Bool | .dom => true | _ => false
def isRelG : Sg → Bool | .rel => true | _ => false
def isLpG : Sg → Bool | .lp => true | _ => false
def isRpG : Sg → Bool | .rp => true | _ => false
def isCommaG : Sg → Bool | .comma => true | _ => false
def isSemiG : Sg → Bool | .semi => true | _ => false
def isDotG : Sg → Bool | .dot => true | _ => false
def isBangG : Sg → Bool | .bang => true | _ => false
def isArrowG : Sg → Bool | .arrow => true | _ => false
def isFinG : Sg → Bool | .fin => true | _ => false

/-- One token of a kind, or the line of another. -/
def takeG (p : Sg → Bool) : List Tn → Except Nat (Tn × List Tn)
  | [] => .error 0
  | t :: ts => if p t.g then .ok (t, ts) else .error t.line

def sees (p : Sg → Bool) : List Tn → Bool
  | [] => false
  | t :: _ => p t.g

structure AtomI where
  name : Tn
  terms : List Tn

structure LitI where
  atom : AtomI
  no : Bool

inductive ItemI where
  | dom (name size : Tn)
  | rel (name : Tn) (cols : List Tn)
  | clause (head : AtomI) (lits : List LitI)

/-- What stands behind the first of a list. -/
def restG (p : Sg → Bool) : Nat → List Tn → Except Nat (List Tn × List Tn)
  | 0, ts => .ok ([], ts)
  | k + 1, ts =>
    if sees isCommaG ts then
      match takeG p ts.tail with
      | .error l => .error l
      | .ok (t, us) => match restG p k us with
        | .error l => .error l
        | .ok (r, vs) => .ok (t :: r, vs)
    else match takeG isRpG ts with
      | .error l => .error l
      | .ok (_, us) => .ok ([], us)

def listG (p : Sg → Bool) (ts : List Tn) : Except Nat (List Tn × List Tn) :=
  match takeG isLpG ts with
  | .error l => .error l
  | .ok (_, us) => match takeG p us with
    | .error l => .error l
    | .ok (t, vs) => match restG p vs.length vs with
      | .error l => .error l
      | .ok (r, xs) => .ok (t :: r, xs)

def atomG (ts : List Tn) : Except Nat (AtomI × List Tn) :=
  match takeG isNameG ts with
  | .error l => .error l
  | .ok (n, us) => match listG isTermG us with
    | .error l => .error l
    | .ok (r, vs) => .ok (⟨n, r⟩, vs)

def litG (ts : List Tn) : Except Nat (LitI × List Tn) :=
  if sees isBangG ts then
    match atomG ts.tail with
    | .error l => .error l
    | .ok (a, us) => .ok (⟨a, true⟩, us)
  else match atomG ts with
    | .error l => .error l
    | .ok (a, us) => .ok (⟨a, false⟩, us)

/-- What stands behind the first lit. -/
def litsG : Nat → List Tn → Except Nat (List LitI × List Tn)
  | 0, ts => .ok ([], ts)
  | k + 1, ts =>
    if sees isCommaG ts then
      match litG ts.tail with
      | .error l => .error l
      | .ok (t, us) => match litsG k us with
        | .error l => .error l
        | .ok (r, vs) => .ok (t :: r, vs)
    else match takeG isDotG ts with
      | .error l => .error l
      | .ok (_, us) => .ok ([], us)

def bodyG (ts : List Tn) : Except Nat (List LitI × List Tn) :=
  if sees isArrowG ts then
    match litG ts.tail with
    | .error l => .error l
    | .ok (t, us) => match litsG us.length us with
      | .error l => .error l
      | .ok (r, vs) => .ok (t :: r, vs)
  else match takeG isDotG ts with
    | .error l => .error l
    | .ok (_, us) => .ok ([], us)

def itemG (ts : List Tn) : Except Nat (ItemI × List Tn) :=
  if sees isDomG ts then
    match takeG isNameG ts.tail with
    | .error l => .error l
    | .ok (n, us) => match takeG isIntG us with
      | .error l => .error l
      | .ok (i, vs) => match takeG isSemiG vs with
        | .error l => .error l
        | .ok (_, xs) => .ok (.dom n i, xs)
  else if sees isRelG ts then
    match takeG isNameG ts.tail with
    | .error l => .error l
    | .ok (n, us) => match listG isNameG us with
      | .error l => .error l
      | .ok (c, vs) => match takeG isSemiG vs with
        | .error l => .error l
        | .ok (_, xs) => .ok (.rel n c, xs)
  else match atomG ts with
    | .error l => .error l
    | .ok (a, us) => match bodyG us with
      | .error l => .error l
      | .ok (b, vs) => .ok (.clause a b, vs)

def itemsG : Nat → List Tn → Except Nat (List ItemI)
  | 0, _ => .ok []
  | k + 1, ts =>
    if sees isFinG ts then .ok []
    else match itemG ts with
      | .error l => .error l
      | .ok (i, us) => match itemsG k us with
        | .error l => .error l
        | .ok r => .ok (i :: r)

/-- Tokens with their end. -/
def Ended (ts : List Tn) : Prop := ∃ us l, ts = us ++ [⟨.fin, l⟩] ∧ ∀ t ∈ us, isFinG t.g = false

theorem Ended.cons {ts : List Tn} (h : Ended ts) : ∃ t us, ts = t :: us := by
  obtain ⟨us, l, rfl, _⟩ := h
  cases us with
  | nil => exact ⟨_, _, rfl⟩
  | cons t us => exact ⟨t, us ++ [⟨.fin, l⟩], rfl⟩

theorem Ended.tail {t : Tn} {ts : List Tn} (h : Ended (t :: ts)) (hf : isFinG t.g = false) : Ended ts := by
  obtain ⟨us, l, he, hn⟩ := h
  cases us with
  | nil => simp at he; rw [he.1] at hf; cases hf
  | cons u us =>
    simp at he
    exact ⟨us, l, he.2, fun t ht => hn t (by simp [ht])⟩

/-- A kind that is not the end's. -/
def NoFin (p : Sg → Bool) : Prop := p .fin = false

theorem NoFin.no {p : Sg → Bool} (h : NoFin p) {g : Sg} (hg : p g = true) : isFinG g = false := by
  cases g <;> first | rfl | (rw [h] at hg; cases hg)

/-- Fewer tokens, ended again. -/
structure GoesG (ts us : List Tn) : Prop where
  less : us.length < ts.length
  ended : Ended us
  suf : us <:+ ts
theorem GoesG.trans {a b c : List Tn} (h : GoesG a b) (k : GoesG b c) : GoesG a c := ⟨by have := h.1; have := k.1; omega, k.2, k.3.trans h.3⟩

theorem takeG_goes {p : Sg → Bool} (hp : NoFin p) {ts us : List Tn} {t : Tn} (e : Ended ts) (h : takeG p ts = .ok (t, us)) : GoesG ts us ∧ ts = t :: us ∧ p t.g = true := by
  cases ts with
  | nil => cases h
  | cons x ts =>
    simp only [takeG] at h
    split at h
    · rename_i hx
      cases h
      exact ⟨⟨by simp, e.tail (hp.no hx), List.suffix_cons _ _⟩, rfl, hx⟩
    · cases h

theorem sees_goes {p : Sg → Bool} (hp : NoFin p) {ts : List Tn} (e : Ended ts) (h : sees p ts = true) : GoesG ts ts.tail := by
  cases ts with
  | nil => cases h
  | cons x ts => exact ⟨by simp, e.tail (hp.no h), List.suffix_cons _ _⟩

theorem takeG_sees {p : Sg → Bool} {ts : List Tn} (h : sees p ts = true) : ∃ t, ts = t :: ts.tail ∧ p t.g = true ∧ takeG p ts = .ok (t, ts.tail) := by
  cases ts with
  | nil => cases h
  | cons x ts =>
    have hx : p x.g = true := h
    exact ⟨x, rfl, h, by simp only [takeG]; rw [if_pos hx]; rfl⟩

theorem comma_noFin : NoFin isCommaG := rfl
theorem rp_noFin : NoFin isRpG := rfl
theorem lp_noFin : NoFin isLpG := rfl
theorem name_noFin : NoFin isNameG := rfl
theorem term_noFin : NoFin isTermG := rfl
theorem int_noFin : NoFin isIntG := rfl
theorem semi_noFin : NoFin isSemiG := rfl
theorem dot_noFin : NoFin isDotG := rfl
theorem bang_noFin : NoFin isBangG := rfl
theorem arrow_noFin : NoFin isArrowG := rfl
theorem dom_noFin : NoFin isDomG := rfl
theorem rel_noFin : NoFin isRelG := rfl

theorem restG_goes {p : Sg → Bool} (hp : NoFin p) {k : Nat} {ts us : List Tn} {r : List Tn} (hk : ts.length ≤ k) (e : Ended ts) (h : restG p k ts = .ok (r, us)) : GoesG ts us := by
  induction k generalizing ts us r with
  | zero =>
    obtain ⟨t, us, rfl⟩ := e.cons
    simp at hk
  | succ k ih =>
    simp only [restG] at h
    split at h
    · rename_i hc
      have g1 := sees_goes comma_noFin e hc
      split at h
      · cases h
      · rename_i t us' ht
        have g2 := (takeG_goes hp g1.2 ht).1
        split at h
        · cases h
        · rename_i r' vs hr
          cases h
          exact (g1.trans g2).trans (ih (by have := g1.1; have := g2.1; omega) g2.2 hr)
    · split at h
      · cases h
      · rename_i t us' ht
        cases h
        exact (takeG_goes rp_noFin e ht).1

theorem listG_goes {p : Sg → Bool} (hp : NoFin p) {ts us : List Tn} {r : List Tn} (e : Ended ts) (h : listG p ts = .ok (r, us)) : GoesG ts us := by
  unfold listG at h
  split at h
  · cases h
  · rename_i t1 us1 h1
    have g1 := (takeG_goes lp_noFin e h1).1
    split at h
    · cases h
    · rename_i t2 us2 h2
      have g2 := (takeG_goes hp g1.2 h2).1
      split at h
      · cases h
      · rename_i r3 us3 h3
        cases h
        exact (g1.trans g2).trans (restG_goes hp (Nat.le_refl _) g2.2 h3)

theorem atomG_goes {ts us : List Tn} {a : AtomI} (e : Ended ts) (h : atomG ts = .ok (a, us)) : GoesG ts us := by
  unfold atomG at h
  split at h
  · cases h
  · rename_i t1 us1 h1
    have g1 := (takeG_goes name_noFin e h1).1
    split at h
    · cases h
    · rename_i r3 us3 h3
      cases h
      exact g1.trans (listG_goes term_noFin g1.2 h3)

theorem litG_goes {ts us : List Tn} {a : LitI} (e : Ended ts) (h : litG ts = .ok (a, us)) : GoesG ts us := by
  unfold litG at h
  split at h
  · rename_i hc
    have g1 := sees_goes bang_noFin e hc
    split at h
    · cases h
    · rename_i r3 us3 h3
      cases h
      exact g1.trans (atomG_goes g1.2 h3)
  · split at h
    · cases h
    · rename_i r3 us3 h3
      cases h
      exact atomG_goes e h3

theorem litsG_goes {k : Nat} {ts us : List Tn} {r : List LitI} (hk : ts.length ≤ k) (e : Ended ts) (h : litsG k ts = .ok (r, us)) : GoesG ts us := by
  induction k generalizing ts us r with
  | zero =>
    obtain ⟨t, us, rfl⟩ := e.cons
    simp at hk
  | succ k ih =>
    simp only [litsG] at h
    split at h
    · rename_i hc
      have g1 := sees_goes comma_noFin e hc
      split at h
      · cases h
      · rename_i t us' ht
        have g2 := litG_goes g1.2 ht
        split at h
        · cases h
        · rename_i r' vs hr
          cases h
          exact (g1.trans g2).trans (ih (by have := g1.1; have := g2.1; omega) g2.2 hr)
    · split at h
      · cases h
      · rename_i t us' ht
        cases h
        exact (takeG_goes dot_noFin e ht).1

theorem bodyG_goes {ts us : List Tn} {r : List LitI} (e : Ended ts) (h : bodyG ts = .ok (r, us)) : GoesG ts us := by
  unfold bodyG at h
  split at h
  · rename_i hc
    have g1 := sees_goes arrow_noFin e hc
    split at h
    · cases h
    · rename_i t us' ht
      have g2 := litG_goes g1.2 ht
      split at h
      · cases h
      · rename_i r' vs hr
        cases h
        exact (g1.trans g2).trans (litsG_goes (Nat.le_refl _) g2.2 hr)
  · split at h
    · cases h
    · rename_i t us' ht
      cases h
      exact (takeG_goes dot_noFin e ht).1

theorem itemG_goes {ts us : List Tn} {i : ItemI} (e : Ended ts) (h : itemG ts = .ok (i, us)) : GoesG ts us := by
  unfold itemG at h
  split at h
  · rename_i hc
    have g1 := sees_goes dom_noFin e hc
    split at h
    · cases h
    · rename_i t2 us2 h2
      have g2 := (takeG_goes name_noFin g1.2 h2).1
      split at h
      · cases h
      · rename_i t3 us3 h3
        have g3 := (takeG_goes int_noFin g2.2 h3).1
        split at h
        · cases h
        · rename_i t4 us4 h4
          cases h
          exact ((g1.trans g2).trans g3).trans (takeG_goes semi_noFin g3.2 h4).1
  · split at h
    · rename_i hc
      have g1 := sees_goes rel_noFin e hc
      split at h
      · cases h
      · rename_i t2 us2 h2
        have g2 := (takeG_goes name_noFin g1.2 h2).1
        split at h
        · cases h
        · rename_i t3 us3 h3
          have g3 := listG_goes name_noFin g2.2 h3
          split at h
          · cases h
          · rename_i t4 us4 h4
            cases h
            exact ((g1.trans g2).trans g3).trans (takeG_goes semi_noFin g3.2 h4).1
    · split at h
      · cases h
      · rename_i a us1 h1
        have g1 := atomG_goes e h1
        split at h
        · cases h
        · rename_i b us2 h2
          cases h
          exact g1.trans (bodyG_goes g1.2 h2)

end Go.Proofs.YtgjomknpjigkhaaGreatDoor

namespace Go.Proofs.YtgjomknpjigkhaaGreatDoor

def ltrG (s : ByteArray) (i : Nat) : Int := if h : i < s.size then (s[i].toNat : Int) else 0
/-- The number of an INT. -/
def valTo (s : ByteArray) : Nat → Int
  | 0 => 0
  | k + 1 => 10 * valTo s k + (ltrG s k - 48)

def txt : Sg → ByteArray
  | .dom => ⟨#[100, 111, 109]⟩ | .rel => ⟨#[114, 101, 108]⟩ | .lp => ⟨#[40]⟩ | .rp => ⟨#[41]⟩ | .comma => ⟨#[44]⟩ | .semi => ⟨#[59]⟩
  | .dot => ⟨#[46]⟩ | .bang => ⟨#[33]⟩ | .arrow => ⟨#[58, 45]⟩ | .fin => ⟨#[]⟩
  | .name s => s | .var s => s | .int s => s
def numOf : Sg → Int
  | .int s => valTo s s.size
  | _ => 0

structure TermM where
  isVar : Bool
  num : Int
structure AtomM where
  rel : Nat
  terms : List TermM
structure ClauseM where
  head : AtomM
  lits : List (AtomM × Bool)
  line : Nat
structure Mean where
  doms : List (ByteArray × Int)
  rels : List (ByteArray × List Nat)
  clauses : List ClauseM

/-- A fault: its code, its line. -/
abbrev Flt := Nat × Nat
abbrev Scope := List (ByteArray × Nat)

def placeIn {A : Type} (l : List (ByteArray × A)) (s : ByteArray) : Option Nat := l.findIdx? (fun p => decide (p.1 = s))
def Mean.dom (m : Mean) (s : ByteArray) : Option Nat := placeIn m.doms s
def Mean.rel (m : Mean) (s : ByteArray) : Option Nat := placeIn m.rels s
def Mean.taken (m : Mean) (s : ByteArray) : Bool := (m.dom s).isSome || (m.rel s).isSome
def Mean.size (m : Mean) (d : Nat) : Int := (m.doms[d]?.map (·.2)).getD 0
def Mean.cols (m : Mean) (r : Nat) : List Nat := (m.rels[r]?.map (·.2)).getD []

def addDom (m : Mean) (n i : Tn) : Except Flt Mean :=
  if m.doms.length = 4 then .error (6, n.line)
  else if m.taken (txt n.g) then .error (7, n.line)
  else if numOf i.g < 1 ∨ 8 < numOf i.g then .error (9, i.line)
  else .ok { m with doms := m.doms ++ [(txt n.g, numOf i.g)] }

def colsS (m : Mean) : Nat → List Tn → Except Flt (List Nat)
  | _, [] => .ok []
  | k, c :: cs =>
    if k = 3 then .error (6, c.line)
    else match m.dom (txt c.g) with
      | none => .error (8, c.line)
      | some d => match colsS m (k + 1) cs with
        | .error f => .error f
        | .ok ds => .ok (d :: ds)

def addRel (m : Mean) (n : Tn) (cs : List Tn) : Except Flt Mean :=
  if m.rels.length = 6 then .error (6, n.line)
  else if m.taken (txt n.g) then .error (7, n.line)
  else match colsS m 0 cs with
    | .error f => .error f
    | .ok ds => .ok { m with rels := m.rels ++ [(txt n.g, ds)] }

def termS (m : Mean) (sc : Scope) (t : Tn) (d : Nat) : Except Flt (TermM × Scope) :=
  if isVarG t.g then
    match placeIn sc (txt t.g) with
    | some p => if (sc[p]?.map (·.2)).getD 0 ≠ d then .error (11, t.line) else .ok (⟨true, p⟩, sc)
    | none => if sc.length = 4 then .error (6, t.line) else .ok (⟨true, sc.length⟩, sc ++ [(txt t.g, d)])
  else if m.size d ≤ numOf t.g then .error (9, t.line) else .ok (⟨false, numOf t.g⟩, sc)

def termsS (m : Mean) (sc : Scope) : List Tn → List Nat → Except Flt (List TermM × Scope)
  | t :: ts, d :: ds => match termS m sc t d with
    | .error f => .error f
    | .ok (x, sc') => match termsS m sc' ts ds with
      | .error f => .error f
      | .ok (xs, sc'') => .ok (x :: xs, sc'')
  | _, _ => .ok ([], sc)

def atomS (m : Mean) (sc : Scope) (a : AtomI) : Except Flt (AtomM × Scope) :=
  match m.rel (txt a.name.g) with
  | none => .error (8, a.name.line)
  | some r => if a.terms.length ≠ (m.cols r).length then .error (10, a.name.line)
    else match termsS m sc a.terms (m.cols r) with
      | .error f => .error f
      | .ok (xs, sc') => .ok (⟨r, xs⟩, sc')

def litsS (m : Mean) (sc : Scope) : Nat → List LitI → Except Flt (List (AtomM × Bool) × Scope)
  | _, [] => .ok ([], sc)
  | k, l :: ls =>
    if k = 4 then .error (6, l.atom.name.line)
    else match atomS m sc l.atom with
      | .error f => .error f
      | .ok (x, sc') => match litsS m sc' (k + 1) ls with
        | .error f => .error f
        | .ok (xs, sc'') => .ok ((x, l.no) :: xs, sc'')

def addClause (m : Mean) (h : AtomI) (ls : List LitI) : Except Flt Mean :=
  if m.clauses.length = 52 then .error (6, h.name.line)
  else match atomS m [] h with
    | .error f => .error f
    | .ok (x, sc) => match litsS m sc 0 ls with
      | .error f => .error f
      | .ok (xs, _) => .ok { m with clauses := m.clauses ++ [⟨x, xs, h.name.line⟩] }

def addItem (m : Mean) : ItemI → Except Flt Mean
  | .dom n i => addDom m n i
  | .rel n cs => addRel m n cs
  | .clause h ls => addClause m h ls

def senseS (m : Mean) : List ItemI → Except Flt Mean
  | [] => .ok m
  | i :: is => match addItem m i with
    | .error f => .error f
    | .ok m' => senseS m' is

/-! The same as the document's answer goes: the first fault is kept, the reading goes on to the item's end. -/

abbrev FltO := Option Flt
def wrong (f : FltO) (b : Bool) (c l : Nat) : FltO := if b && f.isNone then some (c, l) else f
theorem wrong_some (f : Flt) (b : Bool) (c l : Nat) : wrong (some f) b c l = some f := by simp [wrong]
theorem wrong_false (f : FltO) (c l : Nat) : wrong f false c l = f := by simp [wrong]
theorem wrong_true (c l : Nat) : wrong none true c l = some (c, l) := by simp [wrong]

def termR (m : Mean) (f : FltO) (sc : Scope) (t : Tn) (d : Nat) : FltO × Scope :=
  if isIntG t.g then (wrong f (decide (m.size d ≤ numOf t.g)) 9 t.line, sc)
  else match placeIn sc (txt t.g) with
    | none => (wrong f (decide (sc.length = 4)) 6 t.line, sc ++ [(txt t.g, d)])
    | some p => (wrong f (decide ((sc[p]?.map (·.2)).getD 0 ≠ d)) 11 t.line, sc)

def termsR (m : Mean) (f : FltO) (sc : Scope) : List Tn → List Nat → FltO × Scope
  | t :: ts, d :: ds => termsR m (termR m f sc t d).1 (termR m f sc t d).2 ts ds
  | _, _ => (f, sc)

def atomR (m : Mean) (f : FltO) (sc : Scope) (a : AtomI) : FltO × Scope :=
  match m.rel (txt a.name.g) with
  | none => (wrong f true 8 a.name.line, sc)
  | some r => termsR m (wrong f (decide (a.terms.length ≠ (m.cols r).length)) 10 a.name.line) sc a.terms (m.cols r)

def litsR (m : Mean) (f : FltO) (sc : Scope) : Nat → List LitI → FltO × Scope
  | _, [] => (f, sc)
  | k, l :: ls => litsR m (atomR m (wrong f (decide (k = 4)) 6 l.atom.name.line) sc l.atom).1 (atomR m (wrong f (decide (k = 4)) 6 l.atom.name.line) sc l.atom).2 (k + 1) ls

theorem termR_some (m : Mean) (f : Flt) (sc : Scope) (t : Tn) (d : Nat) : (termR m (some f) sc t d).1 = some f := by
  unfold termR
  split
  · exact wrong_some ..
  · split <;> exact wrong_some ..
theorem termsR_some (m : Mean) (f : Flt) (sc : Scope) (ts : List Tn) (ds : List Nat) : (termsR m (some f) sc ts ds).1 = some f := by
  induction ts generalizing sc ds with
  | nil => rfl
  | cons t ts ih => cases ds with
    | nil => rfl
    | cons d ds => simp only [termsR]; rw [termR_some]; exact ih ..
theorem atomR_some (m : Mean) (f : Flt) (sc : Scope) (a : AtomI) : (atomR m (some f) sc a).1 = some f := by
  unfold atomR
  split
  · simp only [wrong_some]
  · rw [wrong_some]; exact termsR_some ..
theorem litsR_some (m : Mean) (f : Flt) (sc : Scope) (k : Nat) (ls : List LitI) : (litsR m (some f) sc k ls).1 = some f := by
  induction ls generalizing sc k with
  | nil => rfl
  | cons l ls ih => simp only [litsR]; rw [wrong_some, atomR_some]; exact ih ..

/-- Both tell the same. -/
def Same {A : Type} (x : Except Flt (A × Scope)) (y : FltO × Scope) : Prop := match x with
  | .error f => y.1 = some f
  | .ok (_, sc) => y = (none, sc)

theorem term_same (m : Mean) (sc : Scope) (t : Tn) (d : Nat) (ht : isTermG t.g = true) : Same (termS m sc t d) (termR m none sc t d) := by
  unfold termS termR
  by_cases hv : isVarG t.g = true
  · have hi : isIntG t.g = false := by cases hg : t.g <;> rw [hg] at hv <;> first | rfl | cases hv
    have hi' : ¬ isIntG t.g = true := by rw [hi]; decide
    rw [if_pos hv, if_neg hi']
    cases placeIn sc (txt t.g) with
    | none =>
      simp only
      by_cases h4 : sc.length = 4
      · simp [h4, wrong, Same]
      · simp [h4, wrong, Same]
    | some p =>
      simp only
      by_cases h4 : (sc[p]?.map (·.2)).getD 0 = d
      · simp [h4, wrong, Same]
      · simp [h4, wrong, Same]
  · have hi : isIntG t.g = true := by cases hg : t.g <;> rw [hg] at hv ht <;> first | rfl | exact absurd rfl hv | exact absurd ht (by simp [isTermG])
    rw [if_neg hv, if_pos hi]
    by_cases h4 : m.size d ≤ numOf t.g
    · simp [h4, wrong, Same]
    · simp [h4, wrong, Same]

theorem terms_same (m : Mean) (sc : Scope) (ts : List Tn) (ds : List Nat) (ht : ∀ t ∈ ts, isTermG t.g = true) : Same (termsS m sc ts ds) (termsR m none sc ts ds) := by
  induction ts generalizing sc ds with
  | nil => simp [termsS, termsR, Same]
  | cons t ts ih => cases ds with
    | nil => simp [termsS, termsR, Same]
    | cons d ds =>
      have h1 := term_same m sc t d (ht t (by simp))
      simp only [termsS, termsR]
      cases hx : termS m sc t d with
      | error f =>
        rw [hx] at h1
        simp only [Same] at h1 ⊢
        rw [h1]
        exact termsR_some ..
      | ok q =>
        obtain ⟨x, sc'⟩ := q
        rw [hx] at h1
        simp only [Same] at h1
        rw [h1]
        have h2 := ih sc' ds (fun t h => ht t (by simp [h]))
        dsimp only
        cases hy : termsS m sc' ts ds with
        | error f => rw [hy] at h2; exact h2
        | ok q2 => obtain ⟨xs, sc''⟩ := q2; rw [hy] at h2; exact h2

theorem atom_same (m : Mean) (sc : Scope) (a : AtomI) (ht : ∀ t ∈ a.terms, isTermG t.g = true) : Same (atomS m sc a) (atomR m none sc a) := by
  unfold atomS atomR
  cases m.rel (txt a.name.g) with
  | none => simp [wrong, Same]
  | some r =>
    simp only
    by_cases h4 : a.terms.length = (m.cols r).length
    · rw [if_neg (by simp [h4])]
      have hw : wrong none (decide (a.terms.length ≠ (m.cols r).length)) 10 a.name.line = none := by simp [wrong, h4]
      rw [hw]
      have h2 := terms_same m sc a.terms (m.cols r) ht
      cases hy : termsS m sc a.terms (m.cols r) with
      | error f => rw [hy] at h2; exact h2
      | ok q2 => obtain ⟨xs, sc''⟩ := q2; rw [hy] at h2; exact h2
    · rw [if_pos h4]
      have hw : wrong none (decide (a.terms.length ≠ (m.cols r).length)) 10 a.name.line = some (10, a.name.line) := by simp [wrong, h4]
      rw [hw]
      exact termsR_some ..

theorem lits_same (m : Mean) (sc : Scope) (k : Nat) (ls : List LitI) (ht : ∀ l ∈ ls, ∀ t ∈ l.atom.terms, isTermG t.g = true) : Same (litsS m sc k ls) (litsR m none sc k ls) := by
  induction ls generalizing sc k with
  | nil => simp [litsS, litsR, Same]
  | cons l ls ih =>
    simp only [litsS, litsR]
    by_cases h4 : k = 4
    · rw [if_pos h4]
      have hw : wrong none (decide (k = 4)) 6 l.atom.name.line = some (6, l.atom.name.line) := by simp [wrong, h4]
      rw [hw, atomR_some]
      exact litsR_some ..
    · rw [if_neg h4]
      have hw : wrong none (decide (k = 4)) 6 l.atom.name.line = none := by simp [wrong, h4]
      rw [hw]
      have h1 := atom_same m sc l.atom (ht l (by simp))
      cases hx : atomS m sc l.atom with
      | error f =>
        rw [hx] at h1
        simp only [Same] at h1 ⊢
        rw [h1]
        exact litsR_some ..
      | ok q =>
        obtain ⟨x, sc'⟩ := q
        rw [hx] at h1
        simp only [Same] at h1
        rw [h1]
        have h2 := ih sc' (k + 1) (fun t h => ht t (by simp [h]))
        dsimp only
        cases hy : litsS m sc' (k + 1) ls with
        | error f => rw [hy] at h2; exact h2
        | ok q2 => obtain ⟨xs, sc''⟩ := q2; rw [hy] at h2; exact h2

end Go.Proofs.YtgjomknpjigkhaaGreatDoor

namespace Go.Proofs.YtgjomknpjigkhaaGreatDoor

/-- Names, each once. -/
def Once {A : Type} (l : List (ByteArray × A)) : Prop := ∀ (i j : Nat) (a b : ByteArray × A), l[i]? = some a → l[j]? = some b → a.1 = b.1 → i = j

theorem placeIn_some {A : Type} {l : List (ByteArray × A)} {s : ByteArray} {p : Nat} (h : placeIn l s = some p) : ∃ a, l[p]? = some (s, a) := by
  unfold placeIn at h
  obtain ⟨hp, he, _⟩ := List.findIdx?_eq_some_iff_getElem.1 h
  have : l[p].1 = s := by simpa using he
  exact ⟨l[p].2, by rw [List.getElem?_eq_getElem hp, ← this]⟩
theorem placeIn_none {A : Type} {l : List (ByteArray × A)} {s : ByteArray} (h : placeIn l s = none) : ∀ a ∈ l, a.1 ≠ s := by
  unfold placeIn at h
  intro a ha e
  have := List.findIdx?_eq_none_iff.1 h a ha
  simp [e] at this
theorem Once.push {A : Type} {l : List (ByteArray × A)} (h : Once l) {s : ByteArray} (hs : placeIn l s = none) (a : A) : Once (l ++ [(s, a)]) := by
  have hn := placeIn_none hs
  intro i j x y hi hj e
  rw [List.getElem?_append] at hi hj
  split at hi
  · split at hj
    · exact h i j x y hi hj e
    · exfalso
      have hy : y = (s, a) := by
        cases hk : j - l.length with
        | zero => rw [hk] at hj; simpa using hj.symm
        | succ k => rw [hk] at hj; simp at hj
      subst hy
      exact hn x (List.mem_of_getElem? hi) e
  · split at hj
    · exfalso
      have hy : x = (s, a) := by
        cases hk : i - l.length with
        | zero => rw [hk] at hi; simpa using hi.symm
        | succ k => rw [hk] at hi; simp at hi
      subst hy
      exact hn y (List.mem_of_getElem? hj) e.symm
    · have h1 : i - l.length = 0 := by
        cases hk : i - l.length with
        | zero => rfl
        | succ k => rw [hk] at hi; simp at hi
      have h2 : j - l.length = 0 := by
        cases hk : j - l.length with
        | zero => rfl
        | succ k => rw [hk] at hj; simp at hj
      omega

/-- A token's place among the VARs. -/
def MatchT (sc : Scope) (t : Tn) (x : TermM) : Prop := x.isVar = isVarG t.g ∧ (x.isVar = true → ∃ (p : Nat) (d : Nat), x.num = (p : Int) ∧ sc[p]? = some (txt t.g, d))
def MatchTs (sc : Scope) : List Tn → List TermM → Prop
  | [], [] => True
  | t :: ts, x :: xs => MatchT sc t x ∧ MatchTs sc ts xs
  | _, _ => False

/-- A scope goes on. -/
def GrowsS (a b : Scope) : Prop := ∃ l, b = a ++ l
theorem GrowsS.refl (a : Scope) : GrowsS a a := ⟨[], by simp⟩
theorem GrowsS.trans {a b c : Scope} (h : GrowsS a b) (k : GrowsS b c) : GrowsS a c := by
  obtain ⟨l, rfl⟩ := h
  obtain ⟨m, rfl⟩ := k
  exact ⟨l ++ m, by simp⟩
theorem GrowsS.at {a b : Scope} (h : GrowsS a b) {p : Nat} {x : ByteArray × Nat} (hp : a[p]? = some x) : b[p]? = some x := by
  obtain ⟨l, rfl⟩ := h
  have hl : p < a.length := by
    rcases Nat.lt_or_ge p a.length with h | h
    · exact h
    · rw [List.getElem?_eq_none h] at hp; cases hp
  rw [List.getElem?_append_left hl]
  exact hp
theorem MatchT.grows {a b : Scope} {t : Tn} {x : TermM} (h : MatchT a t x) (g : GrowsS a b) : MatchT b t x := ⟨h.1, fun hv => by
  obtain ⟨p, d, h1, h2⟩ := h.2 hv
  exact ⟨p, d, h1, g.at h2⟩⟩
theorem MatchTs.grows {a b : Scope} {ts : List Tn} {xs : List TermM} (h : MatchTs a ts xs) (g : GrowsS a b) : MatchTs b ts xs := by
  induction ts generalizing xs with
  | nil => cases xs with
    | nil => trivial
    | cons x xs => exact h.elim
  | cons t ts ih => cases xs with
    | nil => exact h.elim
    | cons x xs => exact ⟨h.1.grows g, ih h.2⟩

theorem termS_match {m : Mean} {sc sc' : Scope} {t : Tn} {d : Nat} {x : TermM} (ho : Once sc) (h4 : sc.length ≤ 4) (h : termS m sc t d = .ok (x, sc')) : MatchT sc' t x ∧ GrowsS sc sc' ∧ Once sc' ∧ sc'.length ≤ 4 := by
  unfold termS at h
  split at h
  · rename_i hv
    split at h
    · rename_i p hp
      split at h
      · cases h
      · cases h
        obtain ⟨a, ha⟩ := placeIn_some hp
        exact ⟨⟨hv.symm, fun _ => ⟨p, a, rfl, ha⟩⟩, GrowsS.refl _, ho, h4⟩
    · rename_i hp
      split at h
      · cases h
      · rename_i h44
        cases h
        refine ⟨⟨hv.symm, fun _ => ⟨sc.length, d, rfl, ?_⟩⟩, ⟨_, rfl⟩, ho.push hp d, ?_⟩
        · rw [List.getElem?_append_right (Nat.le_refl _)]; simp
        · rw [List.length_append, List.length_singleton]; omega
  · rename_i hv
    split at h
    · cases h
    · cases h
      exact ⟨⟨by simpa using hv, fun hc => by cases hc⟩, GrowsS.refl _, ho, h4⟩

theorem termsS_match {m : Mean} {sc sc' : Scope} {ts : List Tn} {ds : List Nat} {xs : List TermM} (hl : ts.length = ds.length) (ho : Once sc) (h4 : sc.length ≤ 4) (h : termsS m sc ts ds = .ok (xs, sc')) : MatchTs sc' ts xs ∧ GrowsS sc sc' ∧ Once sc' ∧ sc'.length ≤ 4 := by
  induction ts generalizing sc sc' ds xs with
  | nil => simp only [termsS] at h; cases h; exact ⟨trivial, GrowsS.refl _, ho, h4⟩
  | cons t ts ih => cases ds with
    | nil => cases hl
    | cons d ds =>
      simp only [termsS] at h
      split at h
      · cases h
      · rename_i x sc1 h1
        obtain ⟨m1, g1, o1, l1⟩ := termS_match ho h4 h1
        split at h
        · cases h
        · rename_i xs' sc2 h2
          cases h
          obtain ⟨m2, g2, o2, l2⟩ := ih (by simpa using hl) o1 l1 h2
          exact ⟨⟨m1.grows g2, m2⟩, g1.trans g2, o2, l2⟩

theorem atomS_match {m : Mean} {sc sc' : Scope} {a : AtomI} {x : AtomM} (ho : Once sc) (h4 : sc.length ≤ 4) (h : atomS m sc a = .ok (x, sc')) : MatchTs sc' a.terms x.terms ∧ GrowsS sc sc' ∧ Once sc' ∧ sc'.length ≤ 4 := by
  unfold atomS at h
  split at h
  · cases h
  · split at h
    · cases h
    · rename_i hl
      split at h
      · cases h
      · rename_i h1
        cases h
        exact termsS_match (by simpa using hl) ho h4 h1

def MatchLs (sc : Scope) : List LitI → List (AtomM × Bool) → Prop
  | [], [] => True
  | l :: ls, x :: xs => MatchTs sc l.atom.terms x.1.terms ∧ x.2 = l.no ∧ MatchLs sc ls xs
  | _, _ => False
theorem MatchLs.grows {a b : Scope} {ls : List LitI} {xs : List (AtomM × Bool)} (h : MatchLs a ls xs) (g : GrowsS a b) : MatchLs b ls xs := by
  induction ls generalizing xs with
  | nil => cases xs with
    | nil => trivial
    | cons x xs => exact h.elim
  | cons t ts ih => cases xs with
    | nil => exact h.elim
    | cons x xs => exact ⟨h.1.grows g, h.2.1, ih h.2.2⟩

theorem litsS_match {m : Mean} {sc sc' : Scope} {k : Nat} {ls : List LitI} {xs : List (AtomM × Bool)} (ho : Once sc) (h4 : sc.length ≤ 4) (h : litsS m sc k ls = .ok (xs, sc')) : MatchLs sc' ls xs ∧ GrowsS sc sc' ∧ Once sc' ∧ sc'.length ≤ 4 := by
  induction ls generalizing sc sc' k xs with
  | nil => simp only [litsS] at h; cases h; exact ⟨trivial, GrowsS.refl _, ho, h4⟩
  | cons l ls ih =>
    simp only [litsS] at h
    split at h
    · cases h
    · split at h
      · cases h
      · rename_i x sc1 h1
        obtain ⟨m1, g1, o1, l1⟩ := atomS_match ho h4 h1
        split at h
        · cases h
        · rename_i xs' sc2 h2
          cases h
          obtain ⟨m2, g2, o2, l2⟩ := ih o1 l1 h2
          exact ⟨⟨m1.grows g2, rfl, m2⟩, g1.trans g2, o2, l2⟩

/-- A clause, and the tokens that it was made of. -/
def MatchC (c : AtomI × List LitI) (x : ClauseM) : Prop := ∃ sc, Once sc ∧ sc.length ≤ 4 ∧ MatchTs sc c.1.terms x.head.terms ∧ MatchLs sc c.2 x.lits ∧ x.line = c.1.name.line
def MatchCs : List (AtomI × List LitI) → List ClauseM → Prop
  | [], [] => True
  | c :: cs, x :: xs => MatchC c x ∧ MatchCs cs xs
  | _, _ => False
theorem MatchCs.append {a b : List (AtomI × List LitI)} {x y : List ClauseM} (h : MatchCs a x) (k : MatchCs b y) : MatchCs (a ++ b) (x ++ y) := by
  induction a generalizing x with
  | nil => cases x with
    | nil => exact k
    | cons _ _ => exact h.elim
  | cons c a ih => cases x with
    | nil => exact h.elim
    | cons z x => exact ⟨h.1, ih h.2⟩

def clausesI : List ItemI → List (AtomI × List LitI)
  | [] => []
  | .clause h ls :: is => (h, ls) :: clausesI is
  | _ :: is => clausesI is
def clauseI : ItemI → List (AtomI × List LitI)
  | .clause h ls => [(h, ls)]
  | _ => []

theorem addClause_match {m m' : Mean} {a : AtomI} {ls : List LitI} (h : addClause m a ls = .ok m') : ∃ x, m'.clauses = m.clauses ++ [x] ∧ MatchC (a, ls) x ∧ m'.doms = m.doms ∧ m'.rels = m.rels := by
  unfold addClause at h
  split at h
  · cases h
  · split at h
    · cases h
    · rename_i x sc h1
      obtain ⟨m1, g1, o1, l1⟩ := atomS_match (sc := []) (by intro i j a b h; simp at h) (by simp) h1
      split at h
      · cases h
      · rename_i xs sc2 h2
        obtain ⟨m2, g2, o2, l2⟩ := litsS_match o1 l1 h2
        cases h
        exact ⟨_, rfl, ⟨sc2, o2, l2, m1.grows g2, m2, rfl⟩, rfl, rfl⟩

theorem addItem_match {m m' : Mean} {i : ItemI} {cs : List (AtomI × List LitI)} (hm : MatchCs cs m.clauses) (h : addItem m i = .ok m') : MatchCs (cs ++ clauseI i) m'.clauses := by
  cases i with
  | dom n z =>
    simp only [addItem, addDom] at h
    split at h
    · cases h
    · split at h
      · cases h
      · split at h
        · cases h
        · cases h; simpa [clauseI] using hm
  | rel n z =>
    simp only [addItem, addRel] at h
    split at h
    · cases h
    · split at h
      · cases h
      · split at h
        · cases h
        · cases h; simpa [clauseI] using hm
  | clause a ls =>
    obtain ⟨x, h1, h2, _⟩ := addClause_match h
    rw [h1]
    exact hm.append ⟨h2, trivial⟩

theorem senseS_match {m m' : Mean} {is : List ItemI} {cs : List (AtomI × List LitI)} (hm : MatchCs cs m.clauses) (h : senseS m is = .ok m') : MatchCs (cs ++ clausesI is) m'.clauses := by
  induction is generalizing m cs with
  | nil => simp only [senseS] at h; cases h; simpa [clausesI] using hm
  | cons i is ih =>
    simp only [senseS] at h
    split at h
    · cases h
    · rename_i m1 h1
      have := ih (addItem_match hm h1) h
      rw [List.append_assoc] at this
      cases i <;> simpa [clausesI, clauseI] using this

/-! The VARs that are asked and bound. -/
def varsM (xs : List TermM) : List Int := (xs.filter (·.isVar)).map (·.num)
def askedM (c : ClauseM) : List Int := varsM c.head.terms ++ (c.lits.filter (·.2)).flatMap fun l => varsM l.1.terms
def boundM (c : ClauseM) : List Int := (c.lits.filter (fun l => !l.2)).flatMap fun l => varsM l.1.terms
def unsafeM (c : ClauseM) : Bool := (askedM c).any fun n => !decide (n ∈ boundM c)

def varsT (ts : List Tn) : List ByteArray := (ts.filter (fun t => isVarG t.g)).map (fun t => txt t.g)
def askedR (c : AtomI × List LitI) : List ByteArray := varsT c.1.terms ++ (c.2.filter (·.no)).flatMap fun l => varsT l.atom.terms
def boundR (c : AtomI × List LitI) : List ByteArray := (c.2.filter (fun l => !l.no)).flatMap fun l => varsT l.atom.terms
def hasB (l : List ByteArray) (s : ByteArray) : Bool := l.any fun b => decide (b = s)
theorem hasB_iff {l : List ByteArray} {s : ByteArray} : hasB l s = true ↔ s ∈ l := by simp [hasB]
def unsafeR (c : AtomI × List LitI) : Bool := (askedR c).any fun n => !hasB (boundR c) n

/-- Numbers of names. -/
def Numb (sc : Scope) : List ByteArray → List Int → Prop
  | [], [] => True
  | s :: ss, n :: ns => (∃ (p d : Nat), n = (p : Int) ∧ sc[p]? = some (s, d)) ∧ Numb sc ss ns
  | _, _ => False
theorem Numb.append {sc : Scope} {a b : List ByteArray} {x y : List Int} (h : Numb sc a x) (k : Numb sc b y) : Numb sc (a ++ b) (x ++ y) := by
  induction a generalizing x with
  | nil => cases x with
    | nil => exact k
    | cons _ _ => exact h.elim
  | cons c a ih => cases x with
    | nil => exact h.elim
    | cons z x => exact ⟨h.1, ih h.2⟩
theorem vars_numb {sc : Scope} {ts : List Tn} {xs : List TermM} (h : MatchTs sc ts xs) : Numb sc (varsT ts) (varsM xs) := by
  induction ts generalizing xs with
  | nil => cases xs with
    | nil => trivial
    | cons _ _ => exact h.elim
  | cons t ts ih => cases xs with
    | nil => exact h.elim
    | cons x xs =>
      obtain ⟨⟨h1, h2⟩, h3⟩ := h
      have IH := ih h3
      cases hv : isVarG t.g with
      | true =>
        rw [hv] at h1
        have e1 : varsT (t :: ts) = txt t.g :: varsT ts := by simp [varsT, hv]
        have e2 : varsM (x :: xs) = x.num :: varsM xs := by simp [varsM, h1]
        rw [e1, e2]
        obtain ⟨p, d, q1, q2⟩ := h2 h1
        exact ⟨⟨p, d, q1, q2⟩, IH⟩
      | false =>
        rw [hv] at h1
        have e1 : varsT (t :: ts) = varsT ts := by simp [varsT, hv]
        have e2 : varsM (x :: xs) = varsM xs := by simp [varsM, h1]
        rw [e1, e2]
        exact IH
theorem lits_numb {sc : Scope} {ls : List LitI} {xs : List (AtomM × Bool)} (h : MatchLs sc ls xs) (b : Bool) :
    Numb sc ((ls.filter (fun l => l.no == b)).flatMap fun l => varsT l.atom.terms) ((xs.filter (fun l => l.2 == b)).flatMap fun l => varsM l.1.terms) := by
  induction ls generalizing xs with
  | nil => cases xs with
    | nil => trivial
    | cons _ _ => exact h.elim
  | cons l ls ih => cases xs with
    | nil => exact h.elim
    | cons x xs =>
      obtain ⟨h1, h2, h3⟩ := h
      have IH := ih h3
      by_cases hb : l.no = b
      · have e1 : (x.2 == b) = true := by rw [h2, hb]; simp
        have e2 : (l.no == b) = true := by rw [hb]; simp
        rw [List.filter_cons_of_pos (p := fun l : LitI => l.no == b) e2, List.filter_cons_of_pos (p := fun l : AtomM × Bool => l.2 == b) e1, List.flatMap_cons, List.flatMap_cons]
        exact (vars_numb h1).append IH
      · have e1 : ¬ (x.2 == b) = true := by rw [h2]; simpa using hb
        have e2 : ¬ (l.no == b) = true := by simpa using hb
        rw [List.filter_cons_of_neg (p := fun l : LitI => l.no == b) e2, List.filter_cons_of_neg (p := fun l : AtomM × Bool => l.2 == b) e1]
        exact IH
theorem numb_mem {sc : Scope} (ho : Once sc) {ss : List ByteArray} {ns : List Int} (h : Numb sc ss ns) {s : ByteArray} {p d : Nat} (hp : sc[p]? = some (s, d)) : (p : Int) ∈ ns ↔ s ∈ ss := by
  induction ss generalizing ns with
  | nil => cases ns with
    | nil => simp
    | cons _ _ => exact h.elim
  | cons a ss ih => cases ns with
    | nil => exact h.elim
    | cons n ns =>
      obtain ⟨⟨q, e, rfl, hq⟩, h2⟩ := h
      rw [List.mem_cons, List.mem_cons, ih h2]
      have : ((p : Int) = (q : Int)) ↔ (s = a) := by
        constructor
        · intro e'
          have e2 : p = q := by omega
          subst e2
          rw [hp] at hq
          cases hq
          rfl
        · intro e'
          rw [ho p q _ _ hp hq e']
      rw [this]
theorem numb_any {sc : Scope} (ho : Once sc) {ss bs : List ByteArray} {ns ms : List Int} (h : Numb sc ss ns) (k : Numb sc bs ms) : (ns.any fun n => !decide (n ∈ ms)) = (ss.any fun s => !hasB bs s) := by
  induction ss generalizing ns with
  | nil => cases ns with
    | nil => rfl
    | cons _ _ => exact h.elim
  | cons a ss ih => cases ns with
    | nil => exact h.elim
    | cons n ns =>
      obtain ⟨⟨q, e, rfl, hq⟩, h2⟩ := h
      rw [List.any_cons, List.any_cons, ih h2]
      have := numb_mem ho k hq
      have e2 : decide ((q : Int) ∈ ms) = hasB bs a := by rw [Bool.eq_iff_iff, hasB_iff, decide_eq_true_iff]; exact this
      rw [e2]

theorem unsafe_same {c : AtomI × List LitI} {x : ClauseM} (h : MatchC c x) : unsafeM x = unsafeR c := by
  obtain ⟨sc, ho, _, h1, h2, _⟩ := h
  have ht := lits_numb h2 true
  have hf := lits_numb h2 false
  simp only [beq_true, beq_false] at ht hf
  exact numb_any ho ((vars_numb h1).append ht) hf

end Go.Proofs.YtgjomknpjigkhaaGreatDoor
