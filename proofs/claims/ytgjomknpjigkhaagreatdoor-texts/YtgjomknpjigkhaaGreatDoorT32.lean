/- Texts: F4. -/
import Derived.Test.YtgjomknpjigkhaaGreatDoorT05
import Derived.Test.YtgjomknpjigkhaaGreatDoorT07
import Derived.BigRegion
namespace Go.Proofs.YtgjomknpjigkhaaGreatDoor
open Go.RowKit

theorem info245 : (Tryz.prog.info? 245).map (fun i => (i.zero, i.size, i.bytes)) = some (some (.agg #[.int .u8 0, .string ⟨#[]⟩, .int .i64 0, .int .i64 0]), 4, 40) := by kernel_rfl

def rcell (t : Tn) : List Value := [.int .u8 (rkind t.g), .string (txt t.g), .int .i64 (numOf t.g), .int .i64 t.line]
def rcells (ts : List Tn) : List Value := ts.flatMap rcell
theorem rcells_append (a b : List Tn) : rcells (a ++ b) = rcells a ++ rcells b := by simp [rcells]

def aheadT (ts : List Tn) : (List Tn × Nat) ⊕ Nat → (List Tn × Nat) ⊕ Nat
  | .inl (us, m) => .inl (ts ++ us, m)
  | .inr m => .inr m

def TokTo (w : World) (r : (List Tn × Nat) ⊕ Nat) (e : Ending) (w' : World) : Prop := match r with
  | .inl (ts, m) => ∃ v, e = .returned (.tuple #[v, .int .i64 0]) ∧ w'.ownsRow w.heap.size 245 4 v (ts.length + 1) (rcells (withEnd ts m))
  | .inr l => e = .returned (.tuple #[.slice none 0 0, .int .i64 l])

theorem rt_cell {W : World} {a b c d : Value} : ∀ (j : Nat) (x : Value), [a, b, c, d][j]? = some x → (W.alloc (.cells #[a, b, c, d] 245)).cell? ((⟨W.heap.size, 0, none⟩ : Addr).add j) = some x := by
  intro j x hx
  rw [Addr.add_lit, Nat.zero_add, (CellsAt.new W #[a, b, c, d] 245).cell]
  match j with
  | 0 => simpa using hx
  | 1 => simpa using hx
  | 2 => simpa using hx
  | 3 => simpa using hx
  | j + 4 => simp at hx

theorem word_rcell (x : ByteArray) (l : Nat) : rcells [⟨wordG x, l⟩] = if (x.toList == [100, 111, 109]) = true ∨ (x.toList == [114, 101, 108]) = true then [.int .u8 119, .string x, .int .i64 0, .int .i64 l] else [.int .u8 110, .string x, .int .i64 0, .int .i64 l] := by
  have h1 : rcells [⟨wordG x, l⟩] = [.int .u8 (rkind (wordG x)), .string (txt (wordG x)), .int .i64 (numOf (wordG x)), .int .i64 l] := rfl
  rw [h1, (word_txt x).1]
  unfold wordG
  split
  · rename_i h; rw [if_pos (.inl h)]; rfl
  · rename_i h
    split
    · rename_i h'; rw [if_pos (.inr h')]; rfl
    · rename_i h'; rw [if_neg (fun q => q.elim h h')]; rfl

theorem wrapE {x : Int} (h1 : -1000000000000 ≤ x) (h2 : x ≤ 1000000000000) : IntKind.i64.wrap x = x := by
  simp only [IntKind.wrap, IntKind.bits, IntKind.signed]
  simp
  omega

theorem aheadT_step {ts : List Tn} {g : Sg} {l k n i : Nat} {s : ByteArray} {R : (List Tn × Nat) ⊕ Nat} (h : aheadT ts (match scanT k (tailS s (i + n)) l with | .inl (us, m) => .inl (⟨g, l⟩ :: us, m) | .inr m => .inr m) = R) : aheadT (ts ++ [⟨g, l⟩]) (scanT k (tailS s (i + n)) l) = R := by
  rw [← h]
  cases scanT k (tailS s (i + n)) l with
  | inl q => simp [aheadT]
  | inr m => rfl

set_option maxRecDepth 100000 in
set_option maxHeartbeats 400000000 in
theorem tokens_calls {w : World} (s : ByteArray) (hs : s.size ≤ 1000000) : Calls Tryz.prog 228 #[.string s] w fun e w' => TokTo w (scanT s.size s 1) e w' ∧ Keeps [] w w' := by
  obtain ⟨i0, hi0, hz0, hz1, hz2⟩ := info_parts info245
  have hL := hide (fun (w : World) (x : Int) => small_calls (w := w) x)
  have hD := hide (fun (w : World) (x : Int) => digit_calls (w := w) x)
  generalize hR : scanT s.size s 1 = R
  go_enter Tryz.func228, Tryz.ntmps228
  go_wp2_with fail
  go_loopw [4, 5, 6] (fun y z x wr => ∃ (k l i : Nat) (ts : List Tn), z = .int .i64 l ∧ x = .int .i64 i ∧ i ≤ s.size ∧ s.size - i ≤ k ∧ ts.length ≤ i ∧ l ≤ i + 1 ∧ wr.ownsRow w.heap.size 245 4 y ts.length (rcells ts) ∧ Keeps [] w wr ∧ aheadT ts (scanT k (tailS s i) l) = R) (fun _ _ x _ => s.size - (intOf x).toNat)
  case atStart => exact ⟨s.size, 1, 0, [], rfl, rfl, by omega, by omega, by simp, by omega, World.ownsRow_nil .., Keeps.refl _ _, by rw [← hR, rest_zero]; cases scanT s.size s 1 <;> rfl⟩
  case round =>
    obtain ⟨k, l, i, ts, rfl, rfl, hi, hk, htl, hll, own, kr, hres⟩ := hrel
    by_cases h0 : i < s.size
    · obtain ⟨k, rfl⟩ : ∃ k', k = k' + 1 := ⟨k - 1, by omega⟩
      have h0I : (i : Int) < s.size := by omega
      have hl := ltr_at h0
      clear hR
      by_cases c10 : ltr s i = 10
      · as_aux_lemma =>
        rw [scanT_eol h0 c10] at hres
        have e10 : (ltr s i == 10) = true := by rw [c10]; rfl
        have e32 : (ltr s i == 32) = false := by rw [c10]; rfl
        have e9 : (ltr s i == 9) = false := by rw [c10]; rfl
        have Hres := hide hres
        clear hres c10
        go_wp2_with fail
        go_roundw
        · exact ⟨k, l + 1, i + 1, ts, by simp, by simp, by omega, by omega, by omega, by omega, own, kr, Hres.out⟩
        · simp only [intOf]; omega
      · have e10 : (ltr s i == 10) = false := by rw [beq_eq_false_iff_ne]; exact c10
        by_cases c32 : ltr s i = 32 ∨ ltr s i = 9
        · as_aux_lemma =>
          rw [scanT_blank h0 c32] at hres
          have Hres := hide hres
          clear hres c10
          rcases c32 with c32 | c9
          · have e32 : (ltr s i == 32) = true := by rw [c32]; rfl
            clear c32
            go_wp2_with fail
            go_roundw
            · exact ⟨k, l, i + 1, ts, rfl, by simp, by omega, by omega, by omega, by omega, own, kr, Hres.out⟩
            · simp only [intOf]; omega
          · have e32 : (ltr s i == 32) = false := by rw [c9]; rfl
            have e9 : (ltr s i == 9) = true := by rw [c9]; rfl
            clear c9
            go_wp2_with fail
            go_roundw
            · exact ⟨k, l, i + 1, ts, rfl, by simp, by omega, by omega, by omega, by omega, own, kr, Hres.out⟩
            · simp only [intOf]; omega
        · have e32 : (ltr s i == 32) = false := by rw [beq_eq_false_iff_ne]; omega
          have e9 : (ltr s i == 9) = false := by rw [beq_eq_false_iff_ne]; omega
          by_cases c37 : ltr s i = 37
          · as_aux_lemma =>
            rw [scanT_rem h0 c37] at hres
            have e37 : (ltr s i == 37) = true := by rw [c37]; rfl
            have hp1 : i + 1 ≤ spanFrom notEol s i (s.size - i) := by
              rw [show s.size - i = (s.size - (i + 1)) + 1 by omega, spanFrom, if_pos (by rw [c37]; rfl)]
              exact (spanFrom_le _ _ _ _).1
            have hp2 := (spanFrom_le notEol s i (s.size - i)).2
            generalize hsp : spanFrom notEol s i (s.size - i) = n at hres hp1 hp2
            have Hres := hide hres
            clear hres c37 c32 c10
            go_wp2_with fail
            go_loopw [6] (fun x wr' => ∃ j : Nat, x = .int .i64 j ∧ i ≤ j ∧ j ≤ s.size ∧ spanFrom notEol s j (s.size - j) = n ∧ wr' = wr) (fun x _ => s.size - (intOf x).toNat)
            case atStart => exact ⟨i, rfl, by omega, by omega, hsp, rfl⟩
            case round =>
              obtain ⟨j, rfl, hj1, hj2, hj3, rfl⟩ := hrel
              by_cases hjs : j < s.size
              · have hjI : (j : Int) < s.size := by omega
                have hlj := ltr_at hjs
                rw [show s.size - j = (s.size - (j + 1)) + 1 by omega, spanFrom] at hj3
                by_cases d10 : ltr s j = 10
                · have f10 : (ltr s j != 10) = false := by rw [d10]; rfl
                  rw [if_neg (by rw [d10]; decide)] at hj3
                  subst hj3
                  clear d10
                  go_wp2_with fail
                  go_roundw
                  · exact ⟨k, l, j, ts, rfl, rfl, by omega, by omega, by omega, by omega, own, kr, Hres.out⟩
                  · simp only [intOf]; omega
                · have f10 : (ltr s j != 10) = true := by rw [bne_iff_ne]; exact d10
                  rw [if_pos (by unfold notEol; simp [d10])] at hj3
                  have Hj := hide hj3
                  clear d10 hj3
                  go_wp2_with fail
                  go_roundw
                  · exact ⟨j + 1, by simp, by omega, by omega, Hj.out, trivial⟩
                  · simp only [intOf]; omega
              · have hjI : ¬ (j : Int) < s.size := by omega
                have e : j = s.size := by omega
                have hj4 : n = j := by rw [e, Nat.sub_self, spanFrom] at hj3; omega
                subst hj4
                clear hj3 e
                go_wp2_with fail
                go_roundw
                · exact ⟨k, l, n, ts, rfl, rfl, by omega, by omega, by omega, by omega, own, kr, Hres.out⟩
                · simp only [intOf]; omega
          · have e37 : (ltr s i == 37) = false := by rw [beq_eq_false_iff_ne]; exact c37
            rw [scanT_cut h0 c10 (by omega) (by omega) c37] at hres
            clear c10 c32 c37
            go_wp2_with fail
            refine (hL.out _ _).mono ?_
            rintro e w1 ⟨rfl, rfl⟩
            go_wp2_with fail
            refine (hD.out _ _).mono ?_
            rintro e w1 ⟨rfl, rfl⟩
            cases hlow : isLow (ltr s i) with
            | true =>
              as_aux_lemma =>
              rw [cutG_low h0 hlow] at hres
              have hM := spanFrom_le isWord s (i + 1) (s.size - (i + 1))
              generalize hsp : spanFrom isWord s (i + 1) (s.size - (i + 1)) = M at hres hM
              have Hr0 := hide hres
              clear hres
              go_wp2_with fail
              go_loopw [9] (fun x wr' => ∃ n : Nat, x = .int .i64 n ∧ 1 ≤ n ∧ i + n ≤ s.size ∧ spanFrom isWord s (i + n) (s.size - (i + n)) = M ∧ wr' = wr.alloc (.cells #[.int .u8 0, .string ⟨#[]⟩, .int .i64 0, .int .i64 l] 245)) (fun x _ => s.size - (intOf x).toNat)
              case atStart => exact ⟨1, rfl, by omega, by omega, hsp, rfl⟩
              case round =>
                obtain ⟨n, rfl, hn1, hn2, hn3, rfl⟩ := hrel
                have hnI : (i : Int) + n ≤ s.size := by omega
                by_cases hjs : i + n < s.size
                · have hjI : (i : Int) + n < s.size := by omega
                  have hlj := ltr_at hjs
                  rw [show s.size - (i + n) = (s.size - (i + n + 1)) + 1 by omega, spanFrom] at hn3
                  have Hn3 := hide hn3
                  clear hn3
                  go_wp2_with fail
                  refine (hL.out _ _).mono ?_
                  rintro e w1 ⟨rfl, rfl⟩
                  go_wp2_with fail
                  refine (hD.out _ _).mono ?_
                  rintro e w1 ⟨rfl, rfl⟩
                  cases ha : isLow (ltr s (i + n)) with
                  | true =>
                    have hn4 : spanFrom isWord s (i + (n + 1)) (s.size - (i + (n + 1))) = M := by have := Hn3.out; rw [if_pos (by unfold isWord; rw [ha]; rfl)] at this; exact this
                    clear Hn3
                    have Hn4 := hide hn4
                    clear hn4
                    go_wp2_with fail
                    go_roundw
                    · exact ⟨n + 1, by simp, by omega, by omega, Hn4.out, trivial⟩
                    · simp only [intOf]; omega
                  | false =>
                    cases hb : isDig (ltr s (i + n)) with
                    | true =>
                      have hn4 : spanFrom isWord s (i + (n + 1)) (s.size - (i + (n + 1))) = M := by have := Hn3.out; rw [if_pos (by unfold isWord; rw [hb]; simp)] at this; exact this
                      clear Hn3
                      have Hn4 := hide hn4
                      clear hn4
                      go_wp2_with fail
                      go_roundw
                      · exact ⟨n + 1, by simp, by omega, by omega, Hn4.out, trivial⟩
                      · simp only [intOf]; omega
                    | false =>
                      have hn4 : i + n = M := by have := Hn3.out; rw [if_neg (by unfold isWord; rw [ha, hb]; decide)] at this; exact this
                      clear Hn3
                      have hres := Hr0.out
                      rw [← hn4, show i + n - i = n by omega] at hres
                      clear Hr0 hn4 hM hsp
                      as_aux_lemma =>
                      by_cases h6 : n ≤ 6
                      · have h6I : ¬ (6 : Int) < n := by omega
                        rw [if_pos h6] at hres
                        have Hres := hide hres
                        clear hres
                        have hw := word_rcell (s.extract i (i + n)) l
                        cases hd : ((s.extract i (i + n)).toList == [100, 111, 109]) with
                        | true =>
                          rw [if_pos (.inl hd)] at hw
                          have Hw := hide hw
                          clear hw
                          have hah := hide (aheadT_step (g := wordG (s.extract i (i + n))) (n := n) Hres.out)
                          clear Hres
                          obtain ⟨ay, cy, hy⟩ := ownE_len own
                          subst hy
                          have kA := Keeps.alloc [] wr (.cells #[.int .u8 119, .string (s.extract i (i + n)), .int .i64 0, .int .i64 l] 245)
                          have kB := kA.trans (Keeps.alloc [] (wr.alloc (.cells #[.int .u8 119, .string (s.extract i (i + n)), .int .i64 0, .int .i64 l] 245)) (.cells #[.int .u8 119, .string (s.extract i (i + n)), .int .i64 0, .int .i64 l] 245))
                          have ownB := ownsRow_kept own kB (by simp)
                          have hone := rt_cell (W := wr.alloc (.cells #[.int .u8 119, .string (s.extract i (i + n)), .int .i64 0, .int .i64 l] 245)) (a := .int .u8 119) (b := .string (s.extract i (i + n))) (c := .int .i64 0) (d := .int .i64 l)
                          have hszB : w.heap.size ≤ ((wr.alloc (.cells #[.int .u8 119, .string (s.extract i (i + n)), .int .i64 0, .int .i64 l] 245)).alloc (.cells #[.int .u8 119, .string (s.extract i (i + n)), .int .i64 0, .int .i64 l] 245)).heap.size := by rw [sizeE_alloc, sizeE_alloc]; have := kr.size; omega
                          rw [sizeE_alloc] at hone
                          go_wp2_with (at_builtin; refine wpList_append_own_at _ rfl _ _ 241 rfl w.heap.size 245 i0 (.agg #[.int .u8 0, .string ⟨#[]⟩, .int .i64 0, .int .i64 0]) 4 40 Tryz.underlying241 hi0 hz0 hz1 hz2 rfl (by decide) _ ts.length (rcells ts) rfl ownB ⟨wr.heap.size + 1, 0, none⟩ 1 1 [.int .u8 119, .string (s.extract i (i + n)), .int .i64 0, .int .i64 l] rfl (by simp) hone (by simp [Value.oneCell']) (by unfold maxLen; omega) (by omega) hszB ?_)
                          intro v' W2 own2 grow2 nil2 at2
                          have k2 := grownBy_keeps' grow2 (Value.slice ay ts.length cy).ownBlock.toList (fun r e => .inl (by simp [e]))
                          have kf : Keeps [] w W2 := (kr.trans kB).trans_new k2 fun j hj => .inr (ownE_base own j (by simpa using hj)).1
                          go_wp2_with fail
                          go_roundw
                          · exact ⟨k, l, i + n, ts ++ [⟨wordG (s.extract i (i + n)), l⟩], rfl, by simp, by omega, by omega, by rw [List.length_append, List.length_singleton]; omega, by omega, by rw [rcells_append, List.length_append]; (rw [Hw.out]; exact own2), kf, hah.out⟩
                          · simp only [intOf]; omega
                        | false =>
                          cases hr : ((s.extract i (i + n)).toList == [114, 101, 108]) with
                          | true =>
                            rw [if_pos (.inr hr)] at hw
                            have Hw := hide hw
                            clear hw
                            have hah := hide (aheadT_step (g := wordG (s.extract i (i + n))) (n := n) Hres.out)
                            clear Hres
                            obtain ⟨ay, cy, hy⟩ := ownE_len own
                            subst hy
                            have kA := Keeps.alloc [] wr (.cells #[.int .u8 119, .string (s.extract i (i + n)), .int .i64 0, .int .i64 l] 245)
                            have kB := kA.trans (Keeps.alloc [] (wr.alloc (.cells #[.int .u8 119, .string (s.extract i (i + n)), .int .i64 0, .int .i64 l] 245)) (.cells #[.int .u8 119, .string (s.extract i (i + n)), .int .i64 0, .int .i64 l] 245))
                            have ownB := ownsRow_kept own kB (by simp)
                            have hone := rt_cell (W := wr.alloc (.cells #[.int .u8 119, .string (s.extract i (i + n)), .int .i64 0, .int .i64 l] 245)) (a := .int .u8 119) (b := .string (s.extract i (i + n))) (c := .int .i64 0) (d := .int .i64 l)
                            have hszB : w.heap.size ≤ ((wr.alloc (.cells #[.int .u8 119, .string (s.extract i (i + n)), .int .i64 0, .int .i64 l] 245)).alloc (.cells #[.int .u8 119, .string (s.extract i (i + n)), .int .i64 0, .int .i64 l] 245)).heap.size := by rw [sizeE_alloc, sizeE_alloc]; have := kr.size; omega
                            rw [sizeE_alloc] at hone
                            go_wp2_with (at_builtin; refine wpList_append_own_at _ rfl _ _ 241 rfl w.heap.size 245 i0 (.agg #[.int .u8 0, .string ⟨#[]⟩, .int .i64 0, .int .i64 0]) 4 40 Tryz.underlying241 hi0 hz0 hz1 hz2 rfl (by decide) _ ts.length (rcells ts) rfl ownB ⟨wr.heap.size + 1, 0, none⟩ 1 1 [.int .u8 119, .string (s.extract i (i + n)), .int .i64 0, .int .i64 l] rfl (by simp) hone (by simp [Value.oneCell']) (by unfold maxLen; omega) (by omega) hszB ?_)
                            intro v' W2 own2 grow2 nil2 at2
                            have k2 := grownBy_keeps' grow2 (Value.slice ay ts.length cy).ownBlock.toList (fun r e => .inl (by simp [e]))
                            have kf : Keeps [] w W2 := (kr.trans kB).trans_new k2 fun j hj => .inr (ownE_base own j (by simpa using hj)).1
                            go_wp2_with fail
                            go_roundw
                            · exact ⟨k, l, i + n, ts ++ [⟨wordG (s.extract i (i + n)), l⟩], rfl, by simp, by omega, by omega, by rw [List.length_append, List.length_singleton]; omega, by omega, by rw [rcells_append, List.length_append]; (rw [Hw.out]; exact own2), kf, hah.out⟩
                            · simp only [intOf]; omega
                          | false =>
                            rw [if_neg (by simp [hd, hr])] at hw
                            have Hw := hide hw
                            clear hw
                            have hah := hide (aheadT_step (g := wordG (s.extract i (i + n))) (n := n) Hres.out)
                            clear Hres
                            obtain ⟨ay, cy, hy⟩ := ownE_len own
                            subst hy
                            have kA := Keeps.alloc [] wr (.cells #[.int .u8 110, .string (s.extract i (i + n)), .int .i64 0, .int .i64 l] 245)
                            have kB := kA.trans (Keeps.alloc [] (wr.alloc (.cells #[.int .u8 110, .string (s.extract i (i + n)), .int .i64 0, .int .i64 l] 245)) (.cells #[.int .u8 110, .string (s.extract i (i + n)), .int .i64 0, .int .i64 l] 245))
                            have ownB := ownsRow_kept own kB (by simp)
                            have hone := rt_cell (W := wr.alloc (.cells #[.int .u8 110, .string (s.extract i (i + n)), .int .i64 0, .int .i64 l] 245)) (a := .int .u8 110) (b := .string (s.extract i (i + n))) (c := .int .i64 0) (d := .int .i64 l)
                            have hszB : w.heap.size ≤ ((wr.alloc (.cells #[.int .u8 110, .string (s.extract i (i + n)), .int .i64 0, .int .i64 l] 245)).alloc (.cells #[.int .u8 110, .string (s.extract i (i + n)), .int .i64 0, .int .i64 l] 245)).heap.size := by rw [sizeE_alloc, sizeE_alloc]; have := kr.size; omega
                            rw [sizeE_alloc] at hone
                            go_wp2_with (at_builtin; refine wpList_append_own_at _ rfl _ _ 241 rfl w.heap.size 245 i0 (.agg #[.int .u8 0, .string ⟨#[]⟩, .int .i64 0, .int .i64 0]) 4 40 Tryz.underlying241 hi0 hz0 hz1 hz2 rfl (by decide) _ ts.length (rcells ts) rfl ownB ⟨wr.heap.size + 1, 0, none⟩ 1 1 [.int .u8 110, .string (s.extract i (i + n)), .int .i64 0, .int .i64 l] rfl (by simp) hone (by simp [Value.oneCell']) (by unfold maxLen; omega) (by omega) hszB ?_)
                            intro v' W2 own2 grow2 nil2 at2
                            have k2 := grownBy_keeps' grow2 (Value.slice ay ts.length cy).ownBlock.toList (fun r e => .inl (by simp [e]))
                            have kf : Keeps [] w W2 := (kr.trans kB).trans_new k2 fun j hj => .inr (ownE_base own j (by simpa using hj)).1
                            go_wp2_with fail
                            go_roundw
                            · exact ⟨k, l, i + n, ts ++ [⟨wordG (s.extract i (i + n)), l⟩], rfl, by simp, by omega, by omega, by rw [List.length_append, List.length_singleton]; omega, by omega, by rw [rcells_append, List.length_append]; (rw [Hw.out]; exact own2), kf, hah.out⟩
                            · simp only [intOf]; omega
                      · have h6I : (6 : Int) < n := by omega
                        rw [if_neg h6] at hres
                        have Hres := hide hres
                        clear hres
                        have kA := Keeps.alloc [] wr (.cells #[.int .u8 110, .string ⟨#[]⟩, .int .i64 0, .int .i64 l] 245)
                        have kA2 := Keeps.alloc [] wr (.cells #[.int .u8 119, .string ⟨#[]⟩, .int .i64 0, .int .i64 l] 245)
                        cases hd : ((s.extract i (i + n)).toList == [100, 111, 109]) with
                        | true =>
                          go_wp2_with fail
                          go_ret2
                          rw [← Hres.out]
                          exact ⟨rfl, kr.trans kA2⟩
                        | false =>
                          cases hr : ((s.extract i (i + n)).toList == [114, 101, 108]) with
                          | true =>
                            go_wp2_with fail
                            go_ret2
                            rw [← Hres.out]
                            exact ⟨rfl, kr.trans kA2⟩
                          | false =>
                            go_wp2_with fail
                            go_ret2
                            rw [← Hres.out]
                            exact ⟨rfl, kr.trans kA⟩
                · have hjI : ¬ (i : Int) + n < s.size := by omega
                  have hn4 : i + n = M := by rw [show s.size - (i + n) = 0 by omega, spanFrom] at hn3; exact hn3
                  have hres := Hr0.out
                  rw [← hn4, show i + n - i = n by omega] at hres
                  clear Hr0 hn4 hM hsp hn3
                  as_aux_lemma =>
                  by_cases h6 : n ≤ 6
                  · have h6I : ¬ (6 : Int) < n := by omega
                    rw [if_pos h6] at hres
                    have Hres := hide hres
                    clear hres
                    have hw := word_rcell (s.extract i (i + n)) l
                    cases hd : ((s.extract i (i + n)).toList == [100, 111, 109]) with
                    | true =>
                      rw [if_pos (.inl hd)] at hw
                      have Hw := hide hw
                      clear hw
                      have hah := hide (aheadT_step (g := wordG (s.extract i (i + n))) (n := n) Hres.out)
                      clear Hres
                      obtain ⟨ay, cy, hy⟩ := ownE_len own
                      subst hy
                      have kA := Keeps.alloc [] wr (.cells #[.int .u8 119, .string (s.extract i (i + n)), .int .i64 0, .int .i64 l] 245)
                      have kB := kA.trans (Keeps.alloc [] (wr.alloc (.cells #[.int .u8 119, .string (s.extract i (i + n)), .int .i64 0, .int .i64 l] 245)) (.cells #[.int .u8 119, .string (s.extract i (i + n)), .int .i64 0, .int .i64 l] 245))
                      have ownB := ownsRow_kept own kB (by simp)
                      have hone := rt_cell (W := wr.alloc (.cells #[.int .u8 119, .string (s.extract i (i + n)), .int .i64 0, .int .i64 l] 245)) (a := .int .u8 119) (b := .string (s.extract i (i + n))) (c := .int .i64 0) (d := .int .i64 l)
                      have hszB : w.heap.size ≤ ((wr.alloc (.cells #[.int .u8 119, .string (s.extract i (i + n)), .int .i64 0, .int .i64 l] 245)).alloc (.cells #[.int .u8 119, .string (s.extract i (i + n)), .int .i64 0, .int .i64 l] 245)).heap.size := by rw [sizeE_alloc, sizeE_alloc]; have := kr.size; omega
                      rw [sizeE_alloc] at hone
                      go_wp2_with (at_builtin; refine wpList_append_own_at _ rfl _ _ 241 rfl w.heap.size 245 i0 (.agg #[.int .u8 0, .string ⟨#[]⟩, .int .i64 0, .int .i64 0]) 4 40 Tryz.underlying241 hi0 hz0 hz1 hz2 rfl (by decide) _ ts.length (rcells ts) rfl ownB ⟨wr.heap.size + 1, 0, none⟩ 1 1 [.int .u8 119, .string (s.extract i (i + n)), .int .i64 0, .int .i64 l] rfl (by simp) hone (by simp [Value.oneCell']) (by unfold maxLen; omega) (by omega) hszB ?_)
                      intro v' W2 own2 grow2 nil2 at2
                      have k2 := grownBy_keeps' grow2 (Value.slice ay ts.length cy).ownBlock.toList (fun r e => .inl (by simp [e]))
                      have kf : Keeps [] w W2 := (kr.trans kB).trans_new k2 fun j hj => .inr (ownE_base own j (by simpa using hj)).1
                      go_wp2_with fail
                      go_roundw
                      · exact ⟨k, l, i + n, ts ++ [⟨wordG (s.extract i (i + n)), l⟩], rfl, by simp, by omega, by omega, by rw [List.length_append, List.length_singleton]; omega, by omega, by rw [rcells_append, List.length_append]; (rw [Hw.out]; exact own2), kf, hah.out⟩
                      · simp only [intOf]; omega
                    | false =>
                      cases hr : ((s.extract i (i + n)).toList == [114, 101, 108]) with
                      | true =>
                        rw [if_pos (.inr hr)] at hw
                        have Hw := hide hw
                        clear hw
                        have hah := hide (aheadT_step (g := wordG (s.extract i (i + n))) (n := n) Hres.out)
                        clear Hres
                        obtain ⟨ay, cy, hy⟩ := ownE_len own
                        subst hy
                        have kA := Keeps.alloc [] wr (.cells #[.int .u8 119, .string (s.extract i (i + n)), .int .i64 0, .int .i64 l] 245)
                        have kB := kA.trans (Keeps.alloc [] (wr.alloc (.cells #[.int .u8 119, .string (s.extract i (i + n)), .int .i64 0, .int .i64 l] 245)) (.cells #[.int .u8 119, .string (s.extract i (i + n)), .int .i64 0, .int .i64 l] 245))
                        have ownB := ownsRow_kept own kB (by simp)
                        have hone := rt_cell (W := wr.alloc (.cells #[.int .u8 119, .string (s.extract i (i + n)), .int .i64 0, .int .i64 l] 245)) (a := .int .u8 119) (b := .string (s.extract i (i + n))) (c := .int .i64 0) (d := .int .i64 l)
                        have hszB : w.heap.size ≤ ((wr.alloc (.cells #[.int .u8 119, .string (s.extract i (i + n)), .int .i64 0, .int .i64 l] 245)).alloc (.cells #[.int .u8 119, .string (s.extract i (i + n)), .int .i64 0, .int .i64 l] 245)).heap.size := by rw [sizeE_alloc, sizeE_alloc]; have := kr.size; omega
                        rw [sizeE_alloc] at hone
                        go_wp2_with (at_builtin; refine wpList_append_own_at _ rfl _ _ 241 rfl w.heap.size 245 i0 (.agg #[.int .u8 0, .string ⟨#[]⟩, .int .i64 0, .int .i64 0]) 4 40 Tryz.underlying241 hi0 hz0 hz1 hz2 rfl (by decide) _ ts.length (rcells ts) rfl ownB ⟨wr.heap.size + 1, 0, none⟩ 1 1 [.int .u8 119, .string (s.extract i (i + n)), .int .i64 0, .int .i64 l] rfl (by simp) hone (by simp [Value.oneCell']) (by unfold maxLen; omega) (by omega) hszB ?_)
                        intro v' W2 own2 grow2 nil2 at2
                        have k2 := grownBy_keeps' grow2 (Value.slice ay ts.length cy).ownBlock.toList (fun r e => .inl (by simp [e]))
                        have kf : Keeps [] w W2 := (kr.trans kB).trans_new k2 fun j hj => .inr (ownE_base own j (by simpa using hj)).1
                        go_wp2_with fail
                        go_roundw
                        · exact ⟨k, l, i + n, ts ++ [⟨wordG (s.extract i (i + n)), l⟩], rfl, by simp, by omega, by omega, by rw [List.length_append, List.length_singleton]; omega, by omega, by rw [rcells_append, List.length_append]; (rw [Hw.out]; exact own2), kf, hah.out⟩
                        · simp only [intOf]; omega
                      | false =>
                        rw [if_neg (by simp [hd, hr])] at hw
                        have Hw := hide hw
                        clear hw
                        have hah := hide (aheadT_step (g := wordG (s.extract i (i + n))) (n := n) Hres.out)
                        clear Hres
                        obtain ⟨ay, cy, hy⟩ := ownE_len own
                        subst hy
                        have kA := Keeps.alloc [] wr (.cells #[.int .u8 110, .string (s.extract i (i + n)), .int .i64 0, .int .i64 l] 245)
                        have kB := kA.trans (Keeps.alloc [] (wr.alloc (.cells #[.int .u8 110, .string (s.extract i (i + n)), .int .i64 0, .int .i64 l] 245)) (.cells #[.int .u8 110, .string (s.extract i (i + n)), .int .i64 0, .int .i64 l] 245))
                        have ownB := ownsRow_kept own kB (by simp)
                        have hone := rt_cell (W := wr.alloc (.cells #[.int .u8 110, .string (s.extract i (i + n)), .int .i64 0, .int .i64 l] 245)) (a := .int .u8 110) (b := .string (s.extract i (i + n))) (c := .int .i64 0) (d := .int .i64 l)
                        have hszB : w.heap.size ≤ ((wr.alloc (.cells #[.int .u8 110, .string (s.extract i (i + n)), .int .i64 0, .int .i64 l] 245)).alloc (.cells #[.int .u8 110, .string (s.extract i (i + n)), .int .i64 0, .int .i64 l] 245)).heap.size := by rw [sizeE_alloc, sizeE_alloc]; have := kr.size; omega
                        rw [sizeE_alloc] at hone
                        go_wp2_with (at_builtin; refine wpList_append_own_at _ rfl _ _ 241 rfl w.heap.size 245 i0 (.agg #[.int .u8 0, .string ⟨#[]⟩, .int .i64 0, .int .i64 0]) 4 40 Tryz.underlying241 hi0 hz0 hz1 hz2 rfl (by decide) _ ts.length (rcells ts) rfl ownB ⟨wr.heap.size + 1, 0, none⟩ 1 1 [.int .u8 110, .string (s.extract i (i + n)), .int .i64 0, .int .i64 l] rfl (by simp) hone (by simp [Value.oneCell']) (by unfold maxLen; omega) (by omega) hszB ?_)
                        intro v' W2 own2 grow2 nil2 at2
                        have k2 := grownBy_keeps' grow2 (Value.slice ay ts.length cy).ownBlock.toList (fun r e => .inl (by simp [e]))
                        have kf : Keeps [] w W2 := (kr.trans kB).trans_new k2 fun j hj => .inr (ownE_base own j (by simpa using hj)).1
                        go_wp2_with fail
                        go_roundw
                        · exact ⟨k, l, i + n, ts ++ [⟨wordG (s.extract i (i + n)), l⟩], rfl, by simp, by omega, by omega, by rw [List.length_append, List.length_singleton]; omega, by omega, by rw [rcells_append, List.length_append]; (rw [Hw.out]; exact own2), kf, hah.out⟩
                        · simp only [intOf]; omega
                  · have h6I : (6 : Int) < n := by omega
                    rw [if_neg h6] at hres
                    have Hres := hide hres
                    clear hres
                    have kA := Keeps.alloc [] wr (.cells #[.int .u8 110, .string ⟨#[]⟩, .int .i64 0, .int .i64 l] 245)
                    have kA2 := Keeps.alloc [] wr (.cells #[.int .u8 119, .string ⟨#[]⟩, .int .i64 0, .int .i64 l] 245)
                    cases hd : ((s.extract i (i + n)).toList == [100, 111, 109]) with
                    | true =>
                      go_wp2_with fail
                      go_ret2
                      rw [← Hres.out]
                      exact ⟨rfl, kr.trans kA2⟩
                    | false =>
                      cases hr : ((s.extract i (i + n)).toList == [114, 101, 108]) with
                      | true =>
                        go_wp2_with fail
                        go_ret2
                        rw [← Hres.out]
                        exact ⟨rfl, kr.trans kA2⟩
                      | false =>
                        go_wp2_with fail
                        go_ret2
                        rw [← Hres.out]
                        exact ⟨rfl, kr.trans kA⟩
            | false =>
              cases hdig : isDig (ltr s i) with
              | true =>
                as_aux_lemma =>
                rw [cutG_dig h0 hdig] at hres
                have hM := spanFrom_le isDig s i (s.size - i)
                generalize hsp : spanFrom isDig s i (s.size - i) = M at hres hM
                have Hr0 := hide hres
                have Hsp0 := hide hsp
                clear hres
                go_wp2_with fail
                go_loopw [9] (fun x wr' => ∃ n : Nat, x = .int .i64 n ∧ i + n ≤ s.size ∧ spanFrom isDig s (i + n) (s.size - (i + n)) = M ∧ wr' = wr.alloc (.cells #[.int .u8 0, .string ⟨#[]⟩, .int .i64 0, .int .i64 l] 245)) (fun x _ => s.size - (intOf x).toNat)
                case atStart => exact ⟨0, rfl, by omega, hsp, rfl⟩
                case round =>
                  clear hsp
                  obtain ⟨n, rfl, hn2, hn3, rfl⟩ := hrel
                  have hnI : (i : Int) + n ≤ s.size := by omega
                  by_cases hjs : i + n < s.size
                  · have hjI : (i : Int) + n < s.size := by omega
                    have hlj := ltr_at hjs
                    rw [show s.size - (i + n) = (s.size - (i + n + 1)) + 1 by omega, spanFrom] at hn3
                    have Hn3 := hide hn3
                    clear hn3
                    go_wp2_with fail
                    refine (hD.out _ _).mono ?_
                    rintro e w1 ⟨rfl, rfl⟩
                    cases hb : isDig (ltr s (i + n)) with
                    | true =>
                      have hn4 : spanFrom isDig s (i + (n + 1)) (s.size - (i + (n + 1))) = M := by have := Hn3.out; rw [if_pos hb] at this; exact this
                      clear Hn3
                      have Hn4 := hide hn4
                      clear hn4
                      go_wp2_with fail
                      go_roundw
                      · exact ⟨n + 1, by simp, by omega, Hn4.out, trivial⟩
                      · simp only [intOf]; omega
                    | false =>
                      have hn4 : i + n = M := by have := Hn3.out; rw [if_neg (by rw [hb]; decide)] at this; exact this
                      clear Hn3
                      have hres := Hr0.out
                      have Hsp : Hid (spanFrom isDig s i (s.size - i) = i + n) := hide (Hsp0.out.trans hn4.symm)
                      rw [← hn4, show i + n - i = n by omega] at hres
                      clear Hr0 hn4 hM Hsp0
                      as_aux_lemma =>
                      have hn1 : 1 ≤ n := by
                        have h1 := Hsp.out
                        rw [show s.size - i = (s.size - (i + 1)) + 1 by omega, spanFrom, if_pos hdig] at h1
                        have := (spanFrom_le isDig s (i + 1) (s.size - (i + 1))).1
                        omega
                      by_cases h6 : n ≤ 2
                      · have h6I : ¬ (2 : Int) < n := by omega
                        rw [if_pos h6] at hres
                        have Hres := hide hres
                        have Hkn : Hid (∀ q, q < n → isDig (ltr s (i + q)) = true) := hide (fun q hq => spanFrom_all (i := i) (k := s.size - i) (by omega) (by rw [Hsp.out]; omega))
                        clear hres Hsp
                        go_wp2_with fail
                        go_loopw [15] (fun x wr' => ∃ (q : Nat) (wq : World), x = .int .i64 q ∧ q ≤ n ∧ wq.heap.size = wr.heap.size ∧ Keeps [] wr wq ∧ wr' = wq.alloc (.cells #[.int .u8 105, .string ⟨#[]⟩, .int .i64 (valTo (s.extract i (i + n)) q), .int .i64 l] 245)) (fun x _ => n - (intOf x).toNat)
                        case atStart => exact ⟨0, wr, rfl, by omega, rfl, Keeps.refl _ _, rfl⟩
                        case round =>
                          obtain ⟨q, wq, rfl, hq, hqs, kq, rfl⟩ := hrel
                          rw [← hqs]
                          have Hqs := hide hqs
                          by_cases hqn : q < n
                          · have hqI : (q : Int) < n := by omega
                            have hiq : i + q < s.size := by omega
                            have hiqI : (i : Int) + q < s.size := by omega
                            have hlq := ltr_at hiq
                            have hstep := valTo_pre (s := s) (i := i) (n := n) hn2 hqn
                            have hrange : 0 ≤ valTo (s.extract i (i + n)) q ∧ valTo (s.extract i (i + n)) q < 100 := valTo_range (fun j hj => by rw [ByteArray.size_extract] at hj; rw [show ltr (s.extract i (i + n)) j = ltr s (i + j) by unfold ltr; rw [dif_pos (by rw [ByteArray.size_extract]; omega), dif_pos (by omega), ByteArray.getElem_extract]]; exact Hkn.out j (by omega)) (by rw [ByteArray.size_extract]; omega) (by rw [ByteArray.size_extract]; omega)
                            have hr1 : 0 ≤ ltr s (i + q) := by rw [← hlq]; omega
                            have hr2 : ltr s (i + q) < 256 := by rw [← hlq]; have := (s[i + q]'hiq).toNat_lt; omega
                            have Hst := hide hstep
                            generalize valTo (s.extract i (i + n)) q = V at hrange Hst ⊢
                            clear hstep hqs
                            obtain ⟨hV0, hV1⟩ := hrange
                            have hw1 : IntKind.i64.wrap ((i : Int) + q) = ((i + q : Nat) : Int) := by rw [wrapE (by omega) (by omega)]; omega
                            have hw2 : IntKind.i64.wrap (10 * V) = 10 * V := wrapE (by omega) (by omega)
                            have hw3 : IntKind.i64.wrap (10 * V + ltr s (i + q)) = 10 * V + ltr s (i + q) := wrapE (by omega) (by omega)
                            have hw4 : IntKind.i64.wrap (10 * V + ltr s (i + q) - 48) = 10 * V + ltr s (i + q) - 48 := wrapE (by omega) (by omega)
                            have hiqZ : (0 : Int) ≤ (i : Int) + q := by omega
                            have hiqT : ((i : Int) + q).toNat = i + q := by omega
                            go_wp2_with fail
                            go_region
                            all_goals
                              go_wp2_with fail
                              go_roundw
                              · exact ⟨q + 1, wq.drew, by simp, by omega, rfl, kq.trans (Keeps.drew _ _), by rw [Hst.out, show 10 * V + (ltr s (i + q) - 48) = 10 * V + ltr s (i + q) - 48 by omega]; rfl⟩
                              · simp only [intOf]; omega
                          · have hqI : ¬ (q : Int) < n := by omega
                            have e : q = n := by omega
                            subst e
                            clear hq hqn
                            have hnum : valTo (s.extract i (i + q)) q = numOf (.int (s.extract i (i + q))) := by simp only [numOf]; rw [show (s.extract i (i + q)).size = q by rw [ByteArray.size_extract]; omega]
                            rw [hnum]
                            have Hrc : Hid (rcells [(⟨.int (s.extract i (i + q)), l⟩ : Tn)] = [.int .u8 105, .string (s.extract i (i + q)), .int .i64 (numOf (.int (s.extract i (i + q)))), .int .i64 l]) := hide rfl
                            generalize numOf (.int (s.extract i (i + q))) = V at Hrc ⊢
                            clear hnum hqs
                            have hah := hide (aheadT_step (g := .int (s.extract i (i + q))) (n := q) Hres.out)
                            clear Hres
                            obtain ⟨ay, cy, hy⟩ := ownE_len own
                            subst hy
                            have ownq := ownsRow_kept own kq (by simp)
                            have kA := Keeps.alloc [] wq (.cells #[.int .u8 105, .string (s.extract i (i + q)), .int .i64 V, .int .i64 l] 245)
                            have kB := kA.trans (Keeps.alloc [] (wq.alloc (.cells #[.int .u8 105, .string (s.extract i (i + q)), .int .i64 V, .int .i64 l] 245)) (.cells #[.int .u8 105, .string (s.extract i (i + q)), .int .i64 V, .int .i64 l] 245))
                            have ownB := ownsRow_kept ownq kB (by simp)
                            have hone := rt_cell (W := wq.alloc (.cells #[.int .u8 105, .string (s.extract i (i + q)), .int .i64 V, .int .i64 l] 245)) (a := .int .u8 105) (b := .string (s.extract i (i + q))) (c := .int .i64 V) (d := .int .i64 l)
                            have hszB : w.heap.size ≤ ((wq.alloc (.cells #[.int .u8 105, .string (s.extract i (i + q)), .int .i64 V, .int .i64 l] 245)).alloc (.cells #[.int .u8 105, .string (s.extract i (i + q)), .int .i64 V, .int .i64 l] 245)).heap.size := by rw [sizeE_alloc, sizeE_alloc]; have := kr.size; have := kq.size; omega
                            rw [sizeE_alloc] at hone
                            go_wp2_with (at_builtin; refine wpList_append_own_at _ rfl _ _ 241 rfl w.heap.size 245 i0 (.agg #[.int .u8 0, .string ⟨#[]⟩, .int .i64 0, .int .i64 0]) 4 40 Tryz.underlying241 hi0 hz0 hz1 hz2 rfl (by decide) _ ts.length (rcells ts) rfl ownB ⟨wq.heap.size + 1, 0, none⟩ 1 1 [.int .u8 105, .string (s.extract i (i + q)), .int .i64 V, .int .i64 l] rfl (by simp) hone (by simp [Value.oneCell']) (by unfold maxLen; omega) (by omega) hszB ?_)
                            intro v' W2 own2 grow2 nil2 at2
                            have k2 := grownBy_keeps' grow2 (Value.slice ay ts.length cy).ownBlock.toList (fun r e => .inl (by simp [e]))
                            have kf : Keeps [] w W2 := ((kr.trans kq).trans kB).trans_new k2 fun j hj => .inr (ownE_base ownq j (by simpa using hj)).1
                            go_wp2_with fail
                            go_roundw
                            · exact ⟨k, l, i + q, ts ++ [⟨.int (s.extract i (i + q)), l⟩], rfl, by simp, by omega, by omega, by rw [List.length_append, List.length_singleton]; omega, by omega, by rw [rcells_append, List.length_append]; (rw [Hrc.out]; exact own2), kf, hah.out⟩
                            · simp only [intOf]; omega
                      · have h6I : (2 : Int) < n := by omega
                        rw [if_neg h6] at hres
                        have Hres := hide hres
                        clear hres
                        have kA := Keeps.alloc [] wr (.cells #[.int .u8 105, .string ⟨#[]⟩, .int .i64 0, .int .i64 l] 245)
                        go_wp2_with fail
                        go_ret2
                        rw [← Hres.out]
                        exact ⟨rfl, kr.trans kA⟩
                  · have hjI : ¬ (i : Int) + n < s.size := by omega
                    have hn4 : i + n = M := by rw [show s.size - (i + n) = 0 by omega, spanFrom] at hn3; exact hn3
                    have hres := Hr0.out
                    have Hsp : Hid (spanFrom isDig s i (s.size - i) = i + n) := hide (Hsp0.out.trans hn4.symm)
                    rw [← hn4, show i + n - i = n by omega] at hres
                    clear Hr0 hn4 hM hn3 Hsp0
                    as_aux_lemma =>
                    have hn1 : 1 ≤ n := by
                      have h1 := Hsp.out
                      rw [show s.size - i = (s.size - (i + 1)) + 1 by omega, spanFrom, if_pos hdig] at h1
                      have := (spanFrom_le isDig s (i + 1) (s.size - (i + 1))).1
                      omega
                    by_cases h6 : n ≤ 2
                    · have h6I : ¬ (2 : Int) < n := by omega
                      rw [if_pos h6] at hres
                      have Hres := hide hres
                      have Hkn : Hid (∀ q, q < n → isDig (ltr s (i + q)) = true) := hide (fun q hq => spanFrom_all (i := i) (k := s.size - i) (by omega) (by rw [Hsp.out]; omega))
                      clear hres Hsp
                      go_wp2_with fail
                      go_loopw [15] (fun x wr' => ∃ (q : Nat) (wq : World), x = .int .i64 q ∧ q ≤ n ∧ wq.heap.size = wr.heap.size ∧ Keeps [] wr wq ∧ wr' = wq.alloc (.cells #[.int .u8 105, .string ⟨#[]⟩, .int .i64 (valTo (s.extract i (i + n)) q), .int .i64 l] 245)) (fun x _ => n - (intOf x).toNat)
                      case atStart => exact ⟨0, wr, rfl, by omega, rfl, Keeps.refl _ _, rfl⟩
                      case round =>
                        obtain ⟨q, wq, rfl, hq, hqs, kq, rfl⟩ := hrel
                        rw [← hqs]
                        have Hqs := hide hqs
                        by_cases hqn : q < n
                        · have hqI : (q : Int) < n := by omega
                          have hiq : i + q < s.size := by omega
                          have hiqI : (i : Int) + q < s.size := by omega
                          have hlq := ltr_at hiq
                          have hstep := valTo_pre (s := s) (i := i) (n := n) hn2 hqn
                          have hrange : 0 ≤ valTo (s.extract i (i + n)) q ∧ valTo (s.extract i (i + n)) q < 100 := valTo_range (fun j hj => by rw [ByteArray.size_extract] at hj; rw [show ltr (s.extract i (i + n)) j = ltr s (i + j) by unfold ltr; rw [dif_pos (by rw [ByteArray.size_extract]; omega), dif_pos (by omega), ByteArray.getElem_extract]]; exact Hkn.out j (by omega)) (by rw [ByteArray.size_extract]; omega) (by rw [ByteArray.size_extract]; omega)
                          have hr1 : 0 ≤ ltr s (i + q) := by rw [← hlq]; omega
                          have hr2 : ltr s (i + q) < 256 := by rw [← hlq]; have := (s[i + q]'hiq).toNat_lt; omega
                          have Hst := hide hstep
                          generalize valTo (s.extract i (i + n)) q = V at hrange Hst ⊢
                          clear hstep hqs
                          obtain ⟨hV0, hV1⟩ := hrange
                          have hw1 : IntKind.i64.wrap ((i : Int) + q) = ((i + q : Nat) : Int) := by rw [wrapE (by omega) (by omega)]; omega
                          have hw2 : IntKind.i64.wrap (10 * V) = 10 * V := wrapE (by omega) (by omega)
                          have hw3 : IntKind.i64.wrap (10 * V + ltr s (i + q)) = 10 * V + ltr s (i + q) := wrapE (by omega) (by omega)
                          have hw4 : IntKind.i64.wrap (10 * V + ltr s (i + q) - 48) = 10 * V + ltr s (i + q) - 48 := wrapE (by omega) (by omega)
                          have hiqZ : (0 : Int) ≤ (i : Int) + q := by omega
                          have hiqT : ((i : Int) + q).toNat = i + q := by omega
                          go_wp2_with fail
                          go_region
                          all_goals
                            go_wp2_with fail
                            go_roundw
                            · exact ⟨q + 1, wq.drew, by simp, by omega, rfl, kq.trans (Keeps.drew _ _), by rw [Hst.out, show 10 * V + (ltr s (i + q) - 48) = 10 * V + ltr s (i + q) - 48 by omega]; rfl⟩
                            · simp only [intOf]; omega
                        · have hqI : ¬ (q : Int) < n := by omega
                          have e : q = n := by omega
                          subst e
                          clear hq hqn
                          have hnum : valTo (s.extract i (i + q)) q = numOf (.int (s.extract i (i + q))) := by simp only [numOf]; rw [show (s.extract i (i + q)).size = q by rw [ByteArray.size_extract]; omega]
                          rw [hnum]
                          have Hrc : Hid (rcells [(⟨.int (s.extract i (i + q)), l⟩ : Tn)] = [.int .u8 105, .string (s.extract i (i + q)), .int .i64 (numOf (.int (s.extract i (i + q)))), .int .i64 l]) := hide rfl
                          generalize numOf (.int (s.extract i (i + q))) = V at Hrc ⊢
                          clear hnum hqs
                          have hah := hide (aheadT_step (g := .int (s.extract i (i + q))) (n := q) Hres.out)
                          clear Hres
                          obtain ⟨ay, cy, hy⟩ := ownE_len own
                          subst hy
                          have ownq := ownsRow_kept own kq (by simp)
                          have kA := Keeps.alloc [] wq (.cells #[.int .u8 105, .string (s.extract i (i + q)), .int .i64 V, .int .i64 l] 245)
                          have kB := kA.trans (Keeps.alloc [] (wq.alloc (.cells #[.int .u8 105, .string (s.extract i (i + q)), .int .i64 V, .int .i64 l] 245)) (.cells #[.int .u8 105, .string (s.extract i (i + q)), .int .i64 V, .int .i64 l] 245))
                          have ownB := ownsRow_kept ownq kB (by simp)
                          have hone := rt_cell (W := wq.alloc (.cells #[.int .u8 105, .string (s.extract i (i + q)), .int .i64 V, .int .i64 l] 245)) (a := .int .u8 105) (b := .string (s.extract i (i + q))) (c := .int .i64 V) (d := .int .i64 l)
                          have hszB : w.heap.size ≤ ((wq.alloc (.cells #[.int .u8 105, .string (s.extract i (i + q)), .int .i64 V, .int .i64 l] 245)).alloc (.cells #[.int .u8 105, .string (s.extract i (i + q)), .int .i64 V, .int .i64 l] 245)).heap.size := by rw [sizeE_alloc, sizeE_alloc]; have := kr.size; have := kq.size; omega
                          rw [sizeE_alloc] at hone
                          go_wp2_with (at_builtin; refine wpList_append_own_at _ rfl _ _ 241 rfl w.heap.size 245 i0 (.agg #[.int .u8 0, .string ⟨#[]⟩, .int .i64 0, .int .i64 0]) 4 40 Tryz.underlying241 hi0 hz0 hz1 hz2 rfl (by decide) _ ts.length (rcells ts) rfl ownB ⟨wq.heap.size + 1, 0, none⟩ 1 1 [.int .u8 105, .string (s.extract i (i + q)), .int .i64 V, .int .i64 l] rfl (by simp) hone (by simp [Value.oneCell']) (by unfold maxLen; omega) (by omega) hszB ?_)
                          intro v' W2 own2 grow2 nil2 at2
                          have k2 := grownBy_keeps' grow2 (Value.slice ay ts.length cy).ownBlock.toList (fun r e => .inl (by simp [e]))
                          have kf : Keeps [] w W2 := ((kr.trans kq).trans kB).trans_new k2 fun j hj => .inr (ownE_base ownq j (by simpa using hj)).1
                          go_wp2_with fail
                          go_roundw
                          · exact ⟨k, l, i + q, ts ++ [⟨.int (s.extract i (i + q)), l⟩], rfl, by simp, by omega, by omega, by rw [List.length_append, List.length_singleton]; omega, by omega, by rw [rcells_append, List.length_append]; (rw [Hrc.out]; exact own2), kf, hah.out⟩
                          · simp only [intOf]; omega
                    · have h6I : (2 : Int) < n := by omega
                      rw [if_neg h6] at hres
                      have Hres := hide hres
                      clear hres
                      have kA := Keeps.alloc [] wr (.cells #[.int .u8 105, .string ⟨#[]⟩, .int .i64 0, .int .i64 l] 245)
                      go_wp2_with fail
                      go_ret2
                      rw [← Hres.out]
                      exact ⟨rfl, kr.trans kA⟩
              | false =>
                cases hcap : isCap (ltr s i) with
                | true =>
                  as_aux_lemma =>
                  rw [cutG_cap h0 hcap] at hres
                  have hc1 : (65 : Int) ≤ ltr s i := by simp only [isCap, Bool.and_eq_true, decide_eq_true_eq] at hcap; exact hcap.1
                  have hc2 : ltr s i ≤ 90 := by simp only [isCap, Bool.and_eq_true, decide_eq_true_eq] at hcap; exact hcap.2
                  by_cases h1 : i + 1 < s.size
                  · have h1I : (i : Int) + 1 < s.size := by omega
                    have h2I : (i : Int) + 2 ≤ s.size := by omega
                    have h3I : (i : Int) + 1 ≤ s.size := by omega
                    have hl1 := ltr_at h1
                    cases hd1 : isDig (ltr s (i + 1)) with
                    | true =>
                      rw [if_pos ⟨h1, hd1⟩] at hres
                      have Hres := hide hres
                      clear hres
                      go_wp2_with fail
                      refine (hD.out _ _).mono ?_
                      rintro e w1 ⟨rfl, rfl⟩
                      rw [hd1]
                      have hah := hide (aheadT_step (g := .var (s.extract i (i + 2))) (n := 2) Hres.out)
                      clear Hres
                      obtain ⟨ay, cy, hy⟩ := ownE_len own
                      subst hy
                      have kA := Keeps.alloc [] wr (.cells #[.int .u8 118, .string (s.extract i (i + 2)), .int .i64 0, .int .i64 l] 245)
                      have kB := kA.trans (Keeps.alloc [] (wr.alloc (.cells #[.int .u8 118, .string (s.extract i (i + 2)), .int .i64 0, .int .i64 l] 245)) (.cells #[.int .u8 118, .string (s.extract i (i + 2)), .int .i64 0, .int .i64 l] 245))
                      have ownB := ownsRow_kept own kB (by simp)
                      have hone := rt_cell (W := wr.alloc (.cells #[.int .u8 118, .string (s.extract i (i + 2)), .int .i64 0, .int .i64 l] 245)) (a := .int .u8 118) (b := .string (s.extract i (i + 2))) (c := .int .i64 0) (d := .int .i64 l)
                      have hszB : w.heap.size ≤ ((wr.alloc (.cells #[.int .u8 118, .string (s.extract i (i + 2)), .int .i64 0, .int .i64 l] 245)).alloc (.cells #[.int .u8 118, .string (s.extract i (i + 2)), .int .i64 0, .int .i64 l] 245)).heap.size := by rw [sizeE_alloc, sizeE_alloc]; have := kr.size; omega
                      rw [sizeE_alloc] at hone
                      go_wp2_with (at_builtin; refine wpList_append_own_at _ rfl _ _ 241 rfl w.heap.size 245 i0 (.agg #[.int .u8 0, .string ⟨#[]⟩, .int .i64 0, .int .i64 0]) 4 40 Tryz.underlying241 hi0 hz0 hz1 hz2 rfl (by decide) _ ts.length (rcells ts) rfl ownB ⟨wr.heap.size + 1, 0, none⟩ 1 1 [.int .u8 118, .string (s.extract i (i + 2)), .int .i64 0, .int .i64 l] rfl (by simp) hone (by simp [Value.oneCell']) (by unfold maxLen; omega) (by omega) hszB ?_)
                      intro v' W2 own2 grow2 nil2 at2
                      have k2 := grownBy_keeps' grow2 (Value.slice ay ts.length cy).ownBlock.toList (fun r e => .inl (by simp [e]))
                      have kf : Keeps [] w W2 := (kr.trans kB).trans_new k2 fun j hj => .inr (ownE_base own j (by simpa using hj)).1
                      go_wp2_with fail
                      go_roundw
                      · exact ⟨k, l, i + 2, ts ++ [⟨.var (s.extract i (i + 2)), l⟩], rfl, by simp, by omega, by omega, by rw [List.length_append, List.length_singleton]; omega, by omega, by rw [rcells_append, List.length_append]; exact own2, kf, hah.out⟩
                      · simp only [intOf]; omega
                    | false =>
                      rw [if_neg (by simp [hd1])] at hres
                      have Hres := hide hres
                      clear hres
                      go_wp2_with fail
                      refine (hD.out _ _).mono ?_
                      rintro e w1 ⟨rfl, rfl⟩
                      rw [hd1]
                      have hah := hide (aheadT_step (g := .var (s.extract i (i + 1))) (n := 1) Hres.out)
                      clear Hres
                      obtain ⟨ay, cy, hy⟩ := ownE_len own
                      subst hy
                      have kA := Keeps.alloc [] wr (.cells #[.int .u8 118, .string (s.extract i (i + 1)), .int .i64 0, .int .i64 l] 245)
                      have kB := kA.trans (Keeps.alloc [] (wr.alloc (.cells #[.int .u8 118, .string (s.extract i (i + 1)), .int .i64 0, .int .i64 l] 245)) (.cells #[.int .u8 118, .string (s.extract i (i + 1)), .int .i64 0, .int .i64 l] 245))
                      have ownB := ownsRow_kept own kB (by simp)
                      have hone := rt_cell (W := wr.alloc (.cells #[.int .u8 118, .string (s.extract i (i + 1)), .int .i64 0, .int .i64 l] 245)) (a := .int .u8 118) (b := .string (s.extract i (i + 1))) (c := .int .i64 0) (d := .int .i64 l)
                      have hszB : w.heap.size ≤ ((wr.alloc (.cells #[.int .u8 118, .string (s.extract i (i + 1)), .int .i64 0, .int .i64 l] 245)).alloc (.cells #[.int .u8 118, .string (s.extract i (i + 1)), .int .i64 0, .int .i64 l] 245)).heap.size := by rw [sizeE_alloc, sizeE_alloc]; have := kr.size; omega
                      rw [sizeE_alloc] at hone
                      go_wp2_with (at_builtin; refine wpList_append_own_at _ rfl _ _ 241 rfl w.heap.size 245 i0 (.agg #[.int .u8 0, .string ⟨#[]⟩, .int .i64 0, .int .i64 0]) 4 40 Tryz.underlying241 hi0 hz0 hz1 hz2 rfl (by decide) _ ts.length (rcells ts) rfl ownB ⟨wr.heap.size + 1, 0, none⟩ 1 1 [.int .u8 118, .string (s.extract i (i + 1)), .int .i64 0, .int .i64 l] rfl (by simp) hone (by simp [Value.oneCell']) (by unfold maxLen; omega) (by omega) hszB ?_)
                      intro v' W2 own2 grow2 nil2 at2
                      have k2 := grownBy_keeps' grow2 (Value.slice ay ts.length cy).ownBlock.toList (fun r e => .inl (by simp [e]))
                      have kf : Keeps [] w W2 := (kr.trans kB).trans_new k2 fun j hj => .inr (ownE_base own j (by simpa using hj)).1
                      go_wp2_with fail
                      go_roundw
                      · exact ⟨k, l, i + 1, ts ++ [⟨.var (s.extract i (i + 1)), l⟩], rfl, by simp, by omega, by omega, by rw [List.length_append, List.length_singleton]; omega, by omega, by rw [rcells_append, List.length_append]; exact own2, kf, hah.out⟩
                      · simp only [intOf]; omega
                  · have h1I : ¬ (i : Int) + 1 < s.size := by omega
                    have h3I : (i : Int) + 1 ≤ s.size := by omega
                    rw [if_neg (fun h => h1 h.1)] at hres
                    have Hres := hide hres
                    clear hres
                    have hah := hide (aheadT_step (g := .var (s.extract i (i + 1))) (n := 1) Hres.out)
                    clear Hres
                    obtain ⟨ay, cy, hy⟩ := ownE_len own
                    subst hy
                    have kA := Keeps.alloc [] wr (.cells #[.int .u8 118, .string (s.extract i (i + 1)), .int .i64 0, .int .i64 l] 245)
                    have kB := kA.trans (Keeps.alloc [] (wr.alloc (.cells #[.int .u8 118, .string (s.extract i (i + 1)), .int .i64 0, .int .i64 l] 245)) (.cells #[.int .u8 118, .string (s.extract i (i + 1)), .int .i64 0, .int .i64 l] 245))
                    have ownB := ownsRow_kept own kB (by simp)
                    have hone := rt_cell (W := wr.alloc (.cells #[.int .u8 118, .string (s.extract i (i + 1)), .int .i64 0, .int .i64 l] 245)) (a := .int .u8 118) (b := .string (s.extract i (i + 1))) (c := .int .i64 0) (d := .int .i64 l)
                    have hszB : w.heap.size ≤ ((wr.alloc (.cells #[.int .u8 118, .string (s.extract i (i + 1)), .int .i64 0, .int .i64 l] 245)).alloc (.cells #[.int .u8 118, .string (s.extract i (i + 1)), .int .i64 0, .int .i64 l] 245)).heap.size := by rw [sizeE_alloc, sizeE_alloc]; have := kr.size; omega
                    rw [sizeE_alloc] at hone
                    go_wp2_with (at_builtin; refine wpList_append_own_at _ rfl _ _ 241 rfl w.heap.size 245 i0 (.agg #[.int .u8 0, .string ⟨#[]⟩, .int .i64 0, .int .i64 0]) 4 40 Tryz.underlying241 hi0 hz0 hz1 hz2 rfl (by decide) _ ts.length (rcells ts) rfl ownB ⟨wr.heap.size + 1, 0, none⟩ 1 1 [.int .u8 118, .string (s.extract i (i + 1)), .int .i64 0, .int .i64 l] rfl (by simp) hone (by simp [Value.oneCell']) (by unfold maxLen; omega) (by omega) hszB ?_)
                    intro v' W2 own2 grow2 nil2 at2
                    have k2 := grownBy_keeps' grow2 (Value.slice ay ts.length cy).ownBlock.toList (fun r e => .inl (by simp [e]))
                    have kf : Keeps [] w W2 := (kr.trans kB).trans_new k2 fun j hj => .inr (ownE_base own j (by simpa using hj)).1
                    go_wp2_with fail
                    go_roundw
                    · exact ⟨k, l, i + 1, ts ++ [⟨.var (s.extract i (i + 1)), l⟩], rfl, by simp, by omega, by omega, by rw [List.length_append, List.length_singleton]; omega, by omega, by rw [rcells_append, List.length_append]; exact own2, kf, hah.out⟩
                    · simp only [intOf]; omega
                | false =>
                  by_cases hm : ltr s i = 40
                  · as_aux_lemma =>
                    have hcm := (cutG_mark h0 (by rw [hm]; rfl)).1
                    have htx := (cutG_mark h0 (by rw [hm]; rfl)).2
                    have h3I : (i : Int) + 1 ≤ s.size := by omega
                    have hg : markG (ltr s i) = .lp := by rw [hm]; rfl
                    rw [hcm, hg] at hres
                    rw [hg] at htx
                    have Hres := hide hres
                    clear hres hcm
                    have m58 : (ltr s i == 58) = false := by rw [hm]; rfl
                    have m40 : (ltr s i == 40) = true := by rw [hm]; rfl
                    have hcc : ¬ (65 : Int) ≤ ltr s i := by rw [hm]; omega
                    clear hm hg
                    have Htx := hide htx
                    clear htx
                    have hah := hide (aheadT_step (g := .lp) (n := 1) Hres.out)
                    clear Hres
                    obtain ⟨ay, cy, hy⟩ := ownE_len own
                    subst hy
                    have kA := Keeps.alloc [] wr (.cells #[.int .u8 115, .string (s.extract i (i + 1)), .int .i64 0, .int .i64 l] 245)
                    have kB := kA.trans (Keeps.alloc [] (wr.alloc (.cells #[.int .u8 115, .string (s.extract i (i + 1)), .int .i64 0, .int .i64 l] 245)) (.cells #[.int .u8 115, .string (s.extract i (i + 1)), .int .i64 0, .int .i64 l] 245))
                    have ownB := ownsRow_kept own kB (by simp)
                    have hone := rt_cell (W := wr.alloc (.cells #[.int .u8 115, .string (s.extract i (i + 1)), .int .i64 0, .int .i64 l] 245)) (a := .int .u8 115) (b := .string (s.extract i (i + 1))) (c := .int .i64 0) (d := .int .i64 l)
                    have hszB : w.heap.size ≤ ((wr.alloc (.cells #[.int .u8 115, .string (s.extract i (i + 1)), .int .i64 0, .int .i64 l] 245)).alloc (.cells #[.int .u8 115, .string (s.extract i (i + 1)), .int .i64 0, .int .i64 l] 245)).heap.size := by rw [sizeE_alloc, sizeE_alloc]; have := kr.size; omega
                    rw [sizeE_alloc] at hone
                    go_wp2_with (at_builtin; refine wpList_append_own_at _ rfl _ _ 241 rfl w.heap.size 245 i0 (.agg #[.int .u8 0, .string ⟨#[]⟩, .int .i64 0, .int .i64 0]) 4 40 Tryz.underlying241 hi0 hz0 hz1 hz2 rfl (by decide) _ ts.length (rcells ts) rfl ownB ⟨wr.heap.size + 1, 0, none⟩ 1 1 [.int .u8 115, .string (s.extract i (i + 1)), .int .i64 0, .int .i64 l] rfl (by simp) hone (by simp [Value.oneCell']) (by unfold maxLen; omega) (by omega) hszB ?_)
                    intro v' W2 own2 grow2 nil2 at2
                    have k2 := grownBy_keeps' grow2 (Value.slice ay ts.length cy).ownBlock.toList (fun r e => .inl (by simp [e]))
                    have kf : Keeps [] w W2 := (kr.trans kB).trans_new k2 fun j hj => .inr (ownE_base own j (by simpa using hj)).1
                    go_wp2_with fail
                    go_roundw
                    · exact ⟨k, l, i + 1, ts ++ [⟨.lp, l⟩], rfl, by simp, by omega, by omega, by rw [List.length_append, List.length_singleton]; omega, by omega, by rw [rcells_append, List.length_append]; (rw [show rcells [(⟨.lp, l⟩ : Tn)] = [.int .u8 115, .string (s.extract i (i + 1)), .int .i64 0, .int .i64 l] by rw [Htx.out]; rfl]; exact own2), kf, hah.out⟩
                    · simp only [intOf]; omega
                  · have n40 : ¬ ltr s i = 40 := hm
                    clear hm
                    by_cases hm : ltr s i = 41
                    · as_aux_lemma =>
                      have hcm := (cutG_mark h0 (by rw [hm]; rfl)).1
                      have htx := (cutG_mark h0 (by rw [hm]; rfl)).2
                      have h3I : (i : Int) + 1 ≤ s.size := by omega
                      have hg : markG (ltr s i) = .rp := by rw [hm]; rfl
                      rw [hcm, hg] at hres
                      rw [hg] at htx
                      have Hres := hide hres
                      clear hres hcm
                      have m58 : (ltr s i == 58) = false := by rw [hm]; rfl
                      have m40 : (ltr s i == 40) = false := by rw [hm]; rfl
                      have m41 : (ltr s i == 41) = true := by rw [hm]; rfl
                      have hcc : ¬ (65 : Int) ≤ ltr s i := by rw [hm]; omega
                      clear hm hg
                      have Htx := hide htx
                      clear htx
                      have hah := hide (aheadT_step (g := .rp) (n := 1) Hres.out)
                      clear Hres
                      obtain ⟨ay, cy, hy⟩ := ownE_len own
                      subst hy
                      have kA := Keeps.alloc [] wr (.cells #[.int .u8 115, .string (s.extract i (i + 1)), .int .i64 0, .int .i64 l] 245)
                      have kB := kA.trans (Keeps.alloc [] (wr.alloc (.cells #[.int .u8 115, .string (s.extract i (i + 1)), .int .i64 0, .int .i64 l] 245)) (.cells #[.int .u8 115, .string (s.extract i (i + 1)), .int .i64 0, .int .i64 l] 245))
                      have ownB := ownsRow_kept own kB (by simp)
                      have hone := rt_cell (W := wr.alloc (.cells #[.int .u8 115, .string (s.extract i (i + 1)), .int .i64 0, .int .i64 l] 245)) (a := .int .u8 115) (b := .string (s.extract i (i + 1))) (c := .int .i64 0) (d := .int .i64 l)
                      have hszB : w.heap.size ≤ ((wr.alloc (.cells #[.int .u8 115, .string (s.extract i (i + 1)), .int .i64 0, .int .i64 l] 245)).alloc (.cells #[.int .u8 115, .string (s.extract i (i + 1)), .int .i64 0, .int .i64 l] 245)).heap.size := by rw [sizeE_alloc, sizeE_alloc]; have := kr.size; omega
                      rw [sizeE_alloc] at hone
                      go_wp2_with (at_builtin; refine wpList_append_own_at _ rfl _ _ 241 rfl w.heap.size 245 i0 (.agg #[.int .u8 0, .string ⟨#[]⟩, .int .i64 0, .int .i64 0]) 4 40 Tryz.underlying241 hi0 hz0 hz1 hz2 rfl (by decide) _ ts.length (rcells ts) rfl ownB ⟨wr.heap.size + 1, 0, none⟩ 1 1 [.int .u8 115, .string (s.extract i (i + 1)), .int .i64 0, .int .i64 l] rfl (by simp) hone (by simp [Value.oneCell']) (by unfold maxLen; omega) (by omega) hszB ?_)
                      intro v' W2 own2 grow2 nil2 at2
                      have k2 := grownBy_keeps' grow2 (Value.slice ay ts.length cy).ownBlock.toList (fun r e => .inl (by simp [e]))
                      have kf : Keeps [] w W2 := (kr.trans kB).trans_new k2 fun j hj => .inr (ownE_base own j (by simpa using hj)).1
                      go_wp2_with fail
                      go_roundw
                      · exact ⟨k, l, i + 1, ts ++ [⟨.rp, l⟩], rfl, by simp, by omega, by omega, by rw [List.length_append, List.length_singleton]; omega, by omega, by rw [rcells_append, List.length_append]; (rw [show rcells [(⟨.rp, l⟩ : Tn)] = [.int .u8 115, .string (s.extract i (i + 1)), .int .i64 0, .int .i64 l] by rw [Htx.out]; rfl]; exact own2), kf, hah.out⟩
                      · simp only [intOf]; omega
                    · have n41 : ¬ ltr s i = 41 := hm
                      clear hm
                      by_cases hm : ltr s i = 44
                      · as_aux_lemma =>
                        have hcm := (cutG_mark h0 (by rw [hm]; rfl)).1
                        have htx := (cutG_mark h0 (by rw [hm]; rfl)).2
                        have h3I : (i : Int) + 1 ≤ s.size := by omega
                        have hg : markG (ltr s i) = .comma := by rw [hm]; rfl
                        rw [hcm, hg] at hres
                        rw [hg] at htx
                        have Hres := hide hres
                        clear hres hcm
                        have m58 : (ltr s i == 58) = false := by rw [hm]; rfl
                        have m40 : (ltr s i == 40) = false := by rw [hm]; rfl
                        have m41 : (ltr s i == 41) = false := by rw [hm]; rfl
                        have m44 : (ltr s i == 44) = true := by rw [hm]; rfl
                        have hcc : ¬ (65 : Int) ≤ ltr s i := by rw [hm]; omega
                        clear hm hg
                        have Htx := hide htx
                        clear htx
                        have hah := hide (aheadT_step (g := .comma) (n := 1) Hres.out)
                        clear Hres
                        obtain ⟨ay, cy, hy⟩ := ownE_len own
                        subst hy
                        have kA := Keeps.alloc [] wr (.cells #[.int .u8 115, .string (s.extract i (i + 1)), .int .i64 0, .int .i64 l] 245)
                        have kB := kA.trans (Keeps.alloc [] (wr.alloc (.cells #[.int .u8 115, .string (s.extract i (i + 1)), .int .i64 0, .int .i64 l] 245)) (.cells #[.int .u8 115, .string (s.extract i (i + 1)), .int .i64 0, .int .i64 l] 245))
                        have ownB := ownsRow_kept own kB (by simp)
                        have hone := rt_cell (W := wr.alloc (.cells #[.int .u8 115, .string (s.extract i (i + 1)), .int .i64 0, .int .i64 l] 245)) (a := .int .u8 115) (b := .string (s.extract i (i + 1))) (c := .int .i64 0) (d := .int .i64 l)
                        have hszB : w.heap.size ≤ ((wr.alloc (.cells #[.int .u8 115, .string (s.extract i (i + 1)), .int .i64 0, .int .i64 l] 245)).alloc (.cells #[.int .u8 115, .string (s.extract i (i + 1)), .int .i64 0, .int .i64 l] 245)).heap.size := by rw [sizeE_alloc, sizeE_alloc]; have := kr.size; omega
                        rw [sizeE_alloc] at hone
                        go_wp2_with (at_builtin; refine wpList_append_own_at _ rfl _ _ 241 rfl w.heap.size 245 i0 (.agg #[.int .u8 0, .string ⟨#[]⟩, .int .i64 0, .int .i64 0]) 4 40 Tryz.underlying241 hi0 hz0 hz1 hz2 rfl (by decide) _ ts.length (rcells ts) rfl ownB ⟨wr.heap.size + 1, 0, none⟩ 1 1 [.int .u8 115, .string (s.extract i (i + 1)), .int .i64 0, .int .i64 l] rfl (by simp) hone (by simp [Value.oneCell']) (by unfold maxLen; omega) (by omega) hszB ?_)
                        intro v' W2 own2 grow2 nil2 at2
                        have k2 := grownBy_keeps' grow2 (Value.slice ay ts.length cy).ownBlock.toList (fun r e => .inl (by simp [e]))
                        have kf : Keeps [] w W2 := (kr.trans kB).trans_new k2 fun j hj => .inr (ownE_base own j (by simpa using hj)).1
                        go_wp2_with fail
                        go_roundw
                        · exact ⟨k, l, i + 1, ts ++ [⟨.comma, l⟩], rfl, by simp, by omega, by omega, by rw [List.length_append, List.length_singleton]; omega, by omega, by rw [rcells_append, List.length_append]; (rw [show rcells [(⟨.comma, l⟩ : Tn)] = [.int .u8 115, .string (s.extract i (i + 1)), .int .i64 0, .int .i64 l] by rw [Htx.out]; rfl]; exact own2), kf, hah.out⟩
                        · simp only [intOf]; omega
                      · have n44 : ¬ ltr s i = 44 := hm
                        clear hm
                        by_cases hm : ltr s i = 59
                        · as_aux_lemma =>
                          have hcm := (cutG_mark h0 (by rw [hm]; rfl)).1
                          have htx := (cutG_mark h0 (by rw [hm]; rfl)).2
                          have h3I : (i : Int) + 1 ≤ s.size := by omega
                          have hg : markG (ltr s i) = .semi := by rw [hm]; rfl
                          rw [hcm, hg] at hres
                          rw [hg] at htx
                          have Hres := hide hres
                          clear hres hcm
                          have m58 : (ltr s i == 58) = false := by rw [hm]; rfl
                          have m40 : (ltr s i == 40) = false := by rw [hm]; rfl
                          have m41 : (ltr s i == 41) = false := by rw [hm]; rfl
                          have m44 : (ltr s i == 44) = false := by rw [hm]; rfl
                          have m59 : (ltr s i == 59) = true := by rw [hm]; rfl
                          have hcc : ¬ (65 : Int) ≤ ltr s i := by rw [hm]; omega
                          clear hm hg
                          have Htx := hide htx
                          clear htx
                          have hah := hide (aheadT_step (g := .semi) (n := 1) Hres.out)
                          clear Hres
                          obtain ⟨ay, cy, hy⟩ := ownE_len own
                          subst hy
                          have kA := Keeps.alloc [] wr (.cells #[.int .u8 115, .string (s.extract i (i + 1)), .int .i64 0, .int .i64 l] 245)
                          have kB := kA.trans (Keeps.alloc [] (wr.alloc (.cells #[.int .u8 115, .string (s.extract i (i + 1)), .int .i64 0, .int .i64 l] 245)) (.cells #[.int .u8 115, .string (s.extract i (i + 1)), .int .i64 0, .int .i64 l] 245))
                          have ownB := ownsRow_kept own kB (by simp)
                          have hone := rt_cell (W := wr.alloc (.cells #[.int .u8 115, .string (s.extract i (i + 1)), .int .i64 0, .int .i64 l] 245)) (a := .int .u8 115) (b := .string (s.extract i (i + 1))) (c := .int .i64 0) (d := .int .i64 l)
                          have hszB : w.heap.size ≤ ((wr.alloc (.cells #[.int .u8 115, .string (s.extract i (i + 1)), .int .i64 0, .int .i64 l] 245)).alloc (.cells #[.int .u8 115, .string (s.extract i (i + 1)), .int .i64 0, .int .i64 l] 245)).heap.size := by rw [sizeE_alloc, sizeE_alloc]; have := kr.size; omega
                          rw [sizeE_alloc] at hone
                          go_wp2_with (at_builtin; refine wpList_append_own_at _ rfl _ _ 241 rfl w.heap.size 245 i0 (.agg #[.int .u8 0, .string ⟨#[]⟩, .int .i64 0, .int .i64 0]) 4 40 Tryz.underlying241 hi0 hz0 hz1 hz2 rfl (by decide) _ ts.length (rcells ts) rfl ownB ⟨wr.heap.size + 1, 0, none⟩ 1 1 [.int .u8 115, .string (s.extract i (i + 1)), .int .i64 0, .int .i64 l] rfl (by simp) hone (by simp [Value.oneCell']) (by unfold maxLen; omega) (by omega) hszB ?_)
                          intro v' W2 own2 grow2 nil2 at2
                          have k2 := grownBy_keeps' grow2 (Value.slice ay ts.length cy).ownBlock.toList (fun r e => .inl (by simp [e]))
                          have kf : Keeps [] w W2 := (kr.trans kB).trans_new k2 fun j hj => .inr (ownE_base own j (by simpa using hj)).1
                          go_wp2_with fail
                          go_roundw
                          · exact ⟨k, l, i + 1, ts ++ [⟨.semi, l⟩], rfl, by simp, by omega, by omega, by rw [List.length_append, List.length_singleton]; omega, by omega, by rw [rcells_append, List.length_append]; (rw [show rcells [(⟨.semi, l⟩ : Tn)] = [.int .u8 115, .string (s.extract i (i + 1)), .int .i64 0, .int .i64 l] by rw [Htx.out]; rfl]; exact own2), kf, hah.out⟩
                          · simp only [intOf]; omega
                        · have n59 : ¬ ltr s i = 59 := hm
                          clear hm
                          by_cases hm : ltr s i = 46
                          · as_aux_lemma =>
                            have hcm := (cutG_mark h0 (by rw [hm]; rfl)).1
                            have htx := (cutG_mark h0 (by rw [hm]; rfl)).2
                            have h3I : (i : Int) + 1 ≤ s.size := by omega
                            have hg : markG (ltr s i) = .dot := by rw [hm]; rfl
                            rw [hcm, hg] at hres
                            rw [hg] at htx
                            have Hres := hide hres
                            clear hres hcm
                            have m58 : (ltr s i == 58) = false := by rw [hm]; rfl
                            have m40 : (ltr s i == 40) = false := by rw [hm]; rfl
                            have m41 : (ltr s i == 41) = false := by rw [hm]; rfl
                            have m44 : (ltr s i == 44) = false := by rw [hm]; rfl
                            have m59 : (ltr s i == 59) = false := by rw [hm]; rfl
                            have m46 : (ltr s i == 46) = true := by rw [hm]; rfl
                            have hcc : ¬ (65 : Int) ≤ ltr s i := by rw [hm]; omega
                            clear hm hg
                            have Htx := hide htx
                            clear htx
                            have hah := hide (aheadT_step (g := .dot) (n := 1) Hres.out)
                            clear Hres
                            obtain ⟨ay, cy, hy⟩ := ownE_len own
                            subst hy
                            have kA := Keeps.alloc [] wr (.cells #[.int .u8 115, .string (s.extract i (i + 1)), .int .i64 0, .int .i64 l] 245)
                            have kB := kA.trans (Keeps.alloc [] (wr.alloc (.cells #[.int .u8 115, .string (s.extract i (i + 1)), .int .i64 0, .int .i64 l] 245)) (.cells #[.int .u8 115, .string (s.extract i (i + 1)), .int .i64 0, .int .i64 l] 245))
                            have ownB := ownsRow_kept own kB (by simp)
                            have hone := rt_cell (W := wr.alloc (.cells #[.int .u8 115, .string (s.extract i (i + 1)), .int .i64 0, .int .i64 l] 245)) (a := .int .u8 115) (b := .string (s.extract i (i + 1))) (c := .int .i64 0) (d := .int .i64 l)
                            have hszB : w.heap.size ≤ ((wr.alloc (.cells #[.int .u8 115, .string (s.extract i (i + 1)), .int .i64 0, .int .i64 l] 245)).alloc (.cells #[.int .u8 115, .string (s.extract i (i + 1)), .int .i64 0, .int .i64 l] 245)).heap.size := by rw [sizeE_alloc, sizeE_alloc]; have := kr.size; omega
                            rw [sizeE_alloc] at hone
                            go_wp2_with (at_builtin; refine wpList_append_own_at _ rfl _ _ 241 rfl w.heap.size 245 i0 (.agg #[.int .u8 0, .string ⟨#[]⟩, .int .i64 0, .int .i64 0]) 4 40 Tryz.underlying241 hi0 hz0 hz1 hz2 rfl (by decide) _ ts.length (rcells ts) rfl ownB ⟨wr.heap.size + 1, 0, none⟩ 1 1 [.int .u8 115, .string (s.extract i (i + 1)), .int .i64 0, .int .i64 l] rfl (by simp) hone (by simp [Value.oneCell']) (by unfold maxLen; omega) (by omega) hszB ?_)
                            intro v' W2 own2 grow2 nil2 at2
                            have k2 := grownBy_keeps' grow2 (Value.slice ay ts.length cy).ownBlock.toList (fun r e => .inl (by simp [e]))
                            have kf : Keeps [] w W2 := (kr.trans kB).trans_new k2 fun j hj => .inr (ownE_base own j (by simpa using hj)).1
                            go_wp2_with fail
                            go_roundw
                            · exact ⟨k, l, i + 1, ts ++ [⟨.dot, l⟩], rfl, by simp, by omega, by omega, by rw [List.length_append, List.length_singleton]; omega, by omega, by rw [rcells_append, List.length_append]; (rw [show rcells [(⟨.dot, l⟩ : Tn)] = [.int .u8 115, .string (s.extract i (i + 1)), .int .i64 0, .int .i64 l] by rw [Htx.out]; rfl]; exact own2), kf, hah.out⟩
                            · simp only [intOf]; omega
                          · have n46 : ¬ ltr s i = 46 := hm
                            clear hm
                            by_cases hm : ltr s i = 33
                            · as_aux_lemma =>
                              have hcm := (cutG_mark h0 (by rw [hm]; rfl)).1
                              have htx := (cutG_mark h0 (by rw [hm]; rfl)).2
                              have h3I : (i : Int) + 1 ≤ s.size := by omega
                              have hg : markG (ltr s i) = .bang := by rw [hm]; rfl
                              rw [hcm, hg] at hres
                              rw [hg] at htx
                              have Hres := hide hres
                              clear hres hcm
                              have m58 : (ltr s i == 58) = false := by rw [hm]; rfl
                              have m40 : (ltr s i == 40) = false := by rw [hm]; rfl
                              have m41 : (ltr s i == 41) = false := by rw [hm]; rfl
                              have m44 : (ltr s i == 44) = false := by rw [hm]; rfl
                              have m59 : (ltr s i == 59) = false := by rw [hm]; rfl
                              have m46 : (ltr s i == 46) = false := by rw [hm]; rfl
                              have m33 : (ltr s i == 33) = true := by rw [hm]; rfl
                              have hcc : ¬ (65 : Int) ≤ ltr s i := by rw [hm]; omega
                              clear hm hg
                              have Htx := hide htx
                              clear htx
                              have hah := hide (aheadT_step (g := .bang) (n := 1) Hres.out)
                              clear Hres
                              obtain ⟨ay, cy, hy⟩ := ownE_len own
                              subst hy
                              have kA := Keeps.alloc [] wr (.cells #[.int .u8 115, .string (s.extract i (i + 1)), .int .i64 0, .int .i64 l] 245)
                              have kB := kA.trans (Keeps.alloc [] (wr.alloc (.cells #[.int .u8 115, .string (s.extract i (i + 1)), .int .i64 0, .int .i64 l] 245)) (.cells #[.int .u8 115, .string (s.extract i (i + 1)), .int .i64 0, .int .i64 l] 245))
                              have ownB := ownsRow_kept own kB (by simp)
                              have hone := rt_cell (W := wr.alloc (.cells #[.int .u8 115, .string (s.extract i (i + 1)), .int .i64 0, .int .i64 l] 245)) (a := .int .u8 115) (b := .string (s.extract i (i + 1))) (c := .int .i64 0) (d := .int .i64 l)
                              have hszB : w.heap.size ≤ ((wr.alloc (.cells #[.int .u8 115, .string (s.extract i (i + 1)), .int .i64 0, .int .i64 l] 245)).alloc (.cells #[.int .u8 115, .string (s.extract i (i + 1)), .int .i64 0, .int .i64 l] 245)).heap.size := by rw [sizeE_alloc, sizeE_alloc]; have := kr.size; omega
                              rw [sizeE_alloc] at hone
                              go_wp2_with (at_builtin; refine wpList_append_own_at _ rfl _ _ 241 rfl w.heap.size 245 i0 (.agg #[.int .u8 0, .string ⟨#[]⟩, .int .i64 0, .int .i64 0]) 4 40 Tryz.underlying241 hi0 hz0 hz1 hz2 rfl (by decide) _ ts.length (rcells ts) rfl ownB ⟨wr.heap.size + 1, 0, none⟩ 1 1 [.int .u8 115, .string (s.extract i (i + 1)), .int .i64 0, .int .i64 l] rfl (by simp) hone (by simp [Value.oneCell']) (by unfold maxLen; omega) (by omega) hszB ?_)
                              intro v' W2 own2 grow2 nil2 at2
                              have k2 := grownBy_keeps' grow2 (Value.slice ay ts.length cy).ownBlock.toList (fun r e => .inl (by simp [e]))
                              have kf : Keeps [] w W2 := (kr.trans kB).trans_new k2 fun j hj => .inr (ownE_base own j (by simpa using hj)).1
                              go_wp2_with fail
                              go_roundw
                              · exact ⟨k, l, i + 1, ts ++ [⟨.bang, l⟩], rfl, by simp, by omega, by omega, by rw [List.length_append, List.length_singleton]; omega, by omega, by rw [rcells_append, List.length_append]; (rw [show rcells [(⟨.bang, l⟩ : Tn)] = [.int .u8 115, .string (s.extract i (i + 1)), .int .i64 0, .int .i64 l] by rw [Htx.out]; rfl]; exact own2), kf, hah.out⟩
                              · simp only [intOf]; omega
                            · have n33 : ¬ ltr s i = 33 := hm
                              clear hm
                              by_cases har : i + 1 < s.size ∧ ltr s i = 58 ∧ ltr s (i + 1) = 45
                              · as_aux_lemma =>
                                obtain ⟨h1, hm, hm1⟩ := har
                                have hcm := (cutG_arrow h1 hm hm1).1
                                have Htx := hide (cutG_arrow h1 hm hm1).2
                                rw [hcm] at hres
                                have Hres := hide hres
                                have h1I : (i : Int) + 1 < s.size := by omega
                                have h2I : (i : Int) + 2 ≤ s.size := by omega
                                have hl1 := ltr_at h1
                                have m58 : (ltr s i == 58) = true := by rw [hm]; rfl
                                have m45 : (ltr s (i + 1) == 45) = true := by rw [hm1]; rfl
                                have hcc : ¬ (65 : Int) ≤ ltr s i := by rw [hm]; omega
                                clear hm hm1 hres hcm
                                have hah := hide (aheadT_step (g := .arrow) (n := 2) Hres.out)
                                clear Hres
                                obtain ⟨ay, cy, hy⟩ := ownE_len own
                                subst hy
                                have kA := Keeps.alloc [] wr (.cells #[.int .u8 115, .string (s.extract i (i + 2)), .int .i64 0, .int .i64 l] 245)
                                have kB := kA.trans (Keeps.alloc [] (wr.alloc (.cells #[.int .u8 115, .string (s.extract i (i + 2)), .int .i64 0, .int .i64 l] 245)) (.cells #[.int .u8 115, .string (s.extract i (i + 2)), .int .i64 0, .int .i64 l] 245))
                                have ownB := ownsRow_kept own kB (by simp)
                                have hone := rt_cell (W := wr.alloc (.cells #[.int .u8 115, .string (s.extract i (i + 2)), .int .i64 0, .int .i64 l] 245)) (a := .int .u8 115) (b := .string (s.extract i (i + 2))) (c := .int .i64 0) (d := .int .i64 l)
                                have hszB : w.heap.size ≤ ((wr.alloc (.cells #[.int .u8 115, .string (s.extract i (i + 2)), .int .i64 0, .int .i64 l] 245)).alloc (.cells #[.int .u8 115, .string (s.extract i (i + 2)), .int .i64 0, .int .i64 l] 245)).heap.size := by rw [sizeE_alloc, sizeE_alloc]; have := kr.size; omega
                                rw [sizeE_alloc] at hone
                                go_wp2_with (at_builtin; refine wpList_append_own_at _ rfl _ _ 241 rfl w.heap.size 245 i0 (.agg #[.int .u8 0, .string ⟨#[]⟩, .int .i64 0, .int .i64 0]) 4 40 Tryz.underlying241 hi0 hz0 hz1 hz2 rfl (by decide) _ ts.length (rcells ts) rfl ownB ⟨wr.heap.size + 1, 0, none⟩ 1 1 [.int .u8 115, .string (s.extract i (i + 2)), .int .i64 0, .int .i64 l] rfl (by simp) hone (by simp [Value.oneCell']) (by unfold maxLen; omega) (by omega) hszB ?_)
                                intro v' W2 own2 grow2 nil2 at2
                                have k2 := grownBy_keeps' grow2 (Value.slice ay ts.length cy).ownBlock.toList (fun r e => .inl (by simp [e]))
                                have kf : Keeps [] w W2 := (kr.trans kB).trans_new k2 fun j hj => .inr (ownE_base own j (by simpa using hj)).1
                                go_wp2_with fail
                                go_roundw
                                · exact ⟨k, l, i + 2, ts ++ [⟨.arrow, l⟩], rfl, by simp, by omega, by omega, by rw [List.length_append, List.length_singleton]; omega, by omega, by rw [rcells_append, List.length_append]; (rw [show rcells [(⟨.arrow, l⟩ : Tn)] = [.int .u8 115, .string (s.extract i (i + 2)), .int .i64 0, .int .i64 l] by rw [Htx.out]; rfl]; exact own2), kf, hah.out⟩
                                · simp only [intOf]; omega
                              · as_aux_lemma =>
                                have hmk : isMark (ltr s i) = false := by
                                  simp only [isMark, Bool.or_eq_false_iff, beq_eq_false_iff_ne]
                                  exact ⟨⟨⟨⟨⟨n40, n41⟩, n44⟩, n59⟩, n46⟩, n33⟩
                                rw [cutG_none hlow hcap hdig hmk har] at hres
                                have Hres := hide hres
                                have kA := Keeps.alloc [] wr (.cells #[.int .u8 0, .string ⟨#[]⟩, .int .i64 0, .int .i64 l] 245)
                                have m40 : (ltr s i == 40) = false := by rw [beq_eq_false_iff_ne]; exact n40
                                have m41 : (ltr s i == 41) = false := by rw [beq_eq_false_iff_ne]; exact n41
                                have m44 : (ltr s i == 44) = false := by rw [beq_eq_false_iff_ne]; exact n44
                                have m59 : (ltr s i == 59) = false := by rw [beq_eq_false_iff_ne]; exact n59
                                have m46 : (ltr s i == 46) = false := by rw [beq_eq_false_iff_ne]; exact n46
                                have m33 : (ltr s i == 33) = false := by rw [beq_eq_false_iff_ne]; exact n33
                                clear n40 n41 n44 n59 n46 n33 hres
                                by_cases hm : ltr s i = 58
                                · have m58 : (ltr s i == 58) = true := by rw [hm]; rfl
                                  have hcc : ¬ (65 : Int) ≤ ltr s i := by rw [hm]; omega
                                  by_cases h1 : i + 1 < s.size
                                  · have h1I : (i : Int) + 1 < s.size := by omega
                                    have hl1 := ltr_at h1
                                    have m45 : (ltr s (i + 1) == 45) = false := by rw [beq_eq_false_iff_ne]; exact fun h => har ⟨h1, hm, h⟩
                                    clear har hm
                                    go_wp2_with fail
                                    go_ret2
                                    rw [← Hres.out]
                                    exact ⟨rfl, kr.trans kA⟩
                                  · have h1I : ¬ (i : Int) + 1 < s.size := by omega
                                    clear har hm
                                    go_wp2_with fail
                                    go_ret2
                                    rw [← Hres.out]
                                    exact ⟨rfl, kr.trans kA⟩
                                · have m58 : (ltr s i == 58) = false := by rw [beq_eq_false_iff_ne]; exact hm
                                  by_cases hcc : (65 : Int) ≤ ltr s i
                                  · have hcd : ¬ ltr s i ≤ 90 := fun h => by simp [isCap, hcc, h] at hcap
                                    clear har hm
                                    go_wp2_with fail
                                    go_ret2
                                    rw [← Hres.out]
                                    exact ⟨rfl, kr.trans kA⟩
                                  · clear har hm
                                    go_wp2_with fail
                                    go_ret2
                                    rw [← Hres.out]
                                    exact ⟨rfl, kr.trans kA⟩
    · have hI : ¬ (i : Int) < s.size := by omega
      as_aux_lemma =>
      rw [scanT_nil h0] at hres
      simp only [aheadT, List.append_nil] at hres
      have Hres := hide hres
      clear hres hR
      obtain ⟨ay, cy, hy⟩ := ownE_len own
      subst hy
      have kB := Keeps.alloc [] wr (.cells #[.int .u8 101, .string ⟨#[]⟩, .int .i64 0, .int .i64 l] 245)
      have ownB := ownsRow_kept own kB (by simp)
      have hone := rt_cell (W := wr) (a := .int .u8 101) (b := .string ⟨#[]⟩) (c := .int .i64 0) (d := .int .i64 l)
      have hszB : w.heap.size ≤ (wr.alloc (.cells #[.int .u8 101, .string ⟨#[]⟩, .int .i64 0, .int .i64 l] 245)).heap.size := by rw [sizeE_alloc]; have := kr.size; omega
      go_wp2_with (at_builtin; refine wpList_append_own_at _ rfl _ _ 241 rfl w.heap.size 245 i0 (.agg #[.int .u8 0, .string ⟨#[]⟩, .int .i64 0, .int .i64 0]) 4 40 Tryz.underlying241 hi0 hz0 hz1 hz2 rfl (by decide) _ ts.length (rcells ts) rfl ownB ⟨wr.heap.size, 0, none⟩ 1 1 [.int .u8 101, .string ⟨#[]⟩, .int .i64 0, .int .i64 l] rfl (by simp) hone (by simp [Value.oneCell']) (by unfold maxLen; omega) (by omega) hszB ?_)
      intro v' W2 own2 grow2 nil2 at2
      have k2 := grownBy_keeps' grow2 (Value.slice ay ts.length cy).ownBlock.toList (fun r e => .inl (by simp [e]))
      have kf : Keeps [] w W2 := (kr.trans kB).trans_new k2 fun j hj => .inr (ownE_base own j (by simpa using hj)).1
      go_wp2_with fail
      go_ret2
      rw [← Hres.out]
      exact ⟨⟨_, rfl, by unfold withEnd; rw [rcells_append]; exact own2⟩, kf⟩

end Go.Proofs.YtgjomknpjigkhaaGreatDoor
