/- Texts: O5. -/
import Derived.Test.YtgjomknpjigkhaaGreatDoorT29
import Derived.Deep.DeepCutAuto
namespace Go.Proofs.YtgjomknpjigkhaaGreatDoor
open Go.RowKit

def fltOf {α : Type} : Except Flt α → Flt
  | .error f => f
  | .ok _ => (0, 0)
def outOf : Except Flt (List Tn × Mean) → ByteArray
  | .error _ => ⟨#[]⟩
  | .ok (toks, _) => progOut false toks

theorem readS_ok {s : ByteArray} {toks : List Tn} {m : Mean} (h : readS s = .ok (toks, m)) : s.size ≤ 1200 ∧ ∃ ts l is, scanT s.size s 1 = .inl (ts, l) ∧ toks = withEnd ts l ∧ itemsG toks.length toks = .ok is ∧ senseS emptyM is = .ok m := by
  unfold readS at h
  split at h
  · cases h
  · refine ⟨by omega, ?_⟩
    split at h
    · cases h
    · rename_i ts l hs
      split at h
      · cases h
      · rename_i is hi
        split at h
        · cases h
        · rename_i me hm
          split at h
          · cases h
          · cases h
            exact ⟨ts, l, is, hs, rfl, hi, hm⟩
theorem readS_toks {s : ByteArray} {toks : List Tn} {m : Mean} (h : readS s = .ok (toks, m)) : toks.length ≤ 1201 ∧ ∀ t ∈ toks, WfG t.g ∨ t.g = .fin := by
  obtain ⟨h0, ts, l, is, hs, rfl, _⟩ := readS_ok h
  have h1 := (scanT_len hs).1
  have h2 := scanT_wf hs
  refine ⟨by simp [withEnd]; omega, fun t ht => ?_⟩
  simp only [withEnd, List.mem_append, List.mem_singleton] at ht
  rcases ht with ht | rfl
  · exact .inl (h2 t ht)
  · exact .inr rfl

/-- Where a text's reading ends, as its caller sees it. -/
theorem thTo_val {z : Nat} {r : Except Flt (List Tn × Mean)} {e : Ending} {w' : World} (h : ThTo z r e w') : ∃ p : Value, e = .returned (.tuple #[p, .agg #[.int .i64 (fltOf r).1, .int .i64 (fltOf r).2]]) ∧ ((p = .pointer none ∧ ∃ f, r = .error f) ∨ ∃ b, p = .pointer (some ⟨b, 0, none⟩)) := by
  cases r with
  | error f => exact ⟨_, h, .inl ⟨rfl, f, rfl⟩⟩
  | ok q =>
    obtain ⟨toks, m⟩ := q
    obtain ⟨p, vals, rv, cl, tv, rvs, kvs, he, _⟩ := h
    exact ⟨_, he, .inr ⟨p, rfl⟩⟩

set_option maxRecDepth 100000 in
set_option maxHeartbeats 2000000 in
theorem check_text {w : World} (s : ByteArray) (hs : s.size ≤ 9223372036854775807) : Calls Tryz.prog 15 #[.string s] w fun e w' => e = .returned (.agg #[.int .i64 (fltOf (readS s)).1, .int .i64 (fltOf (readS s)).2]) ∧ Keeps [] w w' := by
  have kA := Keeps.alloc [] w (.cells #[.int .i64 0, .int .i64 0] 28)
  have hF := CellsAt.new w #[.int .i64 0, .int .i64 0] 28
  have hrd := hide (thread_calls (w := w.alloc (.cells #[.int .i64 0, .int .i64 0] 28)) s hs)
  generalize hX : (fltOf (readS s)).1 = X at *
  generalize hY : (fltOf (readS s)).2 = Y at *
  go_enter Tryz.func15, Tryz.ntmps15
  go_wp2_with fail
  refine hrd.out.mono ?_
  rintro e w1 ⟨hto, k1⟩
  obtain ⟨p, rfl, hp⟩ := thTo_val hto
  rw [hX, hY]
  clear hto hrd
  have hF1 := hF.keeps k1 (by simp)
  have hsz := k1.size
  rw [sizeE_alloc] at hsz
  have kB := Keeps.alloc [] w1 (.cells #[.int .i64 X, .int .i64 Y] 28)
  obtain ⟨c0, f0, c1, f1, hat, hk⟩ := res2 (hF1.keeps kB (by simp)) (.int .i64 X) (.int .i64 Y)
  have Hat2 := hide hat
  have HK := hide (((kA.trans k1).trans kB).trans_new hk (by simp))
  clear hk hat kB hF1 kA hF k1 hX hY
  obtain ⟨fs, hfs⟩ := und28
  rcases hp with ⟨rfl, _⟩ | ⟨b, rfl⟩
  · go_wp2_with fail
    exact bodyPost_ret (v := .agg #[.int .i64 X, .int .i64 Y]) (ret_cell (p := 2) (ty := 28) (by kernel_rfl) _ Hat2.out hfs size28 rfl) rfl ⟨rfl, HK.out⟩
  · go_wp2_with fail
    exact bodyPost_ret (v := .agg #[.int .i64 X, .int .i64 Y]) (ret_cell (p := 2) (ty := 28) (by kernel_rfl) _ Hat2.out hfs size28 rfl) rfl ⟨rfl, HK.out⟩

set_option maxRecDepth 100000 in
set_option maxHeartbeats 2000000 in
theorem print_text {w : World} (s : ByteArray) (hs : s.size ≤ 9223372036854775807) : Calls Tryz.prog 14 #[.string s] w fun e w' => e = .returned (.tuple #[.string (outOf (readS s)), .agg #[.int .i64 (fltOf (readS s)).1, .int .i64 (fltOf (readS s)).2]]) ∧ Keeps [] w w' := by
  have kA := Keeps.alloc [] w (.cells #[.int .i64 0, .int .i64 0] 28)
  have hF := CellsAt.new w #[.int .i64 0, .int .i64 0] 28
  have hrd := hide (thread_calls (w := w.alloc (.cells #[.int .i64 0, .int .i64 0] 28)) s hs)
  rw [sizeE_alloc] at hrd
  obtain ⟨fs, hfs⟩ := und28
  cases hR : readS s with
  | error f =>
    rw [hR] at hrd
    go_enter Tryz.func14, Tryz.ntmps14
    go_wp2_with fail
    refine hrd.out.mono ?_
    rintro e w1 ⟨rfl, k1⟩
    have hF1 := hF.keeps k1 (by simp)
    have hsz := k1.size
    rw [sizeE_alloc] at hsz
    have kB := Keeps.alloc [] w1 (.cells #[.int .i64 f.1, .int .i64 f.2] 28)
    have hG := CellsAt.new w1 #[.int .i64 f.1, .int .i64 f.2] 28
    obtain ⟨c0, f0, c1, f1, hat, hk⟩ := res2 (hF1.keeps kB (by simp)) (.int .i64 f.1) (.int .i64 f.2)
    have HK := hide (((kA.trans k1).trans kB).trans_new hk (by simp))
    have Hat := hide hat
    clear hrd k1 kA kB hF hF1 hat hk hG
    go_wp2_with fail
    go_region_law (fail)
    all_goals
      go_wp2_with fail
      exact bodyPost_ret (ret_two (t := 2) (p := 3) (ty := 28) (by kernel_rfl) _ (Hat.out.keeps (Keeps.drew [] _) (by simp)) hfs size28 rfl) rfl ⟨rfl, HK.out.trans (Keeps.drew [] _)⟩
  | ok q =>
    obtain ⟨toks, m⟩ := q
    rw [hR] at hrd
    have htk := readS_toks hR
    go_enter Tryz.func14, Tryz.ntmps14
    go_wp2_with fail
    refine hrd.out.mono ?_
    rintro e w1 ⟨⟨p, vals, rv, cl, tv, rvs, kvs, rfl, hP⟩, k1⟩
    have hF1 := hF.keeps k1 (by simp)
    have hsz := k1.size
    rw [sizeE_alloc] at hsz
    have kB := Keeps.alloc [] w1 (.cells #[.int .i64 0, .int .i64 0] 28)
    have hG := CellsAt.new w1 #[.int .i64 0, .int .i64 0] 28
    obtain ⟨ay, cy, hy⟩ := ownE_len hP.toks
    subst hy
    have hpr := hide (fun (W : World) (k : Keeps [] w1 W) => print36_calls toks (hP.cells.keeps k (by simp)) (ownsRow_kept hP.toks k (by simp)) (by omega) htk.2)
    obtain ⟨c0, f0, c1, f1, hat, hk⟩ := res2 (hF1.keeps kB (by simp)) (.int .i64 0) (.int .i64 0)
    have hF2 := hide (hF1.keeps kB (by simp))
    have HG := hide hG
    have HK := hide ((kA.trans k1).trans kB)
    have HkB := hide kB
    clear hrd k1 kA kB hF hF1 hat hk hG hP htk
    generalize hO : progOut false toks = O at *
    go_wp2_with fail
    go_region_law (refine step_callA rfl 36 _ _ rfl _ Tryz.func36 (by kernel_rfl) (by kernel_rfl) [.pointer (some ⟨p, 0, none⟩)] rfl ?_
                   refine (hpr.out _ (HkB.out.trans (Keeps.drew _ _))).mono ?_
                   rintro e w5 ⟨rfl, k5⟩
                   have q0 := (HG.out.keeps (Keeps.drew [] _) (by simp)).keeps k5 (by simp)
                   have q1 := (hF2.out.keeps (Keeps.drew [] _) (by simp)).keeps k5 (by simp)
                   have q2 := q0.cell 0
                   have q3 := q0.cell 1
                   obtain ⟨r0, r1, r2, r3, r4, r5⟩ := res2 q1 (.int .i64 0) (.int .i64 0))
    all_goals
      go_wp2_with fail
      exact bodyPost_ret (ret_two (t := 2) (p := 3) (ty := 28) (by kernel_rfl) _ r4 hfs size28 rfl) rfl ⟨by rw [← hO]; rfl, ((HK.out.trans (Keeps.drew [] _)).trans k5).trans_new r5 (by simp)⟩

end Go.Proofs.YtgjomknpjigkhaaGreatDoor
