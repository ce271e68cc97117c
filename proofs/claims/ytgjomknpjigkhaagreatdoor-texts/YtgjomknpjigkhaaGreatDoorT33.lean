/- Texts: P9 PA PQ PY. -/
import Derived.Test.YtgjomknpjigkhaaGreatDoorT23
import Derived.Test.YtgjomknpjigkhaaGreatDoorT31
import Derived.Test.YtgjomknpjigkhaaGreatDoorT17
import Derived.Test.YtgjomknpjigkhaaGreatDoorT32
import Derived.Test.YtgjomknpjigkhaaGreatDoorT26
import Derived.Test.YtgjomknpjigkhaaGreatDoorT20
import Derived.OrdersHeld
import Derived.Deep.AppendLies
namespace Go.Proofs.YtgjomknpjigkhaaGreatDoor
open Go.RowKit

/-! No fault has the code 0. -/
theorem addDom_code {m : Mean} {n i : Tn} {f : Flt} (h : addDom m n i = .error f) : f.1 ≠ 0 := by
  unfold addDom at h
  repeat' split at h
  all_goals first | (cases h; simp; done) | (cases h; done)
theorem colsS_code {m : Mean} {k : Nat} {cs : List Tn} {f : Flt} (h : colsS m k cs = .error f) : f.1 ≠ 0 := by
  induction cs generalizing k with
  | nil => cases h
  | cons c cs ih =>
    simp only [colsS] at h
    split at h
    · cases h; simp
    · split at h
      · cases h; simp
      · split at h
        · rename_i hq
          cases h
          exact ih hq
        · cases h
theorem addRel_code {m : Mean} {n : Tn} {cs : List Tn} {f : Flt} (h : addRel m n cs = .error f) : f.1 ≠ 0 := by
  unfold addRel at h
  split at h
  · cases h; simp
  · split at h
    · cases h; simp
    · split at h
      · rename_i hq
        cases h
        exact colsS_code hq
      · cases h
theorem termS_code {m : Mean} {sc : Scope} {t : Tn} {d : Nat} {f : Flt} (h : termS m sc t d = .error f) : f.1 ≠ 0 := by
  unfold termS at h
  repeat' split at h
  all_goals first | (cases h; simp; done) | (cases h; done)
theorem termsS_code {m : Mean} {sc : Scope} {ts : List Tn} {ds : List Nat} {f : Flt} (h : termsS m sc ts ds = .error f) : f.1 ≠ 0 := by
  induction ts generalizing sc ds with
  | nil => simp [termsS] at h
  | cons t ts ih => cases ds with
    | nil => simp [termsS] at h
    | cons d ds =>
      simp only [termsS] at h
      split at h
      · rename_i hq
        cases h
        exact termS_code hq
      · split at h
        · rename_i hq
          cases h
          exact ih hq
        · cases h
theorem atomS_code {m : Mean} {sc : Scope} {a : AtomI} {f : Flt} (h : atomS m sc a = .error f) : f.1 ≠ 0 := by
  unfold atomS at h
  split at h
  · cases h; simp
  · split at h
    · cases h; simp
    · split at h
      · rename_i hq
        cases h
        exact termsS_code hq
      · cases h
theorem litsS_code {m : Mean} {sc : Scope} {k : Nat} {ls : List LitI} {f : Flt} (h : litsS m sc k ls = .error f) : f.1 ≠ 0 := by
  induction ls generalizing sc k with
  | nil => cases h
  | cons l ls ih =>
    simp only [litsS] at h
    split at h
    · cases h; simp
    · split at h
      · rename_i hq
        cases h
        exact atomS_code hq
      · split at h
        · rename_i hq
          cases h
          exact ih hq
        · cases h
theorem addClause_code {m : Mean} {a : AtomI} {ls : List LitI} {f : Flt} (h : addClause m a ls = .error f) : f.1 ≠ 0 := by
  unfold addClause at h
  split at h
  · cases h; simp
  · split at h
    · rename_i hq
      cases h
      exact atomS_code hq
    · split at h
      · rename_i hq
        cases h
        exact litsS_code hq
      · cases h
theorem senseS_code {m : Mean} {is : List ItemI} {f : Flt} (h : senseS m is = .error f) : f.1 ≠ 0 := by
  induction is generalizing m with
  | nil => cases h
  | cons i is ih =>
    simp only [senseS] at h
    split at h
    · rename_i hq
      cases h
      cases i with
      | dom n z => exact addDom_code hq
      | rel n cs => exact addRel_code hq
      | clause a ls => exact addClause_code hq
    · exact ih h

/-- What the document's sense leaves. -/
def SensTo (w' : World) (P : Nat) (tv : Value) (is : List ItemI) : Except Flt Mean → Prop
  | .error f => ∃ a b c, CellsAt w' P #[a, b, c, tv, .int .i64 f.1, .int .i64 f.2]
  | .ok me => ∃ dv rv kv kcs, RP w' (P + 1) P me.rels.length [] (clausesI is) me.clauses dv rv kv tv (.int .i64 0) (.int .i64 0) kcs

theorem ItemsAt.ne {toks : List Tn} {i : Nat} {is : List ItemI} (h : ItemsAt toks i is) : ∀ c ∈ clausesI is, c.1.terms ≠ [] ∧ ∀ l ∈ c.2, l.atom.terms ≠ [] := by
  have hl : ∀ (ls : List LitI) (i j : Nat), LitsAt toks i ls j → ∀ l ∈ ls, l.atom.terms ≠ [] := by
    intro ls
    induction ls with
    | nil => intro i j _ l hl; cases hl
    | cons x ls ih =>
      intro i j h l hl
      obtain ⟨_, h1, h2⟩ := h
      rcases List.mem_cons.1 hl with rfl | hl
      · exact h1.atom.list.some
      · exact ih _ _ h2 l hl
  induction is generalizing i with
  | nil => intro c hc; cases hc
  | cons x is ih =>
    obtain ⟨nx, h1, _, h2⟩ := h
    cases x with
    | dom n z => exact ih h2
    | rel n cs => exact ih h2
    | clause a ls =>
      intro c hc
      rcases List.mem_cons.1 hc with rfl | hc
      · obtain ⟨q1, _, j, q2, _⟩ := h1
        refine ⟨q1.list.some, fun l hl' => ?_⟩
        cases ls with
        | nil => cases hl'
        | cons y ls =>
          obtain ⟨_, b1, b2⟩ := q2
          rcases List.mem_cons.1 hl' with rfl | hl'
          · exact b1.atom.list.some
          · exact hl _ _ _ b2 l hl'
      · exact ih h2 c hc

end Go.Proofs.YtgjomknpjigkhaaGreatDoor

namespace Go.Proofs.YtgjomknpjigkhaaGreatDoor
open Go.RowKit

/-- What is asked of sense. -/
def SensOk (toks : List Tn) (is : List ItemI) : Prop := ∀ (w : World) (P b : Nat) (tv : Value), CellsAt w P #[.slice none 0 0, .slice none 0 0, .slice none 0 0, tv, .int .i64 0, .int .i64 0] → w.heap.size = P + 1 → w.ownsRow b 245 4 tv toks.length (rtCs toks) → Calls Tryz.prog 230 #[.pointer (some ⟨P, 0, none⟩)] w fun e w' => e = .returned (.tuple #[]) ∧ SensTo w' P tv is (senseS emptyM is) ∧ Keeps [P] w w'

theorem rtok_row {w : World} {b g n c : Nat} {ts : List Tn} (h : w.ownsRow b 245 4 (.slice (some ⟨g, 0, none⟩) n c) n (rtCs ts)) : RTok w g ts := by
  obtain ⟨_, ⟨h1, _⟩ | ⟨g', cap, cur, hv, hb', hg, hn, hc', hs', htk⟩⟩ := id h
  · cases h1
  · cases hv
    refine ⟨cur, ⟨_, hg⟩, fun i t hi => ?_⟩
    have q := ownTok h hi
    have hcc : CellsAt w g cur := ⟨_, hg⟩
    rw [hcc.cell, hcc.cell, hcc.cell, hcc.cell] at q
    exact q

theorem itemsG_pos_line {ts : List Tn} {m l : Nat} (hts : (∀ t ∈ ts, 1 ≤ t.line) ∧ 1 ≤ m) (e : Ended (withEnd ts m)) (h : itemsG (withEnd ts m).length (withEnd ts m) = .error l) : 1 ≤ l := by
  obtain ⟨t, ht, rfl⟩ := items_line (Nat.le_refl _) e h
  rcases List.mem_append.1 ht with q | q
  · exact hts.1 t q
  · have e : t = ⟨.fin, m⟩ := (by simpa using q)
    rw [e]
    exact hts.2

set_option maxRecDepth 100000 in
set_option maxHeartbeats 8000000 in
theorem rread_long {w : World} (s : ByteArray) (h : 1200 < s.size) (hs : s.size ≤ 9223372036854775807) : Calls Tryz.prog 159 #[.string s] w fun e w' => RdTo w.heap.size (readS s) e w' ∧ Keeps [] w w' := by
  have hr : readS s = .error (4, 0) := by unfold readS; rw [if_pos h]
  rw [hr]
  have kA := Keeps.alloc [] w (.cells #[.int .i64 0, .int .i64 0] 28)
  have hF := CellsAt.new w #[.int .i64 0, .int .i64 0] 28
  obtain ⟨fs, hfs⟩ := und28
  obtain ⟨c0, f0, c1, f1, hat, hk⟩ := res2 hF (.int .i64 4) (.int .i64 0)
  have hI : (1200 : Int) < s.size := by omega
  have Hat := hide (CellsAt.new w #[.int .i64 4, .int .i64 0] 28)
  have HK := hide (Keeps.alloc [] w (.cells #[.int .i64 4, .int .i64 0] 28))
  clear hat hk hF kA hr
  go_enter Tryz.func159, Tryz.ntmps159
  go_wp2_with fail
  exact bodyPost_ret (ret_two (t := 2) (p := 3) (ty := 28) (by kernel_rfl) _ Hat.out hfs size28 rfl) rfl ⟨rfl, HK.out⟩

set_option maxRecDepth 100000 in
set_option maxHeartbeats 8000000 in
theorem rread_scan {w : World} (s : ByteArray) (h : ¬ 1200 < s.size) {l : Nat} (hT : scanT s.size s 1 = .inr l) : Calls Tryz.prog 159 #[.string s] w fun e w' => RdTo w.heap.size (.error (5, l)) e w' ∧ Keeps [] w w' := by
  have hl : 1 ≤ l := by have := scanT_lines (k := s.size) (s := s) (l := 1) (Nat.le_refl _); rw [hT] at this; exact this
  have htk := hide (tokens_calls (w := w.alloc (.cells #[.int .i64 0, .int .i64 0] 28)) s (by omega))
  rw [hT] at htk
  have kA := Keeps.alloc [] w (.cells #[.int .i64 0, .int .i64 0] 28)
  have hF := CellsAt.new w #[.int .i64 0, .int .i64 0] 28
  obtain ⟨fs, hfs⟩ := und28
  have hI : ¬ (1200 : Int) < s.size := by omega
  have hb : ((l : Int) == 0) = false := by rw [beq_eq_false_iff_ne]; omega
  have hl0 : (0 : Int) < l := by omega
  clear hT
  go_enter Tryz.func159, Tryz.ntmps159
  go_wp2_with fail
  refine htk.out.mono ?_
  rintro e w1 ⟨rfl, k1⟩
  have hF1 := hF.keeps k1 (by simp)
  obtain ⟨c0, f0, c1, f1, hat, hk⟩ := res2 hF1 (.int .i64 5) (.int .i64 l)
  have Hat := hide hat
  have HK := hide ((kA.trans k1).trans_new hk (by simp))
  clear hat hk hF1 hF kA k1 htk
  go_wp2_with fail
  exact bodyPost_ret (ret_two (t := 2) (p := 3) (ty := 28) (by kernel_rfl) _ Hat.out hfs size28 rfl) rfl ⟨rfl, HK.out⟩

/-- Tokens read, and their form. -/
theorem tok_form {s : ByteArray} (h : ¬ 1200 < s.size) {ts : List Tn} {m : Nat} (hT : scanT s.size s 1 = .inl (ts, m)) {W : World} {b : Nat} {v : Value} (hv : W.ownsRow b 245 4 v (ts.length + 1) (rtCs (withEnd ts m))) : ∃ g c, v = .slice (some ⟨g, 0, none⟩) (ts.length + 1) c ∧ Calls Tryz.prog 229 #[.slice (some ⟨g, 0, none⟩) (ts.length + 1) c] W fun e w' => e = .returned (.int .i64 (formLine (itemsG (withEnd ts m).length (withEnd ts m)))) ∧ Keeps [] W w' := by
  obtain ⟨a, c, rfl⟩ := ownE_len hv
  obtain ⟨g, hg⟩ := ownE_pos2 hv (by omega)
  subst hg
  have hwl : (withEnd ts m).length = ts.length + 1 := by simp [withEnd]
  have hlen := (scanT_len hT).1
  have hend := scanT_ended hT
  obtain ⟨n, hn, hf⟩ := items_form (Nat.le_refl (withEnd ts m).length) hend
  have hwf : ∀ t ∈ withEnd ts m, WfE t.g := fun t ht => by
    rcases List.mem_append.1 ht with q | q
    · exact .inl (scanT_wf hT t q)
    · have e : t = ⟨.fin, m⟩ := (by simpa using q)
      exact .inr (by rw [e])
  have hrow := rtok_row (ts := withEnd ts m) (n := ts.length + 1) hv
  have := form_calls (w := W) (g := g) (c := c) (withEnd ts m) _ n (by omega) hf (by omega) hwf hrow
  rw [hwl] at this
  refine ⟨g, c, rfl, ?_⟩
  rw [hwl]
  exact this

set_option maxRecDepth 100000 in
set_option maxHeartbeats 8000000 in
theorem rread_form {w : World} (s : ByteArray) (h : ¬ 1200 < s.size) {ts : List Tn} {m : Nat} (hT : scanT s.size s 1 = .inl (ts, m)) {l : Nat} (hG : itemsG (withEnd ts m).length (withEnd ts m) = .error l) : Calls Tryz.prog 159 #[.string s] w fun e w' => RdTo w.heap.size (.error (5, l)) e w' ∧ Keeps [] w w' := by
  have hlines := scanT_lines (k := s.size) (s := s) (l := 1) (Nat.le_refl _)
  rw [hT] at hlines
  have hl := itemsG_pos_line hlines (scanT_ended hT) hG
  have htk := hide (tokens_calls (w := w.alloc (.cells #[.int .i64 0, .int .i64 0] 28)) s (by omega))
  rw [hT] at htk
  have Hfm := hide (fun (W : World) (b : Nat) (v : Value) (hv : W.ownsRow b 245 4 v (ts.length + 1) (rtCs (withEnd ts m))) => tok_form h hT hv)
  rw [hG] at Hfm
  have kA := Keeps.alloc [] w (.cells #[.int .i64 0, .int .i64 0] 28)
  have hF := CellsAt.new w #[.int .i64 0, .int .i64 0] 28
  obtain ⟨fs, hfs⟩ := und28
  have hI : ¬ (1200 : Int) < s.size := by omega
  have hl0 : (0 : Int) < l := by omega
  clear hT hG hlines
  go_enter Tryz.func159, Tryz.ntmps159
  go_wp2_with fail
  refine htk.out.mono ?_
  rintro e w1 ⟨⟨v, rfl, hv⟩, k1⟩
  obtain ⟨g, c, rfl, hfm⟩ := Hfm.out w1 _ v hv
  have hfm := hide hfm
  clear hv
  go_wp2_with fail
  refine hfm.out.mono ?_
  rintro e w2 ⟨rfl, k2⟩
  have hF1 := hF.keeps (k1.trans k2) (by simp)
  obtain ⟨c0, f0, c1, f1, hat, hk⟩ := res2 hF1 (.int .i64 5) (.int .i64 l)
  have Hat := hide hat
  have HK := hide (((kA.trans k1).trans k2).trans_new hk (by simp))
  clear hat hk hF1 hF kA k1 htk
  simp only [formLine]
  go_wp2_with fail
  exact bodyPost_ret (ret_two (t := 2) (p := 3) (ty := 28) (by kernel_rfl) _ Hat.out hfs size28 rfl) rfl ⟨rfl, HK.out⟩

end Go.Proofs.YtgjomknpjigkhaaGreatDoor

namespace Go.Proofs.YtgjomknpjigkhaaGreatDoor
open Go.RowKit

theorem info314Q : (Tryz.prog.info? 314).map (fun i => (i.zero, i.size, i.bytes)) = some (some (.agg #[.string ⟨#[]⟩, .int .i64 0]), 2, 24) := by kernel_rfl
theorem info264Q : (Tryz.prog.info? 264).map (fun i => (i.zero, i.size, i.bytes)) = some (some (.agg #[.string ⟨#[]⟩, .slice none 0 0]), 2, 40) := by kernel_rfl

/-! A dom's fault. -/
def domR (m : Mean) (n z : Tn) : FltO := wrong (wrong (wrong none (decide (m.doms.length = 4)) 6 n.line) (m.taken (txt n.g)) 7 n.line) (decide (numOf z.g < 1 ∨ 8 < numOf z.g)) 9 z.line
theorem domR_err {m : Mean} {n z : Tn} {fl : Flt} (h : addDom m n z = .error fl) : domR m n z = some fl := by
  unfold addDom at h
  unfold domR
  split at h
  · rename_i h1
    cases h
    simp [wrong, h1]
  · rename_i h1
    split at h
    · rename_i h2
      cases h
      simp [wrong, h1, h2]
    · rename_i h2
      split at h
      · rename_i h3
        cases h
        simp [wrong, h1, h2, h3]
      · cases h
theorem domR_ok {m m' : Mean} {n z : Tn} (h : addDom m n z = .ok m') : domR m n z = none ∧ m' = { m with doms := m.doms ++ [(txt n.g, numOf z.g)] } := by
  unfold addDom at h
  unfold domR
  split at h
  · cases h
  · rename_i h1
    split at h
    · cases h
    · rename_i h2
      split at h
      · cases h
      · rename_i h3
        cases h
        exact ⟨by simp [wrong, h1, h2, h3], rfl⟩

/-! A rel's fault. -/
def colsR (m : Mean) (f : FltO) : Nat → List Tn → FltO
  | _, [] => f
  | k, c :: cs => colsR m (wrong (wrong f (decide (k = 3)) 6 c.line) (m.dom (txt c.g)).isNone 8 c.line) (k + 1) cs
theorem colsR_some (m : Mean) (f : Flt) (k : Nat) (cs : List Tn) : colsR m (some f) k cs = some f := by
  induction cs generalizing k with
  | nil => rfl
  | cons c cs ih => simp only [colsR, wrong_some]; exact ih _
theorem colsR_err {m : Mean} {k : Nat} {cs : List Tn} {fl : Flt} (h : colsS m k cs = .error fl) : colsR m none k cs = some fl := by
  induction cs generalizing k with
  | nil => cases h
  | cons c cs ih =>
    simp only [colsS] at h
    simp only [colsR]
    split at h
    · rename_i h1
      cases h
      have : wrong none (decide (k = 3)) 6 c.line = some (6, c.line) := by simp [wrong, h1]
      rw [this, wrong_some]
      exact colsR_some ..
    · rename_i h1
      have hw : wrong none (decide (k = 3)) 6 c.line = none := by simp [wrong, h1]
      rw [hw]
      split at h
      · rename_i h2
        cases h
        rw [h2]
        exact colsR_some ..
      · rename_i d h2
        split at h
        · rename_i f hq
          cases h
          rw [h2]
          exact ih hq
        · cases h
theorem colsR_ok {m : Mean} {k : Nat} {cs : List Tn} {ds : List Nat} (h : colsS m k cs = .ok ds) : colsR m none k cs = none ∧ cs.map (fun c => Value.int .i64 (plInt (m.dom (txt c.g)))) = colC ds := by
  induction cs generalizing k ds with
  | nil => cases h; exact ⟨rfl, rfl⟩
  | cons c cs ih =>
    simp only [colsS] at h
    simp only [colsR]
    split at h
    · cases h
    · rename_i h1
      have hw : wrong none (decide (k = 3)) 6 c.line = none := by simp [wrong, h1]
      rw [hw]
      split at h
      · cases h
      · rename_i d h2
        split at h
        · cases h
        · rename_i es hq
          cases h
          obtain ⟨i1, i2⟩ := ih hq
          rw [h2]
          refine ⟨i1, ?_⟩
          rw [List.map_cons, i2, h2]
          rfl
def relR (m : Mean) (n : Tn) (cs : List Tn) : FltO := colsR m (wrong (wrong none (decide (m.rels.length = 6)) 6 n.line) (m.taken (txt n.g)) 7 n.line) 0 cs
theorem relR_err {m : Mean} {n : Tn} {cs : List Tn} {fl : Flt} (h : addRel m n cs = .error fl) : relR m n cs = some fl := by
  unfold addRel at h
  unfold relR
  split at h
  · rename_i h1
    cases h
    have : wrong none (decide (m.rels.length = 6)) 6 n.line = some (6, n.line) := by simp [wrong, h1]
    rw [this, wrong_some]
    exact colsR_some ..
  · rename_i h1
    have hw : wrong none (decide (m.rels.length = 6)) 6 n.line = none := by simp [wrong, h1]
    rw [hw]
    split at h
    · rename_i h2
      cases h
      rw [h2, wrong_true]
      exact colsR_some ..
    · rename_i h2
      have h2' : m.taken (txt n.g) = false := by simpa using h2
      rw [h2', wrong_false]
      split at h
      · rename_i f hq
        cases h
        exact colsR_err hq
      · cases h
theorem relR_ok {m m' : Mean} {n : Tn} {cs : List Tn} (h : addRel m n cs = .ok m') : relR m n cs = none ∧ ∃ ds, cs.map (fun c => Value.int .i64 (plInt (m.dom (txt c.g)))) = colC ds ∧ ds.length = cs.length ∧ m' = { m with rels := m.rels ++ [(txt n.g, ds)] } := by
  unfold addRel at h
  unfold relR
  split at h
  · cases h
  · rename_i h1
    have hw : wrong none (decide (m.rels.length = 6)) 6 n.line = none := by simp [wrong, h1]
    rw [hw]
    split at h
    · cases h
    · rename_i h2
      have h2' : m.taken (txt n.g) = false := by simpa using h2
      rw [h2', wrong_false]
      split at h
      · cases h
      · rename_i ds hq
        cases h
        obtain ⟨i1, i2⟩ := colsR_ok hq
        refine ⟨i1, ds, i2, ?_, rfl⟩
        have := congrArg List.length i2
        simp [colC] at this
        omega

/-- The program so far. -/
structure SnR (w wr : World) (P : Nat) (tkv : Value) (m : Mean) (cs : List (AtomI × List LitI)) (dv rv kv : Value) (rvs kcs : List Value) (f : FltO) : Prop where
  hsz : w.heap.size = P + 1
  cells : CellsAt wr P #[dv, rv, kv, tkv, .int .i64 (fC f).1, .int .i64 (fC f).2]
  mn : RMn wr (P + 1) [] m dv rv rvs
  krow : wr.ownsRow (P + 1) 254 6 kv cs.length kcs
  rcs : RCs wr (P + 1) [] cs m.clauses kcs
  keep : Keeps [P] w wr
  ok : MeanOk m

theorem SnR.from {w wb W : World} {P : Nat} {tkv : Value} {m : Mean} {cs : List (AtomI × List LitI)} {dv rv kv : Value} {rvs kcs : List Value} {f f' : FltO} (h : SnR w wb P tkv m cs dv rv kv rvs kcs f) (k : Keeps [P] wb W) (hc : CellsAt W P #[dv, rv, kv, tkv, .int .i64 (fC f').1, .int .i64 (fC f').2]) : SnR w W P tkv m cs dv rv kv rvs kcs f' := by
  have hlow : ∀ j ∈ [P], j ∈ ([] : List Nat) ∨ j < P + 1 ∨ wb.heap.size ≤ j := fun j hj => .inr (.inl (by have e : j = P := (by simpa using hj); omega))
  exact ⟨h.hsz, hc, h.mn.kept k hlow, ownsRow_kept h.krow k (fun j hj => by have := (ownE_lt h.krow j hj).1; simp; omega), h.rcs.kept k hlow, h.keep.trans k, h.ok⟩
theorem SnR.kept {w wb W : World} {P : Nat} {tkv : Value} {m : Mean} {cs : List (AtomI × List LitI)} {dv rv kv : Value} {rvs kcs : List Value} {f : FltO} (h : SnR w wb P tkv m cs dv rv kv rvs kcs f) (k : Keeps [] wb W) : SnR w W P tkv m cs dv rv kv rvs kcs f := h.from (k.mono (by simp)) (h.cells.keeps k (by simp))

/-- What an item leaves. -/
def ItTo (w w' : World) (P : Nat) (tkv : Value) (cs : List (AtomI × List LitI)) : Except Flt Mean → Prop
  | .error fl => fl.1 ≠ 0 ∧ (∃ a b c, CellsAt w' P #[a, b, c, tkv, .int .i64 fl.1, .int .i64 fl.2]) ∧ Keeps [P] w w'
  | .ok m' => ∃ dv rv kv rvs kcs, SnR w w' P tkv m' cs dv rv kv rvs kcs none

theorem SnR.dom {w wb W4 W5 : World} {P g cap : Nat} {tkv : Value} {m : Mean} {cs : List (AtomI × List LitI)} {dv rv kv : Value} {rvs kcs : List Value} {f : FltO} {n z : Tn} (h : SnR w wb P tkv m cs dv rv kv rvs kcs none) (k : Keeps [P] wb W4) (hc : CellsAt W4 P #[dv, rv, kv, tkv, .int .i64 (fC f).1, .int .i64 (fC f).2]) (hf : domR m n z = f) (hown : W5.ownsRow (P + 1) 314 2 (.slice (some ⟨g, 0, none⟩) (m.doms.length + 1) cap) (m.doms.length + 1) (domCs m.doms ++ [.string (txt n.g), .int .i64 (numOf z.g)])) (hg : W4.grownBy W5 dv.ownBlock) (hat : dv.ownBlock = some g ∨ g = W4.heap.size) : CellsAt W5 P #[dv, rv, kv, tkv, .int .i64 (fC f).1, .int .i64 (fC f).2] ∧ ItTo w (W5.setCell ⟨P, 0, none⟩ (.slice (some ⟨g, 0, none⟩) (m.doms.length + 1) cap)) P tkv cs (addDom m n z) := by
  have h4 := h.from k hc
  have hsz := h.hsz
  have k5 := grownBy_keeps' hg (ownL dv) (fun r e => .inl (by simp [ownL, e]))
  have kS := Keeps.setCell W5 ⟨P, 0, none⟩ (.slice (some ⟨g, 0, none⟩) (m.doms.length + 1) cap)
  have kall := (k5.mono (T' := P :: ownL dv) (fun i hi => by simp [hi])).trans (kS.mono (T' := P :: ownL dv) (fun i hi => by have e : i = P := (by simpa using hi); simp [e]))
  have hkl : ∀ j ∈ ownL dv, P + 1 ≤ j := fun j hj => (ownL_at h4.mn.doms j hj).1
  have hP5 := hc.keeps k5 (fun q => by have := hkl P q; omega)
  have hgn : ∀ j ∈ ownL (.slice (some ⟨g, 0, none⟩) (m.doms.length + 1) cap), j ∈ ownL dv ∨ j = W4.heap.size := own_new hat
  have hT : ∀ j ∈ P :: ownL dv, j < P + 1 ∨ Tag W4 j 314 := fun j hj => by
    rcases List.mem_cons.1 hj with q | q
    · exact .inl (by omega)
    · exact .inr (own_tag2 h4.mn.doms j q)
  have hP6 := hP5.setCell 0 (.slice (some ⟨g, 0, none⟩) (m.doms.length + 1) cap)
  have hPl := hc.lt
  have kw : Keeps [P] w (W5.setCell ⟨P, 0, none⟩ (.slice (some ⟨g, 0, none⟩) (m.doms.length + 1) cap)) := h4.keep.trans_new kall (fun j hj => by
    rcases List.mem_cons.1 hj with q | q
    · exact .inl (by simp [q])
    · exact .inr (by have := hkl j q; omega))
  refine ⟨hP5, ?_⟩
  cases hA : addDom m n z with
  | error fl =>
    have hq := domR_err hA
    rw [hf] at hq
    subst hq
    exact ⟨addDom_code hA, ⟨_, _, _, hP6⟩, kw⟩
  | ok m' =>
    obtain ⟨hn, hm'⟩ := domR_ok hA
    rw [hf] at hn
    subst hn
    have hok' : MeanOk m' := addItem_ok (i := .dom n z) h.ok hA
    subst hm'
    refine ⟨_, _, _, _, _, ⟨hsz, hP6, ⟨?_, by simp, row_keptT h4.mn.rels (Nat.le_refl _) kall (by decide) hT, by simp, h4.mn.rrs.keptT kall (by decide) hT⟩, row_keptT h4.krow (Nat.le_refl _) kall (by decide) hT, h4.rcs.keptT kall (by decide) (by decide) hT, kw, hok'⟩⟩
    rw [List.length_append, List.length_singleton, domCs_append]
    have : domCs [(txt n.g, numOf z.g)] = [.string (txt n.g), .int .i64 (numOf z.g)] := by simp [domCs, domC2]
    rw [this]
    refine ownsRow_kept hown kS (fun i hi q => ?_)
    have e : i = P := by simpa using q
    rcases hgn i (by rw [ownL, hi]; simp) with q | q
    · have := hkl i q; omega
    · omega

theorem SnR.rel {w wb W4 W5 : World} {P g cap : Nat} {tkv : Value} {m : Mean} {cs : List (AtomI × List LitI)} {dv rv kv rdv : Value} {rvs kcs : List Value} {f : FltO} {n : Tn} {cols : List Tn} (h : SnR w wb P tkv m cs dv rv kv rvs kcs none) (k : Keeps [P] wb W4) (hc : CellsAt W4 P #[dv, rv, kv, tkv, .int .i64 (fC f).1, .int .i64 (fC f).2]) (hf : relR m n cols = f) (hrd : W4.ownsRow (P + 1) 3 1 rdv cols.length (cols.map (fun c => Value.int .i64 (plInt (m.dom (txt c.g)))))) (hown : W5.ownsRow (P + 1) 264 2 (.slice (some ⟨g, 0, none⟩) (m.rels.length + 1) cap) (m.rels.length + 1) (rvs ++ [.string (txt n.g), rdv])) (hg : W4.grownBy W5 rv.ownBlock) (hat : rv.ownBlock = some g ∨ g = W4.heap.size) : CellsAt W5 P #[dv, rv, kv, tkv, .int .i64 (fC f).1, .int .i64 (fC f).2] ∧ ItTo w (W5.setCell ⟨P, 1, none⟩ (.slice (some ⟨g, 0, none⟩) (m.rels.length + 1) cap)) P tkv cs (addRel m n cols) := by
  have h4 := h.from k hc
  have hsz := h.hsz
  have k5 := grownBy_keeps' hg (ownL rv) (fun r e => .inl (by simp [ownL, e]))
  have kS := Keeps.setCell W5 ⟨P, 1, none⟩ (.slice (some ⟨g, 0, none⟩) (m.rels.length + 1) cap)
  have kall := (k5.mono (T' := P :: ownL rv) (fun i hi => by simp [hi])).trans (kS.mono (T' := P :: ownL rv) (fun i hi => by have e : i = P := (by simpa using hi); simp [e]))
  have hkl : ∀ j ∈ ownL rv, P + 1 ≤ j := fun j hj => (ownL_at h4.mn.rels j hj).1
  have hP5 := hc.keeps k5 (fun q => by have := hkl P q; omega)
  have hgn : ∀ j ∈ ownL (.slice (some ⟨g, 0, none⟩) (m.rels.length + 1) cap), j ∈ ownL rv ∨ j = W4.heap.size := own_new hat
  have hT : ∀ j ∈ P :: ownL rv, j < P + 1 ∨ Tag W4 j 264 := fun j hj => by
    rcases List.mem_cons.1 hj with q | q
    · exact .inl (by omega)
    · exact .inr (own_tag2 h4.mn.rels j q)
  have hP6 := hP5.setCell 1 (.slice (some ⟨g, 0, none⟩) (m.rels.length + 1) cap)
  have hPl := hc.lt
  have kw : Keeps [P] w (W5.setCell ⟨P, 1, none⟩ (.slice (some ⟨g, 0, none⟩) (m.rels.length + 1) cap)) := h4.keep.trans_new kall (fun j hj => by
    rcases List.mem_cons.1 hj with q | q
    · exact .inl (by simp [q])
    · exact .inr (by have := hkl j q; omega))
  refine ⟨hP5, ?_⟩
  cases hA : addRel m n cols with
  | error fl =>
    have hq := relR_err hA
    rw [hf] at hq
    subst hq
    exact ⟨addRel_code hA, ⟨_, _, _, hP6⟩, kw⟩
  | ok m' =>
    obtain ⟨hn, ds, hds, hdl, hm'⟩ := relR_ok hA
    rw [hf] at hn
    subst hn
    have hok' : MeanOk m' := addItem_ok (i := .rel n cols) h.ok hA
    subst hm'
    rw [hds, ← hdl] at hrd
    refine ⟨_, _, _, rvs ++ [.string (txt n.g), rdv], _, ⟨hsz, hP6, ⟨row_keptT h4.mn.doms (Nat.le_refl _) kall (by decide) hT, by simp, ?_, by simp, (h4.mn.rrs.keptT kall (by decide) hT).push (r := (txt n.g, ds)) (row_keptT hrd (Nat.le_refl _) kall (by decide) hT) (by simp)⟩, row_keptT h4.krow (Nat.le_refl _) kall (by decide) hT, h4.rcs.keptT kall (by decide) (by decide) hT, kw, hok'⟩⟩
    rw [List.length_append, List.length_singleton]
    refine ownsRow_kept hown kS (fun i hi q => ?_)
    have e : i = P := by simpa using q
    rcases hgn i (by rw [ownL, hi]; simp) with q | q
    · have := hkl i q; omega
    · omega

/-- A clause's answer is an item's. -/
theorem SnR.clause {w wb W : World} {P : Nat} {tkv : Value} {m : Mean} {cs : List (AtomI × List LitI)} {dv rv kv : Value} {rvs kcs : List Value} {a : AtomI} {ls : List LitI} (h : SnR w wb P tkv m cs dv rv kv rvs kcs none) (hc : ClTo W (P + 1) P dv rv tkv rvs cs a ls (addClause m a ls)) (k : Keeps (P :: ownL kv) wb W) : ItTo w W P tkv (cs ++ [(a, ls)]) (addClause m a ls) := by
  have hsz := h.hsz
  have kw : Keeps [P] w W := h.keep.trans_new k (fun j hj => by
    rcases List.mem_cons.1 hj with q | q
    · exact .inl (by simp [q])
    · exact .inr (by have := (ownL_at h.krow j q).1; omega))
  cases hA : addClause m a ls with
  | error fl =>
    rw [hA] at hc
    obtain ⟨kv', hc⟩ := hc
    exact ⟨addClause_code hA, ⟨_, _, _, hc⟩, kw⟩
  | ok m' =>
    rw [hA] at hc
    obtain ⟨kv', kcs', h1, h2, h3, h4⟩ := hc
    exact ⟨_, _, _, _, _, ⟨hsz, h1, h2, h3, h4, kw, addItem_ok (i := .clause a ls) h.ok hA⟩⟩

theorem ItemsAt.tok {toks : List Tn} {i : Nat} {is : List ItemI} (h : ItemsAt toks i is) : ∃ t, toks[i]? = some t ∧ isFinG t.g = is.isEmpty := by
  cases is with
  | nil => obtain ⟨t, h1, h2⟩ := h; exact ⟨t, h1, h2⟩
  | cons x xs =>
    obtain ⟨nx, h1, _, _⟩ := h
    cases x with
    | dom n z => obtain ⟨⟨t, h2, h3⟩, _⟩ := h1; exact ⟨t, h2, by cases hg : t.g <;> rw [hg] at h3 <;> first | rfl | cases h3⟩
    | rel n cs => obtain ⟨⟨t, h2, h3⟩, _⟩ := h1; exact ⟨t, h2, by cases hg : t.g <;> rw [hg] at h3 <;> first | rfl | cases h3⟩
    | clause a ls => obtain ⟨h2, h3, _⟩ := h1; exact ⟨_, h2.name, by cases hg : a.name.g <;> rw [hg] at h3 <;> first | rfl | cases h3⟩

end Go.Proofs.YtgjomknpjigkhaaGreatDoor

namespace Go.Proofs.YtgjomknpjigkhaaGreatDoor

section
variable {P : Program} {ops : Array Oper} {Q : Exit → Act → World → Prop} {md : Region.Mode} {S : World → Prop} {z : Nat}

/-- Whatever comes up; S holds behind each operation but number z. -/
def wpAnyZ (P : Program) (md : Region.Mode) (ops : Array Oper) (Q : Exit → Act → World → Prop) (S : World → Prop) (z : Nat) : Nat → Array Bool → Act → World → Prop
  | 0, listed, a, w => Region.ready md ops listed = [] ∧ Q .normal a w
  | fuel + 1, listed, a, w => (Region.ready md ops listed = [] → Q .normal a w) ∧ ∀ i ∈ Region.ready md ops listed, wpOp P ops Q i (fun a' w' => (i ≠ z → S w') ∧ wpAnyZ P md ops Q S z fuel (listed.setIfInBounds i true) a' w') a w

theorem wpAny_of_Z (fuel : Nat) : ∀ (listed : Array Bool) (a : Act) (w : World), wpAnyZ P md ops Q S z fuel listed a w → wpAny P md ops Q fuel listed a w := by
  induction fuel with
  | zero => intro _ _ _ h; exact h
  | succ fuel ih => intro listed a w h; exact ⟨h.1, fun i hi => wpOp_mono (fun a' w' q => ih _ a' w' q.2) (h.2 i hi)⟩

/-- Operation z waits for operation i. -/
def waitsFor (md : Region.Mode) (ops : Array Oper) (z i : Nat) : Bool := ((ops[z]?).map fun o => o.after.toList.any fun e => Region.binds md e && e.on == i).getD false
theorem not_ready {i : Nat} {listed : Array Bool} (h : waitsFor md ops z i = true) (hi : i ∈ Region.ready md ops listed) : z ∉ Region.ready md ops listed := by
  intro hz
  obtain ⟨_, o, ho, hall⟩ := mem_ready.1 hz
  have h0 := (mem_ready.1 hi).1
  unfold waitsFor at h
  rw [ho] at h
  simp only [Option.map_some, Option.getD_some, List.any_eq_true] at h
  obtain ⟨e, he', hb⟩ := h
  have he : e ∈ o.after := by simpa using he'
  rw [Bool.and_eq_true] at hb
  have h1 := hall e he hb.1
  have e1 : e.on = i := by simpa using hb.2
  rw [e1] at h1
  rcases Nat.lt_or_ge i listed.size with q | q
  · simp [q] at h0 h1
    rw [h0] at h1
    cases h1
  · simp [Array.getElem?_eq_none q] at h1

theorem wpAnyZ_take0 {i : Nat} {oi : Oper} {v : Value} (hi : ops[i]? = some oi) (hsel : ∀ (j : Nat) (o : Oper) cs b, ops[j]? = some o → o.op ≠ .select cs b) (hQ : ∀ c a w, Q (.panic c) (a.put oi.dst v) w → Q (.panic c) a w) (hz : waitsFor md ops z i = true) : ∀ (fuel : Nat) (listed : Array Bool) (a : Act) (w : World),
    (∀ j oj, ops[j]? = some oj → j ≠ i → listed.getD j true = false → (∀ e ∈ oj.after, Region.binds md e = true → e.on ≠ i) → oi.apart ops oj = true) → i ∈ Region.ready md ops listed → YieldsIf P ops S oi v a → S w → wpAnyZ P md ops Q S z fuel (listed.setIfInBounds i true) (a.put oi.dst v) w → wpAnyZ P md ops Q S z (fuel + 1) listed a w := by
  intro fuel
  induction fuel with
  | zero =>
    intro listed a w _ hr hy hS H
    refine ⟨fun h => (by rw [h] at hr; cases hr), fun j hj => ?_⟩
    by_cases e : j = i
    · subst e; exact hy.wpOp hi hS ⟨fun _ => hS, H⟩
    · have := ready_mono hj e
      rw [H.1] at this
      cases this
  | succ fuel ih =>
    intro listed a w hfree hr hy hS H
    refine ⟨fun h => (by rw [h] at hr; cases hr), fun j hj => ?_⟩
    by_cases e : j = i
    · subst e; exact hy.wpOp hi hS ⟨fun _ => hS, H⟩
    · have hjz : j ≠ z := fun q => not_ready hz hr (q ▸ hj)
      have hstep := H.2 j (ready_mono hj e)
      obtain ⟨hun, oj, hoj, hall⟩ := mem_ready.1 hj
      have hno : ∀ x ∈ oj.after, Region.binds md x = true → x.on ≠ i := fun x hx hb q => by
        have h1 := hall x hx hb
        have h0 := (mem_ready.1 hr).1
        rw [q] at h1
        rcases Nat.lt_or_ge i listed.size with h' | h'
        · simp [h'] at h0 h1
          rw [h0] at h1
          cases h1
        · simp [Array.getElem?_eq_none h'] at h1
      have hput := wpOp_putIf hoj (hfree j oj hoj e hun hno) (fun cs b => hsel i oi cs b hi) (fun cs b => hsel j oj cs b hoj) hQ hy hstep
      refine wpOp_mono (fun a' w' q => ⟨fun _ => q.2.1 hjz, ih (listed.setIfInBounds j true) a' w' (fun k ok hk hki hkun hkno => hfree k ok hk hki ?_ hkno) (ready_mono hr (Ne.symm e)) q.1 (q.2.1 hjz) ?_⟩) hput
      · by_cases hjk : j = k
        · subst hjk; exact hun
        · rw [getD_set_ne true hjk] at hkun; exact hkun
      · rw [Array.setIfInBounds_comm _ _ e]
        exact q.2.2

theorem wpAnyZ_take {i : Nat} {oi : Oper} {v : Value} {fuel : Nat} {listed : Array Bool} {a : Act} {w : World} (hi : ops[i]? = some oi) (hs : Region.noSelect ops = true) (hf : Region.free md ops listed i = true) (hr : (Region.ready md ops listed).contains i = true) (hz : waitsFor md ops z i = true) (hQ : ∀ c a w, Q (.panic c) (a.put oi.dst v) w → Q (.panic c) a w) (hy : YieldsIf P ops S oi v a) (hS : S w) (h : wpAnyZ P md ops Q S z fuel (listed.setIfInBounds i true) (a.put oi.dst v) w) : wpAnyZ P md ops Q S z (fuel + 1) listed a w :=
  wpAnyZ_take0 hi (Region.noSelect_spec hs) hQ hz fuel listed a w (Region.free_spec hi hf) (by simpa using hr) hy hS h

/-- The one that may come up. -/
theorem wpAnyZ_one {i : Nat} {o : Oper} {fuel : Nat} {listed : Array Bool} {a : Act} {w : World} (hr : Region.ready md ops listed = [i]) (ho : ops[i]? = some o) (h : ∀ K : Act → World → Prop, (∀ a' w', (i ≠ z → S w') → wpAnyZ P md ops Q S z fuel (listed.setIfInBounds i true) a' w' → K a' w') → if Region.wanted o (yielded ops a.tmps) = true then Oper.wp P o a w K Q else K (a.put o.dst undef) w) : wpAnyZ P md ops Q S z (fuel + 1) listed a w := by
  refine ⟨fun h0 => (by rw [hr] at h0; cases h0), fun j hj => ?_⟩
  rw [hr] at hj
  have e : j = i := by simpa using hj
  subst e
  unfold wpOp
  simp only [ho]
  have := h (fun a' w' => (j ≠ z → S w') ∧ wpAnyZ P md ops Q S z fuel (listed.setIfInBounds j true) a' w') (fun a' w' h1 h2 => ⟨h1, h2⟩)
  split
  · rename_i hw
    rw [if_pos hw] at this
    exact .inl this
  · rename_i hw
    rw [if_neg hw] at this
    exact this

theorem wpAnyZ_done {listed : Array Bool} {a : Act} {w : World} {fuel : Nat} (hr : Region.ready md ops listed = []) (h : Q .normal a w) : wpAnyZ P md ops Q S z fuel listed a w := by
  cases fuel with
  | zero => exact ⟨hr, h⟩
  | succ => exact ⟨fun _ => h, by rw [hr]; simp⟩

theorem wp_region_Z {id : Nat} {a : Act} {w : World} (z : Nat) (S : World → Prop) (hm : P.follows .mixedOrders = true) (h : wpAnyZ P .any ops Q S z ops.size (Array.replicate ops.size false) a w.drew) : (Code.region id ops true).wp P Q a w :=
  wp_region_any hm (wpAny_of_Z _ _ _ _ h)
end

end Go.Proofs.YtgjomknpjigkhaaGreatDoor
