/- A1, A2, M2, M3, M4, M5, M6, S1, S2, S3, Sg, Se. -/
import Derived.Test.YtgjomknpjigkhaaMKern
import Derived.Test.YtgjomknpjigkhaaBdd9
namespace Go.Proofs.Ytgjomknpjigkhaa
open Go.RowKit Go.Shelf

def refS : ST := { order := rng 2, place := rng 2, N := [(2, (1, 0, 1)), (3, (0, 0, 2))], U := [((1, 0, 1), 2), ((0, 0, 2), 3)], next := 4, K := [] }

theorem ref_get (f : Int) : get refS.N f = if f = 2 then some (1, 0, 1) else if f = 3 then some (0, 0, 2) else none := by
  show get [(2, (1, 0, 1)), (3, (0, 0, 2))] f = _
  simp only [get_cons, get_nil]
  by_cases h0 : f = 2
  · simp [h0]
  · by_cases h1 : f = 3
    · simp [h1]
    · have e0 : ¬ (2 : Int) = f := fun e => h0 e.symm
      have e1 : ¬ (3 : Int) = f := fun e => h1 e.symm
      simp [h0, h1, e0, e1]

theorem ref_wf : WF refS := by
  have hpl : ∀ v : Int, 0 ≤ v → v < 2 → refS.pl v = v := by
    intro v v0 v1
    have : v = 0 ∨ v = 1 := by omega
    rcases this with rfl | rfl <;> rfl
  have n2 : (refS.n : Int) = 2 := rfl
  have l0 : refS.lev 0 = 2 := rfl
  have l1 : refS.lev 1 = 2 := rfl
  have l2 : refS.lev 2 = 1 := rfl
  refine ⟨(new_wf 2).ord, by show (2 : Int) ≤ 4; omega, ?_, ?_⟩
  · intro f v l h ht
    rw [ref_get] at ht
    by_cases h0 : f = 2
    · rw [if_pos h0] at ht
      simp only [Option.some.injEq, Prod.mk.injEq] at ht
      obtain ⟨rfl, rfl, rfl⟩ := ht
      refine ⟨by omega, by show f < 4; omega, by omega, by rw [n2]; omega, by omega, .inl rfl, .inr (.inl rfl), ?_, ?_⟩
      · rw [hpl 1 (by omega) (by omega), l0]; omega
      · rw [hpl 1 (by omega) (by omega), l1]; omega
    · rw [if_neg h0] at ht
      by_cases h1 : f = 3
      · rw [if_pos h1] at ht
        simp only [Option.some.injEq, Prod.mk.injEq] at ht
        obtain ⟨rfl, rfl, rfl⟩ := ht
        refine ⟨by omega, by show f < 4; omega, by omega, by rw [n2]; omega, by omega, .inl rfl, .inr (.inr ⟨by omega, _, rfl⟩), ?_, ?_⟩
        · rw [hpl 0 (by omega) (by omega), l0]; omega
        · rw [hpl 0 (by omega) (by omega), l2]; omega
      · rw [if_neg h1] at ht; cases ht
  · intro t f
    rw [ref_get]
    show get [((1, 0, 1), (2 : Int)), ((0, 0, 2), 3)] t = some f ↔ _
    simp only [get_cons, get_nil]
    by_cases e0 : t = (1, 0, 1)
    · subst e0
      by_cases f2 : f = 2
      · simp [f2]
      · by_cases f3 : f = 3
        · subst f3; simp
        · have : ¬ (2 : Int) = f := fun e => f2 e.symm
          simp [f2, f3, this]
    · have e0' : ¬ ((1, 0, 1) : Tri) = t := fun e => e0 e.symm
      by_cases e1 : t = (0, 0, 2)
      · subst e1
        by_cases f2 : f = 2
        · subst f2; simp
        · by_cases f3 : f = 3
          · subst f3; simp
          · have : ¬ (3 : Int) = f := fun e => f3 e.symm
            simp [f2, f3, this]
      · have e1' : ¬ ((0, 0, 2) : Tri) = t := fun e => e1 e.symm
        by_cases f2 : f = 2
        · simp [e0', e1', f2]
        · by_cases f3 : f = 3
          · simp [e0', e1', f3]
          · simp [e0', e1', f2, f3]

theorem ref_den (σ : Int → Bool) : refS.den 3 σ = (σ 0 && σ 1) := by
  rw [den_node ref_wf (f := 3) (v := 0) (l := 0) (h := 2) rfl, den_node ref_wf (f := 2) (v := 1) (l := 0) (h := 1) rfl, den_zero, den_one]
  cases σ 0 <;> cases σ 1 <;> rfl

theorem and_two {S : ST} (hw : WF S) (ho : S.order = rng 2) {r : Int} (okr : S.ok r) (hd : ∀ σ, S.den r σ = (σ 0 && σ 1)) {xs : List (Int × Tri)} (hg : GoodNodes S [r] xs) : xs.length = 2 := by
  have ok3 : refS.ok 3 := .inr (.inr ⟨by omega, _, rfl⟩)
  have hrS : RootsOk S [r] := fun x hx => by simp only [List.mem_singleton] at hx; subst hx; exact okr
  have hrR : RootsOk refS [3] := fun x hx => by simp only [List.mem_singleton] at hx; subst hx; exact ok3
  have h1 := like_length_le (S := S) (S' := refS) hw ref_wf (by rw [ho]; rfl) hrS hrR (fun x hx => by
    simp only [List.mem_singleton] at hx
    subst hx
    exact ⟨3, by simp, fun σ => by rw [ref_den, hd]⟩) hg.nodup (fun f hf => (hg.iff f).1 hf) (ys := [2, 3]) (fun g hr => by
    obtain ⟨t, ht⟩ := hr.node ref_wf hrR
    rw [ref_get] at ht
    by_cases g2 : g = 2
    · simp [g2]
    · by_cases g3 : g = 3
      · simp [g3]
      · simp [g2, g3] at ht)
  have r3 : Reach refS [3] 3 := Reach.root (by simp) (by omega)
  have r2 : Reach refS [3] 2 := r3.high (v := 0) (l := 0) rfl (by omega)
  have h2 := like_length_le (S := refS) (S' := S) ref_wf hw (by rw [ho]; rfl) hrR hrS (fun x hx => by
    simp only [List.mem_singleton] at hx
    subst hx
    exact ⟨r, by simp, fun σ => by rw [ref_den, hd]⟩) (xs := [2, 3]) (by simp) (fun f hf => by
    simp only [List.mem_cons, List.not_mem_nil, or_false] at hf
    rcases hf with rfl | rfl
    · exact r2
    · exact r3) (ys := xs.map Prod.fst) (fun g hr => (hg.iff g).2 hr)
  simp at h1 h2
  omega

theorem Ans.fresh {K K' : KS} {F : (Int → Bool) → Bool} {h e c : Int} (A : Ans K K' F h e c) (hl : K.R.length ≠ 102) (hno : ∀ a r, get K.R a = some r → ∃ σ, K.S.den r σ ≠ F σ) : h = K.nx ∧ e = 0 ∧ K'.nx = K.nx + 1 ∧ ∃ r, K'.R = put K.R K.nx r ∧ ∀ σ, K'.S.den r σ = F σ := by
  rcases A.out with ⟨r, h1, h2, _⟩ | ⟨_, ⟨h1, _⟩ | ⟨_, h2, h3, h4, h5⟩⟩
  · obtain ⟨σ, hσ⟩ := hno _ _ h1
    exact absurd (h2 σ) hσ
  · exact absurd h1 hl
  · exact ⟨h2, h3, h4, h5⟩

end Go.Proofs.Ytgjomknpjigkhaa

namespace Go.Proofs.Ytgjomknpjigkhaa
open Go.RowKit Go.Shelf

theorem asg3 : asg 3 0 = true ∧ asg 3 1 = true ∧ asg 1 0 = true ∧ asg 1 1 = false := by decide

theorem cnt_and : cntV 2 (fun σ => σ 0 && σ 1) (fun _ => false) = 1 := by decide

set_option maxRecDepth 100000 in
set_option maxHeartbeats 2000000 in
theorem awake_calls {w : World} : Calls Try.prog 18 #[] w fun e w' => e = .returned (.bool true) ∧ Keeps [] w w' := by
  have hn := hide (knew_calls (w := w) 2 (by decide) (by decide))
  have hpn : ∀ (w : World) (a : Addr), (binOp .eql 31 (.pointer (some a)) (.pointer none)).run Try.prog w = .ok (.bool false) w := fun w a => by kernel_rfl
  go_enter Try.func18, Try.ntmps18
  go_wp2_with fail
  refine hn.out.mono ?_
  rintro e W0 ⟨b, rfl, hK0, hb, k0⟩
  have I0 : KI (KS.new 2) := knew_inv (by decide) (by decide)
  have hv0 := hide (kvar_calls hK0 I0 0 (by decide) (by decide) (by decide) (by decide))
  go_wp2_with fail
  refine hv0.out.mono ?_
  rintro e W1 ⟨a1, y1, K1, rfl, hK1, A1, k1⟩
  have c0 : ∀ {K : KS} {F : (Int → Bool) → Bool}, (∃ σ, F σ = true) → ∃ σ, K.S.den 0 σ ≠ F σ := by
    rintro K F ⟨σ, h⟩
    exact ⟨σ, by rw [den_zero, h]; decide⟩
  have c1 : ∀ {K : KS} {F : (Int → Bool) → Bool}, (∃ σ, F σ = false) → ∃ σ, K.S.den 1 σ ≠ F σ := by
    rintro K F ⟨σ, h⟩
    exact ⟨σ, by rw [den_one, h]; decide⟩
  have g0 : ∀ a r, get (KS.new 2).R a = some r → (a = 0 ∧ r = 0) ∨ (a = 1 ∧ r = 1) := by
    intro a r h
    have h' : get ([(0, 0), (1, 1)] : List (Int × Int)) a = some r := h
    rw [get01] at h'
    by_cases h0 : a = 0
    · rw [if_pos h0] at h'; exact .inl ⟨h0, (Option.some.inj h').symm⟩
    · rw [if_neg h0] at h'
      by_cases h1 : a = 1
      · rw [if_pos h1] at h'; exact .inr ⟨h1, (Option.some.inj h').symm⟩
      · rw [if_neg h1] at h'; cases h'
  -- the first variable
  obtain ⟨e1, e2, n1, r1, R1, d1⟩ := A1.fresh (by decide) (fun a r h => by
    rcases g0 a r h with ⟨_, rfl⟩ | ⟨_, rfl⟩
    · exact c0 ⟨fun _ => true, rfl⟩
    · exact c1 ⟨fun _ => false, rfl⟩)
  have x1 : K1.nx = 3 := n1
  have e1' : a1 = 2 := e1
  subst e1' e2
  have g1 : ∀ a, get K1.R a = if a = 2 then some r1 else get (KS.new 2).R a := fun a => by rw [R1]; exact get_put _ _ _ _
  have o1 : K1.S.order = rng 2 := A1.order
  have N1 : K1.S.n = 2 := by unfold ST.n; rw [o1]; rfl
  have t1 : K1.S.next ≤ 3 := A1.next
  have l1 : K1.R.length ≤ 3 := by rw [R1]; exact length_put_le _ _ _
  have hv1 := hide (kvar_calls hK1 A1.inv 1 (by decide) (by rw [N1]; decide) (by unfold lim; omega) (by omega))
  have H1 := hide (And.intro g1 (And.intro o1 (And.intro d1 (And.intro l1 x1))))
  clear g1 o1 d1 l1 x1 n1 R1 e1 hv0 hn I0
  have T1 := hide t1
  have NN1 := hide N1
  clear t1 N1
  go_wp2_with fail
  refine hv1.out.mono ?_
  rintro e W2 ⟨a2, y2, K2, rfl, hK2, A2, k2⟩
  obtain ⟨g1, o1, d1, l1, x1⟩ := H1.out
  obtain ⟨e1, e2, n2, r2, R2, d2⟩ := A2.fresh (by omega) (fun a r h => by
    rw [g1] at h
    by_cases ha : a = 2
    · rw [if_pos ha] at h
      have := Option.some.inj h
      subst this
      exact ⟨fun v => decide (v = 1), by rw [d1]; decide⟩
    · rw [if_neg ha] at h
      rcases g0 a r h with ⟨_, rfl⟩ | ⟨_, rfl⟩
      · exact c0 ⟨fun _ => true, rfl⟩
      · exact c1 ⟨fun _ => false, rfl⟩)
  have x2 : K2.nx = 4 := by rw [n2, x1]; rfl
  have e1' : a2 = 3 := by rw [e1, x1]
  subst e1' e2
  have g2 : ∀ a, get K2.R a = if a = 3 then some r2 else get K1.R a := fun a => by rw [R2, x1]; exact get_put _ _ _ _
  have o2 : K2.S.order = rng 2 := A2.order.trans o1
  have N2 : K2.S.n = 2 := by unfold ST.n; rw [o2]; rfl
  have t2 : K2.S.next ≤ 4 := by have := A2.next; have := T1.out; omega
  have l2 : K2.R.length ≤ 4 := by rw [R2]; have := length_put_le K1.R K1.nx r2; omega
  have h21 : get K2.R 2 = some r1 := by rw [g2, if_neg (by decide), g1, if_pos rfl]
  have h22 : get K2.R 3 = some r2 := by rw [g2, if_pos rfl]
  have d1' : ∀ σ : Int → Bool, K2.S.den r1 σ = σ 0 := fun σ => by rw [A2.den 2 r1 (by rw [g1, if_pos rfl]), d1]
  have hcs : cst 2 = 3 := by decide
  have ha := hide (kapply_calls hK2 A2.inv 0 2 3 r1 r2 (by decide) (by decide) h21 h22 (by rw [N2, hcs]; unfold lim; omega) (by omega))
  have hF : ∀ σ : Int → Bool, opB 0 (K2.S.den r1 σ) (K2.S.den r2 σ) = (σ 0 && σ 1) := fun σ => by rw [d1', d2]; rfl
  have H2 := hide (And.intro g2 (And.intro o2 (And.intro d2 (And.intro l2 (And.intro x2 (And.intro d1' hF))))))
  have T2 := hide t2
  have NN2 := hide N2
  clear g2 o2 d2 l2 x2 n2 R2 e1 hv1 g1 o1 d1 l1 x1 d1' hF t2 N2 h21 h22
  go_wp2_with fail
  refine ha.out.mono ?_
  rintro e W3 ⟨a3, y3, K3, rfl, hK3, A3, k3⟩
  obtain ⟨g1, o1, d1, l1, x1⟩ := H1.out
  obtain ⟨g2, o2, d2, l2, x2, d1', hF⟩ := H2.out
  obtain ⟨e1, e2, n3, r3, R3, d3⟩ := A3.fresh (by omega) (fun a r h => by
    rw [g2] at h
    by_cases ha : a = 3
    · rw [if_pos ha] at h
      have := Option.some.inj h
      subst this
      exact ⟨fun v => decide (v = 1), by rw [hF, d2]; decide⟩
    · rw [if_neg ha, g1] at h
      by_cases hb : a = 2
      · rw [if_pos hb] at h
        have := Option.some.inj h
        subst this
        exact ⟨fun v => decide (v = 0), by rw [hF, d1']; decide⟩
      · rw [if_neg hb] at h
        rcases g0 a r h with ⟨_, rfl⟩ | ⟨_, rfl⟩
        · exact c0 ⟨fun _ => true, by rw [hF]; rfl⟩
        · exact c1 ⟨fun _ => false, by rw [hF]; rfl⟩)
  have e1' : a3 = 4 := by rw [e1, x2]
  subst e1' e2
  have h3 : get K3.R 4 = some r3 := by rw [R3, x2, get_put, if_pos rfl]
  have o3 : K3.S.order = rng 2 := A3.order.trans o2
  have N3 : K3.S.n = 2 := by unfold ST.n; rw [o3]; rfl
  have dd : ∀ σ : Int → Bool, K3.S.den r3 σ = (σ 0 && σ 1) := fun σ => by rw [d3, hF]
  have t3 : K3.S.next < lim := by have h1 := A3.next; have h2 := T2.out; have h4 := NN2.out; rw [h4, hcs] at h1; unfold lim; omega
  have hcnt : cntV K3.S.n (K3.S.den r3) (fun _ => false) = 1 := by rw [N3, cntV_congr dd]; exact cnt_and
  have hC := kcount_calls hK3 A3.inv 4 r3 h3 t3
  rw [hcnt] at hC
  have hC' := hide hC
  have HD := hide (And.intro dd (And.intro o3 (And.intro h3 N3)))
  clear g2 o2 d2 l2 x2 n3 R3 e1 ha g1 o1 d1 l1 x1 d1' hF N3 h3 dd t3 hcnt hC d3 o3
  go_wp2_with fail
  refine hC'.out.mono ?_
  rintro e W4 ⟨rfl, hK4, k4⟩
  obtain ⟨dd, o3, h3, N3⟩ := HD.out
  have hS := hide (ksize_calls hK4 A3.inv 4 r3 h3)
  clear dd o3 h3 N3
  go_wp2_with fail
  refine hS.out.mono ?_
  rintro e W5 ⟨xs, rfl, hg, hK5, k5⟩
  obtain ⟨dd, o3, h3, N3⟩ := HD.out
  have h2 := and_two A3.inv.wf o3 (A3.inv.ok 4 r3 h3) dd hg
  rw [h2]
  have hE3 := keval_calls hK5 A3.inv 4 r3 3 h3 (by decide) (by rw [N3]; decide)
  rw [dd, asg3.1, asg3.2.1] at hE3
  have hE3' := hide hE3
  clear dd o3 h3 N3 hE3 h2 hg
  go_wp2_with fail
  refine hE3'.out.mono ?_
  rintro e W6 ⟨rfl, hK6, k6⟩
  obtain ⟨dd, o3, h3, N3⟩ := HD.out
  have hE1 := keval_calls hK6 A3.inv 4 r3 1 h3 (by decide) (by rw [N3]; decide)
  rw [dd, asg3.2.2.1, asg3.2.2.2] at hE1
  have hE1' := hide hE1
  clear dd o3 h3 N3 hE1
  go_wp2_with fail
  refine hE1'.out.mono ?_
  rintro e W7 ⟨rfl, hK7, k7⟩
  go_wp2_with fail
  go_ret
  refine ⟨rfl, ?_⟩
  have kk := ((((k1.trans k2).trans k3).trans k4).trans (k5.mono (by simp))).trans ((k6.trans k7).mono (by simp))
  exact k0.trans_new kk (fun i hi => .inr (hb i hi))

end Go.Proofs.Ytgjomknpjigkhaa

namespace Go.Proofs.Ytgjomknpjigkhaa
open Go.RowKit Go.Shelf

structure ML where
  n : Nat
  fs : List Int
  truth : List (List Bool)
  last : Int

/-- Where a mill's blocks lie. -/
structure MB where
  mb : Nat
  gf : Nat
  cf : Nat
  gt : Nat
  ct : Nat
  tbs : List (Nat × Nat)
  b : KB

def tabV (n : Nat) (tbs : List (Nat × Nat)) : List Value := tbs.map fun p => .slice (some ⟨p.1, 0, none⟩) (2 ^ n) p.2

structure MillAt (w : World) (m : MB) (M : ML) (K : KS) : Prop where
  head : CellsAt w m.mb #[.pointer (some ⟨m.b.k, 0, none⟩), .int .i64 M.n, .int .i64 (2 ^ M.n : Nat), .slice (some ⟨m.gf, 0, none⟩) M.fs.length m.cf, .slice (some ⟨m.gt, 0, none⟩) M.fs.length m.ct, .int .i64 M.last]
  kern : KernelAt w m.b K
  below : ∀ i ∈ m.b.own, i < m.mb
  fs : w.ownsRow (m.mb + 1) 3 1 (.slice (some ⟨m.gf, 0, none⟩) M.fs.length m.cf) M.fs.length (ints M.fs)
  truth : w.ownsRow (m.mb + 1) 47 1 (.slice (some ⟨m.gt, 0, none⟩) M.fs.length m.ct) M.fs.length (tabV M.n m.tbs)
  lens : m.tbs.length = M.fs.length
  tables : ∀ (i : Nat) (p : Nat × Nat) (t : List Bool), m.tbs[i]? = some p → M.truth[i]? = some t → m.mb + 1 ≤ p.1 ∧ TableIs w p.1 t

/-- What a mill knows of its kernel. -/
structure MI (M : ML) (K : KS) : Prop where
  inv : KI K
  n : M.n = K.S.n
  len : M.truth.length = M.fs.length
  two : ∃ l, M.fs = 0 :: 1 :: l
  each : ∀ (i : Nat) (f : Int) (t : List Bool), M.fs[i]? = some f → M.truth[i]? = some t → ∃ r, get K.R f = some r ∧ t = tab K.S.n (K.S.den r)
  all : ∀ a r, get K.R a = some r → a ∈ M.fs
  nodup : M.fs.Nodup
  count : K.R.length = M.fs.length
  last : M.last = K.nx - 1

def ML.more (M : ML) (h : Int) (t : List Bool) : ML := { M with fs := M.fs ++ [h], truth := M.truth ++ [t], last := h }

/-- A handle came out: the one that there is already, or a new one. -/
theorem MI.know {M : ML} {K K' : KS} {F : (Int → Bool) → Bool} {h e c : Int} (I : MI M K) (A : Ans K K' F h e c) {t : List Bool} (ht : t = tab K.S.n F) (hF : ∃ S f, WF S ∧ S.ok f ∧ S.n = K.S.n ∧ ∀ σ, S.den f σ = F σ) :
    (∃ i : Nat, M.truth[i]? = some t ∧ (∀ j : Nat, j < i → M.truth[j]? ≠ some t) ∧ M.fs[i]? = some h ∧ e = 0 ∧ MI M K') ∨
    ((∀ j : Nat, M.truth[j]? ≠ some t) ∧ ((M.fs.length = 102 ∧ h = 0 ∧ e = 3 ∧ MI M K') ∨ (M.fs.length < 102 ∧ h = M.last + 1 ∧ e = 0 ∧ MI (M.more h t) K'))) := by
  obtain ⟨S, f, hwS, okS, hnS, hdS⟩ := hF
  have hn' : K'.S.n = K.S.n := by unfold ST.n; rw [A.order]
  -- a table that is there: its handle's function is F
  have tabF : ∀ (a r : Int), get K.R a = some r → (t = tab K.S.n (K.S.den r) ↔ ∀ σ, K.S.den r σ = F σ) := by
    intro a r ha
    constructor
    · intro e1 σ
      have : tab K.S.n (S.den f) = tab K.S.n (K.S.den r) := by
        rw [← e1, ht]
        unfold tab
        exact List.map_congr_left fun a _ => hdS _
      rw [← tab_inj I.inv.wf hwS hnS (I.inv.ok a r ha) okS this, hdS]
    · intro e1
      rw [ht]
      unfold tab
      exact List.map_congr_left fun a _ => (e1 _).symm
  have pos : ∀ {i : Nat} {t' : List Bool}, M.truth[i]? = some t' → ∃ f', M.fs[i]? = some f' := fun {i t'} hi => by
    have := (List.getElem?_eq_some_iff.1 hi).1
    exact ⟨M.fs[i]'(by rw [← I.len]; exact this), List.getElem?_eq_getElem _⟩
  have pos' : ∀ {i : Nat} {f' : Int}, M.fs[i]? = some f' → ∃ t', M.truth[i]? = some t' := fun {i f'} hi => by
    have := (List.getElem?_eq_some_iff.1 hi).1
    exact ⟨M.truth[i]'(by rw [I.len]; exact this), List.getElem?_eq_getElem _⟩
  have keep : K'.R = K.R → K'.nx = K.nx → MI M K' := fun hR hx =>
    ⟨A.inv, I.n.trans hn'.symm, I.len, I.two, fun i f' t' h1 h2 => by
      obtain ⟨r, h3, h4⟩ := I.each i f' t' h1 h2
      refine ⟨r, by rw [hR]; exact h3, ?_⟩
      rw [h4, hn']
      unfold tab
      exact List.map_congr_left fun a _ => (A.den f' r h3 _).symm, fun a r ha => I.all a r (by rw [← hR]; exact ha), I.nodup, by rw [hR]; exact I.count, by rw [hx]; exact I.last⟩
  rcases A.out with ⟨r, h1, h2, h3, h4, h5⟩ | ⟨hno, hrest⟩
  · left
    obtain ⟨i, hi, ei⟩ := List.mem_iff_getElem.1 (I.all h r h1)
    have hfi : M.fs[i]? = some h := by rw [List.getElem?_eq_getElem hi, ei]
    obtain ⟨t', ht'⟩ := pos' hfi
    obtain ⟨r', g1, g2⟩ := I.each i h t' hfi ht'
    rw [h1] at g1
    have := Option.some.inj g1
    subst this
    have : t = t' := by rw [g2]; exact (tabF h r h1).2 h2
    subst this
    refine ⟨i, ht', fun j hj hc => ?_, hfi, h3, keep h4 h5⟩
    obtain ⟨f', hf'⟩ := pos hc
    obtain ⟨r', g3, g4⟩ := I.each j f' t hf' hc
    have d1 := (tabF f' r' g3).1 g4
    have er : r' = r := den_inj I.inv.wf (I.inv.ok _ _ g3) (I.inv.ok _ _ h1) fun σ => by rw [d1, h2]
    subst er
    have e1 := (I.inv.inv _ _).2 g3
    have e2 := (I.inv.inv _ _).2 h1
    rw [e1] at e2
    have := Option.some.inj e2
    subst this
    have l1 := (List.getElem?_eq_some_iff.1 hf')
    have l2 := (List.getElem?_eq_some_iff.1 hfi)
    have := (List.getElem_inj (h₀ := l1.1) (h₁ := l2.1) I.nodup).1 (by rw [l1.2, l2.2])
    omega
  · right
    have hnone : ∀ j : Nat, M.truth[j]? ≠ some t := by
      intro j hc
      obtain ⟨f', hf'⟩ := pos hc
      obtain ⟨r', g3, g4⟩ := I.each j f' t hf' hc
      exact hno f' r' g3 ((tabF f' r' g3).1 g4)
    refine ⟨hnone, ?_⟩
    rcases hrest with ⟨l, rfl, rfl, hR, hx⟩ | ⟨l, rfl, rfl, hx, r, hR, hd⟩
    · exact .inl ⟨by rw [← I.count]; exact l, rfl, rfl, keep hR hx⟩
    · refine .inr ⟨by have := I.count; have := I.inv.hundred; omega, by have := I.last; omega, rfl, ?_⟩
      have hfr : get K.R K.nx = none := by
        cases hg : get K.R K.nx with
        | none => rfl
        | some x => have := I.inv.key _ _ hg; omega
      have gR : ∀ a, get K'.R a = if a = K.nx then some r else get K.R a := fun a => by rw [hR]; exact get_put _ _ _ _
      have hnew : K.nx ∉ M.fs := fun hm => by
        obtain ⟨i, hi, ei⟩ := List.mem_iff_getElem.1 hm
        have hfi : M.fs[i]? = some K.nx := by rw [List.getElem?_eq_getElem hi, ei]
        obtain ⟨t', ht'⟩ := pos' hfi
        obtain ⟨r', g1, _⟩ := I.each i _ t' hfi ht'
        rw [hfr] at g1
        cases g1
      refine ⟨A.inv, I.n.trans hn'.symm, by simp [ML.more, I.len], ?_, ?_, ?_, ?_, ?_, ?_⟩
      · obtain ⟨l', hl'⟩ := I.two
        exact ⟨l' ++ [K.nx], by simp [ML.more, hl']⟩
      · intro i f' t' h1 h2
        by_cases hi : i < M.fs.length
        · have h1' : M.fs[i]? = some f' := by rw [← h1]; show M.fs[i]? = (M.fs ++ [K.nx])[i]?; rw [List.getElem?_append_left hi]
          have h2' : M.truth[i]? = some t' := by rw [← h2]; show M.truth[i]? = (M.truth ++ [t])[i]?; rw [List.getElem?_append_left (by rw [I.len]; exact hi)]
          obtain ⟨r', g1, g2⟩ := I.each i f' t' h1' h2'
          refine ⟨r', ?_, ?_⟩
          · have hne : f' ≠ K.nx := fun e => hnew (by rw [← e]; exact List.mem_of_getElem? h1')
            rw [gR, if_neg hne]; exact g1
          · rw [g2, hn']
            unfold tab
            exact List.map_congr_left fun a _ => (A.den f' r' g1 _).symm
        · have hi2 : i = M.fs.length := by
            have := (List.getElem?_eq_some_iff.1 h1).1
            simp [ML.more] at this
            omega
          subst hi2
          have h1' : (M.fs ++ [K.nx])[M.fs.length]? = some f' := h1
          have h2' : (M.truth ++ [t])[M.fs.length]? = some t' := h2
          rw [List.getElem?_concat_length] at h1'
          rw [← I.len, List.getElem?_concat_length] at h2'
          have e1 := Option.some.inj h1'
          have e2 := Option.some.inj h2'
          subst e1 e2
          refine ⟨r, by rw [gR, if_pos rfl], ?_⟩
          rw [ht, hn']
          unfold tab
          exact List.map_congr_left fun a _ => (hd _).symm
      · intro a r' ha
        show a ∈ M.fs ++ [K.nx]
        rw [gR] at ha
        by_cases e1 : a = K.nx
        · simp [e1]
        · rw [if_neg e1] at ha
          exact List.mem_append.2 (.inl (I.all a r' ha))
      · show (M.fs ++ [K.nx]).Nodup
        refine List.nodup_append.2 ⟨I.nodup, by simp, ?_⟩
        intro a ha b hb
        simp only [List.mem_singleton] at hb
        subst hb
        exact fun e => hnew (e ▸ ha)
      · show K'.R.length = (M.fs ++ [K.nx]).length
        rw [hR, length_put_new r hfr, List.length_append, I.count]
        rfl
      · show K.nx = K'.nx - 1
        omega

end Go.Proofs.Ytgjomknpjigkhaa

namespace Go.Proofs.Ytgjomknpjigkhaa
open Go.RowKit Go.Shelf

theorem info47 : (Try.prog.info? 47).map (fun i => (i.zero, i.size, i.bytes)) = some (some (.slice none 0 0), 1, 24) := by kernel_rfl

theorem MillAt.of_heap {w w' : World} {m : MB} {M : ML} {K : KS} (h : MillAt w m M K) (e : ∀ i : Nat, w'.heap[i]? = w.heap[i]?) : MillAt w' m M K :=
  ⟨h.head.of_heap (e _), h.kern.of_heap (fun i _ => e i), h.below, by
    obtain ⟨e0, ⟨e1, e2⟩ | ⟨g, cap, cur, e1, e2, e3, e4⟩⟩ := h.fs
    · cases e1
    · exact ⟨e0, .inr ⟨g, cap, cur, e1, e2, (e g).trans e3, e4⟩⟩, by
    obtain ⟨e0, ⟨e1, e2⟩ | ⟨g, cap, cur, e1, e2, e3, e4⟩⟩ := h.truth
    · cases e1
    · exact ⟨e0, .inr ⟨g, cap, cur, e1, e2, (e g).trans e3, e4⟩⟩, h.lens, fun i p t h1 h2 => ⟨(h.tables i p t h1 h2).1, (h.tables i p t h1 h2).2.of_heap (e _)⟩⟩

theorem MillAt.drewN {w : World} {m : MB} {M : ML} {K : KS} (h : MillAt w m M K) (n : Nat) : MillAt (w.drewN n) m M K := h.of_heap fun _ => rfl

theorem MillAt.truthCell {w : World} {m : MB} {M : ML} {K : KS} (h : MillAt w m M K) {i : Nat} {p : Nat × Nat} (hp : m.tbs[i]? = some p) : w.cell? ⟨m.gt, i, none⟩ = some (.slice (some ⟨p.1, 0, none⟩) (2 ^ M.n) p.2) := by
  have := World.ownsRow.cells h.truth (g := m.gt) rfl i (.slice (some ⟨p.1, 0, none⟩) (2 ^ M.n) p.2) (by unfold tabV; rw [List.getElem?_map, hp]; rfl)
  rw [Addr.add_lit, Nat.zero_add] at this
  exact this

/-- What 'know' finds among the tables. -/
theorem MillAt.fsCell {w : World} {m : MB} {M : ML} {K : KS} (h : MillAt w m M K) {i : Nat} {f : Int} (hf : M.fs[i]? = some f) : w.cell? ⟨m.gf, i, none⟩ = some (.int .i64 f) := ownsRow_cell h.fs hf

set_option maxRecDepth 100000 in
set_option maxHeartbeats 2000000 in
/-- The table is there: the answer must be its handle. -/
theorem know_old {w : World} {m : MB} {M : ML} {K : KS} (hM : MillAt w m M K) (ll : M.truth.length = M.fs.length) (n8 : M.n ≤ 8) (hl : M.fs.length ≤ 200) (tl : ∀ t' ∈ M.truth, t'.length = 2 ^ M.n) (h : Int) (tb tc : Nat) (t : List Bool) (ht : TableIs w tb t) (htl : t.length = 2 ^ M.n) (i : Nat) (hi : M.truth[i]? = some t) (hfirst : ∀ j : Nat, j < i → M.truth[j]? ≠ some t) (hf : M.fs[i]? = some h) :
    Calls Try.prog 21 #[.pointer (some ⟨m.mb, 0, none⟩), .int .i64 h, .int .i64 0, .slice (some ⟨tb, 0, none⟩) (2 ^ M.n) tc] w fun e w' => e = .returned (.bool true) ∧ ∃ n, w' = w.drewN n := by
  have hp256 := pow_le_256 n8
  have hil : i < M.fs.length := by rw [← ll]; exact (List.getElem?_eq_some_iff.1 hi).1
  go_enter Try.func21, Try.ntmps21
  go_wp2_with fail
  go_loopw [9] (fun v wr => ∃ j : Nat, v = .int .i64 j ∧ j ≤ i ∧ ∃ n, wr = w.drewN n) (fun v _ => ((i : Int) + 1 - intOf v).toNat)
  case atStart => exact ⟨0, rfl, by omega, 0, rfl⟩
  case round =>
    obtain ⟨j, rfl, hj, n0, hwr⟩ := hrel
    have hMr : MillAt wr m M K := by rw [hwr]; exact hM.drewN n0
    have htr : TableIs wr tb t := by rw [hwr]; exact ht.of_heap rfl
    have Hwr := hide hwr
    clear hwr
    have c3 := hMr.head.cell 3
    have c4 := hMr.head.cell 4
    simp at c3 c4
    have hjl : j < M.fs.length := by omega
    have hjI : (j : Int) < M.fs.length := by omega
    have hj63 : (j : Int) < 9223372036854775807 := by omega
    obtain ⟨p, hp⟩ : ∃ p, m.tbs[j]? = some p := ⟨m.tbs[j]'(by rw [hM.lens]; exact hjl), List.getElem?_eq_getElem _⟩
    obtain ⟨t', ht'⟩ : ∃ t', M.truth[j]? = some t' := ⟨M.truth[j]'(by rw [ll]; exact hjl), List.getElem?_eq_getElem _⟩
    have hc := hMr.truthCell hp
    have htab := (hMr.tables j p t' hp ht').2
    have htl' := tl t' (List.mem_of_getElem? ht')
    have hs := same_calls p.1 tb p.2 tc t' t htab htr (by rw [htl', htl]) (by rw [htl']; exact hp256)
    rw [htl', htl] at hs
    by_cases hji : j = i
    · subst hji
      rw [hi] at ht'
      have := Option.some.inj ht'
      subst this
      rw [show decide (t = t) = true by simp] at hs
      have hs' := hide hs
      have hfc := hMr.fsCell hf
      have hbe : (h == h) = true := by simp
      clear hs ht' hp hi hfirst
      go_wp2_with fail
      refine hs'.out.mono ?_
      rintro e w2 ⟨rfl, n1, hw2⟩
      have hM2 : MillAt w2 m M K := by rw [hw2]; exact hMr.drewN n1
      have d3 := hM2.head.cell 3
      simp at d3
      have hfc2 := hM2.fsCell hf
      have Hw2 := hide hw2
      clear hw2 c3 c4 hc hfc
      go_wp2_with fail
      go_ret
      refine ⟨rfl, n0 + n1, ?_⟩
      rw [Hw2.out, Hwr.out]
      simp [World.drewN, Nat.add_assoc]
    · have hne : t' ≠ t := fun e => hfirst j (by omega) (by rw [ht', e])
      rw [show decide (t' = t) = false by simp [hne]] at hs
      have hs' := hide hs
      clear hs ht' hp hi hfirst hne
      go_wp2_with fail
      refine hs'.out.mono ?_
      rintro e w2 ⟨rfl, n1, hw2⟩
      have Hw2 := hide hw2
      clear hw2 c3 c4 hc
      go_wp2_with fail
      go_roundw
      · refine ⟨j + 1, by simp, by omega, n0 + n1, ?_⟩
        rw [Hw2.out, Hwr.out]
        simp [World.drewN, Nat.add_assoc]
      · simp only [intOf]; omega

end Go.Proofs.Ytgjomknpjigkhaa

namespace Go.Proofs.Ytgjomknpjigkhaa
open Go.RowKit Go.Shelf

set_option maxRecDepth 100000 in
set_option maxHeartbeats 2000000 in
theorem know_full {w : World} {m : MB} {M : ML} {K : KS} (hM : MillAt w m M K) (ll : M.truth.length = M.fs.length) (n8 : M.n ≤ 8) (hl : M.fs.length = 102) (tl : ∀ t' ∈ M.truth, t'.length = 2 ^ M.n) (tb tc : Nat) (t : List Bool) (ht : TableIs w tb t) (htl : t.length = 2 ^ M.n) (hnone : ∀ j : Nat, M.truth[j]? ≠ some t) :
    Calls Try.prog 21 #[.pointer (some ⟨m.mb, 0, none⟩), .int .i64 0, .int .i64 3, .slice (some ⟨tb, 0, none⟩) (2 ^ M.n) tc] w fun e w' => e = .returned (.bool true) ∧ ∃ n, w' = w.drewN n := by
  have hp256 := pow_le_256 n8
  have Hl := hide hl
  have hl2 : M.fs.length ≤ 200 := by omega
  clear hl
  go_enter Try.func21, Try.ntmps21
  go_wp2_with fail
  go_loopw [9] (fun v wr => ∃ j : Nat, v = .int .i64 j ∧ j ≤ M.fs.length ∧ ∃ n, wr = w.drewN n) (fun v _ => ((M.fs.length : Int) - intOf v).toNat)
  case atStart => exact ⟨0, rfl, by omega, 0, rfl⟩
  case round =>
    obtain ⟨j, rfl, hj, n0, hwr⟩ := hrel
    have hMr : MillAt wr m M K := by rw [hwr]; exact hM.drewN n0
    have htr : TableIs wr tb t := by rw [hwr]; exact ht.of_heap rfl
    have Hwr := hide hwr
    clear hwr
    have c3 := hMr.head.cell 3
    have c4 := hMr.head.cell 4
    simp at c3 c4
    by_cases hjl : j < M.fs.length
    · have hjI : (j : Int) < M.fs.length := by omega
      have hj63 : (j : Int) < 9223372036854775807 := by omega
      obtain ⟨p, hp⟩ : ∃ p, m.tbs[j]? = some p := ⟨m.tbs[j]'(by rw [hM.lens]; exact hjl), List.getElem?_eq_getElem _⟩
      obtain ⟨t', ht'⟩ : ∃ t', M.truth[j]? = some t' := ⟨M.truth[j]'(by rw [ll]; exact hjl), List.getElem?_eq_getElem _⟩
      have hc := hMr.truthCell hp
      have htab := (hMr.tables j p t' hp ht').2
      have htl' := tl t' (List.mem_of_getElem? ht')
      have hs := same_calls p.1 tb p.2 tc t' t htab htr (by rw [htl', htl]) (by rw [htl']; exact hp256)
      rw [htl', htl] at hs
      have hne : t' ≠ t := fun e => hnone j (by rw [ht', e])
      rw [show decide (t' = t) = false by simp [hne]] at hs
      have hs' := hide hs
      clear hs ht' hp hne
      go_wp2_with fail
      refine hs'.out.mono ?_
      rintro e w2 ⟨rfl, n1, hw2⟩
      have Hw2 := hide hw2
      clear hw2 c3 c4 hc
      go_wp2_with fail
      go_roundw
      · refine ⟨j + 1, by simp, by omega, n0 + n1, ?_⟩
        rw [Hw2.out, Hwr.out]
        simp [World.drewN, Nat.add_assoc]
      · simp only [intOf]; omega
    · have hje : ¬ (j : Int) < M.fs.length := by omega
      rw [Hl.out] at c3 hje
      go_wp2_with fail
      go_ret
      exact ⟨rfl, n0, Hwr.out⟩

end Go.Proofs.Ytgjomknpjigkhaa

namespace Go.Proofs.Ytgjomknpjigkhaa
open Go.RowKit Go.Shelf

theorem own_tag {w : World} {base : Nat} {e : TypeId} {size n : Nat} {v : Value} {xs : List Value} (h : w.ownsRow base e size v n xs) : ∀ i, v.ownBlock = some i → ∃ cs, w.heap[i]? = some (.cells cs e (0, 0)) := by
  intro i hi
  obtain ⟨_, ⟨rfl, _⟩ | ⟨g, cap, cur, rfl, hb, hg, _⟩⟩ := h
  · simp [Value.ownBlock] at hi
  · simp only [Value.ownBlock, Option.some.injEq] at hi
    subst hi
    exact ⟨_, hg⟩

/-- The tables from b on stay. -/
def Tabs (b : Nat) (w w' : World) : Prop := ∀ q t, b ≤ q → TableIs w q t → TableIs w' q t
theorem Tabs.trans {b : Nat} {x y z : World} (h : Tabs b x y) (k : Tabs b y z) : Tabs b x z := fun q t hq ht => k q t hq (h q t hq ht)
theorem Keeps.tabs {b : Nat} {T : List Nat} {w w' : World} (k : Keeps T w w') (hT : ∀ i ∈ T, i < b ∨ ∀ cs, w.heap[i]? ≠ some (.cells cs 4 (0, 0))) : Tabs b w w' := fun q t hq ht => ht.keeps k fun x => by
  rcases hT q x with h | h
  · omega
  · obtain ⟨cs, h1, _⟩ := ht
    exact h cs h1

theorem slice_cell {W : World} {v : Value} : ∀ (j : Nat) (x : Value), [v][j]? = some x → (W.alloc (.cells #[v] 47)).cell? ((⟨W.heap.size, 0, none⟩ : Addr).add j) = some x := by
  intro j x hx
  rw [Addr.add_lit, Nat.zero_add, (CellsAt.new W #[v] 47).cell]
  cases j with
  | zero => simp at hx; subst hx; rfl
  | succ j => simp at hx

set_option maxRecDepth 100000 in
set_option maxHeartbeats 2000000 in
theorem know_new {w : World} {m : MB} {M : ML} {K : KS} (hM : MillAt w m M K) (ll : M.truth.length = M.fs.length) (n8 : M.n ≤ 8) (hl : M.fs.length < 102) (tl : ∀ t' ∈ M.truth, t'.length = 2 ^ M.n) (x0 : 0 ≤ M.last) (x1 : M.last < 9223372036854775807) (tb tc : Nat) (t : List Bool) (ht : TableIs w tb t) (hbt : m.mb + 1 ≤ tb) (htl : t.length = 2 ^ M.n) (hnone : ∀ j : Nat, M.truth[j]? ≠ some t) :
    Calls Try.prog 21 #[.pointer (some ⟨m.mb, 0, none⟩), .int .i64 (M.last + 1), .int .i64 0, .slice (some ⟨tb, 0, none⟩) (2 ^ M.n) tc] w fun e w' => e = .returned (.bool true) ∧ ∃ m', MillAt w' m' (M.more (M.last + 1) t) K ∧ m'.mb = m.mb ∧ m'.b = m.b ∧ Below m.mb w w' := by
  obtain ⟨i0, hi0, hz0, hz1, hz2⟩ := info_parts info3
  obtain ⟨i7, hi7, hy0, hy1, hy2⟩ := info_parts info47
  have hp256 := pow_le_256 n8
  go_enter Try.func21, Try.ntmps21
  go_wp2_with fail
  go_loopw [9] (fun v wr => ∃ j : Nat, v = .int .i64 j ∧ j ≤ M.fs.length ∧ ∃ n, wr = w.drewN n) (fun v _ => ((M.fs.length : Int) - intOf v).toNat)
  case atStart => exact ⟨0, rfl, by omega, 0, rfl⟩
  case round =>
    obtain ⟨j, rfl, hj, n0, hwr⟩ := hrel
    have hMr : MillAt wr m M K := by rw [hwr]; exact hM.drewN n0
    have htr : TableIs wr tb t := by rw [hwr]; exact ht.of_heap rfl
    have Hwr := hide hwr
    clear hwr
    have c3 := hMr.head.cell 3
    have c4 := hMr.head.cell 4
    simp at c3 c4
    by_cases hjl : j < M.fs.length
    · have hjI : (j : Int) < M.fs.length := by omega
      have hj63 : (j : Int) < 9223372036854775807 := by omega
      obtain ⟨p, hp⟩ : ∃ p, m.tbs[j]? = some p := ⟨m.tbs[j]'(by rw [hM.lens]; exact hjl), List.getElem?_eq_getElem _⟩
      obtain ⟨t', ht'⟩ : ∃ t', M.truth[j]? = some t' := ⟨M.truth[j]'(by rw [ll]; exact hjl), List.getElem?_eq_getElem _⟩
      have hc := hMr.truthCell hp
      have htab := (hMr.tables j p t' hp ht').2
      have htl' := tl t' (List.mem_of_getElem? ht')
      have hs := same_calls p.1 tb p.2 tc t' t htab htr (by rw [htl', htl]) (by rw [htl']; exact hp256)
      rw [htl', htl] at hs
      have hne : t' ≠ t := fun e => hnone j (by rw [ht', e])
      rw [show decide (t' = t) = false by simp [hne]] at hs
      have hs' := hide hs
      clear hs ht' hp hne
      go_wp2_with fail
      refine hs'.out.mono ?_
      rintro e w2 ⟨rfl, n1, hw2⟩
      have Hw2 := hide hw2
      clear hw2 c3 c4 hc
      go_wp2_with fail
      go_roundw
      · refine ⟨j + 1, by simp, by omega, n0 + n1, ?_⟩
        rw [Hw2.out, Hwr.out]
        simp [World.drewN, Nat.add_assoc]
      · simp only [intOf]; omega
    · have hje : ¬ (j : Int) < M.fs.length := by omega
      have hsub : wrap64 ((M.fs.length : Int) - 2) = (M.fs.length : Int) - 2 := by unfold wrap64; omega
      have hge : ¬ 100 ≤ (M.fs.length : Int) - 2 := by omega
      have c5 := hMr.head.cell 5
      have f5 := hMr.head.frozen 5
      simp at c5
      have hnn : (M.last + 1 != M.last + 1) = false := by simp
      have hb0 : m.mb < wr.heap.size := hMr.head.lt
      -- the last
      have s1 := hMr.head.setCell 5 (.int .i64 (M.last + 1))
      have k1 := Keeps.setCell wr ⟨m.mb, 5, none⟩ (.int .i64 (M.last + 1))
      have hT : ∀ j, m.mb + 1 ≤ j → j ∉ [m.mb] := fun j hj x => by simp only [List.mem_singleton] at x; omega
      have fs1 := ownsRow_kept hMr.fs k1 (fun j hj => hT j (own_base hMr.fs j hj).1)
      have tr1 := hide (ownsRow_kept hMr.truth k1 (fun j hj => hT j (own_base hMr.truth j hj).1))
      have s1' : CellsAt (wr.setCell ⟨m.mb, 5, none⟩ (.int .i64 (M.last + 1))) m.mb #[.pointer (some ⟨m.b.k, 0, none⟩), .int .i64 M.n, .int .i64 (2 ^ M.n : Nat), .slice (some ⟨m.gf, 0, none⟩) M.fs.length m.cf, .slice (some ⟨m.gt, 0, none⟩) M.fs.length m.ct, .int .i64 (M.last + 1)] := by simpa using s1
      have hz : (wr.setCell ⟨m.mb, 5, none⟩ (.int .i64 (M.last + 1))).heap.size = wr.heap.size := by simp
      have d3 := s1'.cell 3
      simp at d3
      have kB := Keeps.alloc [] (wr.setCell ⟨m.mb, 5, none⟩ (.int .i64 (M.last + 1))) (.cells #[.int .i64 (M.last + 1)] 3)
      have hone := one_cell (W := wr.setCell ⟨m.mb, 5, none⟩ (.int .i64 (M.last + 1))) (y := M.last + 1)
      rw [hz] at hone
      have fsB := ownsRow_kept fs1 kB (by simp)
      have trB := hide (ownsRow_kept tr1.out kB (by simp))
      have sB := s1'.keeps kB (by simp)
      have hszB : m.mb + 1 ≤ ((wr.setCell ⟨m.mb, 5, none⟩ (.int .i64 (M.last + 1))).alloc (.cells #[.int .i64 (M.last + 1)] 3)).heap.size := by rw [size_alloc', hz]; omega
      clear hz s1
      go_wp2_with (at_builtin; refine wpList_append_own _ rfl _ _ 30 rfl (m.mb + 1) 3 i0 (.int .i64 0) 1 8 Try.underlying30 hi0 hz0 hz1 hz2 rfl (by decide) _ M.fs.length (ints M.fs) rfl fsB ⟨wr.heap.size, 0, none⟩ 1 1 (ints [M.last + 1]) rfl (by simp [ints]) hone (ints_one _) (by unfold maxLen; omega) (by omega) hszB ?_)
      intro vf' W2 hown2 hgrow2 hnil2
      have hex2 : ∃ g cap, vf' = .slice (some ⟨g, 0, none⟩) (M.fs.length + 1) cap := by
        rcases hown2.2 with ⟨e, e2⟩ | ⟨g, cap, cur, e, _⟩
        · omega
        · exact ⟨g, cap, e⟩
      obtain ⟨gf', cf', hvf⟩ := hex2
      subst hvf
      have k2 := grownBy_keeps' hgrow2 [m.gf] (fun r e => .inl (by simp only [Value.ownBlock, Option.some.injEq] at e; simp [e]))
      have hgf := (own_base fsB m.gf rfl).1
      obtain ⟨csf, tagf⟩ := own_tag fsB m.gf rfl
      have s2 := sB.keeps k2 (by simp; omega)
      have tr2 := hide (ownsRow_kept trB.out k2 (fun q hq x => by
        obtain ⟨cs, tg⟩ := own_tag trB.out q hq
        simp only [List.mem_singleton] at x
        rw [x, tagf] at tg
        cases tg))
      have T2 : Tabs (m.mb + 1) wr W2 := ((k1.tabs (by simp)).trans (kB.tabs (by simp))).trans (k2.tabs (fun q hq => .inr (fun cs tg => by simp only [List.mem_singleton] at hq; rw [hq, tagf] at tg; cases tg)))
      have B2 : Below m.mb w W2 := by
        have k0 : Keeps [] w wr := by rw [Hwr.out]; exact Keeps.drewN _ _ _
        have kk := ((k0.mono (T' := [m.mb, m.gf]) (by simp)).trans (k1.mono (by simp))).trans ((kB.mono (by simp)).trans (k2.mono (by simp)))
        exact kk.below (by have := hM.head.lt; omega) (by simp; omega)
      have e3 := s2.cell 3
      have g3 := s2.frozen 3
      simp at e3
      have s3 := s2.setCell 3 (.slice (some ⟨gf', 0, none⟩) (M.fs.length + 1) cf')
      have k3 := Keeps.setCell W2 ⟨m.mb, 3, none⟩ (.slice (some ⟨gf', 0, none⟩) (M.fs.length + 1) cf')
      have fs3 := hide (ownsRow_kept hown2 k3 (fun j hj => hT j (own_base hown2 j hj).1))
      have tr3 := ownsRow_kept tr2.out k3 (fun j hj => hT j (own_base tr2.out j hj).1)
      have s3' : CellsAt (W2.setCell ⟨m.mb, 3, none⟩ (.slice (some ⟨gf', 0, none⟩) (M.fs.length + 1) cf')) m.mb #[.pointer (some ⟨m.b.k, 0, none⟩), .int .i64 M.n, .int .i64 (2 ^ M.n : Nat), .slice (some ⟨gf', 0, none⟩) (M.fs.length + 1) cf', .slice (some ⟨m.gt, 0, none⟩) M.fs.length m.ct, .int .i64 (M.last + 1)] := by simpa using s3
      have hb2 := s3'.lt
      have hz : (W2.setCell ⟨m.mb, 3, none⟩ (.slice (some ⟨gf', 0, none⟩) (M.fs.length + 1) cf')).heap.size = W2.heap.size := by simp
      have d4 := s3'.cell 4
      simp at d4
      have kC := Keeps.alloc [] (W2.setCell ⟨m.mb, 3, none⟩ (.slice (some ⟨gf', 0, none⟩) (M.fs.length + 1) cf')) (.cells #[.slice (some ⟨tb, 0, none⟩) (2 ^ M.n) tc] 47)
      have hone2 := slice_cell (W := W2.setCell ⟨m.mb, 3, none⟩ (.slice (some ⟨gf', 0, none⟩) (M.fs.length + 1) cf')) (v := .slice (some ⟨tb, 0, none⟩) (2 ^ M.n) tc)
      rw [hz] at hone2 hb2
      have trC := ownsRow_kept tr3 kC (by simp)
      have fsC := hide (ownsRow_kept fs3.out kC (by simp))
      have sC := s3'.keeps kC (by simp)
      have hszC : m.mb + 1 ≤ ((W2.setCell ⟨m.mb, 3, none⟩ (.slice (some ⟨gf', 0, none⟩) (M.fs.length + 1) cf')).alloc (.cells #[.slice (some ⟨tb, 0, none⟩) (2 ^ M.n) tc] 47)).heap.size := by rw [size_alloc', hz]; omega
      have Hb2 := hide hb2
      have Hnone := hide hnone
      have T3 : Tabs (m.mb + 1) wr ((W2.setCell ⟨m.mb, 3, none⟩ (.slice (some ⟨gf', 0, none⟩) (M.fs.length + 1) cf')).alloc (.cells #[.slice (some ⟨tb, 0, none⟩) (2 ^ M.n) tc] 47)) := (T2.trans (k3.tabs (by simp))).trans (kC.tabs (by simp))
      clear hz s3 hb2 hown2 hgrow2 hnil2 hone hszB fsB d3 hnone tr3 fs1
      go_wp2_with (at_builtin; refine wpList_append_own _ rfl _ _ 32 rfl (m.mb + 1) 47 i7 (.slice none 0 0) 1 24 Try.underlying32 hi7 hy0 hy1 hy2 rfl (by decide) _ M.fs.length (tabV M.n m.tbs) rfl trC ⟨W2.heap.size, 0, none⟩ 1 1 [.slice (some ⟨tb, 0, none⟩) (2 ^ M.n) tc] rfl (by simp) hone2 (by simp [Value.oneCell']) (by unfold maxLen; omega) (by omega) hszC ?_)
      intro vt' W4 hown4 hgrow4 hnil4
      have hex4 : ∃ g cap, vt' = .slice (some ⟨g, 0, none⟩) (M.fs.length + 1) cap := by
        rcases hown4.2 with ⟨e, e2⟩ | ⟨g, cap, cur, e, _⟩
        · omega
        · exact ⟨g, cap, e⟩
      obtain ⟨gt', ct', hvt⟩ := hex4
      subst hvt
      have k4 := grownBy_keeps' hgrow4 [m.gt] (fun r e => .inl (by simp only [Value.ownBlock, Option.some.injEq] at e; simp [e]))
      have hgt := (own_base trC m.gt rfl).1
      obtain ⟨cst', tagt⟩ := own_tag trC m.gt rfl
      have s4 := sC.keeps k4 (by simp; omega)
      have fs4 := hide (ownsRow_kept fsC.out k4 (fun q hq x => by
        obtain ⟨cs, tg⟩ := own_tag fsC.out q hq
        simp only [List.mem_singleton] at x
        rw [x, tagt] at tg
        cases tg))
      have T4 : Tabs (m.mb + 1) wr W4 := T3.trans (k4.tabs (fun q hq => .inr (fun cs tg => by simp only [List.mem_singleton] at hq; rw [hq, tagt] at tg; cases tg)))
      have e4 := s4.cell 4
      have g4 := s4.frozen 4
      simp at e4
      have s5 := s4.setCell 4 (.slice (some ⟨gt', 0, none⟩) (M.fs.length + 1) ct')
      have k5 := Keeps.setCell W4 ⟨m.mb, 4, none⟩ (.slice (some ⟨gt', 0, none⟩) (M.fs.length + 1) ct')
      have fs5 := hide (ownsRow_kept fs4.out k5 (fun j hj => hT j (own_base fs4.out j hj).1))
      have tr5 := hide (ownsRow_kept hown4 k5 (fun j hj => hT j (own_base hown4 j hj).1))
      have T5 : Tabs (m.mb + 1) wr (W4.setCell ⟨m.mb, 4, none⟩ (.slice (some ⟨gt', 0, none⟩) (M.fs.length + 1) ct')) := T4.trans (k5.tabs (by simp))
      have B5 : Below m.mb W2 (W4.setCell ⟨m.mb, 4, none⟩ (.slice (some ⟨gt', 0, none⟩) (M.fs.length + 1) ct')) := by
        have kk := ((k3.mono (T' := [m.mb, m.gt]) (by simp)).trans (kC.mono (by simp))).trans ((k4.mono (by simp)).trans (k5.mono (by simp)))
        exact kk.below (by have := Hb2.out; omega) (by simp; omega)
      have BB := B2.trans B5
      clear hown4 hgrow4 hnil4 hone2 hszC trC d4
      go_wp2_with fail
      go_ret
      refine ⟨rfl, ⟨m.mb, gf', cf', gt', ct', m.tbs ++ [(tb, tc)], m.b⟩, ⟨?_, ?_, hM.below, ?_, ?_, ?_, ?_⟩, rfl, rfl, BB⟩
      · have := s5
        simpa [ML.more] using this
      · exact hM.kern.of_heap (fun i hi => BB.block i (hM.below i hi))
      · have := fs5.out
        simpa [ML.more, ints] using this
      · have := tr5.out
        simpa [ML.more, tabV] using this
      · simp [ML.more, hM.lens]
      · intro i p t' hp ht'
        by_cases hi : i < m.tbs.length
        · have hp' : m.tbs[i]? = some p := by rw [← hp]; exact (List.getElem?_append_left hi).symm
          have ht'' : M.truth[i]? = some t' := by rw [← ht']; exact (List.getElem?_append_left (by rw [ll, ← hM.lens]; exact hi)).symm
          have := hMr.tables i p t' hp' ht''
          exact ⟨this.1, T5 _ _ this.1 this.2⟩
        · have hie : i = m.tbs.length := by
            have := (List.getElem?_eq_some_iff.1 hp).1
            simp at this
            omega
          subst hie
          have hp' : (m.tbs ++ [(tb, tc)])[m.tbs.length]? = some p := hp
          have ht'' : (M.truth ++ [t])[m.tbs.length]? = some t' := ht'
          rw [List.getElem?_concat_length] at hp'
          rw [hM.lens, ← ll, List.getElem?_concat_length] at ht''
          have q1 := Option.some.inj hp'
          have q2 := Option.some.inj ht''
          subst q1 q2
          exact ⟨hbt, T5 _ _ hbt htr⟩

end Go.Proofs.Ytgjomknpjigkhaa

namespace Go.Proofs.Ytgjomknpjigkhaa
open Go.RowKit Go.Shelf

theorem MI.tableLen {M : ML} {K : KS} (I : MI M K) : ∀ t' ∈ M.truth, t'.length = 2 ^ M.n := by
  intro t' ht
  obtain ⟨i, hi, ei⟩ := List.mem_iff_getElem.1 ht
  have h1 : M.truth[i]? = some t' := by rw [List.getElem?_eq_getElem hi, ei]
  have h2 : M.fs[i]? = some (M.fs[i]'(by rw [← I.len]; exact hi)) := List.getElem?_eq_getElem _
  obtain ⟨r, _, e⟩ := I.each i _ t' h2 h1
  rw [e, tab_length, I.n]

theorem drewN_below (w : World) (n B : Nat) (hB : B ≤ w.heap.size) : Below B w (w.drewN n) := (Keeps.drewN [] w n).below hB (by simp)

theorem know_calls {w : World} {m : MB} {M : ML} {K K' : KS} {F : (Int → Bool) → Bool} {h e c : Int} (hM : MillAt w m M K') (I : MI M K) (A : Ans K K' F h e c) (hx : K.nx < 9223372036854775807) (tb tc : Nat) (ht : TableIs w tb (tab K.S.n F)) (hbt : m.mb + 1 ≤ tb) :
    Calls Try.prog 21 #[.pointer (some ⟨m.mb, 0, none⟩), .int .i64 h, .int .i64 e, .slice (some ⟨tb, 0, none⟩) (2 ^ M.n) tc] w fun e w' => e = .returned (.bool true) ∧ ∃ m' M', MillAt w' m' M' K' ∧ MI M' K' ∧ m'.mb = m.mb ∧ m'.b = m.b ∧ M'.n = M.n ∧ Below m.mb w w' := by
  have n8 : M.n ≤ 8 := by rw [I.n]; exact I.inv.n8
  have htl : (tab K.S.n F).length = 2 ^ M.n := by rw [tab_length, I.n]
  have hcount := I.count
  have h100 := I.inv.hundred
  have hmb : m.mb ≤ w.heap.size := by have := hM.head.lt; omega
  rcases I.know A rfl A.src with ⟨i, h1, h2, h3, h4, h5⟩ | ⟨hnone, ⟨h1, h2, h3, h4⟩ | ⟨h1, h2, h3, h4⟩⟩
  · rw [h4]
    refine (know_old hM I.len n8 (by omega) I.tableLen h tb tc _ ht htl i h1 h2 h3).mono ?_
    rintro e w' ⟨rfl, n, rfl⟩
    exact ⟨rfl, m, M, hM.drewN n, h5, rfl, rfl, rfl, drewN_below w n _ hmb⟩
  · rw [h2, h3]
    refine (know_full hM I.len n8 h1 I.tableLen tb tc _ ht htl hnone).mono ?_
    rintro e w' ⟨rfl, n, rfl⟩
    exact ⟨rfl, m, M, hM.drewN n, h4, rfl, rfl, rfl, drewN_below w n _ hmb⟩
  · have hl := I.last
    have hn := I.inv.nx2
    rw [h3]
    rw [h2] at h4 ⊢
    refine (know_new hM I.len n8 h1 I.tableLen (by omega) (by omega) tb tc _ ht hbt htl hnone).mono ?_
    rintro e w' ⟨rfl, m', a1, a2, a3, a4⟩
    exact ⟨rfl, m', _, a1, h4, a2, a3, rfl, a4⟩

end Go.Proofs.Ytgjomknpjigkhaa

namespace Go.Proofs.Ytgjomknpjigkhaa
open Go.RowKit Go.Shelf

theorem wrap_small (r : Nat) (h : r < 256) : IntKind.i64.wrap (r : Int) = r := by rw [IntKind.wrap_i64]; omega

theorem bits_xor (a b : Nat) (ha : a < 256) (hb : b < 256) : bits .xor .i64 a b = ((a ^^^ b : Nat) : Int) := by
  have h : (a ^^^ b) < 2 ^ 8 := Nat.xor_lt_two_pow ha hb
  have ha' : a % 2 ^ 64 = a := Nat.mod_eq_of_lt (by omega)
  have hb' : b % 2 ^ 64 = b := Nat.mod_eq_of_lt (by omega)
  have e : (BitVec.ofNat 64 a ^^^ BitVec.ofNat 64 b).toNat = a ^^^ b := by rw [BitVec.toNat_xor, BitVec.toNat_ofNat, BitVec.toNat_ofNat, ha', hb']
  simp only [bits, BitVec.ofInt_natCast]
  exact (congrArg (fun r : Nat => IntKind.i64.wrap (r : Int)) e).trans (wrap_small _ h)

/-- The bits of a that are not in x. -/
def clr (a x : Nat) : Nat := (BitVec.ofNat 64 a &&& ~~~BitVec.ofNat 64 x).toNat

theorem clr_bit (a x k : Nat) (hk : k < 64) : (clr a x).testBit k = (a.testBit k && !x.testBit k) := by
  unfold clr
  rw [BitVec.testBit_toNat, BitVec.getLsbD_and, BitVec.getLsbD_not, BitVec.getLsbD_ofNat, BitVec.getLsbD_ofNat]
  simp [hk]

theorem clr_high (a x k : Nat) (ha : a < 256) (hk : 8 ≤ k) : (clr a x).testBit k = false := by
  by_cases h : k < 64
  · rw [clr_bit a x k h]
    have : a.testBit k = false := Nat.testBit_lt_two_pow (Nat.lt_of_lt_of_le (show a < 2 ^ 8 from ha) (Nat.pow_le_pow_right (by decide) hk))
    simp [this]
  · unfold clr
    refine Nat.testBit_lt_two_pow (Nat.lt_of_lt_of_le (BitVec.isLt _) (Nat.pow_le_pow_right (by decide) (by omega)))

theorem clr_lt (a x : Nat) (ha : a < 256) : clr a x < 256 := by
  refine Nat.lt_pow_two_of_testBit (n := 8) _ fun i hi => clr_high a x i ha hi

theorem bits_andNot (a x : Nat) (ha : a < 256) : bits .andNot .i64 a x = (clr a x : Int) := by
  have h := clr_lt a x ha
  simp only [bits, BitVec.ofInt_natCast]
  exact wrap_small _ h

theorem clr_eq {n a b x : Nat} (n8 : n ≤ 8) (ha : a < 2 ^ n) (hb : b < 2 ^ n) : clr a x = clr b x ↔ ∀ k, k < n → x.testBit k = false → a.testBit k = b.testBit k := by
  have hp : 2 ^ n ≤ 256 := Nat.pow_le_pow_right (n := 2) (by decide) n8
  constructor
  · intro h k hk hx
    have := congrArg (fun y : Nat => y.testBit k) h
    simp only [clr_bit _ _ k (by omega), hx] at this
    simpa using this
  · intro h
    refine Nat.eq_of_testBit_eq fun k => ?_
    by_cases hk : k < n
    · rw [clr_bit _ _ k (by omega), clr_bit _ _ k (by omega)]
      cases hx : x.testBit k
      · rw [h k hk hx]
      · simp
    · by_cases h64 : k < 64
      · rw [clr_bit _ _ k h64, clr_bit _ _ k h64]
        have e1 : a.testBit k = false := Nat.testBit_lt_two_pow (Nat.lt_of_lt_of_le ha (Nat.pow_le_pow_right (by decide) (by omega)))
        have e2 : b.testBit k = false := Nat.testBit_lt_two_pow (Nat.lt_of_lt_of_le hb (Nat.pow_le_pow_right (by decide) (by omega)))
        rw [e1, e2]
      · rw [clr_high a x k (by omega) (by omega), clr_high b x k (by omega) (by omega)]

/-- Where a function is true for some values of a set of variables, in tables. -/
theorem ex_tab {S : ST} (hw : WF S) {r : Int} (okr : S.ok r) (n8 : S.n ≤ 8) {X : Nat} {F : (Int → Bool) → Bool}
    (hF : ∀ σ, F σ = true ↔ ∃ τ : Int → Bool, (∀ v : Int, 0 ≤ v → v < S.n → bitB X v = false → τ v = σ v) ∧ S.den r τ = true) {a : Nat} (ha : a < 2 ^ S.n) :
    F (asg a) = true ↔ ∃ b : Nat, b < 2 ^ S.n ∧ S.den r (asg b) = true ∧ clr a X = clr b X := by
  rw [hF]
  constructor
  · rintro ⟨τ, h1, h2⟩
    refine ⟨code τ S.n, code_lt τ S.n, by rw [den_asg hw okr]; exact h2, (clr_eq n8 ha (code_lt τ S.n)).2 fun k hk hx => ?_⟩
    have := h1 k (by omega) (by omega) (by rw [bitB_nat]; exact hx)
    rw [code_bit, this]
    unfold asg
    rw [bitB_nat]
    simp [hk]
  · rintro ⟨b, hb, h1, h2⟩
    refine ⟨asg b, fun v v0 v1 hx => ?_, h1⟩
    obtain ⟨k, rfl⟩ := Int.eq_ofNat_of_zero_le v0
    rw [bitB_nat] at hx
    have := (clr_eq n8 ha hb).1 h2 k (by omega) hx
    unfold asg
    rw [bitB_nat, bitB_nat, this]

/-- So far, as far as b. -/
def exUp (S : ST) (r : Int) (X a b : Nat) : Bool := (List.range b).any fun c => S.den r (asg (c : Int)) && decide (clr a X = clr c X)

theorem exUp_zero (S : ST) (r : Int) (X a : Nat) : exUp S r X a 0 = false := rfl
theorem exUp_succ (S : ST) (r : Int) (X a b : Nat) : exUp S r X a (b + 1) = (exUp S r X a b || (S.den r (asg (b : Int)) && decide (clr a X = clr b X))) := by
  unfold exUp
  rw [List.range_succ, List.any_append]
  simp

theorem exUp_all {S : ST} (hw : WF S) {r : Int} (okr : S.ok r) (n8 : S.n ≤ 8) {X : Nat} {F : (Int → Bool) → Bool}
    (hF : ∀ σ, F σ = true ↔ ∃ τ : Int → Bool, (∀ v : Int, 0 ≤ v → v < S.n → bitB X v = false → τ v = σ v) ∧ S.den r τ = true) {a : Nat} (ha : a < 2 ^ S.n) :
    exUp S r X a (2 ^ S.n) = F (asg a) := by
  rw [Bool.eq_iff_iff, ex_tab hw okr n8 hF ha]
  unfold exUp
  rw [List.any_eq_true]
  constructor
  · rintro ⟨c, hc, h⟩
    rw [Bool.and_eq_true, decide_eq_true_eq] at h
    exact ⟨c, List.mem_range.1 hc, h.1, h.2⟩
  · rintro ⟨c, hc, h1, h2⟩
    exact ⟨c, List.mem_range.2 hc, by rw [Bool.and_eq_true, decide_eq_true_eq]; exact ⟨h1, h2⟩⟩

theorem code_succ (σ : Int → Bool) (n : Nat) : code σ (n + 1) = code σ n + (if σ n then 2 ^ n else 0) := by
  show code σ n ||| (if σ n then 2 ^ n else 0) = _
  split
  · have := Nat.two_pow_add_eq_or_of_lt (code_lt σ n) 1
    rw [Nat.mul_one] at this
    rw [Nat.or_comm, ← this, Nat.add_comm]
  · simp

theorem tab_ext {n : Nat} {F : (Int → Bool) → Bool} {t : List Bool} (hl : t.length = 2 ^ n) (h : ∀ a : Nat, a < 2 ^ n → t[a]? = some (F (asg a))) : t = tab n F := by
  refine List.ext_getElem? fun i => ?_
  by_cases hi : i < 2 ^ n
  · rw [h i hi, tab_get hi]
  · rw [List.getElem?_eq_none (by omega), List.getElem?_eq_none (by rw [tab_length]; omega)]

theorem TableIs.set {w : World} {b : Nat} {t : List Bool} (h : TableIs w b t) (i : Nat) (x : Bool) : TableIs (w.setCell ⟨b, i, none⟩ (.bool x)) b (t.set i x) := by
  obtain ⟨cs, h1, h2⟩ := h
  refine ⟨cs.setIfInBounds i (.bool x), ?_, fun j y hy => ?_⟩
  · simp [World.setCell, Array.getElem?_modify, h1]
  · rw [List.getElem?_set] at hy
    rw [Array.getElem?_setIfInBounds]
    split at hy
    · rename_i e
      subst e
      split at hy
      · rename_i hl
        cases hy
        have := h2 i _ (List.getElem?_eq_getElem hl)
        have := (Array.getElem?_eq_some_iff.1 this).1
        simp [this]
      · cases hy
    · rename_i e
      rw [if_neg e]
      exact h2 j y hy

theorem TableIs.frozen {w : World} {b : Nat} {t : List Bool} (h : TableIs w b t) (i : Nat) : w.frozen? ⟨b, i, none⟩ = false := by
  obtain ⟨cs, h1, _⟩ := h
  exact CellsAt.frozen ⟨_, h1⟩ i

/-- Filled as far as a. -/
structure Fill (w : World) (tb n : Nat) (F : (Int → Bool) → Bool) (a : Nat) : Prop where
  tabl : ∃ t, TableIs w tb t ∧ t.length = 2 ^ n ∧ (∀ i : Nat, i < a → i < 2 ^ n → t[i]? = some (F (asg (i : Int)))) ∧ ∀ i : Nat, a ≤ i → i < 2 ^ n → t[i]? = some false

theorem Fill.lt {w : World} {tb n : Nat} {F : (Int → Bool) → Bool} {a : Nat} (h : Fill w tb n F a) : tb < w.heap.size := by
  obtain ⟨t, h, _⟩ := h.tabl
  exact h.lt
theorem Fill.frozen {w : World} {tb n : Nat} {F : (Int → Bool) → Bool} {a : Nat} (h : Fill w tb n F a) (i : Nat) : w.frozen? ⟨tb, i, none⟩ = false := by
  obtain ⟨t, h, _⟩ := h.tabl
  exact h.frozen i
theorem Fill.keeps {w w' : World} {tb n : Nat} {F : (Int → Bool) → Bool} {a : Nat} {T : List Nat} (h : Fill w tb n F a) (k : Keeps T w w') (hb : tb ∉ T) : Fill w' tb n F a := by
  obtain ⟨t, h1, h2⟩ := h.tabl
  exact ⟨t, h1.keeps k hb, h2⟩
theorem Fill.cell {w : World} {tb n : Nat} {F : (Int → Bool) → Bool} {a : Nat} (h : Fill w tb n F a) (ha : a < 2 ^ n) : w.cell? ⟨tb, a, none⟩ = some (.bool false) := by
  obtain ⟨t, h1, h2, h3, h4⟩ := h.tabl
  exact h1.cell (h4 a (Nat.le_refl _) ha)
theorem Fill.next {w : World} {tb n : Nat} {F : (Int → Bool) → Bool} {a : Nat} (h : Fill w tb n F a) {x : Bool} (hx : x = F (asg (a : Int))) : Fill (w.setCell ⟨tb, a, none⟩ (.bool x)) tb n F (a + 1) := by
  obtain ⟨t, h1, h2, h3, h4⟩ := h.tabl
  subst hx
  refine ⟨t.set a _, h1.set a _, by simp [h2], fun i hi hn => ?_, fun i hi hn => ?_⟩
  · rw [List.getElem?_set]
    by_cases e : a = i
    · subst e
      simp [h2, hn]
    · rw [if_neg e]
      exact h3 i (by omega) hn
  · rw [List.getElem?_set, if_neg (by omega)]
    exact h4 i (by omega) hn
theorem Fill.done {w : World} {tb n : Nat} {F : (Int → Bool) → Bool} {a : Nat} (h : Fill w tb n F a) (ha : 2 ^ n ≤ a) : TableIs w tb (tab n F) := by
  obtain ⟨t, h1, h2, h3, h4⟩ := h.tabl
  rw [← tab_ext h2 fun i hi => h3 i (by omega) hi]
  exact h1
/-- Filled as far as a, whose own cell is x. -/
structure FillAt (w : World) (tb n : Nat) (F : (Int → Bool) → Bool) (a : Nat) (x : Bool) : Prop where
  tabl : ∃ t, TableIs w tb t ∧ t.length = 2 ^ n ∧ (∀ i : Nat, i < a → i < 2 ^ n → t[i]? = some (F (asg (i : Int)))) ∧ t[a]? = some x ∧ ∀ i : Nat, a < i → i < 2 ^ n → t[i]? = some false

theorem Fill.at {w : World} {tb n : Nat} {F : (Int → Bool) → Bool} {a : Nat} (h : Fill w tb n F a) (ha : a < 2 ^ n) : FillAt w tb n F a false := by
  obtain ⟨t, h1, h2, h3, h4⟩ := h.tabl
  exact ⟨t, h1, h2, h3, h4 a (Nat.le_refl _) ha, fun i hi hn => h4 i (by omega) hn⟩
theorem FillAt.lt {w : World} {tb n : Nat} {F : (Int → Bool) → Bool} {a : Nat} {x : Bool} (h : FillAt w tb n F a x) : tb < w.heap.size := by
  obtain ⟨t, h, _⟩ := h.tabl
  exact h.lt
theorem FillAt.frozen {w : World} {tb n : Nat} {F : (Int → Bool) → Bool} {a : Nat} {x : Bool} (h : FillAt w tb n F a x) (i : Nat) : w.frozen? ⟨tb, i, none⟩ = false := by
  obtain ⟨t, h, _⟩ := h.tabl
  exact h.frozen i
theorem FillAt.cell {w : World} {tb n : Nat} {F : (Int → Bool) → Bool} {a : Nat} {x : Bool} (h : FillAt w tb n F a x) : w.cell? ⟨tb, a, none⟩ = some (.bool x) := by
  obtain ⟨t, h1, h2, h3, h4, h5⟩ := h.tabl
  exact h1.cell h4
theorem FillAt.keeps {w w' : World} {tb n : Nat} {F : (Int → Bool) → Bool} {a : Nat} {x : Bool} {T : List Nat} (h : FillAt w tb n F a x) (k : Keeps T w w') (hb : tb ∉ T) : FillAt w' tb n F a x := by
  obtain ⟨t, h1, h2⟩ := h.tabl
  exact ⟨t, h1.keeps k hb, h2⟩
theorem FillAt.put {w : World} {tb n : Nat} {F : (Int → Bool) → Bool} {a : Nat} {x : Bool} (h : FillAt w tb n F a x) (ha : a < 2 ^ n) (y : Bool) : FillAt (w.setCell ⟨tb, a, none⟩ (.bool y)) tb n F a y := by
  obtain ⟨t, h1, h2, h3, h4, h5⟩ := h.tabl
  refine ⟨t.set a y, h1.set a y, by simp [h2], fun i hi hn => ?_, by simp [h2, ha], fun i hi hn => ?_⟩
  · rw [List.getElem?_set, if_neg (by omega)]
    exact h3 i hi hn
  · rw [List.getElem?_set, if_neg (by omega)]
    exact h5 i hi hn
theorem FillAt.next {w : World} {tb n : Nat} {F : (Int → Bool) → Bool} {a : Nat} {x : Bool} (h : FillAt w tb n F a x) (hx : x = F (asg (a : Int))) : Fill w tb n F (a + 1) := by
  obtain ⟨t, h1, h2, h3, h4, h5⟩ := h.tabl
  refine ⟨t, h1, h2, fun i hi hn => ?_, fun i hi hn => h5 i (by omega) hn⟩
  by_cases e : i = a
  · subst e
    rw [h4, hx]
  · exact h3 i (by omega) hn

end Go.Proofs.Ytgjomknpjigkhaa

namespace Go.Proofs.Ytgjomknpjigkhaa
open Go.RowKit Go.Shelf

theorem info4 : (Try.prog.info? 4).map (fun i => (i.zero, i.size, i.bytes)) = some (some (.bool false), 1, 1) := by kernel_rfl

theorem run_makeBools (w : World) (n : Nat) (hn : n ≤ 1000) : (Instr.makeSlice 47 (.int .i64 (n : Int)) (.int .i64 (n : Int))).run Try.prog w = .ok (.slice (some ⟨w.heap.size, 0, none⟩) n n) (w.alloc (.cells (madeCells #[.bool false] n) 4)) := by
  obtain ⟨i0, hi0, hz0, hz1, hz2⟩ := info_parts info4
  have := run_make (P := Try.prog) w 47 4 i0 (.bool false) Try.underlying47 hi0 hz0 .i64 .i64 n n (by omega) (by omega) (by rw [hz2]; omega) (by omega)
  rw [this, hz1]
  simp [Value.cells]

theorem made_bools (n i : Nat) (h : i < n) : (madeCells #[.bool false] n)[i]? = some (.bool false) := by
  have := toList_madeCells_one (.bool false) n
  rw [← Array.getElem?_toList, this, List.getElem?_replicate, if_pos h]

theorem made_fill (w : World) (n : Nat) (F : (Int → Bool) → Bool) : Fill (w.alloc (.cells (madeCells #[.bool false] (2 ^ n)) 4)) w.heap.size n F 0 := by
  refine ⟨List.replicate (2 ^ n) false, ⟨_, (MapKept.heap_alloc w _).1, fun i x hx => ?_⟩, by simp, fun i hi => by omega, fun i _ hi => by rw [List.getElem?_replicate, if_pos hi]⟩
  rw [List.getElem?_replicate] at hx
  split at hx
  · rename_i hi
    cases hx
    exact made_bools _ _ hi
  · cases hx

theorem made_no (w : World) (n : Nat) : TableIs (w.alloc (.cells (madeCells #[.bool false] (2 ^ n)) 4)) w.heap.size (tab n fun _ => false) := by
  refine ⟨_, (MapKept.heap_alloc w _).1, fun i x hx => ?_⟩
  have hl := (List.getElem?_eq_some_iff.1 hx).1
  rw [tab_length] at hl
  rw [tab_get hl] at hx
  cases hx
  exact made_bools _ _ hl

theorem own_new (w : World) (xs : List Value) (t : TypeId) (base : Nat) (hb : base ≤ w.heap.size) (hl : xs.length ≤ 1000) : (w.alloc (.cells xs.toArray t)).ownsRow base t 1 (.slice (some ⟨w.heap.size, 0, none⟩) xs.length xs.length) xs.length xs := by
  refine ⟨by simp, .inr ⟨w.heap.size, xs.length, xs.toArray, rfl, hb, (MapKept.heap_alloc w _).1, Nat.le_refl _, by unfold maxLen; omega, by simp, by simp⟩⟩

theorem MI.new {n : Nat} (n1 : 1 ≤ n) (n8 : n ≤ 8) : MI ⟨n, [0, 1], [tab n fun _ => false, tab n fun _ => true], 1⟩ (KS.new n) := by
  have hI := knew_inv n1 n8
  have hn : (KS.new n).S.n = n := by show (rng n).length = n; simp [rng]
  refine ⟨hI, hn.symm, rfl, ⟨[], rfl⟩, ?_, ?_, by simp, rfl, rfl⟩
  · intro i f t h1 h2
    match i with
    | 0 =>
      simp at h1 h2
      subst h1 h2
      refine ⟨0, rfl, ?_⟩
      rw [hn]
      unfold tab
      exact List.map_congr_left fun a _ => (den_zero _).symm
    | 1 =>
      simp at h1 h2
      subst h1 h2
      refine ⟨1, rfl, ?_⟩
      rw [hn]
      unfold tab
      exact List.map_congr_left fun a _ => (den_one _).symm
    | i + 2 => simp at h1
  · intro a r h
    have h' : get ([(0, 0), (1, 1)] : List (Int × Int)) a = some r := h
    rw [get01] at h'
    by_cases h0 : a = 0
    · simp [h0]
    · rw [if_neg h0] at h'
      by_cases h1 : a = 1
      · simp [h1]
      · rw [if_neg h1] at h'; cases h'

theorem run_mill (p : Addr) (x y : Int) (w : World) : (Instr.build 34 #[(0, .pointer (some p)), (1, .int .i64 x), (2, .int .i64 y), (5, .int .i64 1)]).run Try.prog w = .ok (.agg #[.pointer (some p), .int .i64 x, .int .i64 y, .slice none 0 0, .slice none 0 0, .int .i64 1]) w := by kernel_rfl
theorem run_two (w : World) : (Instr.buildSlice 30 2 #[(0, .int .i64 0), (1, .int .i64 1)]).run Try.prog w = .ok (.slice (some ⟨w.heap.size, 0, none⟩) 2 2) (w.alloc (.cells #[.int .i64 0, .int .i64 1] 3)) := by kernel_rfl
theorem run_twoT (p q : Addr) (n c d : Nat) (w : World) : (Instr.buildSlice 32 2 #[(0, .slice (some p) n c), (1, .slice (some q) n d)]).run Try.prog w = .ok (.slice (some ⟨w.heap.size, 0, none⟩) 2 2) (w.alloc (.cells #[.slice (some p) n c, .slice (some q) n d] 47)) := by kernel_rfl

set_option maxRecDepth 100000 in
set_option maxHeartbeats 1000000 in
theorem opened_calls {w : World} (raw : Int) (r0 : -9223372036854775808 ≤ raw) (r1 : raw ≤ 9223372036854775807) :
    Calls Try.prog 6 #[.int .i64 raw] w fun e w' => ∃ m M, e = .returned (.pointer (some ⟨m.mb, 0, none⟩)) ∧ MillAt w' m M (KS.new M.n) ∧ MI M (KS.new M.n) ∧ 1 ≤ M.n ∧ M.n ≤ 5 ∧ w.heap.size ≤ m.mb ∧ (∀ i ∈ m.b.own, w.heap.size ≤ i) ∧ Keeps [] w w' := by
  have hpk := pk_range raw (n := 5) (by decide)
  obtain ⟨p, hp⟩ := Int.eq_ofNat_of_zero_le hpk.1
  have hp5 : p < 5 := by omega
  have hpn : ∀ (w : World) (a : Addr), (binOp .eql 31 (.pointer (some a)) (.pointer none)).run Try.prog w = .ok (.bool false) w := fun w a => by kernel_rfl
  have ha := hide (awake_calls (w := w))
  have hc := hide (fun w : World => pick_calls (w := w) raw 5 r0 r1 (by decide))
  rw [hp] at hc
  have hk := hide (fun w : World => knew_calls (w := w) (p + 1) (by omega) (by omega))
  have n1 : 1 ≤ p + 1 := by omega
  have n5 : p + 1 ≤ 5 := by omega
  clear hpk hp
  generalize hn : p + 1 = n at hk n1 n5
  have H1p : Hid (1 + (p : Int) = (n : Int)) := hide (by omega)
  clear hn
  have n0 : (0 : Int) ≤ n := by omega
  have n63 : (n : Int) < 63 := by omega
  have hwr : wrap64 ((2 : Int) ^ n) = ((2 ^ n : Nat) : Int) := by
    have := wrap_pow n0 (by omega : (n : Int) ≤ 8)
    rw [Int.toNat_natCast, IntKind.wrap_i64] at this
    unfold wrap64
    rw [this]
    push_cast
    rfl
  have w32 : 2 ^ n ≤ 32 := Nat.pow_le_pow_right (n := 2) (by decide) n5
  obtain ⟨ways, hways⟩ : ∃ W, W = 2 ^ n := ⟨_, rfl⟩
  rw [← hways] at hwr w32
  have Hways := hide hways
  clear hways
  have hmk := fun w : World => run_makeBools w ways (by omega)
  have hbd := run_mill
  have hb2 := run_two
  have hb3 := run_twoT
  go_enter Try.func6, Try.ntmps6
  go_wp2_with fail
  refine ha.out.mono ?_
  rintro e W0 ⟨rfl, k0⟩
  go_wp2_with fail
  refine (hc.out W0).mono ?_
  rintro e W0 ⟨rfl, rfl⟩
  go_wp2_with fail
  rw [H1p.out]
  clear H1p hp5
  refine (hk.out W0).mono ?_
  rintro e W1 ⟨b, rfl, hK, hb, k1⟩
  go_wp2_with fail
  have hs1 := k1.size
  obtain ⟨mb, hmb⟩ : ∃ x, x = W1.heap.size := ⟨_, rfl⟩
  have z1 := size_alloc' W1 (.cells #[.pointer (some ⟨b.k, 0, none⟩), .int .i64 n, .int .i64 ways, .slice none 0 0, .slice none 0 0, .int .i64 1] 34)
  have a1 := CellsAt.new W1 #[.pointer (some ⟨b.k, 0, none⟩), .int .i64 n, .int .i64 ways, .slice none 0 0, .slice none 0 0, .int .i64 1] 34
  have kA := Keeps.alloc [] W1 (.cells #[.pointer (some ⟨b.k, 0, none⟩), .int .i64 n, .int .i64 ways, .slice none 0 0, .slice none 0 0, .int .i64 1] 34)
  rw [← hmb] at z1 a1 ⊢
  generalize W1.alloc (.cells #[.pointer (some ⟨b.k, 0, none⟩), .int .i64 n, .int .i64 ways, .slice none 0 0, .slice none 0 0, .int .i64 1] 34) = WA at z1 a1 kA ⊢
  have z2 := size_alloc' WA (.cells (madeCells #[.bool false] ways) 4)
  have a2 := made_no WA n
  rw [← Hways.out] at a2
  have kB := Keeps.alloc [] WA (.cells (madeCells #[.bool false] ways) 4)
  rw [z1] at a2 z2
  generalize WA.alloc (.cells (madeCells #[.bool false] ways) 4) = WB at z2 a2 kB ⊢
  have z3 := size_alloc' WB (.cells (madeCells #[.bool false] ways) 4)
  have a3 := made_fill WB n (fun _ => true)
  rw [← Hways.out] at a3
  have kC := Keeps.alloc [] WB (.cells (madeCells #[.bool false] ways) 4)
  rw [z2] at a3 z3
  generalize WB.alloc (.cells (madeCells #[.bool false] ways) 4) = WC at z3 a3 kC ⊢
  have k3 := (kA.trans kB).trans kC
  have a1C := (a1.keeps kB (by simp)).keeps kC (by simp)
  have a2C := a2.keeps kC (by simp)
  have hKC := hK.keeps k3 (by simp)
  have hbl := hK.lt
  rw [← hmb] at hbl
  have Hmb := hide hmb
  clear hmb z1 z2 kA kB kC a1 a2 hK
  have Hz3 := hide z3
  clear z3
  go_loopw [10] (fun v wr => ∃ j : Nat, v = .int .i64 j ∧ j ≤ ways ∧ CellsAt wr mb #[.pointer (some ⟨b.k, 0, none⟩), .int .i64 n, .int .i64 ways, .slice none 0 0, .slice none 0 0, .int .i64 1] ∧ TableIs wr (mb + 1) (tab n fun _ => false) ∧ Fill wr (mb + 1 + 1) n (fun _ => true) j ∧ KernelAt wr b (KS.new n) ∧ Keeps [] W1 wr ∧ mb + 1 + 1 + 1 ≤ wr.heap.size) (fun v _ => ((ways : Int) - intOf v).toNat)
  case atStart => exact ⟨0, rfl, by omega, a1C, a2C, a3, hKC, k3, by have := Hz3.out; omega⟩
  case round =>
    obtain ⟨j, rfl, hj, c1, c2, c3, hKr, kr, hzr⟩ := hrel
    have d2 := c1.cell 2
    simp at d2
    by_cases hjl : j < ways
    · have hjI : (j : Int) < ways := by omega
      have hfz := c3.frozen j
      have hcl := c3.cell (by rw [← Hways.out]; exact hjl)
      go_wp2_with fail
      go_roundw
      · have kS := Keeps.setCell wr ⟨mb + 1 + 1, j, none⟩ (.bool true)
        refine ⟨j + 1, by simp, by omega, c1.keeps kS (by simp; omega), c2.keeps kS (by simp), c3.next rfl, hKr.keeps kS (fun i hi x => ?_), kr.trans_new kS (fun i hi => ?_), ?_⟩
        · have := hbl i hi
          simp only [List.mem_singleton] at x
          omega
        · have := Hmb.out
          simp only [List.mem_singleton] at hi
          exact .inr (by omega)
        · have := kS.size; omega
      · simp only [intOf]; omega
    · have hjI : ¬ (j : Int) < ways := by omega
      have c3' := c3.done (by rw [← Hways.out]; omega)
      have hmbz := c1.lt
      have kD := Keeps.alloc [] wr (.cells #[.int .i64 0, .int .i64 1] 3)
      have e1 := c1.keeps kD (by simp)
      have g3 := e1.cell 3
      have f3 := e1.frozen 3
      simp at g3
      -- as the walk has it: the cell first, then the two rows
      have e2 := c1.setCell 3 (.slice (some ⟨wr.heap.size, 0, none⟩) 2 2)
      have e2' : CellsAt (wr.setCell ⟨mb, 3, none⟩ (.slice (some ⟨wr.heap.size, 0, none⟩) 2 2)) mb #[.pointer (some ⟨b.k, 0, none⟩), .int .i64 n, .int .i64 ways, .slice (some ⟨wr.heap.size, 0, none⟩) 2 2, .slice none 0 0, .int .i64 1] := by simpa using e2
      have kE := Keeps.setCell wr ⟨mb, 3, none⟩ (.slice (some ⟨wr.heap.size, 0, none⟩) 2 2)
      have zE : (wr.setCell ⟨mb, 3, none⟩ (.slice (some ⟨wr.heap.size, 0, none⟩) 2 2)).heap.size = wr.heap.size := by simp
      have kF := Keeps.alloc [] (wr.setCell ⟨mb, 3, none⟩ (.slice (some ⟨wr.heap.size, 0, none⟩) 2 2)) (.cells #[.int .i64 0, .int .i64 1] 3)
      have kG := Keeps.alloc [] ((wr.setCell ⟨mb, 3, none⟩ (.slice (some ⟨wr.heap.size, 0, none⟩) 2 2)).alloc (.cells #[.int .i64 0, .int .i64 1] 3)) (.cells #[.slice (some ⟨mb + 1, 0, none⟩) ways ways, .slice (some ⟨mb + 1 + 1, 0, none⟩) ways ways] 47)
      have e3 := (e2'.keeps kF (by simp)).keeps kG (by simp)
      have g4 := e3.cell 4
      have f4 := e3.frozen 4
      simp at g4
      have HzE := hide zE
      clear zE e2 kF kG e3 kE
      go_wp2_with fail
      go_ret
      have e4 := e2'.setCell 4 (.slice (some ⟨wr.heap.size + 1, 0, none⟩) 2 2)
      have kE := Keeps.setCell wr ⟨mb, 3, none⟩ (.slice (some ⟨wr.heap.size, 0, none⟩) 2 2)
      have kH := Keeps.setCell (wr.setCell ⟨mb, 3, none⟩ (.slice (some ⟨wr.heap.size, 0, none⟩) 2 2)) ⟨mb, 4, none⟩ (.slice (some ⟨wr.heap.size + 1, 0, none⟩) 2 2)
      have zH : ((wr.setCell ⟨mb, 3, none⟩ (.slice (some ⟨wr.heap.size, 0, none⟩) 2 2)).setCell ⟨mb, 4, none⟩ (.slice (some ⟨wr.heap.size + 1, 0, none⟩) 2 2)).heap.size = wr.heap.size := by simp
      have kS : Keeps [mb] wr _ := kE.trans kH
      generalize (wr.setCell ⟨mb, 3, none⟩ (.slice (some ⟨wr.heap.size, 0, none⟩) 2 2)).setCell ⟨mb, 4, none⟩ (.slice (some ⟨wr.heap.size + 1, 0, none⟩) 2 2) = X at e4 kS zH ⊢
      have o1 := own_new X (ints [0, 1]) 3 (mb + 1) (by omega) (by simp [ints])
      have kF := Keeps.alloc [] X (.cells #[.int .i64 0, .int .i64 1] 3)
      have zF := size_alloc' X (.cells #[.int .i64 0, .int .i64 1] 3)
      have o1' : (X.alloc (.cells #[.int .i64 0, .int .i64 1] 3)).ownsRow (mb + 1) 3 1 (.slice (some ⟨wr.heap.size, 0, none⟩) 2 2) 2 (ints [0, 1]) := by rw [← zH]; exact o1
      rw [zH] at zF
      generalize X.alloc (.cells #[.int .i64 0, .int .i64 1] 3) = Y at kF zF o1' ⊢
      have o2 := own_new Y [.slice (some ⟨mb + 1, 0, none⟩) ways ways, .slice (some ⟨mb + 1 + 1, 0, none⟩) ways ways] 47 (mb + 1) (by omega) (by simp)
      rw [zF] at o2
      have kG := Keeps.alloc [] Y (.cells #[.slice (some ⟨mb + 1, 0, none⟩) ways ways, .slice (some ⟨mb + 1 + 1, 0, none⟩) ways ways] 47)
      have o2' : (Y.alloc (.cells #[.slice (some ⟨mb + 1, 0, none⟩) ways ways, .slice (some ⟨mb + 1 + 1, 0, none⟩) ways ways] 47)).ownsRow (mb + 1) 47 1 (.slice (some ⟨wr.heap.size + 1, 0, none⟩) 2 2) 2 [.slice (some ⟨mb + 1, 0, none⟩) ways ways, .slice (some ⟨mb + 1 + 1, 0, none⟩) ways ways] := o2
      generalize Y.alloc (.cells #[.slice (some ⟨mb + 1, 0, none⟩) ways ways, .slice (some ⟨mb + 1 + 1, 0, none⟩) ways ways] 47) = Z at kG o2' ⊢
      have kFG := kF.trans kG
      have kAll : Keeps [mb] wr Z := kS.trans (kFG.mono (by simp))
      have hways := Hways.out
      refine ⟨⟨mb, wr.heap.size, 2, wr.heap.size + 1, 2, [(mb + 1, ways), (mb + 1 + 1, ways)], b⟩, rfl, ⟨n, [0, 1], [tab n fun _ => false, tab n fun _ => true], 1⟩, ⟨?_, ?_, hbl, ?_, ?_, rfl, ?_⟩, MI.new n1 (by omega), n1, n5, ?_, ?_, ?_⟩
      · have := e4.keeps kFG (by simp)
        show CellsAt Z mb #[_, _, .int .i64 ((2 ^ n : Nat) : Int), _, _, _]
        rw [← hways]
        simpa using this
      · exact hKr.keeps kAll (fun i hi x => by have := hbl i hi; simp only [List.mem_singleton] at x; omega)
      · exact ownsRow_kept o1' kG (by simp)
      · show Z.ownsRow (mb + 1) 47 1 _ 2 (tabV n _)
        simp only [tabV, List.map_cons, List.map_nil]
        rw [← hways]
        exact o2'
      · intro i q t h1 h2
        match i with
        | 0 =>
          simp at h1 h2
          subst h1 h2
          exact ⟨Nat.le_refl _, c2.keeps kAll (by simp)⟩
        | 1 =>
          simp at h1 h2
          subst h1 h2
          exact ⟨by show mb + 1 ≤ mb + 1 + 1; omega, c3'.keeps kAll (by simp; omega)⟩
        | i + 2 => simp at h1
      · have := k0.size
        have := Hmb.out
        show w.heap.size ≤ mb
        omega
      · intro i hi
        have := hb i hi
        have := k0.size
        omega
      · refine ((k0.trans k1).trans kr).trans_new kAll (fun i hi => .inr ?_)
        have := k0.size
        have := Hmb.out
        simp only [List.mem_singleton] at hi
        omega

end Go.Proofs.Ytgjomknpjigkhaa

namespace Go.Proofs.Ytgjomknpjigkhaa
open Go.RowKit Go.Shelf

theorem MillAt.keeps0 {w w' : World} {m : MB} {M : ML} {K : KS} (h : MillAt w m M K) (k : Keeps [] w w') : MillAt w' m M K :=
  ⟨h.head.keeps k (by simp), h.kern.keeps k (by simp), h.below, ownsRow_kept h.fs k (by simp), ownsRow_kept h.truth k (by simp), h.lens, fun i p t h1 h2 => ⟨(h.tables i p t h1 h2).1, (h.tables i p t h1 h2).2.keeps k (by simp)⟩⟩

/-- The kernel has worked, and nothing else. -/
theorem MillAt.worked {w w' : World} {m : MB} {M : ML} {K K' : KS} (h : MillAt w m M K) (hK : KernelAt w' m.b K') (k : Keeps m.b.own w w') : MillAt w' m M K' := by
  have hb := h.below
  have up : ∀ j, m.mb ≤ j → j ∉ m.b.own := fun j hj x => by have := hb j x; omega
  refine ⟨h.head.keeps k (up _ (Nat.le_refl _)), hK, hb, ownsRow_kept h.fs k (fun i hi => up i ?_), ownsRow_kept h.truth k (fun i hi => up i ?_), h.lens, fun i p t h1 h2 => ⟨(h.tables i p t h1 h2).1, (h.tables i p t h1 h2).2.keeps k (up _ ?_)⟩⟩
  · have := (own_base h.fs i hi).1; omega
  · have := (own_base h.truth i hi).1; omega
  · have := (h.tables i p t h1 h2).1; omega

/-- What a step leaves. -/
structure Stepped (base : Nat) (m m' : MB) (M M' : ML) (K K' : KS) (w w' : World) : Prop where
  mill : MillAt w' m' M' K'
  know : MI M' K'
  mb : m'.mb = m.mb
  b : m'.b = m.b
  n : M'.n = M.n
  next : K'.S.next ≤ K.S.next + 524288
  nx : K'.nx ≤ K.nx + 1
  below : Below base w w'

def StepGives (base : Nat) (m : MB) (M : ML) (K : KS) (w : World) (e : Ending) (w' : World) : Prop :=
  e = .returned (.bool true) ∧ ∃ m' M' K', Stepped base m m' M M' K K' w w'

/-- What a step begins with. -/
structure Ready (base : Nat) (w : World) (m : MB) (M : ML) (K : KS) : Prop where
  mill : MillAt w m M K
  know : MI M K
  n5 : M.n ≤ 5
  low : base ≤ m.mb
  own : ∀ i ∈ m.b.own, base ≤ i
  next : K.S.next + 524288 < lim
  nx : K.nx < 4611686018427387904

theorem Ready.n1 {base : Nat} {w : World} {m : MB} {M : ML} {K : KS} (R : Ready base w m M K) : 1 ≤ M.n := by rw [R.know.n]; exact R.know.inv.n1
theorem Ready.len {base : Nat} {w : World} {m : MB} {M : ML} {K : KS} (R : Ready base w m M K) : M.fs.length ≤ 102 := by have := R.know.count; have := R.know.inv.hundred; omega
theorem Ready.two {base : Nat} {w : World} {m : MB} {M : ML} {K : KS} (R : Ready base w m M K) : 2 ≤ M.fs.length := by obtain ⟨l, h⟩ := R.know.two; rw [h]; simp

theorem cst5 : cst 5 = 31 := by decide
theorem cst_le5 {n : Nat} (h : n ≤ 5) : cst n ≤ 31 := by have := cst_mono h; rw [cst5] at this; exact this
theorem swc_le5 {n : Nat} (h : n ≤ 5) : swc n ≤ 6324 := by have := cst_le5 h; unfold swc; omega

/-- An order changed: the mill knows what it knew. -/
theorem MI.re {M : ML} {K K' : KS} {c : Int} (I : MI M K) (r : Re K K' c) : MI M K' := by
  have hn : K'.S.n = K.S.n := r.n
  refine ⟨r.inv, I.n.trans hn.symm, I.len, I.two, fun i f t h1 h2 => ?_, fun a r' ha => I.all a r' (by rw [← r.R]; exact ha), I.nodup, by rw [r.R]; exact I.count, by rw [r.nx]; exact I.last⟩
  obtain ⟨q, g1, g2⟩ := I.each i f t h1 h2
  refine ⟨q, by rw [r.R]; exact g1, ?_⟩
  rw [g2, hn]
  unfold tab
  exact List.map_congr_left fun a _ => (r.den f q g1 _).symm

/-- One of the handles, by its number. -/
theorem pk_nat (c : Int) {n : Nat} (h : 0 < n) : ∃ i : Nat, pk c n = i ∧ i < n := by
  have := pk_range c (n := (n : Int)) (by omega)
  obtain ⟨i, hi⟩ := Int.eq_ofNat_of_zero_le this.1
  exact ⟨i, hi, by omega⟩

theorem Ready.up {base : Nat} {w : World} {m : MB} {M : ML} {K : KS} (R : Ready base w m M K) {j : Nat} (h : m.mb ≤ j) : j ∉ m.b.own := fun x => by have := R.mill.below j x; omega

/-- The kernel has worked, the order is another one. -/
theorem Ready.stepped_re {base : Nat} {w w1 w' : World} {m : MB} {M : ML} {K K' : KS} {c : Int} (R : Ready base w m M K) (k1 : Keeps [] w w1) (hK : KernelAt w' m.b K') (k : Keeps m.b.own w1 w') (r : Re K K' c) (hc : c ≤ 524288) : Stepped base m m M M K K' w w' := by
  have hs : base ≤ w.heap.size := by have := R.mill.head.lt; have := R.low; omega
  refine ⟨(R.mill.keeps0 k1).worked hK k, R.know.re r, rfl, rfl, rfl, by have := r.next; omega, by rw [r.nx]; omega, ?_⟩
  exact (k1.below hs (by simp)).trans (k.below (by have := k1.size; omega) R.own)

end Go.Proofs.Ytgjomknpjigkhaa

namespace Go.Proofs.Ytgjomknpjigkhaa
open Go.RowKit Go.Shelf

theorem pw_facts {v n : Nat} (hv : v < n) (n5 : n ≤ 5) : ∃ pw : Nat, pw = 2 ^ v ∧ pw ≤ 32 ∧ wrap64 ((2 : Int) ^ v) = (pw : Int) := by
  refine ⟨2 ^ v, rfl, (show 2 ^ v ≤ 2 ^ 5 from Nat.pow_le_pow_right (by decide) (by omega)), ?_⟩
  have := wrap_pow (v := (v : Int)) (by omega) (by omega)
  rw [Int.toNat_natCast, IntKind.wrap_i64] at this
  unfold wrap64
  rw [this]
  push_cast
  rfl

theorem pw_bits {v n a s : Nat} (hv : v < n) (n5 : n ≤ 5) (ha : a < 2 ^ n) (hs : s < 2 ^ n) : ∃ pw ax : Nat, pw = 2 ^ v ∧ ax = a ^^^ 2 ^ v ∧ ax < 2 ^ n ∧ wrap64 ((2 : Int) ^ v) = (pw : Int) ∧ bits .xor .i64 (a : Int) (pw : Int) = (ax : Int) ∧ bits .or .i64 (s : Int) (pw : Int) = ((s ||| pw : Nat) : Int) := by
  obtain ⟨pw, e, hp, hw⟩ := pw_facts hv n5
  have h32 : 2 ^ n ≤ 2 ^ 5 := Nat.pow_le_pow_right (by decide) n5
  have hax : a ^^^ 2 ^ v < 2 ^ n := Nat.xor_lt_two_pow ha (Nat.pow_lt_pow_right (by decide) hv)
  refine ⟨pw, a ^^^ 2 ^ v, e, rfl, hax, hw, ?_, ?_⟩
  · rw [← e]
    exact bits_xor a pw (by clear hw; omega) (by clear hw; omega)
  · exact (bits_nat .i64 62 (by decide) (fun n a b => by rw [IntKind.wrap_i64]; omega) s pw (by clear hw; omega) (by clear hw; omega)).2

end Go.Proofs.Ytgjomknpjigkhaa

namespace Go.Proofs.Ytgjomknpjigkhaa
open Go.RowKit Go.Shelf

def cntUp (S : ST) (r : Int) (a : Nat) : Nat := ((List.range a).filter fun c : Nat => S.den r (asg (c : Int))).length

theorem cntUp_le (S : ST) (r : Int) (a : Nat) : cntUp S r a ≤ a := by
  unfold cntUp
  exact Nat.le_trans (List.length_filter_le _ _) (by simp)

theorem cntUp_succ (S : ST) (r : Int) (a : Nat) : cntUp S r (a + 1) = cntUp S r a + (if S.den r (asg (a : Int)) then 1 else 0) := by
  unfold cntUp
  rw [List.range_succ, List.filter_append, List.length_append]
  congr 1
  cases h : S.den r (asg (a : Int)) <;> simp [h]

theorem cntUp_all {S : ST} (hw : WF S) {r : Int} (okr : S.ok r) : cntUp S r (2 ^ S.n) = cntV S.n (S.den r) (fun _ => false) := by
  rw [cnt_tab hw okr]
  unfold cntUp tab
  rw [List.filter_map, List.length_map]
  rfl

/-- Does f change, if v does? -/
def Ne (S : ST) (r : Int) (c v : Nat) : Prop := S.den r (asg (c : Int)) ≠ S.den r (asg ((c ^^^ 2 ^ v : Nat) : Int))

structure Sup (S : ST) (r : Int) (n a s : Nat) : Prop where
  lt : s < 2 ^ n
  bit : ∀ v, v < n → (s.testBit v = true ↔ ∃ c, c < a ∧ Ne S r c v)

structure SupAt (S : ST) (r : Int) (n a v s : Nat) : Prop where
  lt : s < 2 ^ n
  bit : ∀ u, u < n → (s.testBit u = true ↔ (∃ c, c < a ∧ Ne S r c u) ∨ (u < v ∧ Ne S r a u))

theorem Sup.zero (S : ST) (r : Int) (n : Nat) : Sup S r n 0 0 := ⟨Nat.two_pow_pos _, fun v _ => by simp⟩
theorem Sup.at {S : ST} {r : Int} {n a s : Nat} (h : Sup S r n a s) : SupAt S r n a 0 s := ⟨h.lt, fun u hu => by rw [h.bit u hu]; simp⟩
theorem SupAt.no {S : ST} {r : Int} {n a v s : Nat} (h : SupAt S r n a v s) (hn : ¬ Ne S r a v) : SupAt S r n a (v + 1) s := by
  refine ⟨h.lt, fun u hu => ?_⟩
  rw [h.bit u hu]
  constructor
  · rintro (h1 | ⟨h1, h2⟩)
    · exact .inl h1
    · exact .inr ⟨by omega, h2⟩
  · rintro (h1 | ⟨h1, h2⟩)
    · exact .inl h1
    · by_cases e : u = v
      · subst e; exact absurd h2 hn
      · exact .inr ⟨by omega, h2⟩
theorem SupAt.yes {S : ST} {r : Int} {n a v s : Nat} (h : SupAt S r n a v s) (hv : v < n) (hn : Ne S r a v) : SupAt S r n a (v + 1) (s ||| 2 ^ v) := by
  refine ⟨Nat.or_lt_two_pow h.lt (Nat.pow_lt_pow_right (by decide) hv), fun u hu => ?_⟩
  rw [Nat.testBit_or, Nat.testBit_two_pow, Bool.or_eq_true, h.bit u hu, decide_eq_true_eq]
  constructor
  · rintro ((h1 | ⟨h1, h2⟩) | h1)
    · exact .inl h1
    · exact .inr ⟨by omega, h2⟩
    · subst h1; exact .inr ⟨by omega, hn⟩
  · rintro (h1 | ⟨h1, h2⟩)
    · exact .inl (.inl h1)
    · by_cases e : v = u
      · exact .inr e
      · exact .inl (.inr ⟨by omega, h2⟩)
theorem SupAt.next {S : ST} {r : Int} {n a s : Nat} (h : SupAt S r n a n s) : Sup S r n (a + 1) s := by
  refine ⟨h.lt, fun u hu => ?_⟩
  rw [h.bit u hu]
  constructor
  · rintro (⟨c, h1, h2⟩ | ⟨h1, h2⟩)
    · exact ⟨c, by omega, h2⟩
    · exact ⟨a, by omega, h2⟩
  · rintro ⟨c, h1, h2⟩
    by_cases e : c = a
    · subst e; exact .inr ⟨hu, h2⟩
    · exact .inl ⟨c, by omega, h2⟩

theorem asg_flip (c v : Nat) {u : Int} (u0 : 0 ≤ u) : asg ((c ^^^ 2 ^ v : Nat) : Int) u = if u = v then !asg (c : Int) u else asg (c : Int) u := by
  obtain ⟨k, rfl⟩ := Int.eq_ofNat_of_zero_le u0
  unfold asg
  rw [bitB_nat, bitB_nat, Nat.testBit_xor, Nat.testBit_two_pow]
  by_cases e : v = k
  · subst e; simp
  · have : ¬ (k : Int) = v := by omega
    simp [e, this]

theorem ne_iff {S : ST} (hw : WF S) {r : Int} (okr : S.ok r) {v : Nat} (_hv : v < S.n) : (∃ c, c < 2 ^ S.n ∧ Ne S r c v) ↔ ∃ f l h, Reach S [r] f ∧ get S.N f = some ((v : Int), l, h) := by
  constructor
  · rintro ⟨c, hc, hne⟩
    apply Classical.byContradiction
    intro hno
    apply hne
    have hn := hangs_not hw okr (v := (v : Int)) (fun f l h hr ht => hno ⟨f, l, h, hr, ht⟩) (asg (c : Int)) (asg (c : Int) v) (!asg (c : Int) v)
    have e1 : upd (asg (c : Int)) v (asg (c : Int) v) = asg (c : Int) := by
      funext u
      unfold upd
      split
      · rename_i e; rw [e]
      · rfl
    rw [e1] at hn
    rw [hn]
    refine den_congr hw okr _ _ fun u u0 _ _ => ?_
    rw [asg_flip c v u0]
    unfold upd
    split
    · rename_i e; rw [e]
    · rfl
  · rintro ⟨f, l, h, hr, ht⟩
    obtain ⟨σ, hσ⟩ := hangs_on hw okr hr ht
    refine ⟨code (upd σ v false) S.n, code_lt _ _, fun e => hσ ?_⟩
    have e1 : S.den r (asg (code (upd σ v false) S.n)) = S.den r (upd σ v false) := den_asg hw okr _
    have e2 : S.den r (asg ((code (upd σ v false) S.n ^^^ 2 ^ v : Nat) : Int)) = S.den r (upd σ v true) := by
      refine den_congr hw okr _ _ fun u u0 u1 _ => ?_
      rw [asg_flip _ v u0, asg_code _ _ u0 u1]
      unfold upd
      by_cases e : u = v
      · simp [e]
      · simp [e]
    rw [← e1, ← e2]
    exact e.symm

theorem Sup.all {S : ST} (hw : WF S) (n8 : S.n ≤ 8) {r : Int} (okr : S.ok r) {xs : List (Int × Tri)} {s' : Int} {s : Nat} (hg : GoodNodes S [r] xs) (hs : SupOf xs s') (h : Sup S r S.n (2 ^ S.n) s) : s' = s := by
  obtain ⟨s0, s1, hb⟩ := hs
  obtain ⟨q, rfl⟩ := Int.eq_ofNat_of_zero_le s0
  congr 1
  have hp : 2 ^ S.n ≤ 2 ^ 8 := Nat.pow_le_pow_right (by decide) n8
  refine Nat.eq_of_testBit_eq fun v => ?_
  by_cases h8 : v < 8
  · rw [Bool.eq_iff_iff]
    have h1 := hb v (by omega) (by omega)
    rw [bitB_nat] at h1
    rw [h1]
    by_cases hv : v < S.n
    · rw [h.bit v hv, ne_iff hw okr hv]
      constructor
      · rintro ⟨⟨f, u, l, k⟩, hx, e⟩
        have e' : u = v := e
        subst e'
        exact ⟨f, l, k, (hg.iff f).1 (List.mem_map.2 ⟨_, hx, rfl⟩), hg.at_ _ hx⟩
      · rintro ⟨f, l, k, hr, ht⟩
        obtain ⟨x, hx, e⟩ := List.mem_map.1 ((hg.iff f).2 hr)
        have h2 := hg.at_ x hx
        rw [e, ht] at h2
        exact ⟨x, hx, by rw [← Option.some.inj h2]⟩
    · constructor
      · rintro ⟨⟨f, u, l, k⟩, hx, e⟩
        have h2 := hg.at_ _ hx
        obtain ⟨_, _, u0, u1, _⟩ := hw.node f u l k h2
        have e' : u = v := e
        omega
      · intro hc
        have : s.testBit v = false := Nat.testBit_lt_two_pow (Nat.lt_of_lt_of_le h.lt (Nat.pow_le_pow_right (by decide) (by omega)))
        rw [this] at hc
        cases hc
  · have e1 : q.testBit v = false := Nat.testBit_lt_two_pow (Nat.lt_of_lt_of_le (show q < 2 ^ 8 by omega) (Nat.pow_le_pow_right (by decide) (by omega)))
    have e2 : s.testBit v = false := Nat.testBit_lt_two_pow (Nat.lt_of_lt_of_le (Nat.lt_of_lt_of_le h.lt hp) (Nat.pow_le_pow_right (by decide) (by omega)))
    rw [e1, e2]

theorem own_lt {w : World} {base : Nat} {e : TypeId} {size n : Nat} {v : Value} {xs : List Value} (h : w.ownsRow base e size v n xs) (i : Nat) (hi : v.ownBlock = some i) : i < w.heap.size := by
  obtain ⟨cs, tg⟩ := own_tag h i hi
  exact (Array.getElem?_eq_some_iff.1 tg).1

theorem own_cap {w : World} {base : Nat} {e : TypeId} {g n c : Nat} {xs : List Value} (h : w.ownsRow base e 1 (.slice (some ⟨g, 0, none⟩) n c) n xs) : n ≤ c := by
  obtain ⟨_, ⟨h1, _⟩ | ⟨g', cap, cur, h1, _, _, h2, _⟩⟩ := h
  · cases h1
  · cases h1
    exact h2

theorem own_part {w : World} {base : Nat} {e : TypeId} {g n c : Nat} {xs : List Value} (h : w.ownsRow base e 1 (.slice (some ⟨g, 0, none⟩) n c) n xs) (lo : Nat) (ys : List Value) (hy : ∀ (j : Nat) (u : Value), ys[j]? = some u → xs[lo + j]? = some u) : ∀ (j : Nat) (u : Value), ys[j]? = some u → w.cell? ((⟨g, lo, none⟩ : Addr).add j) = some u := by
  intro j u hu
  have := World.ownsRow.cells h (g := g) rfl (lo + j) u (hy j u hu)
  rw [Addr.add_lit, Nat.zero_add] at this
  rw [Addr.add_lit]
  exact this

theorem own_form {w : World} {base : Nat} {e : TypeId} {v : Value} {n : Nat} {xs : List Value} (h : w.ownsRow base e 1 v n xs) (hn : 0 < n) : ∃ g c, v = .slice (some ⟨g, 0, none⟩) n c := by
  rcases h.2 with ⟨_, e2⟩ | ⟨g, cap, cur, e, _⟩
  · omega
  · exact ⟨g, cap, e⟩

end Go.Proofs.Ytgjomknpjigkhaa
