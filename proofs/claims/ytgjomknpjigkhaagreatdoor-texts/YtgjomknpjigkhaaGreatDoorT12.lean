/- Texts: JD. -/
import Derived.Test.YtgjomknpjigkhaaGreatDoorT11
namespace Go.Proofs.YtgjomknpjigkhaaGreatDoor
open Go.RowKit

def VarTo (base S B : Nat) (F : Nat → Prop) (z : Nat) (r : Except Flt (TermM × Scope)) (e : Ending) (w' : World) : Prop := match r with
  | .error f => e = gaveUp f.1 f.2
  | .ok (x, sc') => e = .returned (.int .i64 x.num) ∧ x.isVar = true ∧ ScopeF w' base S B sc' (fun j => F j ∨ z ≤ j)

theorem var_calls {w : World} {base S B : Nat} {sc : Scope} {F : Nat → Prop} (h : ScopeF w base S B sc F) (hbase : base ≤ w.heap.size) (m : Mean) (t : Tn) (hv : isVarG t.g = true) (d : Nat) (hl : sc.length ≤ 4) : Calls Tryz.prog 341 #[.pointer (some ⟨S, 0, none⟩), tokV t, .int .i64 (d : Int)] w fun e w' => VarTo base S B F w.heap.size (termS m sc t d) e w' ∧ ∃ T, Keeps T w w' ∧ ∀ j ∈ T, base ≤ j ∧ F j := by
  unfold termS
  rw [if_pos hv]
  cases hp : placeIn sc (txt t.g) with
  | some p =>
    simp only
    obtain ⟨q, hq⟩ : ∃ q, sc[p]? = some q := ⟨_, List.getElem?_eq_getElem (placeIn_lt hp)⟩
    rw [hq]
    simp only [Option.map_some, Option.getD_some]
    by_cases hd : q.2 = d
    · rw [if_neg (by simp [hd])]
      refine (var_ok h.to t d p hp hq hl hd).mono ?_
      rintro e w' ⟨rfl, k⟩
      exact ⟨⟨rfl, rfl, (h.keeps k (by simp)).mono (fun _ _ _ h => .inl h)⟩, [], k, by simp⟩
    · rw [if_pos hd]
      refine (var_bad h.to t d p hp hq hl hd).mono ?_
      rintro e w' ⟨rfl, k⟩
      exact ⟨rfl, [], k, by simp⟩
  | none =>
    simp only
    by_cases h4 : sc.length = 4
    · rw [if_pos h4]
      refine (var_many h.to t d hp h4).mono ?_
      rintro e w' ⟨rfl, k⟩
      exact ⟨rfl, [], k, by simp⟩
    · rw [if_neg h4]
      refine (var_new h hbase t d hp h4 hl).mono ?_
      rintro e w' ⟨rfl, hs, T, k, hT⟩
      exact ⟨⟨rfl, rfl, hs⟩, T, k, hT⟩

/-- A scope that lies apart from some blocks. -/
def ScopeX (w : World) (base S B : Nat) (sc : Scope) (X : List Nat) : Prop := ScopeF w base S B sc (fun j => j ∉ X)

def TermTo (base S B : Nat) (X : List Nat) (r : Except Flt (TermM × Scope)) (e : Ending) (w' : World) : Prop := match r with
  | .error f => e = gaveUp f.1 f.2
  | .ok (x, sc') => e = .returned (.agg #[.bool x.isVar, .int .i64 x.num]) ∧ ScopeX w' base S B sc' X

structure Res2 (w : World) (r : Nat) (a0 a1 x0 x1 : Value) : Prop where
  c0 : w.cell? ⟨r, 0, none⟩ = some a0
  f0 : w.frozen? ⟨r, 0, none⟩ = false
  c1 : (w.setCell ⟨r, 0, none⟩ x0).cell? ⟨r, 1, none⟩ = some a1
  f1 : (w.setCell ⟨r, 0, none⟩ x0).frozen? ⟨r, 1, none⟩ = false
  at_ : CellsAt ((w.setCell ⟨r, 0, none⟩ x0).setCell ⟨r, 1, none⟩ x1) r #[x0, x1]
  keep : Keeps [r] w ((w.setCell ⟨r, 0, none⟩ x0).setCell ⟨r, 1, none⟩ x1)
theorem res2 {w : World} {r : Nat} {a0 a1 : Value} (h : CellsAt w r #[a0, a1]) (x0 x1 : Value) : Res2 w r a0 a1 x0 x1 := by
  have h1 := h.setCell 0 x0
  have h2 := h1.setCell 1 x1
  exact ⟨h.cell 0, h.frozen 0, h1.cell 1, h1.frozen 1, h2, (Keeps.setCell w ⟨r, 0, none⟩ x0).trans (Keeps.setCell (w.setCell ⟨r, 0, none⟩ x0) ⟨r, 1, none⟩ x1)⟩
theorem size220 : (Tryz.prog.info? 220).map (·.size) = some 2 := by kernel_rfl

set_option maxRecDepth 100000 in
set_option maxHeartbeats 4000000 in
theorem term_var {w : World} {base S B : Nat} {sc : Scope} {X : List Nat} (h0 : ScopeX w base S B sc X) (hX : ∀ j ∈ X, j < w.heap.size) (hbase : base ≤ w.heap.size) (m : Mean) (t : Tn) (hv : isVarG t.g = true) (d : Nat) (hl : sc.length ≤ 4) : Calls Tryz.prog 340 #[.pointer (some ⟨S, 0, none⟩), tokV t, .int .i64 (d : Int)] w fun e w' => TermTo base S B X (termS m sc t d) e w' ∧ ∃ T, Keeps T w w' ∧ ∀ j ∈ T, base ≤ j ∧ j ∉ X := by
  have h : ScopeF w base S B sc (fun j => j ∉ X ∧ j < w.heap.size) := h0.mono (fun j _ h2 h3 => ⟨h3, h2⟩)
  have hkind : ((kindOf t.g).toList == [86, 65, 82]) = true := by cases hg : t.g <;> rw [hg] at hv <;> first | (show (strVar.toList == [86, 65, 82]) = true; rw [toList_beq]; decide) | cases hv
  have kA := Keeps.alloc [] w (.cells #[.string (kindOf t.g), .string (txt t.g), .int .i64 t.line] 129)
  have kB := Keeps.alloc [] (w.alloc (.cells #[.string (kindOf t.g), .string (txt t.g), .int .i64 t.line] 129)) (.cells #[.bool false, .int .i64 0] 220)
  have hR := CellsAt.new (w.alloc (.cells #[.string (kindOf t.g), .string (txt t.g), .int .i64 t.line] 129)) #[.bool false, .int .i64 0] 220
  rw [sizeE_alloc] at hR
  have hvc := hide (var_calls (w := ((w.alloc (.cells #[.string (kindOf t.g), .string (txt t.g), .int .i64 t.line] 129)).alloc (.cells #[.bool false, .int .i64 0] 220))) (h.keeps (kA.trans kB) (by simp)) (by rw [sizeE_alloc, sizeE_alloc]; omega) m t hv d hl)
  have hSl : S < w.heap.size := by obtain ⟨_, _, _, hV, _⟩ := h; exact hV.cells.lt
  have kAB := kA.trans kB
  have HX := hide hX
  clear h h0 hX
  cases hr : termS m sc t d with
  | error f =>
    rw [hr] at hvc
    clear hR kA kB
    unfold tokV
    go_enter Tryz.func340, Tryz.ntmps340
    go_wp2_with fail
    refine hvc.out.mono ?_
    rintro e w1 ⟨rfl, T, k1, hT⟩
    exact ⟨rfl, rfl, T, (kAB.mono (by simp)).trans k1, fun j hj => ⟨(hT j hj).1, (hT j hj).2.1⟩⟩
  | ok q =>
    obtain ⟨x, sc'⟩ := q
    rw [hr] at hvc
    clear kA kB
    unfold tokV
    go_enter Tryz.func340, Tryz.ntmps340
    go_wp2_with fail
    refine hvc.out.mono ?_
    rintro e w1 ⟨⟨rfl, hx, hs⟩, T, k1, hT⟩
    obtain ⟨c0, f0, c1, f1, hat, hk⟩ := res2 (hR.keeps k1 (fun hx => by have := (hT _ hx).2.2; omega)) (.bool true) (.int .i64 x.num)
    have Hat := hide hat
    have Hk := hide hk
    have Hs := hide hs
    have Hw := hide hx
    have hs1 := k1.size
    clear hat hk hs hx
    go_wp2_with fail
    refine bodyPost_ret (v := .agg #[.bool true, .int .i64 x.num]) (ret_cell (p := 6) (ty := 220) (by kernel_rfl) _ Hat.out Tryz.underlying220 size220 rfl) rfl ⟨⟨by rw [Hw.out], ?_⟩, T, ((kAB.mono (by simp)).trans k1).trans_new Hk.out (fun j hj => ?_), fun j hj => ⟨(hT j hj).1, (hT j hj).2.1⟩⟩
    · refine (Hs.out.keeps Hk.out (fun j hj => ?_)).mono (fun j _ _ h2 hx => ?_)
      · have e : j = w.heap.size + 1 := (by simpa using hj)
        rintro (q | q)
        · omega
        · rw [sizeE_alloc, sizeE_alloc] at q; omega
      · rcases h2 with q | q
        · exact q.1 hx
        · have := HX.out j hx; rw [sizeE_alloc, sizeE_alloc] at q; omega
    · have e : j = w.heap.size + 1 := (by simpa using hj)
      right; omega

end Go.Proofs.YtgjomknpjigkhaaGreatDoor
