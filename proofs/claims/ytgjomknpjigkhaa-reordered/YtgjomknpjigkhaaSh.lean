/- Sh. -/
import Derived.Test.YtgjomknpjigkhaaS4
import Derived.Test.YtgjomknpjigkhaaS5
import Derived.Test.YtgjomknpjigkhaaS8a
import Derived.Test.YtgjomknpjigkhaaS8b
import Derived.Test.YtgjomknpjigkhaaS8c
import Derived.Test.YtgjomknpjigkhaaS8d
import Derived.Test.YtgjomknpjigkhaaS9
import Derived.Test.YtgjomknpjigkhaaSb
import Derived.Test.YtgjomknpjigkhaaSd
namespace Go.Proofs.Ytgjomknpjigkhaa
open Go.RowKit Go.Shelf

def Fits (x : Int) : Prop := -9223372036854775808 ≤ x ∧ x ≤ 9223372036854775807

theorem step_calls {base : Nat} {w : World} {m : MB} {M : ML} {K : KS} (R : Ready base w m M K) (Kd A B C : Int) (ha : Fits A) (hb : Fits B) (hc : Fits C) :
    Calls Try.prog 7 #[.pointer (some ⟨m.mb, 0, none⟩), .agg #[.int .i64 Kd, .int .i64 A, .int .i64 B, .int .i64 C]] w (StepGives base m M K w) := by
  by_cases h0 : Kd = 0
  · subst h0; exact step_apply0 R A B C ha.1 ha.2 hb.1 hb.2 hc.1 hc.2
  by_cases h1 : Kd = 1
  · subst h1; exact step_apply1 R A B C ha.1 ha.2 hb.1 hb.2 hc.1 hc.2
  by_cases h2 : Kd = 2
  · subst h2; exact step_apply2 R A B C ha.1 ha.2 hb.1 hb.2 hc.1 hc.2
  by_cases h3 : Kd = 3
  · subst h3; exact step_apply3 R A B C ha.1 ha.2 hb.1 hb.2 hc.1 hc.2
  by_cases h4 : Kd = 4
  · subst h4; exact step_not R A B C ha.1 ha.2 hb.1 hb.2 hc.1 hc.2
  by_cases h5 : Kd = 5
  · subst h5; exact step_ite R A B C ha.1 ha.2 hb.1 hb.2 hc.1 hc.2
  by_cases h6 : Kd = 6
  · subst h6; exact step_exists R A B C ha.1 ha.2 hb.1 hb.2 hc.1 hc.2
  by_cases h7 : Kd = 7
  · subst h7; exact step_replace R A B C ha.1 ha.2 hb.1 hb.2 hc.1 hc.2
  by_cases h8 : Kd = 8
  · subst h8; exact step_swap R A B C ha.1 ha.2 hb.1 hb.2 hc.1 hc.2
  by_cases h9 : Kd = 9
  · subst h9; exact step_sift R A B C ha.1 ha.2 hb.1 hb.2 hc.1 hc.2
  by_cases h10 : Kd = 10
  · subst h10; exact step_drop R A B C ha.1 ha.2 hb.1 hb.2 hc.1 hc.2
  exact step_var R A B C ha.1 ha.2 hb.1 hb.2 hc.1 hc.2 Kd (by omega)

/-- A script in the memory: n steps. -/
structure Script (w : World) (v : Value) (n : Nat) : Prop where
  few : n ≤ 4398046511104
  row : (v = .slice none 0 0 ∧ n = 0) ∨ ∃ (a : Addr) (cap : Nat), v = .slice (some a) n cap ∧ ∀ i, i < n → ∃ k x y z : Int, Fits x ∧ Fits y ∧ Fits z ∧ w.cell? (a.add (i * 4)) = some (.int .i64 k) ∧ w.cell? ((a.add (i * 4)).add 1) = some (.int .i64 x) ∧ w.cell? ((a.add (i * 4)).add 2) = some (.int .i64 y) ∧ w.cell? ((a.add (i * 4)).add 3) = some (.int .i64 z)

/-- The mill, so many steps on. -/
structure Run (B : Nat) (w : World) (i : Nat) (m : MB) (M : ML) (K : KS) : Prop where
  mill : MillAt w m M K
  know : MI M K
  n5 : M.n ≤ 5
  low : B ≤ m.mb
  own : ∀ q ∈ m.b.own, B ≤ q
  next : K.S.next ≤ 2 + 524288 * i
  nx : K.nx ≤ 2 + i

theorem Run.ready {B : Nat} {w : World} {i n : Nat} {m : MB} {M : ML} {K : KS} (r : Run B w i m M K) (hi : i < n) (hn : n ≤ 4398046511104) : Ready B w m M K :=
  ⟨r.mill, r.know, r.n5, r.low, r.own, by have := r.next; unfold lim; omega, by have := r.nx; omega⟩

theorem Run.step {B : Nat} {w w' : World} {i : Nat} {m m' : MB} {M M' : ML} {K K' : KS} (r : Run B w i m M K) (s : Stepped B m m' M M' K K' w w') : Run B w' (i + 1) m' M' K' :=
  ⟨s.mill, s.know, by rw [s.n]; exact r.n5, by rw [s.mb]; exact r.low, by rw [s.b]; exact r.own, by have := s.next; have := r.next; omega, by have := s.nx; have := r.nx; omega⟩

end Go.Proofs.Ytgjomknpjigkhaa
