/- The law's script: append. -/
import Derived.Test.YtgjomknpjigkhaaGreatDoorA7
namespace Go.Proofs.YtgjomknpjigkhaaGreatDoor
open Go.RowKit Go.Shelf

theorem info80 : (Tryz.prog.info? 80).map (fun i => (i.size, i.bytes)) = some (7, 80) := by kernel_rfl
theorem zero80 : (Tryz.prog.info? 80).bind (fun i => i.zero) = some (.agg #[.int .i64 0, .int .i64 0, .int .i64 0, .int .i64 0, .int .i64 0, .string ⟨#[]⟩, .slice none 0 0]) := by kernel_rfl

theorem run_append_none (w : World) (g n cap : Nat) (ty : TypeId) (hn : n ≤ cap) : (Builtin.append_ #[22, 22] ty #[.slice (some ⟨g, 0, none⟩) n cap, .slice none 0 0]).run Tryz.prog w = .ok (.slice (some ⟨g, 0, none⟩) n cap) w := by
  obtain ⟨i, hi⟩ : ∃ i, Tryz.prog.info? 80 = some i := by
    cases h : Tryz.prog.info? 80 with
    | none => have := info80; rw [h] at this; cases this
    | some i => exact ⟨i, rfl⟩
  simp [Builtin.append_, run_underlying Tryz.underlying22, sizeOf, typeInfo, hi, Builtin.lenOf, Builtin.firstCells, loadCells, hn]
  simp [storeCells]

/-- A step of a script. -/
structure OpR where
  Kd : Int
  On : Int
  A : Int
  B : Int
  C : Int
  S : ByteArray
  vL : Value
def OpR.cells (o : OpR) : List Value := [.int .i64 o.Kd, .int .i64 o.On, .int .i64 o.A, .int .i64 o.B, .int .i64 o.C, .string o.S, o.vL]
def ocells (os : List OpR) : List Value := os.flatMap OpR.cells
theorem ocells_append (a b : List OpR) : ocells (a ++ b) = ocells a ++ ocells b := by simp [ocells]
theorem ocells_length (os : List OpR) : (ocells os).length = os.length * 7 := by
  induction os with
  | nil => rfl
  | cons o l ih =>
    simp only [ocells, List.flatMap_cons, List.length_append, List.length_cons] at ih ⊢
    rw [ih]
    simp only [OpR.cells, List.length_cons, List.length_nil]
    omega
theorem ocells_get {os : List OpR} {i : Nat} {o : OpR} (h : os[i]? = some o) (f : Nat) (hf : f < 7) : (ocells os)[i * 7 + f]? = o.cells[f]? := by
  induction os generalizing i with
  | nil => cases h
  | cons q l ih =>
    cases i with
    | zero =>
      cases h
      simp only [ocells, List.flatMap_cons]
      rw [List.getElem?_append_left (by simp [OpR.cells]; omega), Nat.zero_mul, Nat.zero_add]
    | succ i =>
      have := ih (i := i) h
      simp only [ocells, List.flatMap_cons] at this ⊢
      rw [List.getElem?_append_right (by simp [OpR.cells]; omega)]
      rw [show (i + 1) * 7 + f - q.cells.length = i * 7 + f by simp [OpR.cells]; omega]
      exact this

set_option maxRecDepth 100000 in
theorem wpList_append_script {w : World} {ops : Array Oper} {rest : List Oper} {o : Oper} {a : Act} {Q : Exit → Act → World → Prop} (hgd : o.guard = none) (s x : Operand)
    (ho : o.op = .call { callee := .builtin .append, args := #[s, x], argTypes := #[22, 22] })
    (base g n cap : Nat) (xs : List Value) (hs : a.eval s = .slice (some ⟨g, 0, none⟩) n cap) (hown : w.ownsRow base 80 7 (.slice (some ⟨g, 0, none⟩) n cap) n xs)
    (vx : Value) (m : Nat) (news : List Value) (hx : a.eval x = vx) (hsrc : (vx = .slice none 0 0 ∧ m = 0 ∧ news = []) ∨ ∃ ad c, vx = .slice (some ad) m c ∧ news.length = m * 7 ∧ ∀ j u, news[j]? = some u → w.cell? (ad.add j) = some u) (h1 : ∀ u ∈ news, u.oneCell' = true)
    (h63 : n + m ≤ 100000000) (hbase : base ≤ w.heap.size)
    (h : ∀ g' c' w', w'.ownsRow base 80 7 (.slice (some ⟨g', 0, none⟩) (n + m) c') (n + m) (xs ++ news) → Keeps [g] w w' → wpList Tryz.prog ops Q rest (a.put o.dst (.slice (some ⟨g', 0, none⟩) (n + m) c')) w') :
    wpList Tryz.prog ops Q (o :: rest) a w := by
  obtain ⟨i, hi⟩ : ∃ i, Tryz.prog.info? 80 = some i := by
    cases h : Tryz.prog.info? 80 with
    | none => have := info80; rw [h] at this; cases this
    | some i => exact ⟨i, rfl⟩
  have hz := zero80
  have hi7 := info80
  rw [hi] at hz hi7
  simp only [Option.map_some, Option.some.injEq, Prod.mk.injEq] at hi7
  have hz' : i.zero = some (.agg #[.int .i64 0, .int .i64 0, .int .i64 0, .int .i64 0, .int .i64 0, .string ⟨#[]⟩, .slice none 0 0]) := hz
  rcases hsrc with ⟨rfl, rfl, rfl⟩ | ⟨ad, c, rfl, hl, hnews⟩
  · refine wpList_plain hgd fun K hK => ?_
    have hr := run_append_none w g n cap o.type (own_cap hown)
    unfold Oper.wp execOp
    simp only [ho, resolve, invoke, builtin, Sem.run_bind, Sem.run_pure, Result.andThen_ok, List.map_toArray, List.map_cons, List.map_nil, hs, hx, hr]
    refine hK _ _ (h g cap w ?_ (Keeps.refl _ _))
    rw [List.append_nil]
    exact hown
  · by_cases h0 : n + m = 0
    · have hm : m = 0 := by omega
      have hn : news = [] := List.eq_nil_of_length_eq_zero (by rw [hl, hm])
      subst hm hn
      refine wpList_append_own_at w hgd s x 22 ho base 80 i _ 7 80 Tryz.underlying22 hi hz' hi7.1 hi7.2 rfl (by decide) _ n xs hs hown ad 0 c [] hx rfl hnews (by simp) (by unfold maxLen; omega) (by omega) hbase ?_
      intro v' w' own grow nl at2
      have k := grownBy_keeps' grow [g] (fun r e => .inl (by cases e; simp))
      rcases own.2 with ⟨e1, _⟩ | ⟨g', c', cur, e, _⟩
      · have := (nl.1 e1).1
        cases this
      · subst e
        exact h g' c' w' own k
    · refine wpList_append_own_at w hgd s x 22 ho base 80 i _ 7 80 Tryz.underlying22 hi hz' hi7.1 hi7.2 rfl (by decide) _ n xs hs hown ad m c news hx hl hnews h1 (by unfold maxLen; omega) (by omega) hbase ?_
      intro v' w' own grow _ at2
      have k := grownBy_keeps' grow [g] (fun r e => .inl (by cases e; simp))
      obtain ⟨g', c', rfl⟩ := own_form own (by omega)
      exact h g' c' w' own k

end Go.Proofs.YtgjomknpjigkhaaGreatDoor
