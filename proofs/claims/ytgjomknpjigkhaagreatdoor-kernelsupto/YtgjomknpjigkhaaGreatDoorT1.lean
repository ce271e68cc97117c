/- T1. -/
import Derived.Test.YtgjomknpjigkhaaGreatDoorMStore
import Derived.Test.YtgjomknpjigkhaaGreatDoorMBdd
namespace Go.Proofs.YtgjomknpjigkhaaGreatDoor
open Go.RowKit

section
variable {S C : ST} {u d : Int} {m : Nat} {T : List Int} {hole : Option Tri} {w : World} {B : SB}

theorem split_mid (hC : StoreAt w B C) (hw : WF S) (p : Pair S u d m) (M : Mid S C u d m T hole) {c : Int} (okc : S.ok c) (hc : (m : Int) < S.lev c) :
    Calls Tryz.prog 207 #[.pointer (some ⟨B.b, 0, none⟩), .int .i64 c, .int .i64 d] w fun e w' => e = .returned (.tuple #[.int .i64 (S.cof c d).1, .int .i64 (S.cof c d).2]) ∧ Keeps [] w w' := by
  rcases okc with rfl | rfl | ⟨h2, ⟨v, l, r⟩, ht⟩
  · rw [cof_low hw d (by omega)]; exact split_low _ _ _ (by omega)
  · rw [cof_low hw d (by omega)]; exact split_low _ _ _ (by omega)
  · have hno : ¬ Joint S u d c := by
      rintro ⟨l', h', hj, _⟩
      rw [lev_node hw hj] at hc
      have := p.pu
      dsimp only at hc
      omega
    have hCc := M.same c _ ht (.inr hno)
    by_cases hv : v = d
    · have e : S.cof c d = (l, r) := by
        have : 1 < c := by omega
        simp [ST.cof, ht, this, hv]
      rw [e]; exact split_yes hC c d (by omega) v l r hCc (by simpa using hv)
    · have e : S.cof c d = (c, c) := by simp [ST.cof, ht, hv]
      rw [e]; exact split_no hC c d (by omega) v l r hCc (by simpa using hv)

/-- What 'number' leaves, in a swap under way. -/
structure UpPost (C C' : ST) (u x a b : Int) : Prop where
  up : IsUp C' u x a b
  kept : ∀ f t, get C.N f = some t → get C'.N f = some t
  order : C'.order = C.order
  place : C'.place = C.place
  K : C'.K = C.K
  next : C'.next ≤ C.next + 1
  len : C'.N.length ≤ C.N.length + 1

theorem number_mid (hC : StoreAt w B C) (hw : WF S) (M : Mid S C u d m T hole) {a b : Int} (oka : S.ok a) (okb : S.ok b) (la : (m : Int) + 1 < S.lev a) (lb : (m : Int) + 1 < S.lev b) (hh : some (u, a, b) ≠ hole) (hn2 : C.next < 9223372036854775807) :
    Calls Tryz.prog 208 #[.pointer (some ⟨B.b, 0, none⟩), .int .i64 u, .int .i64 a, .int .i64 b] w fun e w' => ∃ x C', e = .returned (.int .i64 x) ∧ StoreAt w' B C' ∧ Keeps B.own w w' ∧ Mid S C' u d m T hole ∧ UpPost C C' u x a b := by
  by_cases hab : a = b
  · subst hab
    exact (number_same _ u a a (by simp)).mono fun e w' ⟨he, hw'⟩ => ⟨a, C, he, hw' ▸ hC, hw' ▸ Keeps.refl _ _, M, .inl ⟨rfl, rfl⟩, fun _ _ h => h, rfl, rfl, rfl, by omega, by omega⟩
  · have hb : (a == b) = false := by simpa using hab
    cases hg : get C.U (u, a, b) with
    | some f => exact (number_found hC u a b f hb hg).mono fun e w' ⟨he, hk⟩ => ⟨f, C, he, hC.keeps hk (by simp), hk.mono (by simp), M, .inr ⟨hab, ((M.inv _ _).1 hg).1⟩, fun _ _ h => h, rfl, rfl, rfl, by omega, by omega⟩
    | none =>
      obtain ⟨M', h1, h2⟩ := M.add hw hab oka okb la lb hg hh
      exact (number_new hC u a b hb hg (by have := hw.two; have := M.next; omega) hn2).mono fun e w' ⟨he, hs, hk⟩ => ⟨C.next, _, he, hs, hk, M', .inr ⟨hab, h1⟩, h2, rfl, rfl, rfl, by simp [ST.add], by simp only [ST.add]; exact length_put_le _ _ _⟩

end

theorem length_put_old {α β : Type} [DecidableEq α] {L : List (α × β)} {k : α} (v : β) {v0 : β} (h : get L k = some v0) : (put L k v).length = L.length := by
  have := congrArg List.length (keys_put L k v)
  simpa [h] using this

/-- What a turn leaves. -/
structure TurnPost (C C' : ST) : Prop where
  order : C'.order = C.order
  place : C'.place = C.place
  K : C'.K = C.K
  next : C'.next ≤ C.next + 2
  len : C'.N.length ≤ C.N.length + 2

set_option maxRecDepth 100000 in
set_option maxHeartbeats 2000000 in
theorem turn_calls {S C : ST} {u d : Int} {m : Nat} {T' : List Int} {w : World} {B : SB} {f : Int} (hC : StoreAt w B C) (hw : WF S) (p : Pair S u d m) (M : Mid S C u d m (f :: T') none) (hj : Joint S u d f) (hT : f ∉ T') (hn2 : C.next + 2 < 9223372036854775807) :
    Calls Tryz.prog 282 #[.pointer (some ⟨B.b, 0, none⟩), .int .i64 f, .int .i64 u, .int .i64 d] w fun e w' => e = .returned (.tuple #[]) ∧ ∃ C', StoreAt w' B C' ∧ Mid S C' u d m T' none ∧ TurnPost C C' ∧ Keeps B.own w w' := by
  obtain ⟨l, h, hf, hs⟩ := id hj
  have hCf := M.same f _ hf (.inl (by simp))
  obtain ⟨x1, _, _, _, lh, okl, okh, pl, ph⟩ := hw.node f u l h hf
  rw [p.pu] at pl ph
  obtain ⟨ol1, ol2, ll1, ll2, _, _, _⟩ := cof_deep hw p okl pl
  obtain ⟨oh1, oh2, lh1, lh2, _, _, _⟩ := cof_deep hw p okh ph
  have hdeep : ∀ a b, (m : Int) + 1 < S.lev a → (m : Int) + 1 < S.lev b → some (u, a, b) ≠ some (u, l, h) := by
    intro a b la lb e
    simp only [Option.some.injEq, Prod.mk.injEq, true_and] at e
    obtain ⟨rfl, rfl⟩ := e
    rcases hs with hs | hs
    · have := sts_lev hw hs; have := p.pd; omega
    · have := sts_lev hw hs; have := p.pd; omega
  have c2 := hC.head.cell 2
  simp at c2
  have hl := look71' hC hCf
  go_enter Tryz.func282, Tryz.ntmps282
  go_wp2_with fail
  have hN := CellsAt.new w #[.int .i64 u, .int .i64 l, .int .i64 h] 228
  have hC1 := hC.alloc (.cells #[.int .i64 u, .int .i64 l, .int .i64 h] 228)
  have hK1 := Keeps.alloc B.own w (.cells #[.int .i64 u, .int .i64 l, .int .i64 h] 228)
  have hne : ∀ i ∈ B.own, i ≠ w.heap.size := fun i hi => Nat.ne_of_lt (hC.lt i hi)
  clear hl c2
  generalize w.alloc (.cells #[.int .i64 u, .int .i64 l, .int .i64 h] 228) = W at hN hC1 hK1 ⊢
  generalize w.heap.size = z at hN hne ⊢
  refine (split_mid hC1 hw p M okl pl).mono ?_
  rintro e W2 ⟨rfl, k2⟩
  have hN2 := hN.keeps k2 (by simp)
  have hC2 := hC1.keeps k2 (by simp)
  have hK2 := hK1.trans (k2.mono (by simp))
  have n2 := hN2.cell 2
  simp at n2
  go_wp2_with fail
  refine (split_mid hC2 hw p M okh ph).mono ?_
  rintro e W3 ⟨rfl, k3⟩
  have hN3 := hN2.keeps k3 (by simp)
  have hC3 := hC2.keeps k3 (by simp)
  have hK3 := hK2.trans (k3.mono (by simp))
  clear n2
  generalize el0 : (S.cof l d).1 = l0 at ol1 ll1 ⊢
  generalize el1 : (S.cof l d).2 = l1 at ol2 ll2 ⊢
  generalize eh0 : (S.cof h d).1 = h0 at oh1 lh1 ⊢
  generalize eh1 : (S.cof h d).2 = h1 at oh2 lh2 ⊢
  replace el0 := hide el0
  replace el1 := hide el1
  replace eh0 := hide eh0
  replace eh1 := hide eh1
  have n0 := hN3.cell 0
  have n1 := hN3.cell 1
  have n2 := hN3.cell 2
  have c3 := hC3.head.cell 3
  simp at n0 n1 n2 c3
  obtain ⟨o5, hrun5, hm5⟩ := run_del (P := Tryz.prog) Tryz.underlying210 key228 hC3.drew.numbers (u, l, h) 0
  have hrun5' := fun (ty : TypeId) => (show (Builtin.delete_ #[210,228] ty #[.map (some B.ru), .agg #[.int .i64 u, .int .i64 l, .int .i64 h]]).run Tryz.prog W3.drew = _ from hrun5)
  clear hrun5
  go_wp2_with fail
  have hC4 : StoreAt (blk W3.drew B.ru o5) B { C with U := del C.U (u, l, h) } := hC3.drew.numbersBlk hm5
  have hK4 : Keeps B.own w (blk W3.drew B.ru o5) := (hK3.trans (Keeps.drew _ _)).trans ((Keeps.blk _ _ _).mono (by simp [SB.own]))
  have M4 := M.strike (u, l, h)
  go_region
  clear hrun5' hm5 n0 n1 n2 c3 hN3 hN2 hN
  generalize blk W3.drew B.ru o5 = W4 at hC4 hK4 ⊢
  go_wp2_with fail
  refine (number_mid hC4 hw M4 ol1 oh1 ll1 lh1 (hdeep _ _ ll1 lh1) (by show C.next < _; omega)).mono ?_
  rintro e W5 ⟨x, C5, rfl, hC5, k5, M5, P5⟩
  have hn5 : C5.next ≤ C.next + 1 := P5.next
  go_wp2_with fail
  refine (number_mid hC5 hw M5 ol2 oh2 ll2 lh2 (hdeep _ _ ll2 lh2) (by omega)).mono ?_
  rintro e W6 ⟨y, C6, rfl, hC6, k6, M6, P6⟩
  have hux : IsUp C6 u x l0 h0 := isUp_mono P5.up P6.kept
  go_wp2_with fail
  refine (set_calls hC6 f d x y).mono ?_
  rintro e W7 ⟨rfl, hC7, k7⟩
  go_wp2_with fail
  go_end0
  have hC6f := M6.same f _ hf (.inl (by simp))
  refine ⟨rfl, _, hC7, M6.turn hw p hf hj hT (by rw [el0.out, eh0.out]; exact hux) (by rw [el1.out, eh1.out]; exact P6.up), ?_, ((hK4.trans k5).trans k6).trans k7⟩
  have a1 := P5.len
  have a2 := P6.len
  have a3 := P6.next
  exact ⟨P6.order.trans P5.order, P6.place.trans P5.place, P6.K.trans P5.K, by show C6.next ≤ _; omega, by show (put C6.N f (d, x, y)).length ≤ _; rw [length_put_old _ hC6f]; simp only at a1; omega⟩

end Go.Proofs.YtgjomknpjigkhaaGreatDoor
