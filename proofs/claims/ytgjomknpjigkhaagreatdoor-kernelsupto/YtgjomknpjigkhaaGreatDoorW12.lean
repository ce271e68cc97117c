/- W12. -/
import Derived.Test.YtgjomknpjigkhaaGreatDoorMBase
import Derived.Maps.AppendAt
import Derived.WalkSpells
namespace Go.Proofs.YtgjomknpjigkhaaGreatDoor
open Go.RowKit

theorem RowIs.kept {w w' : World} {b : Nat} {xs : List Int} {T : List Nat} (h : RowIs w b xs) (k : Keeps T w w') (hb : b ∉ T) : RowIs w' b xs := h.of_heap (k.block b h.lt hb)
theorem MapIs.kept {α β : Type} {ek : α → Value} {ev : β → Value} {w w' : World} {r : Nat} {L : List (α × β)} {T : List Nat} (h : MapIs ek ev w r L) (k : Keeps T w w') (hb : r ∉ T) : MapIs ek ev w' r L := h.of_heap (k.block r h.lt hb)
theorem ownsRow_kept {w w' : World} {base : Nat} {e : TypeId} {size n : Nat} {v : Value} {xs : List Value} {T : List Nat} (h : w.ownsRow base e size v n xs) (k : Keeps T w w') (hT : ∀ i, v.ownBlock = some i → i ∉ T) : w'.ownsRow base e size v n xs := by
  obtain ⟨h1, h2⟩ := h
  refine ⟨h1, ?_⟩
  rcases h2 with h2 | ⟨g, cap, cur, rfl, hg, hh, r⟩
  · exact .inl h2
  · exact .inr ⟨g, cap, cur, rfl, hg, (k.block g (Array.getElem?_eq_some_iff.1 hh).1 (hT g rfl)).trans hh, r⟩

theorem ownsRow_base {w : World} {base base' : Nat} {e : TypeId} {size n : Nat} {v : Value} {xs : List Value} (h : w.ownsRow base e size v n xs) (hb : base' ≤ base) : w.ownsRow base' e size v n xs := by
  obtain ⟨h1, h2⟩ := h
  refine ⟨h1, ?_⟩
  rcases h2 with h2 | ⟨g, cap, cur, rfl, hg, r⟩
  · exact .inl h2
  · exact .inr ⟨g, cap, cur, rfl, Nat.le_trans hb hg, r⟩

theorem ownsRow_cell {w : World} {base g n cap : Nat} {xs : List Int} (h : w.ownsRow base 3 1 (.slice (some ⟨g, 0, none⟩) n cap) n (xs.map (Value.int .i64))) {i : Nat} {x : Int} (hx : xs[i]? = some x) : w.cell? ⟨g, i, none⟩ = some (.int .i64 x) := by
  obtain ⟨h1, h2⟩ := h
  rcases h2 with ⟨h2, _⟩ | ⟨g', cap', cur, e, hg, hh, hn, hm, hs, ht⟩
  · cases h2
  · cases e
    have hi : i < xs.length := (List.getElem?_eq_some_iff.1 hx).1
    have e1 : (cur.toList.take (n * 1))[i]? = some (.int .i64 x) := by rw [ht, List.getElem?_map, hx]; rfl
    rw [List.length_map, Nat.mul_one] at h1
    rw [List.getElem?_take_of_lt (by omega)] at e1
    have : cur[i]? = some (.int .i64 x) := by rw [← Array.getElem?_toList]; exact e1
    simp [World.cell?, hh, this]

theorem ownsRow_at {w : World} {base g n cap : Nat} {xs : List Value} (h : w.ownsRow base 3 1 (.slice (some ⟨g, 0, none⟩) n cap) n xs) : base ≤ g ∧ g < w.heap.size ∧ n ≤ cap ∧ cap ≤ maxLen := by
  obtain ⟨h1, h2⟩ := h
  rcases h2 with ⟨h2, _⟩ | ⟨g', cap', cur, e, hg, hh, hn, hm, hs, ht⟩
  · cases h2
  · cases e
    exact ⟨hg, (Array.getElem?_eq_some_iff.1 hh).1, hn, hm⟩

theorem info3 : (Tryz.prog.info? 3).map (fun i => (i.zero, i.size, i.bytes)) = some (some (.int .i64 0), 1, 8) := by kernel_rfl

def ints (xs : List Int) : List Value := xs.map (Value.int .i64)

theorem ints_get (xs : List Int) (j : Nat) (u : Value) (h : (ints xs)[j]? = some u) : ∃ x, xs[j]? = some x ∧ u = .int .i64 x := by
  unfold ints at h
  rw [List.getElem?_map] at h
  obtain ⟨x, hx, e⟩ := Option.map_eq_some_iff.1 h
  exact ⟨x, hx, e.symm⟩

theorem ints_one (xs : List Int) : ∀ u ∈ ints xs, u.oneCell' = true := ints_oneCell .i64 xs

theorem grownBy_keeps' {w w' : World} {row : Option Nat} (h : w.grownBy w' row) (T : List Nat) (hr : ∀ r, row = some r → r ∈ T ∨ w.heap.size ≤ r) : Keeps T w w' :=
  ⟨h.os, h.tape, h.output, h.size, fun i hi hn => h.block i hi (fun e => by
    rcases hr i e.symm with x | x
    · exact hn x
    · omega)⟩

set_option maxRecDepth 100000 in
set_option maxHeartbeats 400000 in
theorem clone_calls {w : World} {g cap : Nat} {xs : List Int} (h : RowIs w g xs) (hl : xs.length ≤ 1000000000) :
    Calls Tryz.prog 220 #[.slice (some ⟨g, 0, none⟩) xs.length cap] w fun e w' => ∃ v, e = .returned v ∧ w'.ownsRow w.heap.size 3 1 v xs.length (ints xs) ∧ Keeps [] w w' ∧ v ≠ .slice none 0 0 := by
  obtain ⟨i0, hi, hz0, hz1, hz2⟩ := info_parts info3
  have heq := fun (w : World) (n c : Nat) => Lib.run_eql_slice_nil (P := Tryz.prog) w 40 3 (some ⟨g, 0, none⟩) n c 0 0 Tryz.underlying40
  have hk0 := Keeps.alloc [] w (.cells #[] 3)
  have hown : (w.alloc (.cells #[] 3)).ownsRow w.heap.size 3 1 (.slice (some ⟨w.heap.size, 0, none⟩) 0 0) 0 [] :=
    ⟨rfl, .inr ⟨w.heap.size, 0, #[], rfl, Nat.le_refl _, (MapKept.heap_alloc w _).1, Nat.le_refl _, Nat.zero_le _, rfl, rfl⟩⟩
  have hcell : ∀ (j : Nat) (u : Value), (ints xs)[j]? = some u → (w.alloc (.cells #[] 3)).cell? ((⟨g, 0, none⟩ : Addr).add j) = some u := by
    intro j u hu
    obtain ⟨x, hx, rfl⟩ := ints_get xs j u hu
    rw [Addr.add_lit, Nat.zero_add]
    exact (h.of_heap (hk0.block g h.lt (by simp))).cell hx
  go_enter Tryz.func220, Tryz.ntmps220
  go_wp2_with (at_builtin; refine wpList_append_own _ rfl _ _ 40 rfl w.heap.size 3 i0 (.int .i64 0) 1 8 Tryz.underlying40 hi hz0 hz1 hz2 rfl (by decide) _ 0 [] rfl hown ⟨g, 0, none⟩ xs.length cap (ints xs) rfl (by simp [ints]) hcell (ints_one xs) (by unfold maxLen; omega) (by omega) (by simp) ?_)
  intro v w1 h1 h2 h3
  have H1 := hide h1
  have H3 := hide h3
  clear h1 h3
  go_wp2
  go_ret
  refine ⟨v, rfl, by simpa using H1.out, hk0.trans_new (grownBy_keeps' h2 [w.heap.size] (fun r e => ?_)) (fun i hi => ?_), fun e => ?_⟩
  · simp only [Value.ownBlock, Option.some.injEq] at e; exact .inl (by simp [e])
  · simp only [List.mem_singleton] at hi; exact .inr (by omega)
  · exact H3.out e

end Go.Proofs.YtgjomknpjigkhaaGreatDoor
