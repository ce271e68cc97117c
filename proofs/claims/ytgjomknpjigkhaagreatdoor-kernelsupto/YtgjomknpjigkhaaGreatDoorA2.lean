/- The document's kernel: handles. -/
import Derived.Test.YtgjomknpjigkhaaGreatDoorA1
import Derived.Test.YtgjomknpjigkhaaGreatDoorMKern
namespace Go.Proofs.YtgjomknpjigkhaaGreatDoor
open Go.RowKit Go.Shelf

theorem own_tag {w : World} {base : Nat} {e : TypeId} {size n : Nat} {v : Value} {xs : List Value} (h : w.ownsRow base e size v n xs) : ∀ i, v.ownBlock = some i → ∃ cs, w.heap[i]? = some (.cells cs e (0, 0)) := by
  intro i hi
  obtain ⟨_, ⟨rfl, _⟩ | ⟨g, cap, cur, rfl, hb, hg, _⟩⟩ := h
  · simp [Value.ownBlock] at hi
  · simp only [Value.ownBlock, Option.some.injEq] at hi
    subst hi
    exact ⟨_, hg⟩

theorem own_new (w : World) (xs : List Value) (t : TypeId) (base : Nat) (hb : base ≤ w.heap.size) (hl : xs.length ≤ 1000) : (w.alloc (.cells xs.toArray t)).ownsRow base t 1 (.slice (some ⟨w.heap.size, 0, none⟩) xs.length xs.length) xs.length xs := by
  refine ⟨by simp, .inr ⟨w.heap.size, xs.length, xs.toArray, rfl, hb, (MapKept.heap_alloc w _).1, Nat.le_refl _, by unfold maxLen; omega, by simp, by simp⟩⟩

theorem own_lt {w : World} {base : Nat} {e : TypeId} {size n : Nat} {v : Value} {xs : List Value} (h : w.ownsRow base e size v n xs) (i : Nat) (hi : v.ownBlock = some i) : i < w.heap.size := by
  obtain ⟨cs, tg⟩ := own_tag h i hi
  exact (Array.getElem?_eq_some_iff.1 tg).1

theorem own_cap {w : World} {base : Nat} {e : TypeId} {size g n c : Nat} {xs : List Value} (h : w.ownsRow base e size (.slice (some ⟨g, 0, none⟩) n c) n xs) : n ≤ c := by
  obtain ⟨_, ⟨h1, _⟩ | ⟨g', cap, cur, h1, _, _, h2, _⟩⟩ := h
  · cases h1
  · cases h1
    exact h2

theorem own_part {w : World} {base : Nat} {e : TypeId} {g n c : Nat} {xs : List Value} (h : w.ownsRow base e 1 (.slice (some ⟨g, 0, none⟩) n c) n xs) (lo : Nat) (ys : List Value) (hy : ∀ (j : Nat) (u : Value), ys[j]? = some u → xs[lo + j]? = some u) : ∀ (j : Nat) (u : Value), ys[j]? = some u → w.cell? ((⟨g, lo, none⟩ : Addr).add j) = some u := by
  intro j u hu
  have := World.ownsRow.cells h (g := g) rfl (lo + j) u (hy j u hu)
  rw [Addr.add_lit, Nat.zero_add] at this
  rw [Addr.add_lit]
  exact this

theorem own_form {w : World} {base : Nat} {e : TypeId} {size : Nat} {v : Value} {n : Nat} {xs : List Value} (h : w.ownsRow base e size v n xs) (hn : 0 < n) : ∃ g c, v = .slice (some ⟨g, 0, none⟩) n c := by
  rcases h.2 with ⟨_, e2⟩ | ⟨g, cap, cur, e, _⟩
  · omega
  · exact ⟨g, cap, e⟩

theorem own_len {w : World} {base : Nat} {e : TypeId} {size : Nat} {v : Value} {n : Nat} {xs : List Value} (h : w.ownsRow base e size v n xs) : ∃ a c, v = .slice a n c := by
  rcases h.2 with ⟨rfl, rfl⟩ | ⟨g, cap, cur, e, _⟩
  · exact ⟨_, _, rfl⟩
  · exact ⟨_, _, e⟩

theorem own_cellAt {w : World} {base : Nat} {e : TypeId} {size g n c : Nat} {xs : List Value} (h : w.ownsRow base e size (.slice (some ⟨g, 0, none⟩) n c) n xs) {i : Nat} {x : Value} (hx : xs[i]? = some x) : w.cell? ⟨g, i, none⟩ = some x := by
  have := World.ownsRow.cells h (g := g) rfl i x hx
  rw [Addr.add_lit, Nat.zero_add] at this
  exact this

/-- The document's kernel. -/
structure RS where
  n : Nat
  ord : List Int
  hs : List (Int × List Bool)
  last : Int

/-- Where it lies. -/
structure RB where
  r : Nat
  go : Nat
  co : Nat
  vh : Value

def hcells (hs : List (Int × List Bool)) : List Value := hs.flatMap fun p => [.int .i64 p.1, .string (bts p.2)]

theorem hcells_length (hs : List (Int × List Bool)) : (hcells hs).length = hs.length * 2 := by
  induction hs with
  | nil => rfl
  | cons p l ih => simp only [hcells, List.flatMap_cons, List.length_append] at ih ⊢; rw [ih]; simp; omega

theorem hcells_get {hs : List (Int × List Bool)} {i : Nat} {p : Int × List Bool} (h : hs[i]? = some p) : (hcells hs)[i * 2]? = some (.int .i64 p.1) ∧ (hcells hs)[i * 2 + 1]? = some (.string (bts p.2)) := by
  induction hs generalizing i with
  | nil => cases h
  | cons q l ih =>
    cases i with
    | zero => cases h; exact ⟨rfl, rfl⟩
    | succ i =>
      have := ih (i := i) h
      have e : (i + 1) * 2 = i * 2 + 2 := by omega
      rw [e]
      exact this

structure RefAt (w : World) (b : RB) (R : RS) : Prop where
  head : CellsAt w b.r #[.int .i64 R.n, .int .i64 ((2 ^ R.n : Nat) : Int), .slice (some ⟨b.go, 0, none⟩) R.n b.co, b.vh, .int .i64 R.last]
  row : ∃ cs, w.heap[b.go]? = some (.cells cs 3 (0, 0)) ∧ ∀ (i : Nat) (x : Int), R.ord[i]? = some x → cs[i]? = some (.int .i64 x)
  len : R.ord.length = R.n
  cap : R.n ≤ b.co
  n1 : 1 ≤ R.n
  n8 : R.n ≤ 8
  hs : w.ownsRow (b.r + 1) 262 2 b.vh R.hs.length (hcells R.hs)
  few : R.hs.length ≤ 100
  ne : b.go ≠ b.r

def RB.own (b : RB) : List Nat := b.r :: b.go :: b.vh.ownBlock.toList

theorem RefAt.rowIs {w : World} {b : RB} {R : RS} (h : RefAt w b R) : RowIs w b.go R.ord := by
  obtain ⟨cs, h1, h2⟩ := h.row
  exact ⟨cs, ⟨_, h1⟩, h2⟩

theorem RefAt.lt {w : World} {b : RB} {R : RS} (h : RefAt w b R) : ∀ i ∈ b.own, i < w.heap.size := by
  intro i hi
  simp only [RB.own, List.mem_cons, Option.mem_toList] at hi
  rcases hi with rfl | rfl | hi
  · exact h.head.lt
  · obtain ⟨cs, h1, _⟩ := h.row
    exact (Array.getElem?_eq_some_iff.1 h1).1
  · exact own_lt h.hs i hi

theorem RefAt.keeps {w w' : World} {b : RB} {R : RS} {T : List Nat} (h : RefAt w b R) (k : Keeps T w w') (hT : ∀ i ∈ b.own, i ∉ T) : RefAt w' b R := by
  obtain ⟨cs, h1, h2⟩ := h.row
  have hg : b.go < w.heap.size := h.lt _ (by simp [RB.own])
  exact ⟨h.head.keeps k (hT _ (by simp [RB.own])), ⟨cs, (k.block _ hg (hT _ (by simp [RB.own]))).trans h1, h2⟩, h.len, h.cap, h.n1, h.n8, ownsRow_kept h.hs k (fun i hi => hT i (by simp [RB.own, hi])), h.few, h.ne⟩

theorem RefAt.keeps0 {w w' : World} {b : RB} {R : RS} (h : RefAt w b R) (k : Keeps [] w w') : RefAt w' b R := h.keeps k (by simp)

/-- What a handle stands for. -/
def RS.look (R : RS) (h : Int) : Option (List Bool) := if h = 0 then some (tab R.n fun _ => false) else if h = 1 then some (tab R.n fun _ => true) else get R.hs h

theorem RefAt.entry {w : World} {b : RB} {R : RS} (h : RefAt w b R) {i : Nat} {p : Int × List Bool} (hp : R.hs[i]? = some p) : ∃ g c, b.vh = .slice (some ⟨g, 0, none⟩) R.hs.length c ∧ R.hs.length ≤ c ∧ w.cell? ⟨g, i * 2, none⟩ = some (.int .i64 p.1) ∧ w.cell? ⟨g, i * 2 + 1, none⟩ = some (.string (bts p.2)) := by
  have hl : i < R.hs.length := (List.getElem?_eq_some_iff.1 hp).1
  obtain ⟨g, c, e⟩ := own_form h.hs (by omega)
  have hh := h.hs
  rw [e] at hh
  exact ⟨g, c, e, own_cap hh, own_cellAt hh (hcells_get hp).1, own_cellAt hh (hcells_get hp).2⟩

set_option maxRecDepth 100000 in
set_option maxHeartbeats 1000000 in
theorem get_const {w : World} {b : RB} {R : RS} (h : RefAt w b R) (x : Bool) : Calls Tryz.prog 172 #[.pointer (some ⟨b.r, 0, none⟩), .int .i64 (ni x)] w fun e w' => e = .returned (.tuple #[.string (bts (tab R.n fun _ => x)), .bool true]) ∧ Keeps [] w w' := by
  have hc := hide (fun x => constant_calls x h.head (by rfl) rfl h.n8)
  have hb := h.head.lt
  cases x
  · show Calls Tryz.prog 172 #[.pointer (some ⟨b.r, 0, none⟩), .int .i64 0] w _
    go_enter Tryz.func172, Tryz.ntmps172
    go_wp2_with fail
    refine (hc.out false).mono ?_
    rintro e w' ⟨rfl, k⟩
    go_wp2_with fail
    go_ret2
    exact ⟨rfl, k⟩
  · show Calls Tryz.prog 172 #[.pointer (some ⟨b.r, 0, none⟩), .int .i64 1] w _
    go_enter Tryz.func172, Tryz.ntmps172
    go_wp2_with fail
    refine (hc.out true).mono ?_
    rintro e w' ⟨rfl, k⟩
    go_wp2_with fail
    go_ret2
    exact ⟨rfl, k⟩

set_option maxRecDepth 100000 in
set_option maxHeartbeats 1000000 in
theorem get_some {w : World} {b : RB} {R : RS} (h : RefAt w b R) (f : Int) (f0 : f ≠ 0) (f1 : f ≠ 1) (t : List Bool) (ht : get R.hs f = some t) : Calls Tryz.prog 172 #[.pointer (some ⟨b.r, 0, none⟩), .int .i64 f] w fun e w' => e = .returned (.tuple #[.string (bts t), .bool true]) ∧ w' = w := by
  have hb := h.head.lt
  have n0 : (f == 0) = false := by simpa using f0
  have n1 : (f == 1) = false := by simpa using f1
  have c3 := h.head.cell 3
  simp at c3
  have hmax := h.few
  obtain ⟨av, cv, hv⟩ := own_len h.hs
  rw [hv] at c3
  have Ht := hide ht
  clear ht
  go_enter Tryz.func172, Tryz.ntmps172
  go_wp2_with fail
  go_loopw [6] (fun y wr => ∃ i : Nat, y = .int .i64 i ∧ i ≤ R.hs.length ∧ get (R.hs.drop i) f = some t ∧ wr = w) (fun y _ => ((R.hs.length : Int) - intOf y).toNat)
  case atStart => exact ⟨0, rfl, by omega, Ht.out, rfl⟩
  case round =>
    obtain ⟨i, rfl, hi, hg, rfl⟩ := hrel
    have hil : i < R.hs.length := by
      by_cases hil : i < R.hs.length
      · exact hil
      · rw [List.drop_eq_nil_of_le (by omega)] at hg
        cases hg
    have hiI : (i : Int) < R.hs.length := by omega
    obtain ⟨p, hp⟩ : ∃ p, R.hs[i]? = some p := ⟨_, List.getElem?_eq_getElem hil⟩
    obtain ⟨g, c, e1, e2, e3, e4⟩ := h.entry hp
    rw [hv] at e1
    cases e1
    have hd : R.hs.drop i = p :: R.hs.drop (i + 1) := by
      rw [List.drop_eq_getElem_cons hil]
      congr 1
      have := List.getElem?_eq_getElem hil
      rw [hp] at this
      exact (Option.some.inj this).symm
    rw [hd, get_cons] at hg
    by_cases hpf : p.1 = f
    · rw [if_pos hpf] at hg
      have ep : p.2 = t := Option.some.inj hg
      have hq : (p.1 == f) = true := by simp [hpf]
      have Hep := hide ep
      clear hg hd ep hpf
      go_wp2_with fail
      go_ret2
      exact ⟨by rw [← Hep.out]; rfl, rfl⟩
    · rw [if_neg hpf] at hg
      have hq : (p.1 == f) = false := by simp [hpf]
      have Hg := hide hg
      clear hg hd hpf
      go_wp2_with fail
      go_roundw
      · exact ⟨i + 1, by simp, by omega, Hg.out, by trivial⟩
      · simp only [intOf]; omega

set_option maxRecDepth 100000 in
set_option maxHeartbeats 1000000 in
theorem get_none {w : World} {b : RB} {R : RS} (h : RefAt w b R) (f : Int) (f0 : f ≠ 0) (f1 : f ≠ 1) (ht : get R.hs f = none) : Calls Tryz.prog 172 #[.pointer (some ⟨b.r, 0, none⟩), .int .i64 f] w fun e w' => e = .returned (.tuple #[.string ⟨#[]⟩, .bool false]) ∧ w' = w := by
  have hb := h.head.lt
  have n0 : (f == 0) = false := by simpa using f0
  have n1 : (f == 1) = false := by simpa using f1
  have c3 := h.head.cell 3
  simp at c3
  have hmax := h.few
  obtain ⟨av, cv, hv⟩ := own_len h.hs
  rw [hv] at c3
  have Ht := hide ht
  clear ht
  go_enter Tryz.func172, Tryz.ntmps172
  go_wp2_with fail
  go_loopw [6] (fun y wr => ∃ i : Nat, y = .int .i64 i ∧ i ≤ R.hs.length ∧ get (R.hs.drop i) f = none ∧ wr = w) (fun y _ => ((R.hs.length : Int) - intOf y).toNat)
  case atStart => exact ⟨0, rfl, by omega, Ht.out, rfl⟩
  case round =>
    obtain ⟨i, rfl, hi, hg, rfl⟩ := hrel
    by_cases hil : i < R.hs.length
    case neg =>
      have hiI : ¬ (i : Int) < R.hs.length := by omega
      go_wp2_with fail
      go_ret2
      exact ⟨rfl, rfl⟩
    have hiI : (i : Int) < R.hs.length := by omega
    obtain ⟨p, hp⟩ : ∃ p, R.hs[i]? = some p := ⟨_, List.getElem?_eq_getElem hil⟩
    obtain ⟨g, c, e1, e2, e3, e4⟩ := h.entry hp
    rw [hv] at e1
    cases e1
    have hd : R.hs.drop i = p :: R.hs.drop (i + 1) := by
      rw [List.drop_eq_getElem_cons hil]
      congr 1
      have := List.getElem?_eq_getElem hil
      rw [hp] at this
      exact (Option.some.inj this).symm
    rw [hd, get_cons] at hg
    by_cases hpf : p.1 = f
    · rw [if_pos hpf] at hg
      cases hg
    · rw [if_neg hpf] at hg
      have hq : (p.1 == f) = false := by simp [hpf]
      have Hg := hide hg
      clear hg hd hpf
      go_wp2_with fail
      go_roundw
      · exact ⟨i + 1, by simp, by omega, Hg.out, by trivial⟩
      · simp only [intOf]; omega

theorem rget_some {w : World} {b : RB} {R : RS} (h : RefAt w b R) (f : Int) (t : List Bool) (ht : R.look f = some t) : Calls Tryz.prog 172 #[.pointer (some ⟨b.r, 0, none⟩), .int .i64 f] w fun e w' => e = .returned (.tuple #[.string (bts t), .bool true]) ∧ Keeps [] w w' := by
  unfold RS.look at ht
  by_cases f0 : f = 0
  · subst f0
    rw [if_pos rfl] at ht
    cases ht
    exact get_const h false
  · rw [if_neg f0] at ht
    by_cases f1 : f = 1
    · subst f1
      rw [if_pos rfl] at ht
      cases ht
      exact get_const h true
    · rw [if_neg f1] at ht
      exact (get_some h f f0 f1 t ht).mono fun e w' ⟨a, b⟩ => ⟨a, b ▸ Keeps.refl _ _⟩

theorem rget_none {w : World} {b : RB} {R : RS} (h : RefAt w b R) (f : Int) (ht : R.look f = none) : Calls Tryz.prog 172 #[.pointer (some ⟨b.r, 0, none⟩), .int .i64 f] w fun e w' => e = .returned (.tuple #[.string ⟨#[]⟩, .bool false]) ∧ w' = w := by
  unfold RS.look at ht
  by_cases f0 : f = 0
  · subst f0
    rw [if_pos rfl] at ht
    cases ht
  · rw [if_neg f0] at ht
    by_cases f1 : f = 1
    · subst f1
      rw [if_pos rfl] at ht
      cases ht
    · rw [if_neg f1] at ht
      exact get_none h f f0 f1 ht

end Go.Proofs.YtgjomknpjigkhaaGreatDoor
