/- Lists that came out, written over. -/
import Derived.Test.YtgjomknpjigkhaaGreatDoorC3
import Derived.ArgAppend
namespace Go.Proofs.YtgjomknpjigkhaaGreatDoor
open Go.RowKit Go.Shelf

/-- The first n cells of a block bear a mark. -/
def Marked (w : World) (g n : Nat) (X : Int) : Prop := ∃ cs, w.heap[g]? = some (.cells cs 3 (0, 0)) ∧ ∀ j, j < n → cs[j]? = some (.int .i64 X)
theorem Marked.lt {w : World} {g n : Nat} {X : Int} (h : Marked w g n X) : g < w.heap.size := by
  obtain ⟨cs, h1, _⟩ := h
  exact (Array.getElem?_eq_some_iff.1 h1).1
theorem Marked.keeps {w w' : World} {g n : Nat} {X : Int} {T : List Nat} (h : Marked w g n X) (k : Keeps T w w') (hg : g ∉ T) : Marked w' g n X := by
  have hl := h.lt
  obtain ⟨cs, h1, h2⟩ := h
  exact ⟨cs, (k.block g hl hg).trans h1, h2⟩
theorem Marked.less {w : World} {g n m : Nat} {X : Int} (h : Marked w g n X) (hm : m ≤ n) : Marked w g m X := by
  obtain ⟨cs, h1, h2⟩ := h
  exact ⟨cs, h1, fun j hj => h2 j (by omega)⟩
theorem Marked.cell {w : World} {g n : Nat} {X : Int} (h : Marked w g n X) {j : Nat} (hj : j < n) : w.cell? ⟨g, j, none⟩ = some (.int .i64 X) := by
  obtain ⟨cs, h1, h2⟩ := h
  rw [CellsAt.cell ⟨_, h1⟩, h2 j hj]

/-- A row of n marks, of a block whose first K cells bear them. -/
structure LR (w : World) (g n c K : Nat) (X : Int) : Prop where
  blk : ∃ cur, w.heap[g]? = some (.cells cur 3 (0, 0)) ∧ cur.size = c ∧ ∀ j, j < K → cur[j]? = some (.int .i64 X)
  nK : n ≤ K
  Kc : K ≤ c
  max : c ≤ maxLen

theorem LR.marked {w : World} {g n c K : Nat} {X : Int} (h : LR w g n c K X) : Marked w g K X := by
  obtain ⟨cur, h1, _, h3⟩ := h.blk
  exact ⟨cur, h1, h3⟩
theorem LR.keeps {w w' : World} {g n c K : Nat} {X : Int} {T : List Nat} (h : LR w g n c K X) (k : Keeps T w w') (hg : g ∉ T) : LR w' g n c K X := by
  have hl := h.marked.lt
  obtain ⟨cur, h1, h2⟩ := h.blk
  exact ⟨⟨cur, (k.block g hl hg).trans h1, h2⟩, h.nK, h.Kc, h.max⟩
theorem LR.own {w : World} {g n c K : Nat} {X : Int} (h : LR w g n c K X) : w.ownsRow g 3 1 (.slice (some ⟨g, 0, none⟩) n c) n (List.replicate n (.int .i64 X)) := by
  obtain ⟨cur, h1, h2, h3⟩ := h.blk
  have a := h.nK
  have b := h.Kc
  refine ⟨by simp, .inr ⟨g, c, cur, rfl, Nat.le_refl _, h1, by omega, h.max, by omega, ?_⟩⟩
  apply List.ext_getElem?
  intro j
  rw [List.getElem?_take, List.getElem?_replicate, Nat.mul_one]
  split
  · rename_i hj
    rw [Array.getElem?_toList, h3 j (by omega)]
  · rfl

theorem own_marked {w : World} {base g n c : Nat} {X : Int} (h : w.ownsRow base 3 1 (.slice (some ⟨g, 0, none⟩) n c) n (List.replicate n (.int .i64 X))) : Marked w g n X := by
  obtain ⟨cs, tg⟩ := own_tag h g rfl
  refine ⟨cs, tg, fun j hj => ?_⟩
  have := own_cellAt h (i := j) (x := .int .i64 X) (by rw [List.getElem?_replicate, if_pos hj])
  rw [CellsAt.cell ⟨_, tg⟩] at this
  exact this

/-- What an append of marks leaves. -/
structure MarkPost (w w' : World) (g n c K m g' c' K' : Nat) (X : Int) : Prop where
  lr : LR w' g n c K' X
  K : K ≤ K'
  Km : K' ≤ n + m
  cap : n + m ≤ c'
  max : c' ≤ maxLen
  new : (g' = g ∧ n + m ≤ K') ∨ (w.heap.size ≤ g' ∧ Marked w' g' (n + m) X)
  k : Keeps [g] w w'

theorem wpList_append_marks {w : World} {ops : Array Oper} {rest : List Oper} {o : Oper} {a : Act} {Q : Exit → Act → World → Prop} (hgd : o.guard = none) (s x : Operand) (ho : o.op = .call { callee := .builtin .append, args := #[s, x], argTypes := #[40, 40] })
    (g n c K m : Nat) (X : Int) (hs : a.eval s = .slice (some ⟨g, 0, none⟩) n c) (h : LR w g n c K X) (hK : K ≤ n + m) (hn : n ≤ 1000) (hm : m ≤ 1000) (ad : Addr) (cc : Nat) (hx : a.eval x = .slice (some ad) m cc) (hnews : ∀ j u, (List.replicate m (Value.int .i64 X))[j]? = some u → w.cell? (ad.add j) = some u)
    (hk : ∀ g' c' K' w', MarkPost w w' g n c K m g' c' K' X → wpList Tryz.prog ops Q rest (a.put o.dst (.slice (some ⟨g', 0, none⟩) (n + m) c')) w') : wpList Tryz.prog ops Q (o :: rest) a w := by
  obtain ⟨i0, hi0, hz0, hz1, hz2⟩ := info_parts info3
  have hone : ∀ u ∈ List.replicate m (Value.int .i64 X), u.oneCell' = true := fun u hu => by rw [(List.mem_replicate.1 hu).2]; rfl
  by_cases hf : n + m ≤ c
  · refine wpList_append_fits w hgd s x 40 ho g 3 i0 1 Tryz.underlying40 hi0 hz1 g n c _ hs h.own ad m cc _ hx (by simp) hnews hone hf fun w' o1 gr => ?_
    have kk := grownBy_keeps' gr [g] (fun r e => .inl (by simp only [Option.some.injEq] at e; simp [e]))
    refine hk g c (n + m) w' ⟨⟨?_, by omega, hf, h.max⟩, hK, Nat.le_refl _, hf, h.max, .inl ⟨rfl, Nat.le_refl _⟩, kk⟩
    rw [List.replicate_append_replicate] at o1
    obtain ⟨_, ⟨h1, _⟩ | ⟨g1, cap1, cur, h1, _, h3, _, _, h6, h7⟩⟩ := id o1
    · cases h1
    · cases h1
      obtain ⟨cs, hb, hc⟩ := own_marked o1
      rw [h3] at hb
      cases hb
      exact ⟨cur, h3, by omega, hc⟩
  · refine wpList_append_grows w hgd s x 40 ho 3 i0 (.int .i64 0) 1 8 Tryz.underlying40 hi0 hz0 hz1 hz2 rfl (by decide) (some ⟨g, 0, none⟩) n c (List.replicate n (.int .i64 X)) hs (fun e => by cases e) (by simp) (fun b hb j u hu => by
      cases hb
      exact World.ownsRow.cells h.own (g := g) rfl j u hu) ad m cc _ hx (by simp) hnews hone (by omega) (by unfold maxLen; omega) (by omega) fun v' w' o1 gr => ?_
    have kk := grownBy_keeps' gr [] (fun r e => by cases e)
    have hpos : 0 < n + m := by have := h.Kc; have := h.nK; omega
    obtain ⟨g', c', rfl⟩ := own_form o1 hpos
    rw [List.replicate_append_replicate] at o1
    have hmx : c' ≤ maxLen := by
      obtain ⟨_, ⟨h1, _⟩ | ⟨g1, cap1, cur, h1, _, _, _, h5, _⟩⟩ := o1
      · cases h1
      · cases h1; exact h5
    exact hk g' c' K w' ⟨h.keeps kk (by simp), Nat.le_refl _, hK, own_cap o1, hmx, .inr ⟨(own_base o1 g' rfl).1, own_marked o1⟩, kk.mono (by simp)⟩

/-- A block of c ints whose first i bear a mark. -/
def FM (w : World) (g c i : Nat) (X : Int) : Prop := ∃ cur, w.heap[g]? = some (.cells cur 3 (0, 0)) ∧ cur.size = c ∧ ∀ j, j < i → cur[j]? = some (.int .i64 X)
theorem FM.cell {w : World} {g c i : Nat} {X : Int} (h : FM w g c i X) {j : Nat} (hj : j < c) : ∃ v, w.cell? ⟨g, j, none⟩ = some v := by
  obtain ⟨cur, h1, h2, _⟩ := h
  refine ⟨cur[j]'(by omega), ?_⟩
  rw [CellsAt.cell ⟨_, h1⟩]
  exact Array.getElem?_eq_getElem _
theorem FM.frozen {w : World} {g c i : Nat} {X : Int} (h : FM w g c i X) (j : Nat) : w.frozen? ⟨g, j, none⟩ = false := by
  obtain ⟨cur, h1, _⟩ := h
  exact CellsAt.frozen ⟨_, h1⟩ j
theorem FM.next {w : World} {g c i : Nat} {X : Int} (h : FM w g c i X) (hi : i < c) : FM (w.setCell ⟨g, i, none⟩ (.int .i64 X)) g c (i + 1) X := by
  obtain ⟨cur, h1, h2, h3⟩ := h
  refine ⟨cur.setIfInBounds i (.int .i64 X), by simp [World.setCell, Array.getElem?_modify, h1], by simp [h2], fun j hj => ?_⟩
  rw [Array.getElem?_setIfInBounds]
  by_cases e : i = j
  · subst e; simp [h2, hi]
  · rw [if_neg e]
    exact h3 j (by omega)

def mval (e : Nat × Nat × Nat) : Value := .slice (some ⟨e.1, 0, none⟩) e.2.1 e.2.2

/-- A world's own: its struct, the lists that came out. -/
structure MW (B : Nat) (w : World) (wb : Nat) (vk vi : Value) (es : List (Nat × Nat × Nat)) : Prop where
  head : w.heap[wb]? = some (.cells #[vk, .slice none 0 0, vi, .slice none 0 0, .slice none 0 0] 78 (0, 0))
  wlt : wb < B
  is : w.ownsRow B 40 1 vi es.length (es.map mval)
  marks : ∀ k g n c, es[k]? = some (g, n, c) → n ≤ c ∧ n ≤ 20 ∧ B ≤ g ∧ Marked w g n (mk k)

theorem MW.cells {B : Nat} {w : World} {wb : Nat} {vk vi : Value} {es : List (Nat × Nat × Nat)} (h : MW B w wb vk vi es) : CellsAt w wb #[vk, .slice none 0 0, vi, .slice none 0 0, .slice none 0 0] := ⟨_, h.head⟩

theorem MW.keeps {B : Nat} {w w' : World} {wb : Nat} {vk vi : Value} {es : List (Nat × Nat × Nat)} {T : List Nat} (h : MW B w wb vk vi es) (k : Keeps T w w') (h1 : wb ∉ T) (h2 : ∀ i, vi.ownBlock = some i → i ∉ T) (h3 : ∀ e ∈ es, e.1 ∉ T) : MW B w' wb vk vi es :=
  ⟨(k.block wb h.cells.lt h1).trans h.head, h.wlt, ownsRow_kept h.is k h2, fun i g n c he => by
    obtain ⟨a, b, c', d⟩ := h.marks i g n c he
    exact ⟨a, b, c', d.keeps k (h3 _ (List.mem_of_getElem? he))⟩⟩

theorem info40 : (Tryz.prog.info? 40).map (fun i => (i.zero, i.size, i.bytes)) = some (some (.slice none 0 0), 1, 24) := by kernel_rfl

theorem rep_cells {W : World} {X : Int} (m : Nat) : ∀ j u, (List.replicate m (Value.int .i64 X))[j]? = some u → (W.alloc (.cells (List.replicate m (Value.int .i64 X)).toArray 3)).cell? ((⟨W.heap.size, 0, none⟩ : Addr).add j) = some u := by
  intro j u hu
  rw [Addr.add_lit, Nat.zero_add, (CellsAt.new W _ 3).cell, List.getElem?_toArray]
  exact hu

theorem four_cells {W : World} {a b d e : Value} : ∀ j u, [a, b, d, e][j]? = some u → (W.alloc (.cells #[a, b, d, e] 40)).cell? ((⟨W.heap.size, 0, none⟩ : Addr).add j) = some u := by
  intro j u hu
  rw [Addr.add_lit, Nat.zero_add, (CellsAt.new W _ 40).cell]
  match j with
  | 0 => simpa using hu
  | 1 => simpa using hu
  | 2 => simpa using hu
  | 3 => simpa using hu
  | j + 4 => simp at hu

theorem mk_four (L j : Nat) (h4 : L % 4 = 0) (hj : j < 4) : mk (L + j) = mk L := by unfold mk; congr 2; omega

set_option maxRecDepth 100000 in
set_option maxHeartbeats 2000000 in
theorem numbered_calls {B : Nat} {w : World} {wb : Nat} {vk vi : Value} {es : List (Nat × Nat × Nat)} (h : MW B w wb vk vi es) (h4 : es.length % 4 = 0) (hlen : es.length ≤ 50000000) (g n c : Nat) (xs : List Int) (n1 : 1 ≤ n) (n8 : n ≤ 8) (hrow : w.ownsRow B 3 1 (.slice (some ⟨g, 0, none⟩) n c) n (ints xs)) (hgn : ∀ e ∈ es, e.1 ≠ g) :
    Calls Tryz.prog 119 #[.pointer (some ⟨wb, 0, none⟩), .slice (some ⟨g, 0, none⟩) n c] w fun e w' => e = .returned (.tuple #[]) ∧ ∃ vi' es4, MW B w' wb vk vi' (es ++ es4) ∧ es4.length = 4 ∧ (∀ e ∈ es4, e.1 = g ∨ w.heap.size ≤ e.1) ∧ Stays w vi vi' ∧ Keeps (wb :: g :: vi.ownBlock.toList) w w' := by
  obtain ⟨i7, hi7, hy0, hy1, hy2⟩ := info_parts info40
  have hgB := (own_base hrow g rfl).1
  have hwl := h.wlt
  have hcap := own_cap hrow
  have hgl := own_lt hrow g rfl
  have hmx : c ≤ maxLen := by
    obtain ⟨_, ⟨h1, _⟩ | ⟨g1, cap1, cur, h1, _, _, _, h5, _⟩⟩ := hrow
    · cases h1
    · cases h1; exact h5
  have hfm : ∀ X, FM w g c 0 X := fun X => by
    obtain ⟨_, ⟨h1, _⟩ | ⟨g1, cap1, cur, h1, _, h3, _, _, h6, _⟩⟩ := hrow
    · cases h1
    · cases h1; exact ⟨cur, h3, by omega, fun j hj => by omega⟩
  obtain ⟨tagg, htg⟩ := own_tag hrow g rfl
  obtain ⟨av, cv, hvi⟩ := own_len h.is
  have hvg : vi.ownBlock ≠ some g := fun e => by
    obtain ⟨cs, t⟩ := own_tag h.is g e
    rw [htg] at t
    cases t
  have c2 := h.cells.cell 2
  simp [hvi] at c2
  have hmark := hide (fun w => mark_calls (w := w) es.length (by omega))
  obtain ⟨X, hX⟩ : ∃ X, mk es.length = X := ⟨_, rfl⟩
  rw [hX] at hmark
  have HX := hide hX
  clear hX
  have hwg : wb ≠ g := by omega
  go_enter Tryz.func119, Tryz.ntmps119
  go_wp2_with fail
  refine (hmark.out _).mono ?_
  rintro e w1 ⟨rfl, rfl⟩
  go_wp2_with fail
  go_loopw [5] (fun y wr => ∃ i : Nat, y = .int .i64 i ∧ i ≤ n ∧ FM wr g c i X ∧ Keeps [g] w1 wr) (fun y _ => ((n : Int) - intOf y).toNat)
  case atStart => exact ⟨0, rfl, by omega, hfm X, Keeps.refl _ _⟩
  case round =>
    obtain ⟨i, rfl, hi, fr, kr⟩ := hrel
    by_cases hin : i < n
    · have hiI : (i : Int) < n := by omega
      obtain ⟨v0, hcl⟩ := fr.cell (j := i) (by omega)
      have hfz := fr.frozen i
      go_wp2_with fail
      go_roundw
      · exact ⟨i + 1, by simp, by omega, fr.next (by omega), kr.trans (Keeps.setCell wr ⟨g, i, none⟩ (.int .i64 X))⟩
      · simp only [intOf]; omega
    · have hiI : ¬ (i : Int) < n := by omega
      have ei : i = n := by omega
      subst ei
      have hLR : LR wr g i c i X := ⟨fr, Nat.le_refl _, hcap, hmx⟩
      have kB1 := Keeps.alloc [] wr (.cells #[.int .i64 X] 3)
      have hLR1 := hLR.keeps kB1 (by simp)
      have hn1 := rep_cells (W := wr) (X := X) 1
      go_wp2_with (at_builtin; refine wpList_append_marks rfl _ _ rfl g i c i 1 X rfl hLR1 (by omega) (by omega) (by omega) ⟨wr.heap.size, 0, none⟩ 1 rfl hn1 ?_)
      intro gA cA KA wA pA
      have kB2 := Keeps.alloc [] wA (.cells #[.int .i64 X, .int .i64 X] 3)
      have hLR2 := pA.lr.keeps kB2 (by simp)
      have hn2 := rep_cells (W := wA) (X := X) 2
      have hKA := pA.Km
      clear hn1
      go_wp2_with (at_builtin; refine wpList_append_marks rfl _ _ rfl g i c KA 2 X rfl hLR2 (by omega) (by omega) (by omega) ⟨wA.heap.size, 0, none⟩ 2 rfl hn2 ?_)
      intro gB cB KB' wB pB
      have kB3 := Keeps.alloc [] wB (.cells #[.int .i64 X, .int .i64 X, .int .i64 X] 3)
      have hLR3 := pB.lr.keeps kB3 (by simp)
      have hn3 := rep_cells (W := wB) (X := X) 3
      have hKB := pB.Km
      clear hn2
      go_wp2_with (at_builtin; refine wpList_append_marks rfl _ _ rfl g i c KB' 3 X rfl hLR3 (by omega) (by omega) (by omega) ⟨wB.heap.size, 0, none⟩ 3 rfl hn3 ?_)
      intro gC cC KC wC pC
      have hKC := pC.Km
      clear hn3
      -- frames
      have k1 : Keeps [g] w1 wA := kr.trans ((kB1.mono (by simp)).trans pA.k)
      have k2 : Keeps [g] w1 wB := k1.trans ((kB2.mono (by simp)).trans pB.k)
      have k3 : Keeps [g] w1 wC := k2.trans ((kB3.mono (by simp)).trans pC.k)
      have sA := k1.size
      have sB := k2.size
      have s1 := kr.size
      have sB1 := kB1.size
      have sB2 := kB2.size
      have sB3 := kB3.size
      have KAB := pB.K
      have KBC := pC.K
      have mA : Marked wC gA (i + 1) X ∧ (gA = g ∨ w1.heap.size ≤ gA) := by
        rcases pA.new with ⟨e, hk⟩ | ⟨hl, hm⟩
        · exact ⟨e ▸ pC.lr.marked.less (by omega), .inl e⟩
        · have hne : gA ≠ g := by omega
          exact ⟨((hm.keeps kB2 (by simp)).keeps pB.k (by simpa using hne)).keeps kB3 (by simp) |>.keeps pC.k (by simpa using hne), .inr (by omega)⟩
      have mB : Marked wC gB (i + 2) X ∧ (gB = g ∨ w1.heap.size ≤ gB) := by
        rcases pB.new with ⟨e, hk⟩ | ⟨hl, hm⟩
        · exact ⟨e ▸ pC.lr.marked.less (by omega), .inl e⟩
        · have hne : gB ≠ g := by omega
          exact ⟨(hm.keeps kB3 (by simp)).keeps pC.k (by simpa using hne), .inr (by omega)⟩
      have mC : Marked wC gC (i + 3) X ∧ (gC = g ∨ w1.heap.size ≤ gC) := by
        rcases pC.new with ⟨e, hk⟩ | ⟨hl, hm⟩
        · exact ⟨e ▸ pC.lr.marked.less (by omega), .inl e⟩
        · exact ⟨hm, .inr (by omega)⟩
      have mL : Marked wC g i X := pC.lr.marked.less (by have := pC.lr.nK; omega)
      have hcA := pA.cap
      have hcB := pB.cap
      have hcC := pC.cap
      have hC := h.keeps k3 (by simpa using hwg) (fun q hq x => hvg (by simp only [List.mem_singleton] at x; rw [← x]; exact hq)) (fun e he x => hgn e he (by simpa using x))
      have d2 := hC.cells.cell 2
      simp [hvi] at d2
      have hbC := hC.cells.lt
      have kD := Keeps.alloc [] wC (.cells #[.slice (some ⟨g, 0, none⟩) i c, .slice (some ⟨gA, 0, none⟩) (i + 1) cA, .slice (some ⟨gB, 0, none⟩) (i + 2) cB, .slice (some ⟨gC, 0, none⟩) (i + 3) cC] 40)
      have hD := hC.keeps kD (by simp) (by simp) (by simp)
      have ownD := hD.is
      have hnew := four_cells (W := wC) (a := .slice (some ⟨g, 0, none⟩) i c) (b := .slice (some ⟨gA, 0, none⟩) (i + 1) cA) (d := .slice (some ⟨gB, 0, none⟩) (i + 2) cB) (e := .slice (some ⟨gC, 0, none⟩) (i + 3) cC)
      rw [hvi] at ownD
      have hBs : B ≤ (wC.alloc (.cells #[.slice (some ⟨g, 0, none⟩) i c, .slice (some ⟨gA, 0, none⟩) (i + 1) cA, .slice (some ⟨gB, 0, none⟩) (i + 2) cB, .slice (some ⟨gC, 0, none⟩) (i + 3) cC] 40)).heap.size := by rw [size_alloc']; have := k3.size; omega
      have HpA := hide pA
      have HpB := hide pB
      have HpC := hide pC
      have Hm := hide (And.intro mL (And.intro mA (And.intro mB mC)))
      clear pA pB pC mL mA mB mC
      go_wp2_with (at_builtin; refine wpList_append_own_at _ rfl _ _ 37 rfl B 40 i7 (.slice none 0 0) 1 24 Tryz.underlying37 hi7 hy0 hy1 hy2 rfl (by decide) _ es.length (es.map mval) rfl ownD ⟨wC.heap.size, 0, none⟩ 4 4 [.slice (some ⟨g, 0, none⟩) i c, .slice (some ⟨gA, 0, none⟩) (i + 1) cA, .slice (some ⟨gB, 0, none⟩) (i + 2) cB, .slice (some ⟨gC, 0, none⟩) (i + 3) cC] rfl (by simp) hnew (by simp [Value.oneCell']) (by unfold maxLen; omega) (by omega) hBs ?_)
      intro v' W2 own2 grow2 nil2 at2
      obtain ⟨g', c', rfl⟩ := own_form own2 (by omega)
      have kE := grownBy_keeps' grow2 (Value.slice av es.length cv).ownBlock.toList (fun r e => .inl (by simp [e]))
      have hnw : ∀ q, (Value.slice av es.length cv).ownBlock = some q → q ≠ wb := fun q hq => by have := (own_base ownD q hq).1; omega
      have sE := hD.cells.keeps kE (fun hm => hnw wb (by simpa using hm) rfl)
      have e2 := sE.cell 2
      have fz := sE.frozen 2
      simp [hvi] at e2
      have kF := Keeps.setCell W2 ⟨wb, 2, none⟩ (.slice (some ⟨g', 0, none⟩) (es.length + 4) c')
      have hz2 := kE.size
      clear grow2 nil2
      go_wp2_with fail
      go_end0
      have hg'B := (own_base own2 g' rfl).1
      have hkeep : ∀ q m Y, Marked wC q m Y → B ≤ q → Marked (W2.setCell ⟨wb, 2, none⟩ (.slice (some ⟨g', 0, none⟩) (es.length + 4) c')) q m Y := by
        intro q m Y hq hB
        have hqD := hq.keeps kD (by simp)
        refine (hqD.keeps kE (fun hm => ?_)).keeps kF (by simp; omega)
        obtain ⟨cs, t⟩ := own_tag ownD q (by simpa using hm)
        obtain ⟨cs', t', _⟩ := hqD
        rw [t] at t'
        cases t'
      obtain ⟨mL, mA, mB, mC⟩ := Hm.out
      have hB1 : B ≤ w1.heap.size := by omega
      refine ⟨rfl, .slice (some ⟨g', 0, none⟩) (es.length + 4) c', [(g, i, c), (gA, i + 1, cA), (gB, i + 2, cB), (gC, i + 3, cC)], ⟨?_, hwl, ?_, ?_⟩, rfl, ?_, ?_, ?_⟩
      · have h1 := (kE.block wb hD.cells.lt (fun hm => hnw wb (by simpa using hm) rfl)).trans hD.head
        simp [World.setCell, Array.getElem?_modify, h1]
      · have := ownsRow_kept own2 kF (fun q hq => by have := (own_base own2 q hq).1; simp; omega)
        simpa [mval] using this
      · intro k q m d hq
        by_cases hk : k < es.length
        · rw [List.getElem?_append_left hk] at hq
          obtain ⟨a1, a2, a3, a4⟩ := hC.marks k q m d hq
          exact ⟨a1, a2, a3, hkeep q m _ a4 a3⟩
        · rw [List.getElem?_append_right (by omega)] at hq
          obtain ⟨j, hj⟩ : ∃ j, k = es.length + j := ⟨k - es.length, by omega⟩
          subst hj
          rw [Nat.add_sub_cancel_left] at hq
          match j with
          | 0 =>
            simp at hq
            obtain ⟨rfl, rfl, rfl⟩ := hq
            refine ⟨hcap, by omega, hgB, ?_⟩
            rw [mk_four _ _ h4 (by omega), HX.out]
            exact hkeep _ _ _ mL hgB
          | 1 =>
            simp at hq
            obtain ⟨rfl, rfl, rfl⟩ := hq
            have hb : B ≤ gA := by rcases mA.2 with e | e <;> omega
            refine ⟨hcA, by omega, hb, ?_⟩
            rw [mk_four _ _ h4 (by omega), HX.out]
            exact hkeep _ _ _ mA.1 hb
          | 2 =>
            simp at hq
            obtain ⟨rfl, rfl, rfl⟩ := hq
            have hb : B ≤ gB := by rcases mB.2 with e | e <;> omega
            refine ⟨hcB, by omega, hb, ?_⟩
            rw [mk_four _ _ h4 (by omega), HX.out]
            exact hkeep _ _ _ mB.1 hb
          | 3 =>
            simp at hq
            obtain ⟨rfl, rfl, rfl⟩ := hq
            have hb : B ≤ gC := by rcases mC.2 with e | e <;> omega
            refine ⟨hcC, by omega, hb, ?_⟩
            rw [mk_four _ _ h4 (by omega), HX.out]
            exact hkeep _ _ _ mC.1 hb
          | j + 4 => simp at hq
      · intro a1 b1 c1 he
        simp only [List.mem_cons, List.not_mem_nil, or_false, Prod.mk.injEq] at he
        rcases he with ⟨rfl, _⟩ | ⟨rfl, _⟩ | ⟨rfl, _⟩ | ⟨rfl, _⟩
        · exact .inl rfl
        · exact mA.2
        · exact mB.2
        · exact mC.2
      · rcases at2 with e | e
        · exact .inl e
        · refine .inr ⟨_, e, ?_⟩
          have := k3.size
          have := kD.size
          omega
      · have q1 := k3.mono (T' := wb :: g :: (Value.slice av es.length cv).ownBlock.toList) (by simp)
        have q2 := kD.mono (T' := wb :: g :: (Value.slice av es.length cv).ownBlock.toList) (by simp)
        have q3 := kE.mono (T' := wb :: g :: (Value.slice av es.length cv).ownBlock.toList) (fun q hq => List.mem_cons_of_mem _ (List.mem_cons_of_mem _ hq))
        have q4 := kF.mono (T' := wb :: g :: (Value.slice av es.length cv).ownBlock.toList) (by simp)
        exact ((q1.trans q2).trans q3).trans q4

set_option maxRecDepth 100000 in
set_option maxHeartbeats 2000000 in
theorem looks_calls {B : Nat} {w : World} {wb : Nat} {vk vi : Value} {es : List (Nat × Nat × Nat)} (h : MW B w wb vk vi es) (hlen : es.length ≤ 50000000) (hvk : ∃ a m d, vk = .slice a m d) :
    Calls Tryz.prog 34 #[.pointer (some ⟨wb, 0, none⟩)] w fun e w' => e = .returned (.bool true) ∧ Keeps [] w w' := by
  obtain ⟨av, cv, hvi⟩ := own_len h.is
  obtain ⟨kv1, kv2, kv3, hvk⟩ := hvk
  have hcells : ∀ wr : World, Keeps [] w wr → MW B wr wb vk vi es := fun wr k => h.keeps k (by simp) (by simp) (by simp)
  have HC := hide hcells
  have hmark := hide (fun (w : World) (k : Nat) (hk : k < es.length) => mark_calls (w := w) k (by omega))
  have hb := h.cells.lt
  clear hcells
  go_enter Tryz.func34, Tryz.ntmps34
  go_wp2_with fail
  go_loopw [3] (fun y wr => ∃ k : Nat, y = .int .i64 k ∧ k ≤ es.length ∧ Keeps [] w wr) (fun y _ => ((es.length : Int) - intOf y).toNat)
  case atStart => exact ⟨0, rfl, by omega, Keeps.refl _ _⟩
  case round =>
    obtain ⟨k, rfl, hk, kr⟩ := hrel
    have hM := HC.out _ kr
    have c2 := hM.cells.cell 2
    simp [hvi] at c2
    by_cases hkl : k < es.length
    · have hkI : (k : Int) < es.length := by omega
      obtain ⟨⟨g, n, c⟩, he⟩ : ∃ e, es[k]? = some e := ⟨_, List.getElem?_eq_getElem hkl⟩
      obtain ⟨m1, m2, m3, m4⟩ := h.marks k g n c he
      have hw0 := hM.is
      rw [hvi] at hw0
      obtain ⟨gi, ci, e⟩ := own_form hw0 (by omega)
      cases e
      have hci := own_cap hw0
      have He := hide he
      have hnc : (n : Int) ≤ c := by omega
      clear he
      go_wp2_with fail
      go_loopw [4] (fun y wr' => ∃ i : Nat, y = .int .i64 i ∧ i ≤ n ∧ Keeps [] w wr') (fun y _ => ((n : Int) - intOf y).toNat)
      case atStart => exact ⟨0, rfl, by omega, kr⟩
      case round =>
        clear kr hM c2 hw0
        obtain ⟨i, rfl, hi, kr⟩ := hrel
        have hM := HC.out _ kr
        have c2 := hM.cells.cell 2
        simp [hvi] at c2
        have hw0 := hM.is
        rw [hvi] at hw0
        have ck := own_cellAt hw0 (i := k) (x := .slice (some ⟨g, 0, none⟩) n c) (by rw [List.getElem?_map, He.out]; rfl)
        by_cases hin : i < n
        · have hiI : (i : Int) < n := by omega
          have ci' := (m4.keeps kr (by simp)).cell hin
          have hmk := hide (fun w => hmark.out w k hkl)
          have hq : (mk k != mk k) = false := by simp
          generalize mk k = X at ci' hmk hq
          go_wp2_with fail
          go_quiet ((go_at_call 63; exact (hmk.out _).mono fun _ _ h => ⟨h.1, _, h.2⟩))
          go_wp2_with fail
          go_roundw
          · exact ⟨i + 1, by simp, by omega, kr.trans (Keeps.drewN [] _ _)⟩
          · simp only [intOf]; omega
        · have hiI : ¬ (i : Int) < n := by omega
          go_wp2_with fail
          go_roundw
          · exact ⟨k + 1, by simp, by omega, kr⟩
          · simp only [intOf]; omega
    · have hkI : ¬ (k : Int) < es.length := by omega
      have c3 := hM.cells.cell 3
      have c4 := hM.cells.cell 4
      simp at c3 c4
      go_wp2_with fail
      go_loopw [5] (fun y wr' => y = .int .i64 0 ∧ wr' = wr) (fun _ _ => 0)
      case atStart => exact ⟨rfl, rfl⟩
      case round =>
        obtain ⟨rfl, rfl⟩ := hrel
        go_wp2_with fail
        go_loopw [7] (fun y wr' => y = .int .i64 0 ∧ wr' = wr) (fun _ _ => 0)
        case atStart => exact ⟨rfl, rfl⟩
        case round =>
          obtain ⟨rfl, rfl⟩ := hrel
          go_wp2_with fail
          go_ret
          exact ⟨rfl, kr⟩

end Go.Proofs.YtgjomknpjigkhaaGreatDoor
