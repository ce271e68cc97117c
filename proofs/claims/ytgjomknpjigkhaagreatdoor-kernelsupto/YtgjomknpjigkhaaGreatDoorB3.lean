/- The document's kernel: Swap, Drop, New. -/
import Derived.Test.YtgjomknpjigkhaaGreatDoorB2
namespace Go.Proofs.YtgjomknpjigkhaaGreatDoor
open Go.RowKit Go.Shelf

/-- A row of ints, by its block. -/
def Row3 (w : World) (g : Nat) (xs : List Int) : Prop := ∃ cs, w.heap[g]? = some (.cells cs 3 (0, 0)) ∧ ∀ (i : Nat) (x : Int), xs[i]? = some x → cs[i]? = some (.int .i64 x)

theorem Row3.of_own {w : World} {base g n c : Nat} {xs : List Int} (h : w.ownsRow base 3 1 (.slice (some ⟨g, 0, none⟩) n c) n (ints xs)) : Row3 w g xs := by
  obtain ⟨cs, tg⟩ := own_tag h g rfl
  refine ⟨cs, tg, fun i x hx => ?_⟩
  have := own_cellAt h (i := i) (x := .int .i64 x) (by simp [ints, hx])
  rw [CellsAt.cell ⟨_, tg⟩] at this
  exact this
theorem Row3.rowIs {w : World} {g : Nat} {xs : List Int} (h : Row3 w g xs) : RowIs w g xs := by
  obtain ⟨cs, h1, h2⟩ := h
  exact ⟨cs, ⟨_, h1⟩, h2⟩
theorem Row3.set {w : World} {g : Nat} {xs : List Int} (h : Row3 w g xs) (i : Nat) (x : Int) : Row3 (w.setCell ⟨g, i, none⟩ (.int .i64 x)) g (xs.set i x) := by
  obtain ⟨cs, h1, h2⟩ := h
  refine ⟨cs.setIfInBounds i (.int .i64 x), by simp [World.setCell, Array.getElem?_modify, h1], fun j y hy => ?_⟩
  rw [List.getElem?_set] at hy
  rw [Array.getElem?_setIfInBounds]
  split at hy
  · rename_i e
    subst e
    split at hy
    · rename_i hl
      cases hy
      have := h2 i _ (List.getElem?_eq_getElem hl)
      have := (Array.getElem?_eq_some_iff.1 this).1
      simp [this]
    · cases hy
  · rename_i e
    rw [if_neg e]
    exact h2 j y hy
theorem Row3.keeps {w w' : World} {g : Nat} {xs : List Int} {T : List Nat} (h : Row3 w g xs) (k : Keeps T w w') (hg : g ∉ T) : Row3 w' g xs := by
  obtain ⟨cs, h1, h2⟩ := h
  exact ⟨cs, (k.block g (Array.getElem?_eq_some_iff.1 h1).1 hg).trans h1, h2⟩

/-- The order is another row. -/
theorem RefAt.reorder {w w1 : World} {b : RB} {R : RS} {g c : Nat} {ord' : List Int} (h : RefAt w b R) (k : Keeps [] w w1) (hr : Row3 w1 g ord') (hg : w.heap.size ≤ g) (hl : ord'.length = R.n) (hc : R.n ≤ c) :
    RefAt (w1.setCell ⟨b.r, 2, none⟩ (.slice (some ⟨g, 0, none⟩) R.n c)) { b with go := g, co := c } { R with ord := ord' } ∧ b.to { b with go := g, co := c } w ∧ Keeps b.own w (w1.setCell ⟨b.r, 2, none⟩ (.slice (some ⟨g, 0, none⟩) R.n c)) := by
  have h1 := h.keeps0 k
  have hb := h.head.lt
  have kS := Keeps.setCell w1 ⟨b.r, 2, none⟩ (.slice (some ⟨g, 0, none⟩) R.n c)
  refine ⟨⟨?_, hr.keeps kS (by simp; omega), hl, hc, h.n1, h.n8, ownsRow_kept h1.hs kS (fun i hi => by have := (own_base h1.hs i hi).1; simp; omega), h.few, by show g ≠ b.r; omega⟩, ⟨rfl, fun i hi => ?_⟩, (k.mono (by simp)).trans (kS.mono (by simp [RB.own]))⟩
  · have := h1.head.setCell 2 (.slice (some ⟨g, 0, none⟩) R.n c)
    simpa using this
  · simp only [RB.own, List.mem_cons] at hi ⊢
    rcases hi with e | e | e
    · exact .inl (.inl e)
    · exact .inr (by rw [e]; exact hg)
    · exact .inl (.inr (.inr e))

set_option maxRecDepth 100000 in
set_option maxHeartbeats 1000000 in
theorem rswap_bad {w : World} {b : RB} {R : RS} (h : RefAt w b R) (lv : Int) (hlv : lv < 0 ∨ (R.n : Int) - 2 < lv) : Calls Tryz.prog 121 #[.pointer (some ⟨b.r, 0, none⟩), .int .i64 lv] w fun e w' => e = .returned (.int .i64 1) ∧ w' = w := by
  have c0 := h.head.cell 0
  simp at c0
  have hn1 := h.n1
  have hn8 := h.n8
  by_cases i0 : lv < 0
  · go_enter Tryz.func121, Tryz.ntmps121
    go_wp2_with fail
    go_ret
    exact ⟨rfl, rfl⟩
  · have i1 : (R.n : Int) - 2 < lv := by omega
    go_enter Tryz.func121, Tryz.ntmps121
    go_wp2_with fail
    go_ret
    exact ⟨rfl, rfl⟩

set_option maxRecDepth 100000 in
set_option maxHeartbeats 1000000 in
theorem rswap_calls {w : World} {b : RB} {R : RS} (h : RefAt w b R) (lv : Nat) (hlv : lv + 2 ≤ R.n) : Calls Tryz.prog 121 #[.pointer (some ⟨b.r, 0, none⟩), .int .i64 (lv : Int)] w fun e w' => e = .returned (.int .i64 0) ∧ ∃ b', RefAt w' b' { R with ord := swapAt R.ord lv } ∧ b.to b' w ∧ Keeps b.own w w' := by
  obtain ⟨i0, hi0, hz0, hz1, hz2⟩ := info_parts info3
  have c0 := h.head.cell 0
  have c2 := h.head.cell 2
  simp at c0 c2
  have hb := h.head.lt
  have hn8 := h.n8
  have hcap := h.cap
  have i1 : ¬ (R.n : Int) - 2 < (lv : Int) := by omega
  have l1 : (lv : Int) < R.n := by omega
  have l2 : (lv : Int) + 1 < R.n := by omega
  obtain ⟨x, hx⟩ : ∃ x, R.ord[lv]? = some x := ⟨_, List.getElem?_eq_getElem (by rw [h.len]; omega)⟩
  obtain ⟨y, hy⟩ : ∃ y, R.ord[lv + 1]? = some y := ⟨_, List.getElem?_eq_getElem (by rw [h.len]; omega)⟩
  have hsw : swapAt R.ord lv = (R.ord.set lv y).set (lv + 1) x := swapAt_is hx hy
  have src : ∀ (j : Nat) (u : Value), (ints R.ord)[j]? = some u → w.cell? ((⟨b.go, 0, none⟩ : Addr).add j) = some u := by
    intro j u hu
    unfold ints at hu
    rw [List.getElem?_map] at hu
    cases ho : R.ord[j]? with
    | none => rw [ho] at hu; cases hu
    | some z =>
      rw [ho] at hu
      cases hu
      rw [Addr.add_lit, Nat.zero_add]
      exact h.ordCell j z ho
  have hil : (ints R.ord).length = R.n * 1 := by simp [ints, h.len]
  have Hx := hide hx
  have Hy := hide hy
  have Hsw := hide hsw
  clear hx hy hsw
  go_enter Tryz.func121, Tryz.ntmps121
  go_wp2_with (at_builtin; refine wpList_append_own_at _ rfl _ _ 40 rfl w.heap.size 3 i0 (.int .i64 0) 1 8 Tryz.underlying40 hi0 hz0 hz1 hz2 rfl (by decide) _ 0 [] rfl ⟨rfl, .inl ⟨rfl, rfl⟩⟩ ⟨b.go, 0, none⟩ R.n b.co (ints R.ord) rfl hil src (ints_one _) (by unfold maxLen; omega) (by omega) (Nat.le_refl _) ?_)
  intro v1 W own1 grow1 nil1 at1
  have k1 := grownBy_keeps' grow1 [] (fun r e => by simp [Value.ownBlock] at e)
  obtain ⟨g, c, rfl⟩ := own_form own1 (by omega)
  have hgc := own_cap own1
  have hgb := (own_base own1 g rfl).1
  have hr1 := Row3.of_own own1
  have h1 := h.keeps0 k1
  have d2 := h1.head.cell 2
  simp at d2
  have ey := h1.ordCell _ _ Hy.out
  have hcl := hr1.rowIs.cell Hx.out
  have hfz := hr1.rowIs.frozen lv
  have hr2 := hr1.set lv y
  have kS1 := Keeps.setCell W ⟨g, lv, none⟩ (.int .i64 y)
  have k2 := k1.trans_new kS1 (by simp; omega)
  have h2 := h.keeps0 k2
  have f2 := h2.head.cell 2
  simp only [List.getElem?_toArray, List.getElem?_cons_succ, List.getElem?_cons_zero] at f2
  have ex := h2.ordCell _ _ Hx.out
  have hcl2 := hr2.rowIs.cell (i := lv + 1) (x := y) (by rw [List.getElem?_set_ne (by omega)]; exact Hy.out)
  have hfz2 := hr2.rowIs.frozen (lv + 1)
  have hr3 := hr2.set (lv + 1) x
  have kS2 := Keeps.setCell (W.setCell ⟨g, lv, none⟩ (.int .i64 y)) ⟨g, lv + 1, none⟩ (.int .i64 x)
  have k3 := k2.trans_new kS2 (by simp; omega)
  have h3 := h.keeps0 k3
  have f3 := h3.head.cell 2
  simp only [List.getElem?_toArray, List.getElem?_cons_succ, List.getElem?_cons_zero] at f3
  have fz3 := h3.head.frozen 2
  have fin := h.reorder (c := c) k3 hr3 hgb (by simp [h.len]) hgc
  have gI : (R.n : Int) ≤ c := by omega
  clear grow1 nil1 at1 own1
  go_wp2_with fail
  go_ret
  refine ⟨rfl, { b with go := g, co := c }, ?_⟩
  rw [Hsw.out]
  exact fin

theorem RefAt.entryAt {w : World} {b : RB} {R : RS} (h : RefAt w b R) {av : Option Addr} {cv : Nat} (hv : b.vh = .slice av R.hs.length cv) {i : Nat} {p : Int × List Bool} (hp : R.hs[i]? = some p) : ∃ g, av = some ⟨g, 0, none⟩ ∧ R.hs.length ≤ cv ∧ w.cell? ⟨g, i * 2, none⟩ = some (.int .i64 p.1) ∧ w.cell? ⟨g, i * 2 + 1, none⟩ = some (.string (bts p.2)) := by
  obtain ⟨g, c, e1, e2, e3, e4⟩ := h.entry hp
  rw [hv] at e1
  cases e1
  exact ⟨g, rfl, e2, e3, e4⟩

theorem del_take {hs : List (Int × List Bool)} {f : Int} {i : Nat} {p : Int × List Bool} (hp : hs[i]? = some p) : del (hs.take (i + 1)) f = del (hs.take i) f ++ (if p.1 = f then [] else [p]) := by
  rw [List.take_add_one, hp]
  unfold del
  rw [List.filter_append]
  congr 1
  by_cases e : p.1 = f <;> simp [e]

theorem hcells_append (a b : List (Int × List Bool)) : hcells (a ++ b) = hcells a ++ hcells b := by simp [hcells]

theorem entry_cell {W : World} {a v : Value} : ∀ (j : Nat) (x : Value), [a, v][j]? = some x → (W.alloc (.cells #[a, v] 262)).cell? ((⟨W.heap.size, 0, none⟩ : Addr).add j) = some x := by
  intro j x hx
  rw [Addr.add_lit, Nat.zero_add, (CellsAt.new W #[a, v] 262).cell]
  match j with
  | 0 => simpa using hx
  | 1 => simpa using hx
  | j + 2 => simp at hx

/-- The handles are another row. -/
theorem RefAt.rehandle {w w1 : World} {b : RB} {R : RS} {v : Value} {hs' : List (Int × List Bool)} (h : RefAt w b R) (k : Keeps [] w w1) (ho : w1.ownsRow w.heap.size 262 2 v hs'.length (hcells hs')) (hl : hs'.length ≤ 100) :
    RefAt (w1.setCell ⟨b.r, 3, none⟩ v) { b with vh := v } { R with hs := hs' } ∧ b.to { b with vh := v } w ∧ Keeps b.own w (w1.setCell ⟨b.r, 3, none⟩ v) := by
  have h1 := h.keeps0 k
  have hb := h.head.lt
  have kS := Keeps.setCell w1 ⟨b.r, 3, none⟩ v
  have hr : Row3 w1 b.go R.ord := h1.row
  refine ⟨⟨?_, hr.keeps kS (by simpa using h.ne), h.len, h.cap, h.n1, h.n8, ownsRow_base (ownsRow_kept ho kS (fun i hi => by have := (own_base ho i hi).1; simp; omega)) (by show b.r + 1 ≤ w.heap.size; omega), hl, h.ne⟩, ⟨rfl, fun i hi => ?_⟩, (k.mono (by simp)).trans (kS.mono (by simp [RB.own]))⟩
  · have := h1.head.setCell 3 v
    simpa using this
  · simp only [RB.own, List.mem_cons, Option.mem_toList] at hi ⊢
    rcases hi with e | e | e
    · exact .inl (.inl e)
    · exact .inl (.inr (.inl e))
    · exact .inr (own_base ho i e).1

set_option maxRecDepth 100000 in
set_option maxHeartbeats 1000000 in
theorem rdrop_calls {w : World} {b : RB} {R : RS} (h : RefAt w b R) (f : Int) : Calls Tryz.prog 125 #[.pointer (some ⟨b.r, 0, none⟩), .int .i64 f] w fun e w' =>
    ((del R.hs f).length = R.hs.length → e = .returned (.int .i64 2) ∧ Keeps [] w w') ∧ ((del R.hs f).length ≠ R.hs.length → e = .returned (.int .i64 0) ∧ ∃ b', RefAt w' b' { R with hs := del R.hs f } ∧ b.to b' w ∧ Keeps b.own w w') := by
  obtain ⟨i0, hi0, hz0, hz1, hz2⟩ := info_parts info262
  have hb := h.head.lt
  have hmax := h.few
  obtain ⟨av, cv, hv⟩ := own_len h.hs
  go_enter Tryz.func125, Tryz.ntmps125
  go_wp2_with fail
  go_loopw [5, 6] (fun v5 y wr => ∃ i : Nat, y = .int .i64 i ∧ i ≤ R.hs.length ∧ wr.ownsRow w.heap.size 262 2 v5 (del (R.hs.take i) f).length (hcells (del (R.hs.take i) f)) ∧ Keeps [] w wr) (fun _ y _ => ((R.hs.length : Int) - intOf y).toNat)
  case atStart => exact ⟨0, rfl, by omega, ⟨rfl, .inl ⟨rfl, rfl⟩⟩, Keeps.refl _ _⟩
  case round =>
    obtain ⟨i, rfl, hi, own, kr⟩ := hrel
    have hr := h.keeps0 kr
    have c3 := hr.head.cell 3
    simp [hv] at c3
    by_cases hil : i < R.hs.length
    · have hiI : (i : Int) < R.hs.length := by omega
      obtain ⟨p, hp⟩ : ∃ p, R.hs[i]? = some p := ⟨_, List.getElem?_eq_getElem hil⟩
      obtain ⟨g1, rfl, x2, x3, x4⟩ := hr.entryAt hv hp
      have htk := del_take (f := f) hp
      have hdl : (del (R.hs.take i) f).length ≤ 100 := Nat.le_trans (List.length_filter_le _ _) (by rw [List.length_take]; omega)
      by_cases hpf : p.1 = f
      · have hq : (p.1 != f) = false := by simp [hpf]
        rw [if_pos hpf, List.append_nil] at htk
        have Htk := hide htk
        clear htk hp hpf
        go_wp2_with fail
        go_roundw
        · exact ⟨i + 1, by simp, by omega, by rw [Htk.out]; exact own, kr⟩
        · simp only [intOf]; omega
      · have hq : (p.1 != f) = true := by simp [hpf]
        rw [if_neg hpf] at htk
        have Htk := hide htk
        clear htk hp hpf
        generalize del (R.hs.take i) f = D at own hdl Htk
        have kB := Keeps.alloc [] wr (.cells #[.int .i64 p.1, .string (bts p.2)] 262)
        have ownB := ownsRow_kept own kB (by simp)
        have hone := entry_cell (W := wr) (a := .int .i64 p.1) (v := .string (bts p.2))
        have hszB : w.heap.size ≤ (wr.alloc (.cells #[.int .i64 p.1, .string (bts p.2)] 262)).heap.size := by rw [size_alloc']; have := kr.size; omega
        go_wp2_with (at_builtin; refine wpList_append_own_at _ rfl _ _ 170 rfl w.heap.size 262 i0 (.agg #[.int .i64 0, .string ⟨#[]⟩]) 2 24 Tryz.underlying170 hi0 hz0 hz1 hz2 rfl (by decide) _ D.length (hcells D) rfl ownB ⟨wr.heap.size, 0, none⟩ 1 1 [.int .i64 p.1, .string (bts p.2)] rfl (by simp) hone (by simp [Value.oneCell']) (by unfold maxLen; omega) (by omega) hszB ?_)
        intro v' W2 own2 grow2 nil2 at2
        have k2 := grownBy_keeps' grow2 u5.ownBlock.toList (fun r e => .inl (by simp [e]))
        go_wp2_with fail
        go_roundw
        · refine ⟨i + 1, by simp, by omega, ?_, (kr.trans kB).trans_new k2 fun j hj => .inr (own_base own j (by simpa using hj)).1⟩
          rw [Htk.out, hcells_append, List.length_append]
          exact own2
        · simp only [intOf]; omega
    · have hiI : ¬ (i : Int) < R.hs.length := by omega
      have ei : i = R.hs.length := by omega
      subst ei
      rw [List.take_of_length_le (Nat.le_refl _)] at own
      have hdl : (del R.hs f).length ≤ 100 := Nat.le_trans (List.length_filter_le _ _) h.few
      obtain ⟨a5, c5, e5⟩ := own_len own
      subst e5
      by_cases heq : (del R.hs f).length = R.hs.length
      · have hq : (((del R.hs f).length : Int) == R.hs.length) = true := by simp [heq]
        have Heq := hide heq
        clear heq
        go_wp2_with fail
        go_ret
        exact ⟨fun _ => ⟨rfl, kr⟩, fun hn => absurd Heq.out hn⟩
      · have hq : (((del R.hs f).length : Int) == R.hs.length) = false := by simp; omega
        have fin := h.rehandle kr own hdl
        have fz := hr.head.frozen 3
        have Heq := hide heq
        clear heq
        go_wp2_with fail
        go_ret
        exact ⟨fun he => absurd he Heq.out, fun _ => ⟨rfl, { b with vh := .slice a5 (del R.hs f).length c5 }, fin⟩⟩

set_option maxRecDepth 100000 in
set_option maxHeartbeats 1000000 in
theorem rnew_bad {w : World} (n : Int) (hn : n < 1 ∨ 8 < n) : Calls Tryz.prog 55 #[.int .i64 n] w fun e w' => e = .returned (.tuple #[.pointer none, .int .i64 1]) ∧ w' = w := by
  by_cases i0 : n < 1
  · go_enter Tryz.func55, Tryz.ntmps55
    go_wp2_with fail
    go_ret2
    exact ⟨rfl, rfl⟩
  · have i1 : 8 < n := by omega
    go_enter Tryz.func55, Tryz.ntmps55
    go_wp2_with fail
    go_ret2
    exact ⟨rfl, rfl⟩

def RS.new (n : Nat) : RS := ⟨n, rng n, [], 1⟩

set_option maxRecDepth 100000 in
set_option maxHeartbeats 1000000 in
theorem rnew_calls {w : World} (n : Nat) (n1 : 1 ≤ n) (n8 : n ≤ 8) : Calls Tryz.prog 55 #[.int .i64 (n : Int)] w fun e w' => ∃ b, e = .returned (.tuple #[.pointer (some ⟨b.r, 0, none⟩), .int .i64 0]) ∧ RefAt w' b (RS.new n) ∧ (∀ i ∈ b.own, w.heap.size ≤ i) ∧ Keeps [] w w' := by
  obtain ⟨i0, hi0, hz0, hz1, hz2⟩ := info_parts info3
  have j1 : ¬ (n : Int) < 1 := by omega
  have j8 : ¬ 8 < (n : Int) := by omega
  have hx := CellsAt.new w #[.int .i64 n, .int .i64 1, .slice none 0 0, .slice none 0 0, .int .i64 1] 172
  have kx := Keeps.alloc [] w (.cells #[.int .i64 n, .int .i64 1, .slice none 0 0, .slice none 0 0, .int .i64 1] 172)
  go_enter Tryz.func55, Tryz.ntmps55
  go_wp2_with fail
  generalize w.alloc (.cells #[.int .i64 n, .int .i64 1, .slice none 0 0, .slice none 0 0, .int .i64 1] 172) = W at hx kx ⊢
  obtain ⟨r, hr⟩ : ∃ r, r = w.heap.size := ⟨_, rfl⟩
  rw [← hr] at hx ⊢
  have Hr := hide hr
  clear hr
  go_loopw [5] (fun y wr => ∃ (j : Nat) (vo : Value), y = .int .i64 j ∧ j ≤ n ∧ CellsAt wr r #[.int .i64 n, .int .i64 ((2 ^ j : Nat) : Int), vo, .slice none 0 0, .int .i64 1] ∧ wr.ownsRow (r + 1) 3 1 vo j (ints (rng j)) ∧ Keeps [] w wr) (fun y _ => ((n : Int) - intOf y).toNat)
  case atStart => exact ⟨0, .slice none 0 0, rfl, by omega, hx, ⟨rfl, .inl ⟨rfl, rfl⟩⟩, kx⟩
  case round =>
    clear hx kx
    obtain ⟨j, vo, rfl, hj, hx, own, kr⟩ := hrel
    by_cases hjn : j < n
    · have hjI : (j : Int) < n := by omega
      have hrl := hx.lt
      obtain ⟨p, hp⟩ : ∃ p, p = 2 ^ j := ⟨_, rfl⟩
      have hp2 : p ≤ 256 := by rw [hp]; exact Nat.pow_le_pow_right (n := 2) (by decide) (by omega : j ≤ 8)
      rw [← hp] at hx
      have d1 := hx.cell 1
      have fz1 := hx.frozen 1
      simp at d1
      have s1 := hx.setCell 1 (.int .i64 ((2 * p : Nat) : Int))
      have k1 := Keeps.setCell wr ⟨r, 1, none⟩ (.int .i64 ((2 * p : Nat) : Int))
      have own1 := ownsRow_kept own k1 (fun i hi => by have := (own_base own i hi).1; simp; omega)
      have s1' : CellsAt (wr.setCell ⟨r, 1, none⟩ (.int .i64 (2 * (p : Int)))) r #[.int .i64 n, .int .i64 (2 * (p : Int)), vo, .slice none 0 0, .int .i64 1] := by
        rw [show ((2 * p : Nat) : Int) = 2 * (p : Int) by push_cast; rfl] at s1
        simpa using s1
      rw [show ((2 * p : Nat) : Int) = 2 * (p : Int) by push_cast; rfl] at k1 own1
      have hz : (wr.setCell ⟨r, 1, none⟩ (.int .i64 (2 * (p : Int)))).heap.size = wr.heap.size := by simp
      have d2 := s1'.cell 2
      simp only [List.getElem?_toArray, List.getElem?_cons_succ, List.getElem?_cons_zero] at d2
      have kw1 := kr.trans_new k1 (fun i hi => by simp at hi; have := Hr.out; exact .inr (by omega))
      have Hp := hide hp
      have Hz := hide hz
      clear hp hz s1
      have kB := Keeps.alloc [] (wr.setCell ⟨r, 1, none⟩ (.int .i64 (2 * (p : Int)))) (.cells #[.int .i64 (j : Int)] 3)
      have ownB := ownsRow_kept own1 kB (by simp)
      have sB := s1'.keeps kB (by simp)
      have hone := str_cell (W := wr.setCell ⟨r, 1, none⟩ (.int .i64 (2 * (p : Int)))) (v := .int .i64 (j : Int)) (ty := 3)
      rw [Hz.out] at hone
      have hszB : r + 1 ≤ ((wr.setCell ⟨r, 1, none⟩ (.int .i64 (2 * (p : Int)))).alloc (.cells #[.int .i64 (j : Int)] 3)).heap.size := by rw [size_alloc', Hz.out]; omega
      go_wp2_with (at_builtin; refine wpList_append_own_at _ rfl _ _ 40 rfl (r + 1) 3 i0 (.int .i64 0) 1 8 Tryz.underlying40 hi0 hz0 hz1 hz2 rfl (by decide) _ j (ints (rng j)) rfl ownB ⟨wr.heap.size, 0, none⟩ 1 1 (ints [(j : Int)]) rfl (by simp [ints]) hone (ints_one _) (by unfold maxLen; omega) (by omega) hszB ?_)
      intro v' W2 own2 grow2 nil2 at2
      have k2 := grownBy_keeps' grow2 vo.ownBlock.toList (fun r e => .inl (by simp [e]))
      obtain ⟨g', c', rfl⟩ := own_form own2 (by omega)
      have s2 := sB.keeps k2 (fun hm => by have := (own_base own r (by simpa using hm)).1; omega)
      have e2 := s2.cell 2
      have fz2 := s2.frozen 2
      simp only [List.getElem?_toArray, List.getElem?_cons_succ, List.getElem?_cons_zero] at e2
      have s3 := s2.setCell 2 (.slice (some ⟨g', 0, none⟩) (j + 1) c')
      have k3 := Keeps.setCell W2 ⟨r, 2, none⟩ (.slice (some ⟨g', 0, none⟩) (j + 1) c')
      have own3 := ownsRow_kept own2 k3 (fun i hi => by have := (own_base own2 i hi).1; simp; omega)
      clear own2 grow2 nil2 at2
      go_wp2_with fail
      go_roundw
      · refine ⟨j + 1, (.slice (some ⟨g', 0, none⟩) (j + 1) c'), by simp, by omega, ?_, ?_, ((kw1.trans kB).trans_new k2 fun i hi => .inr ?_).trans_new k3 fun i hi => .inr ?_⟩
        · rw [Nat.pow_succ, ← Hp.out, Nat.mul_comm]
          simpa using s3
        · rw [rng_succ]
          simpa [ints] using own3
        · have := (own_base own i (by simpa using hi)).1
          have := Hr.out
          omega
        · simp at hi
          have := Hr.out
          omega
      · simp only [intOf]; omega
    · have hjI : ¬ (j : Int) < n := by omega
      have ej : j = n := by omega
      subst ej
      obtain ⟨g, c, rfl⟩ := own_form own (by omega)
      go_wp2_with fail
      go_ret2
      refine ⟨⟨r, g, c, .slice none 0 0⟩, rfl, ⟨hx, Row3.of_own own, rng_length j, own_cap own, n1, n8, ⟨rfl, .inl ⟨rfl, rfl⟩⟩, by simp [RS.new], ?_⟩, fun i hi => ?_, kr⟩
      · have := (own_base own g rfl).1
        show g ≠ r
        omega
      · have := (own_base own g rfl).1
        have := Hr.out
        simp [RB.own, Value.ownBlock] at hi
        omega

end Go.Proofs.YtgjomknpjigkhaaGreatDoor
