/- The document's kernel: Size, Total. -/
import Derived.Test.YtgjomknpjigkhaaGreatDoorB1
namespace Go.Proofs.YtgjomknpjigkhaaGreatDoor
open Go.RowKit Go.Shelf

/-- What holds of the document's kernel. -/
structure RS.Ok (R : RS) : Prop where
  ord : ∀ x ∈ R.ord, 0 ≤ x ∧ x < R.n
  tabs : Len R.n (R.hs.map Prod.snd)

theorem RS.look_len {R : RS} (h : R.Ok) {f : Int} {x : List Bool} (hx : R.look f = some x) : x.length = 2 ^ R.n := by
  unfold RS.look at hx
  split at hx
  · cases hx; exact tab_length _ _
  · split at hx
    · cases hx; exact tab_length _ _
    · exact h.tabs x (List.mem_map.2 ⟨_, get_some_mem hx, rfl⟩)

theorem RefAt.ordCell {w : World} {b : RB} {R : RS} (h : RefAt w b R) (i : Nat) (x : Int) (hx : R.ord[i]? = some x) : w.cell? ⟨b.go, i, none⟩ = some (.int .i64 x) := by
  obtain ⟨cs, h1, h2⟩ := h.row
  rw [CellsAt.cell ⟨_, h1⟩, h2 i x hx]

set_option maxRecDepth 100000 in
set_option maxHeartbeats 1000000 in
theorem rsize_bad {w : World} {b : RB} {R : RS} (h : RefAt w b R) (f : Int) (hbad : R.look f = none) : Calls Tryz.prog 114 #[.pointer (some ⟨b.r, 0, none⟩), .int .i64 f] w (RErr w 2) := by
  have hb := h.head.lt
  have hg := hide (rget_none h f hbad)
  go_enter Tryz.func114, Tryz.ntmps114
  go_wp2_with fail
  refine hg.out.mono ?_
  rintro e w' ⟨rfl, rfl⟩
  go_wp2_with fail
  go_ret2
  exact ⟨rfl, Keeps.refl _ _⟩

set_option maxRecDepth 100000 in
set_option maxHeartbeats 1000000 in
theorem rsize_calls {w : World} {b : RB} {R : RS} (h : RefAt w b R) (hk : R.Ok) (f : Int) (x : List Bool) (hx : R.look f = some x) : Calls Tryz.prog 114 #[.pointer (some ⟨b.r, 0, none⟩), .int .i64 f] w fun e w' => e = .returned (.tuple #[.int .i64 ((nodesT R.n R.ord [x]).length : Nat), .int .i64 0]) ∧ Keeps [] w w' := by
  have hb := h.head.lt
  have hg := hide (rget_some h f x hx)
  have hxl := RS.look_len hk hx
  have hgo : b.go < w.heap.size := h.lt _ (by simp [RB.own])
  have hn := hide (fun (w1 : World) (k : Keeps [] w w1) => rnodes_calls (w := w1.alloc (.cells #[.string (bts x)] 9)) ((h.keeps0 k).keeps0 (Keeps.alloc [] w1 _)) (.slice (some ⟨w1.heap.size, 0, none⟩) 1 1) [x] (own_new w1 (strs [x]) 9 0 (by omega) (by simp [strs])) (by simp) (fun t ht => by simp at ht; rw [ht]; exact hxl) b.go b.co R.ord (by rw [size_alloc']; have := k.size; omega) h.cap (fun i y hy => ((h.keeps0 k).keeps0 (Keeps.alloc [] w1 _)).ordCell i y hy) h.len hk.ord)
  have c2 : ∀ w1, Keeps [] w w1 → (w1.alloc (.cells #[.string (bts x)] 9)).cell? ⟨b.r, 2, none⟩ = some (.slice (some ⟨b.go, 0, none⟩) R.n b.co) := fun w1 k => ((h.keeps0 k).keeps0 (Keeps.alloc [] w1 _)).head.cell 2
  have C2 := hide c2
  generalize (nodesT R.n R.ord [x]).length = N at hn ⊢
  clear hx c2 hxl
  go_enter Tryz.func114, Tryz.ntmps114
  go_wp2_with fail
  refine hg.out.mono ?_
  rintro e w1 ⟨rfl, k1⟩
  have e2 := C2.out w1 k1
  have hsz := k1.size
  go_wp2_with fail
  refine (hn.out w1 k1).mono ?_
  rintro e w2 ⟨rfl, k2⟩
  go_wp2_with fail
  go_ret2
  exact ⟨rfl, (k1.trans (Keeps.alloc [] w1 _)).trans k2⟩

set_option maxRecDepth 100000 in
set_option maxHeartbeats 1000000 in
theorem rtotalOf_calls {w : World} {b : RB} {R : RS} (h : RefAt w b R) (hk : R.Ok) (g c : Nat) (ord : List Int) (hg : g < w.heap.size) (hc : R.n ≤ c) (ho : ∀ (i : Nat) (x : Int), ord[i]? = some x → w.cell? ⟨g, i, none⟩ = some (.int .i64 x)) (hol : ord.length = R.n) (hor : ∀ x ∈ ord, 0 ≤ x ∧ x < R.n) :
    Calls Tryz.prog 185 #[.pointer (some ⟨b.r, 0, none⟩), .slice (some ⟨g, 0, none⟩) R.n c] w fun e w' => e = .returned (.int .i64 ((nodesT R.n ord (R.hs.map Prod.snd)).length : Nat)) ∧ Keeps [] w w' := by
  obtain ⟨i0, hi0, hz0, hz1, hz2⟩ := info_parts info9
  have hb := h.head.lt
  have hmax := h.few
  obtain ⟨av, cv, hv⟩ := own_len h.hs
  have hn := hide (fun (w1 : World) (v : Value) (k : Keeps [] w w1) (o : w1.ownsRow w.heap.size 9 1 v R.hs.length (strs (R.hs.map Prod.snd))) => rnodes_calls (w := w1) (h.keeps0 k) v (R.hs.map Prod.snd) (by rw [List.length_map]; exact ownsRow_base o (by omega)) (by simpa using h.few) hk.tabs g c ord (by have := k.size; omega) hc (fun i y hy => by rw [← ho i y hy]; simp [World.cell?, k.block g hg (by simp)]) hol hor)
  generalize (nodesT R.n ord (R.hs.map Prod.snd)).length = N at hn ⊢
  clear ho hol hor
  go_enter Tryz.func185, Tryz.ntmps185
  go_wp2_with fail
  go_loopw [5, 6] (fun v5 y wr => ∃ i : Nat, y = .int .i64 i ∧ i ≤ R.hs.length ∧ wr.ownsRow w.heap.size 9 1 v5 i (strs ((R.hs.map Prod.snd).take i)) ∧ Keeps [] w wr) (fun _ y _ => ((R.hs.length : Int) - intOf y).toNat)
  case atStart => exact ⟨0, rfl, by omega, ⟨rfl, .inl ⟨rfl, rfl⟩⟩, Keeps.refl _ _⟩
  case round =>
    obtain ⟨i, rfl, hi, own, kr⟩ := hrel
    have hr := h.keeps0 kr
    have c3 := hr.head.cell 3
    simp [hv] at c3
    by_cases hil : i < R.hs.length
    · have hiI : (i : Int) < R.hs.length := by omega
      obtain ⟨p, hp⟩ : ∃ p, R.hs[i]? = some p := ⟨_, List.getElem?_eq_getElem hil⟩
      obtain ⟨g1, c1, x1, x2, x3, x4⟩ := hr.entry hp
      rw [hv] at x1
      cases x1
      have htk : (R.hs.map Prod.snd).take (i + 1) = (R.hs.map Prod.snd).take i ++ [p.2] := by
        rw [List.take_add_one, List.getElem?_map, hp]
        rfl
      have Htk := hide htk
      clear htk hp
      have kB := Keeps.alloc [] wr (.cells #[.string (bts p.2)] 9)
      have ownB := ownsRow_kept own kB (by simp)
      have hone := str_cell (W := wr) (v := .string (bts p.2)) (ty := 9)
      have hszB : w.heap.size ≤ (wr.alloc (.cells #[.string (bts p.2)] 9)).heap.size := by rw [size_alloc']; have := kr.size; omega
      go_wp2_with (at_builtin; refine wpList_append_own_at _ rfl _ _ 35 rfl w.heap.size 9 i0 (.string ⟨#[]⟩) 1 16 Tryz.underlying35 hi0 hz0 hz1 hz2 rfl (by decide) _ i (strs ((R.hs.map Prod.snd).take i)) rfl ownB ⟨wr.heap.size, 0, none⟩ 1 1 [.string (bts p.2)] rfl (by simp) hone (by simp [Value.oneCell']) (by unfold maxLen; omega) (by omega) hszB ?_)
      intro v' W2 own2 grow2 nil2 at2
      have k2 := grownBy_keeps' grow2 u5.ownBlock.toList (fun r e => .inl (by simp [e]))
      go_wp2_with fail
      go_roundw
      · refine ⟨i + 1, by simp, by omega, ?_, (kr.trans kB).trans_new k2 fun j hj => .inr (own_base own j (by simpa using hj)).1⟩
        rw [Htk.out]
        simpa [strs] using own2
      · simp only [intOf]; omega
    · have hiI : ¬ (i : Int) < R.hs.length := by omega
      have ei : i = R.hs.length := by omega
      subst ei
      rw [List.take_of_length_le (by simp)] at own
      go_wp2_with fail
      refine (hn.out _ _ kr own).mono ?_
      rintro e w2 ⟨rfl, k2⟩
      go_wp2_with fail
      go_ret
      exact ⟨rfl, kr.trans k2⟩

set_option maxRecDepth 100000 in
set_option maxHeartbeats 1000000 in
theorem rtotal_calls {w : World} {b : RB} {R : RS} (h : RefAt w b R) (hk : R.Ok) : Calls Tryz.prog 116 #[.pointer (some ⟨b.r, 0, none⟩)] w fun e w' => e = .returned (.int .i64 ((nodesT R.n R.ord (R.hs.map Prod.snd)).length : Nat)) ∧ Keeps [] w w' := by
  have hb := h.head.lt
  have c2 := h.head.cell 2
  simp at c2
  have hn := hide (rtotalOf_calls h hk b.go b.co R.ord (h.lt _ (by simp [RB.own])) h.cap (fun i y hy => h.ordCell i y hy) h.len hk.ord)
  generalize (nodesT R.n R.ord (R.hs.map Prod.snd)).length = N at hn ⊢
  go_enter Tryz.func116, Tryz.ntmps116
  go_wp2_with fail
  refine hn.out.mono ?_
  rintro e w2 ⟨rfl, k2⟩
  go_wp2_with fail
  go_ret
  exact ⟨rfl, k2⟩

end Go.Proofs.YtgjomknpjigkhaaGreatDoor
