/- The document's kernel: a handle is given. -/
import Derived.Test.YtgjomknpjigkhaaGreatDoorA2
import Derived.Deep.AppendLies
import Derived.Deep.RegionLaw
namespace Go.Proofs.YtgjomknpjigkhaaGreatDoor
open Go.RowKit Go.Shelf

/-- The handle of a function, by the document. -/
def RS.give (R : RS) (t : List Bool) : Int × Int × RS :=
  if t = tab R.n (fun _ => false) then (0, 0, R) else if t = tab R.n (fun _ => true) then (1, 0, R) else
  match R.hs.find? (fun p => decide (p.2 = t)) with
  | some p => (p.1, 0, R)
  | none => if 100 ≤ R.hs.length then (0, 3, R) else (R.last + 1, 0, { R with hs := R.hs ++ [(R.last + 1, t)], last := R.last + 1 })

/-- The blocks that a call may write. -/
def RB.to (b b' : RB) (w : World) : Prop := b'.r = b.r ∧ ∀ i ∈ b'.own, i ∈ b.own ∨ w.heap.size ≤ i
theorem RB.to_refl (b : RB) (w : World) : b.to b w := ⟨rfl, fun _ h => .inl h⟩

theorem info262 : (Tryz.prog.info? 262).map (fun i => (i.zero, i.size, i.bytes)) = some (some (.agg #[.int .i64 0, .string ⟨#[]⟩]), 2, 24) := by kernel_rfl

set_option maxRecDepth 100000 in
set_option maxHeartbeats 1000000 in
theorem give_zero {w : World} {b : RB} {R : RS} (h : RefAt w b R) : Calls Tryz.prog 169 #[.pointer (some ⟨b.r, 0, none⟩), .string (bts (tab R.n fun _ => false))] w fun e w' => e = .returned (.tuple #[.int .i64 0, .int .i64 0]) ∧ Keeps [] w w' := by
  have hc := hide (constant_calls false h.head (by rfl) rfl h.n8)
  have hb := h.head.lt
  have e1 := bts_beq (tab R.n fun _ => false) (tab R.n fun _ => false)
  simp only [decide_true] at e1
  go_enter Tryz.func169, Tryz.ntmps169
  go_wp2_with fail
  refine hc.out.mono ?_
  rintro e w' ⟨rfl, k⟩
  go_wp2_with fail
  go_ret2
  exact ⟨rfl, k⟩

theorem tab_ft (n : Nat) : ¬ tab n (fun _ => true) = tab n (fun _ => false) := fun e => by
  have h1 := tab_get (n := n) (F := fun _ => true) (a := 0) (Nat.two_pow_pos n)
  rw [e, tab_get (Nat.two_pow_pos n)] at h1
  simp at h1

set_option maxRecDepth 100000 in
set_option maxHeartbeats 1000000 in
theorem give_one {w : World} {b : RB} {R : RS} (h : RefAt w b R) : Calls Tryz.prog 169 #[.pointer (some ⟨b.r, 0, none⟩), .string (bts (tab R.n fun _ => true))] w fun e w' => e = .returned (.tuple #[.int .i64 1, .int .i64 0]) ∧ Keeps [] w w' := by
  have hc := hide (constant_calls false h.head (by rfl) rfl h.n8)
  have hd := hide (fun (w' : World) (k : Keeps [] w w') => constant_calls true (h.head.keeps k (by simp)) (by rfl) rfl h.n8)
  have hb := h.head.lt
  have e1 := bts_beq (tab R.n fun _ => true) (tab R.n fun _ => false)
  rw [decide_eq_false (tab_ft R.n)] at e1
  have e2 := bts_beq (tab R.n fun _ => true) (tab R.n fun _ => true)
  simp only [decide_true] at e2
  go_enter Tryz.func169, Tryz.ntmps169
  go_wp2_with fail
  refine hc.out.mono ?_
  rintro e w' ⟨rfl, k⟩
  have hb' := k.size
  go_wp2_with fail
  refine (hd.out _ k).mono ?_
  rintro e w2 ⟨rfl, k2⟩
  go_wp2_with fail
  go_ret2
  exact ⟨rfl, k.trans k2⟩

set_option maxRecDepth 100000 in
set_option maxHeartbeats 1000000 in
theorem give_found {w : World} {b : RB} {R : RS} (h : RefAt w b R) (t : List Bool) (t0 : t ≠ tab R.n (fun _ => false)) (t1 : t ≠ tab R.n (fun _ => true)) (q : Int × List Bool) (hq : R.hs.find? (fun p => decide (p.2 = t)) = some q) :
    Calls Tryz.prog 169 #[.pointer (some ⟨b.r, 0, none⟩), .string (bts t)] w fun e w' => e = .returned (.tuple #[.int .i64 q.1, .int .i64 0]) ∧ Keeps [] w w' := by
  have hc := hide (constant_calls false h.head (by rfl) rfl h.n8)
  have hd := hide (fun (w' : World) (k : Keeps [] w w') => constant_calls true (h.head.keeps k (by simp)) (by rfl) rfl h.n8)
  have hb := h.head.lt
  have e1 := bts_beq t (tab R.n fun _ => false)
  rw [decide_eq_false t0] at e1
  have e2 := bts_beq t (tab R.n fun _ => true)
  rw [decide_eq_false t1] at e2
  have hmax := h.few
  obtain ⟨av, cv, hv⟩ := own_len h.hs
  have Hq := hide hq
  clear hq
  go_enter Tryz.func169, Tryz.ntmps169
  go_wp2_with fail
  refine hc.out.mono ?_
  rintro e w' ⟨rfl, k⟩
  go_wp2_with fail
  refine (hd.out _ k).mono ?_
  rintro e w2 ⟨rfl, k2⟩
  have kk := k.trans k2
  clear hc hd k k2
  go_wp2_with fail
  go_loopw [6] (fun y wr => ∃ i : Nat, y = .int .i64 i ∧ i ≤ R.hs.length ∧ (R.hs.drop i).find? (fun p => decide (p.2 = t)) = some q ∧ Keeps [] w wr) (fun y _ => ((R.hs.length : Int) - intOf y).toNat)
  case atStart => exact ⟨0, rfl, by omega, Hq.out, kk⟩
  case round =>
    obtain ⟨i, rfl, hi, hg, kr⟩ := hrel
    have hr := h.keeps0 kr
    have c3 := hr.head.cell 3
    simp at c3
    rw [hv] at c3
    have hil : i < R.hs.length := by
      by_cases hil : i < R.hs.length
      · exact hil
      · rw [List.drop_eq_nil_of_le (by omega)] at hg
        cases hg
    have hiI : (i : Int) < R.hs.length := by omega
    obtain ⟨p, hp⟩ : ∃ p, R.hs[i]? = some p := ⟨_, List.getElem?_eq_getElem hil⟩
    obtain ⟨g, c, x1, x2, x3, x4⟩ := hr.entry hp
    rw [hv] at x1
    cases x1
    have hd : R.hs.drop i = p :: R.hs.drop (i + 1) := by
      rw [List.drop_eq_getElem_cons hil]
      congr 1
      have := List.getElem?_eq_getElem hil
      rw [hp] at this
      exact (Option.some.inj this).symm
    rw [hd, List.find?_cons] at hg
    have e3 := bts_beq p.2 t
    by_cases hpf : p.2 = t
    · rw [decide_eq_true hpf] at hg e3
      have ep : p = q := Option.some.inj hg
      have Hep := hide ep
      clear hg hd ep hpf
      go_wp2_with fail
      go_ret2
      exact ⟨by rw [← Hep.out]; rfl, kr⟩
    · rw [decide_eq_false hpf] at hg e3
      have Hg := hide hg
      clear hg hd hpf
      go_wp2_with fail
      go_roundw
      · exact ⟨i + 1, by simp, by omega, Hg.out, kr⟩
      · simp only [intOf]; omega

theorem RefAt.go_ne {w : World} {b : RB} {R : RS} (h : RefAt w b R) : b.vh.ownBlock ≠ some b.go := fun e => by
  obtain ⟨cs, h1, _⟩ := h.row
  obtain ⟨cs', h2⟩ := own_tag h.hs _ e
  rw [h1] at h2
  cases h2

theorem give_end {w W WA w1 w2 : World} {b : RB} {R : RS} {x : Int} {t : List Bool} {av : Option Addr} {cv gg cap : Nat} {v : Value} (h : RefAt w b R) (hv : b.vh = .slice av R.hs.length cv) (hl : R.hs.length < 100) (kw : Keeps [b.r] w W) (kA : Keeps [] W WA)
    (kg : Keeps (Value.slice av R.hs.length cv).ownBlock.toList WA w1) (kS : Keeps [b.r] w1 w2)
    (s : CellsAt w2 b.r #[.int .i64 R.n, .int .i64 (2 ^ R.n), .slice (some ⟨b.go, 0, none⟩) R.n b.co, .slice (some ⟨gg, 0, none⟩) (R.hs.length + 1) cap, v])
    (hvv : v = .int .i64 x)
    (o : w2.ownsRow (b.r + 1) 262 2 (.slice (some ⟨gg, 0, none⟩) (R.hs.length + 1) cap) (R.hs.length + 1) (hcells R.hs ++ [.int .i64 x, .string (bts t)]))
    (hz : w.heap.size ≤ W.heap.size) (hat : (Value.slice av R.hs.length cv).ownBlock = some gg ∨ gg = W.heap.size + 1) :
    RefAt w2 ⟨b.r, b.go, b.co, .slice (some ⟨gg, 0, none⟩) (R.hs.length + 1) cap⟩ { R with hs := R.hs ++ [(x, t)], last := x } ∧ b.to ⟨b.r, b.go, b.co, .slice (some ⟨gg, 0, none⟩) (R.hs.length + 1) cap⟩ w ∧ Keeps b.own w w2 := by
  have kk : Keeps b.own w w2 := ((kw.mono (by simp [RB.own])).trans (kA.mono (by simp))).trans ((kg.mono (by rw [RB.own, hv]; exact fun a ha => List.mem_cons_of_mem _ (List.mem_cons_of_mem _ ha))).trans (kS.mono (by simp [RB.own])))
  have kgo : Keeps (b.r :: b.vh.ownBlock.toList) w w2 := ((kw.mono (by simp)).trans (kA.mono (by simp))).trans ((kg.mono (by rw [hv]; exact fun a ha => List.mem_cons_of_mem _ ha)).trans (kS.mono (by simp)))
  obtain ⟨cs, r1, r2⟩ := h.row
  have hg : b.go < w.heap.size := h.lt _ (by simp [RB.own])
  refine ⟨⟨?_, ⟨cs, (kgo.block _ hg ?_).trans r1, r2⟩, h.len, h.cap, h.n1, h.n8, ?_, ?_, h.ne⟩, ⟨rfl, ?_⟩, kk⟩
  · rw [hvv] at s
    simpa using s
  · simp only [List.mem_cons, Option.mem_toList, not_or]
    exact ⟨h.ne, h.go_ne⟩
  · simpa [hcells] using o
  · simp; omega
  · intro i hi
    simp only [RB.own, Value.ownBlock, List.mem_cons, Option.mem_toList, Option.some.injEq] at hi ⊢
    rcases hi with e | e | e
    · exact .inl (.inl e)
    · exact .inl (.inr (.inl e))
    · subst e
      rcases hat with e | e
      · exact .inl (.inr (.inr (by rw [hv]; exact e)))
      · exact .inr (by omega)

set_option maxRecDepth 100000 in
set_option maxHeartbeats 1000000 in
theorem give_new {w : World} {b : RB} {R : RS} (h : RefAt w b R) (t : List Bool) (t0 : t ≠ tab R.n (fun _ => false)) (t1 : t ≠ tab R.n (fun _ => true)) (hq : R.hs.find? (fun p => decide (p.2 = t)) = none) (hl : R.hs.length < 100) (x0 : 0 ≤ R.last) (x1 : R.last < 9223372036854775807) :
    Calls Tryz.prog 169 #[.pointer (some ⟨b.r, 0, none⟩), .string (bts t)] w fun e w' => ∃ b', e = .returned (.tuple #[.int .i64 (R.last + 1), .int .i64 0]) ∧ RefAt w' b' { R with hs := R.hs ++ [(R.last + 1, t)], last := R.last + 1 } ∧ b.to b' w ∧ Keeps b.own w w' := by
  obtain ⟨i0, hi0, hz0, hz1, hz2⟩ := info_parts info262
  have hc := hide (constant_calls false h.head (by rfl) rfl h.n8)
  have hd := hide (fun (w' : World) (k : Keeps [] w w') => constant_calls true (h.head.keeps k (by simp)) (by rfl) rfl h.n8)
  have hb := h.head.lt
  have e1 := bts_beq t (tab R.n fun _ => false)
  rw [decide_eq_false t0] at e1
  have e2 := bts_beq t (tab R.n fun _ => true)
  rw [decide_eq_false t1] at e2
  have hmax := h.few
  obtain ⟨av, cv, hv⟩ := own_len h.hs
  have Hq := hide hq
  clear hq
  go_enter Tryz.func169, Tryz.ntmps169
  go_wp2_with fail
  refine hc.out.mono ?_
  rintro e w' ⟨rfl, k⟩
  go_wp2_with fail
  refine (hd.out _ k).mono ?_
  rintro e w2 ⟨rfl, k2⟩
  have kk := k.trans k2
  clear hc hd k k2
  go_wp2_with fail
  go_loopw [6] (fun y wr => ∃ i : Nat, y = .int .i64 i ∧ i ≤ R.hs.length ∧ (R.hs.drop i).find? (fun p => decide (p.2 = t)) = none ∧ Keeps [] w wr) (fun y _ => ((R.hs.length : Int) - intOf y).toNat)
  case atStart => exact ⟨0, rfl, by omega, Hq.out, kk⟩
  case round =>
    obtain ⟨i, rfl, hi, hg, kr⟩ := hrel
    have hr := h.keeps0 kr
    have c3 := hr.head.cell 3
    simp at c3
    rw [hv] at c3
    by_cases hil : i < R.hs.length
    case neg =>
      have hiI : ¬ (i : Int) < R.hs.length := by omega
      have hge : ¬ 100 ≤ (R.hs.length : Int) := by omega
      have c4 := hr.head.cell 4
      have f4 := hr.head.frozen 4
      simp at c4
      have hbr := hr.head.lt
      have s1 := hr.head.setCell 4 (.int .i64 (R.last + 1))
      have k1 := Keeps.setCell wr ⟨b.r, 4, none⟩ (.int .i64 (R.last + 1))
      have h1 := ownsRow_kept hr.hs k1 (fun j hj x => by have := (own_base hr.hs j hj).1; simp at x; omega)
      have hz : (wr.setCell ⟨b.r, 4, none⟩ (.int .i64 (R.last + 1))).heap.size = wr.heap.size := by simp
      have s1' : CellsAt (wr.setCell ⟨b.r, 4, none⟩ (.int .i64 (R.last + 1))) b.r #[.int .i64 R.n, .int .i64 ((2 ^ R.n : Nat) : Int), .slice (some ⟨b.go, 0, none⟩) R.n b.co, .slice av R.hs.length cv, .int .i64 (R.last + 1)] := by
        rw [hv] at s1
        simpa using s1
      have kw := (kr.mono (T' := [b.r]) (by simp)).trans k1
      have Hz := hide hz
      clear hz s1
      go_wp2_with fail
      generalize wr.setCell ⟨b.r, 4, none⟩ (.int .i64 (R.last + 1)) = W at s1' h1 k1 kw Hz ⊢
      rw [hv] at h1
      have hbW := s1'.lt
      have ag : (Value.slice av R.hs.length cv).ownBlock ≠ some b.r := fun e => by have := (own_base h1 _ e).1; omega
      have fcts : ∀ {w' : World} {v : Value}, CellsAt w' b.r #[.int .i64 R.n, .int .i64 ((2 ^ R.n : Nat) : Int), .slice (some ⟨b.go, 0, none⟩) R.n b.co, v, .int .i64 (R.last + 1)] → (w'.cell? ⟨b.r, 3, none⟩ = some v ∧ w'.cell? ⟨b.r, 4, none⟩ = some (.int .i64 (R.last + 1))) := fun hh => ⟨hh.cell 3, hh.cell 4⟩
      have g1 := fcts s1'
      have g2 := fcts (s1'.keeps (Keeps.drew [] W) (by simp))
      have sA := (s1'.keeps (Keeps.alloc [] W (.cells #[.int .i64 (R.last + 1), .string (bts t)] 262)) (by simp)).keeps (Keeps.drew [] _) (by simp)
      have g3 := fcts sA
      have news := World.news_of_block (w := (W.alloc (.cells #[.int .i64 (R.last + 1), .string (bts t)] 262)).drew) (cs := #[.int .i64 (R.last + 1), .string (bts t)]) (t := 262) (fr := (0, 0)) (heap_alloc_new W _)
      obtain ⟨g1a, g1b⟩ := g1
      obtain ⟨g2a, g2b⟩ := g2
      obtain ⟨g3a, g3b⟩ := g3
      go_region_law
        ((refine step_append_lies _ (by rfl) _ _ _ (by rfl) (b.r + 1) 262 i0 _ 2 24 Tryz.underlying170 hi0 hz0 hz1 hz2 rfl (by omega) (.slice av R.hs.length cv) R.hs.length (hcells R.hs) (by rfl) ((h1.alloc _).drew)
            ⟨W.heap.size, 0, none⟩ 1 1 [.int .i64 (R.last + 1), .string (bts t)] (by rfl) (by rfl) news (by simp [Value.oneCell'])
            (by omega) (by unfold maxLen; omega) (by omega) (by simp; omega) (W.heap.size + 1) (by simp) ?_
          intro gg cap w1 hown1 hgrow hat hlt
          have s2 := sA.keeps (grownBy_keeps' hgrow (Value.slice av R.hs.length cv).ownBlock.toList (fun r e => .inl (by simp [e]))) (by simp [ag])
          have s3 := s2.setCell 3 (.slice (some ⟨gg, 0, none⟩) (R.hs.length + 1) cap)
          have g4 := (fcts s2).2
          have g4a := (fcts s2).1
          have g5 : (w1.setCell ⟨b.r, 3, none⟩ (.slice (some ⟨gg, 0, none⟩) (R.hs.length + 1) cap)).cell? ⟨b.r, 4, none⟩ = some (.int .i64 (R.last + 1)) := s3.cell 4
          have f4 := s2.frozen 3))
      all_goals
        have e4 := s3.cell 4
        simp at e4
        go_wp2_with fail
        go_ret2
        have kg := grownBy_keeps' hgrow (Value.slice av R.hs.length cv).ownBlock.toList (fun r e => .inl (by simp [e]))
        have kA : Keeps [] W (W.alloc (.cells #[.int .i64 (R.last + 1), .string (bts t)] 262)).drew := (Keeps.alloc [] W _).trans (Keeps.drew [] _)
        have kS := Keeps.setCell w1 ⟨b.r, 3, none⟩ (.slice (some ⟨gg, 0, none⟩) (R.hs.length + 1) cap)
        have o3 := ownsRow_kept hown1 kS (fun j hj => by have := (own_base hown1 j hj).1; simp; omega)
        exact ⟨rfl, ⟨b.r, b.go, b.co, .slice (some ⟨gg, 0, none⟩) (R.hs.length + 1) cap⟩, give_end h hv hl kw kA kg kS (by simpa using s3) rfl o3 (by rw [Hz.out]; exact kr.size) (by simpa using hat)⟩
    have hiI : (i : Int) < R.hs.length := by omega
    obtain ⟨p, hp⟩ : ∃ p, R.hs[i]? = some p := ⟨_, List.getElem?_eq_getElem hil⟩
    obtain ⟨g, c, x1, x2, x3, x4⟩ := hr.entry hp
    rw [hv] at x1
    cases x1
    have hd : R.hs.drop i = p :: R.hs.drop (i + 1) := by
      rw [List.drop_eq_getElem_cons hil]
      congr 1
      have := List.getElem?_eq_getElem hil
      rw [hp] at this
      exact (Option.some.inj this).symm
    rw [hd, List.find?_cons] at hg
    have e3 := bts_beq p.2 t
    by_cases hpf : p.2 = t
    · rw [decide_eq_true hpf] at hg
      cases hg
    · rw [decide_eq_false hpf] at hg e3
      have Hg := hide hg
      clear hg hd hpf
      go_wp2_with fail
      go_roundw
      · exact ⟨i + 1, by simp, by omega, Hg.out, kr⟩
      · simp only [intOf]; omega

set_option maxRecDepth 100000 in
set_option maxHeartbeats 1000000 in
theorem give_full {w : World} {b : RB} {R : RS} (h : RefAt w b R) (t : List Bool) (t0 : t ≠ tab R.n (fun _ => false)) (t1 : t ≠ tab R.n (fun _ => true)) (hq : R.hs.find? (fun p => decide (p.2 = t)) = none) (hl : 100 ≤ R.hs.length) :
    Calls Tryz.prog 169 #[.pointer (some ⟨b.r, 0, none⟩), .string (bts t)] w fun e w' => e = .returned (.tuple #[.int .i64 0, .int .i64 3]) ∧ Keeps [] w w' := by
  have hc := hide (constant_calls false h.head (by rfl) rfl h.n8)
  have hd := hide (fun (w' : World) (k : Keeps [] w w') => constant_calls true (h.head.keeps k (by simp)) (by rfl) rfl h.n8)
  have hb := h.head.lt
  have e1 := bts_beq t (tab R.n fun _ => false)
  rw [decide_eq_false t0] at e1
  have e2 := bts_beq t (tab R.n fun _ => true)
  rw [decide_eq_false t1] at e2
  have hmax := h.few
  obtain ⟨av, cv, hv⟩ := own_len h.hs
  have Hq := hide hq
  clear hq
  go_enter Tryz.func169, Tryz.ntmps169
  go_wp2_with fail
  refine hc.out.mono ?_
  rintro e w' ⟨rfl, k⟩
  go_wp2_with fail
  refine (hd.out _ k).mono ?_
  rintro e w2 ⟨rfl, k2⟩
  have kk := k.trans k2
  clear hc hd k k2
  go_wp2_with fail
  go_loopw [6] (fun y wr => ∃ i : Nat, y = .int .i64 i ∧ i ≤ R.hs.length ∧ (R.hs.drop i).find? (fun p => decide (p.2 = t)) = none ∧ Keeps [] w wr) (fun y _ => ((R.hs.length : Int) - intOf y).toNat)
  case atStart => exact ⟨0, rfl, by omega, Hq.out, kk⟩
  case round =>
    obtain ⟨i, rfl, hi, hg, kr⟩ := hrel
    have hr := h.keeps0 kr
    have c3 := hr.head.cell 3
    simp at c3
    rw [hv] at c3
    by_cases hil : i < R.hs.length
    case neg =>
      have hiI : ¬ (i : Int) < R.hs.length := by omega
      have hge : 100 ≤ (R.hs.length : Int) := by omega
      go_wp2_with fail
      go_ret2
      exact ⟨rfl, kr⟩
    have hiI : (i : Int) < R.hs.length := by omega
    obtain ⟨p, hp⟩ : ∃ p, R.hs[i]? = some p := ⟨_, List.getElem?_eq_getElem hil⟩
    obtain ⟨g, c, x1, x2, x3, x4⟩ := hr.entry hp
    rw [hv] at x1
    cases x1
    have hd : R.hs.drop i = p :: R.hs.drop (i + 1) := by
      rw [List.drop_eq_getElem_cons hil]
      congr 1
      have := List.getElem?_eq_getElem hil
      rw [hp] at this
      exact (Option.some.inj this).symm
    rw [hd, List.find?_cons] at hg
    have e3 := bts_beq p.2 t
    by_cases hpf : p.2 = t
    · rw [decide_eq_true hpf] at hg
      cases hg
    · rw [decide_eq_false hpf] at hg e3
      have Hg := hide hg
      clear hg hd hpf
      go_wp2_with fail
      go_roundw
      · exact ⟨i + 1, by simp, by omega, Hg.out, kr⟩
      · simp only [intOf]; omega

theorem give_calls {w : World} {b : RB} {R : RS} (h : RefAt w b R) (t : List Bool) (x0 : 0 ≤ R.last) (x1 : R.last < 9223372036854775807) :
    Calls Tryz.prog 169 #[.pointer (some ⟨b.r, 0, none⟩), .string (bts t)] w fun e w' => ∃ b', e = .returned (.tuple #[.int .i64 (R.give t).1, .int .i64 (R.give t).2.1]) ∧ RefAt w' b' (R.give t).2.2 ∧ b.to b' w ∧ Keeps b.own w w' := by
  unfold RS.give
  by_cases t0 : t = tab R.n (fun _ => false)
  · subst t0
    rw [if_pos rfl]
    exact (give_zero h).mono fun e w' ⟨a, k⟩ => ⟨b, a, h.keeps0 k, b.to_refl w, k.mono (by simp)⟩
  rw [if_neg t0]
  by_cases t1 : t = tab R.n (fun _ => true)
  · subst t1
    rw [if_pos rfl]
    exact (give_one h).mono fun e w' ⟨a, k⟩ => ⟨b, a, h.keeps0 k, b.to_refl w, k.mono (by simp)⟩
  rw [if_neg t1]
  cases hq : R.hs.find? (fun p => decide (p.2 = t)) with
  | some p => exact (give_found h t t0 t1 p hq).mono fun e w' ⟨a, k⟩ => ⟨b, a, h.keeps0 k, b.to_refl w, k.mono (by simp)⟩
  | none =>
    by_cases hl : 100 ≤ R.hs.length
    · simp only [if_pos hl]
      exact (give_full h t t0 t1 hq hl).mono fun e w' ⟨a, k⟩ => ⟨b, a, h.keeps0 k, b.to_refl w, k.mono (by simp)⟩
    · simp only [if_neg hl]
      exact give_new h t t0 t1 hq (by omega) x0 x1

end Go.Proofs.YtgjomknpjigkhaaGreatDoor
