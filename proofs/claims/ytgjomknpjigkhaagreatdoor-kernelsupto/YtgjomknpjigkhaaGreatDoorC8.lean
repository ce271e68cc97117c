/- The law's step: kinds of calls. -/
import Derived.Test.YtgjomknpjigkhaaGreatDoorC7
namespace Go.Proofs.YtgjomknpjigkhaaGreatDoor
open Go.RowKit Go.Shelf

theorem pcells_length (ps : List Pr) : (pcells ps).length = ps.length * 2 := by
  induction ps with
  | nil => rfl
  | cons p l ih => simp only [pcells, List.flatMap_cons, List.length_append, List.length_cons, List.length_nil] at ih ⊢; omega

theorem WA.vk_at {B : Nat} {w : World} {wb : Nat} {vk vi : Value} {ps : List Pr} {es : List (Nat × Nat × Nat)} {N : Nat} (h : WA B w wb vk vi ps es N) (h0 : 0 < ps.length) : ∃ gk ck, vk = .slice (some ⟨gk, 0, none⟩) ps.length ck ∧ ∀ (j : Nat) (p : Pr), ps[j]? = some p → w.cell? ⟨gk, j * 2, none⟩ = some (.pointer (some ⟨p.kb.k, 0, none⟩)) ∧ w.cell? ⟨gk, j * 2 + 1, none⟩ = some (.pointer (some ⟨p.rb.r, 0, none⟩)) := by
  obtain ⟨e0, ⟨e1, e2⟩ | ⟨g, cap, cur, rfl, e2, e3, e4, e5, e6, e7⟩⟩ := id h.ks
  · have := pcells_length ps
    rw [e2] at this
    simp at this
    omega
  · refine ⟨g, cap, rfl, fun j p hj => ?_⟩
    obtain ⟨a, b⟩ := pcells_get hj
    exact ⟨own_cellAt h.ks a, own_cellAt h.ks b⟩

set_option maxRecDepth 100000 in
set_option maxHeartbeats 2000000 in
theorem step_call {B : Nat} {w : World} {wb : Nat} {vk vi : Value} {ps : List Pr} {es : List (Nat × Nat × Nat)} {N : Nat} (h : WA B w wb vk vi ps es N) (hN : N ≤ 10000000) (h0 : 0 < ps.length) (Kd On A B' C : Int) (h2 : 2 ≤ Kd) (h16 : Kd ≤ 16) (o0 : -9223372036854775808 ≤ On) (o1 : On ≤ 9223372036854775807) (S : ByteArray) {vL : Value} (hL : LS B wb w vL) :
    Calls Tryz.prog 33 #[.pointer (some ⟨wb, 0, none⟩), opV Kd On A B' C S vL] w (StepsTo B w wb ps.length N) := by
  obtain ⟨gk, ck, hvk, hcells⟩ := h.vk_at h0
  obtain ⟨a1, n1, c1, hvL⟩ := hL.form
  have hpr := pk_range On (n := (ps.length : Int)) (by omega)
  obtain ⟨j, hj⟩ : ∃ j : Nat, pk On ps.length = j := ⟨(pk On ps.length).toNat, by omega⟩
  have hjl : j < ps.length := by omega
  obtain ⟨p, hp⟩ : ∃ p, ps[j]? = some p := ⟨_, List.getElem?_eq_some_iff.2 ⟨hjl, rfl⟩⟩
  obtain ⟨c0, c0'⟩ := hcells j p hp
  clear hcells
  have hans := hide (fun (W : World) (k0 : Keeps [] w W) (h7 : Kd ≤ 7) => h.answered hN hp k0 Kd On A B' C h2 h7 S hL)
  have htold := hide (fun (W : World) (k0 : Keeps [] w W) (h8 : 8 ≤ Kd) => h.told hN hp k0 Kd On A B' C h8 h16 S hL)
  have hW := h.mw.cells
  have hpk := hide (fun (W : World) => pick_calls (w := W) On ps.length o0 o1 (by omega))
  rw [hj] at hpk
  unfold opV prV at *
  subst hvL
  rw [hvk] at hW
  obtain ⟨z, hz⟩ : ∃ z, z = w.heap.size := ⟨_, rfl⟩
  have kA := Keeps.alloc [] w (.cells #[.int .i64 Kd, .int .i64 On, .int .i64 A, .int .i64 B', .int .i64 C, .string S, .slice a1 n1 c1] 80)
  have hA := CellsAt.new w #[.int .i64 Kd, .int .i64 On, .int .i64 A, .int .i64 B', .int .i64 C, .string S, .slice a1 n1 c1] 80
  have hW' := hW.keeps kA (by simp)
  have gkl : gk < w.heap.size := by
    rcases Nat.lt_or_ge gk w.heap.size with x | x
    · exact x
    · have : w.heap[gk]? = none := by simp; omega
      simp [World.cell?, this] at c0
  have d0 := (cell_same (kA.block gk gkl (by simp)) (j * 2)).trans c0
  have d1 := (cell_same (kA.block gk gkl (by simp)) (j * 2 + 1)).trans c0'
  have zA := size_alloc' w (.cells #[.int .i64 Kd, .int .i64 On, .int .i64 A, .int .i64 B', .int .i64 C, .string S, .slice a1 n1 c1] 80)
  rw [← hz] at zA gkl
  have b0 := hA.cell 0
  have b1 := hA.cell 1
  have w0 := hW'.cell 0
  simp only [List.getElem?_toArray, List.getElem?_cons_zero, List.getElem?_cons_succ] at b0 b1 w0
  have Hz := hide hz
  have HL := hide hL
  have Hh := hide h
  have Hp := hide hp
  have e1 : (Kd == 1) = false := by simp; omega
  have e21 : (Kd == 21) = false := by simp; omega
  have e22 : (Kd == 22) = false := by simp; omega
  have g1 : (1 : Int) < Kd := by omega
  have lj : (j : Int) < (ps.length : Int) := by omega
  have l0 : (0 : Int) < (ps.length : Int) := by omega
  clear hz hL h hp hpr hj hvk hW c0 c0' h2
  go_enter Tryz.func33, Tryz.ntmps33
  go_wp2_with fail
  generalize w.alloc (.cells #[.int .i64 Kd, .int .i64 On, .int .i64 A, .int .i64 B', .int .i64 C, .string S, .slice a1 n1 c1] 80) = W at kA hA hW' d0 d1 zA b0 b1 w0 ⊢
  rw [← Hz.out] at hA b0 b1 ⊢
  have hX := hide (fun (X : World) (k : Keeps [] W X) => show X.cell? ⟨wb, 0, none⟩ = some (.slice (some ⟨gk, 0, none⟩) ps.length ck) ∧ X.cell? ⟨z, 1, none⟩ = some (.int .i64 On) ∧ X.cell? ⟨gk, j * 2, none⟩ = some (.pointer (some ⟨p.kb.k, 0, none⟩)) ∧ X.cell? ⟨gk, j * 2 + 1, none⟩ = some (.pointer (some ⟨p.rb.r, 0, none⟩)) from
    ⟨(cell_same (k.block wb hW'.lt (by simp)) 0).trans w0, (cell_same (k.block z hA.lt (by simp)) 1).trans b1, (cell_same (k.block gk (by omega) (by simp)) (j * 2)).trans d0, (cell_same (k.block gk (by omega) (by simp)) (j * 2 + 1)).trans d1⟩)
  have Hc := hide (And.intro hA hW')
  clear hA hW'
  go_region_held3 (fun w' => w'.cell? ⟨wb, 0, none⟩ = some (.slice (some ⟨gk, 0, none⟩) ps.length ck) ∧ w'.cell? ⟨z, 1, none⟩ = some (.int .i64 On) ∧ w'.cell? ⟨gk, j * 2, none⟩ = some (.pointer (some ⟨p.kb.k, 0, none⟩)) ∧ w'.cell? ⟨gk, j * 2 + 1, none⟩ = some (.pointer (some ⟨p.rb.r, 0, none⟩))) (first | exact hX.out _ (Keeps.drew [] W) | exact hX.out _ ((Keeps.alloc [] W _).trans (Keeps.drew [] _)) | exact hX.out _ (Keeps.refl [] W))
    (first
      | (go_at_call 59
         refine (hpk.out _).mono ?_
         rintro e W3 ⟨rfl, rfl⟩))
  all_goals
    have kB : Keeps [] W (W.alloc (.cells #[.pointer (some ⟨p.kb.k, 0, none⟩), .pointer (some ⟨p.rb.r, 0, none⟩)] 111)).drew := (Keeps.alloc [] W _).trans (Keeps.drew [] _)
    have hN1 : CellsAt (W.alloc (.cells #[.pointer (some ⟨p.kb.k, 0, none⟩), .pointer (some ⟨p.rb.r, 0, none⟩)] 111)).drew W.heap.size #[.pointer (some ⟨p.kb.k, 0, none⟩), .pointer (some ⟨p.rb.r, 0, none⟩)] := (CellsAt.new W _ _).keeps (Keeps.drew [] _) (by simp)
    have hO1 := Hc.out.1.keeps kB (by simp)
    have kC := kA.trans kB
    generalize (W.alloc (.cells #[.pointer (some ⟨p.kb.k, 0, none⟩), .pointer (some ⟨p.rb.r, 0, none⟩)] 111)).drew = X at *
    have p0 := hN1.cell 0
    have p1 := hN1.cell 1
    have q0 := hO1.cell 0
    have q1 := hO1.cell 1
    have q2 := hO1.cell 2
    have q3 := hO1.cell 3
    have q4 := hO1.cell 4
    have q5 := hO1.cell 5
    have q6 := hO1.cell 6
    simp only [List.getElem?_toArray, List.getElem?_cons_zero, List.getElem?_cons_succ] at p0 p1 q0 q1 q2 q3 q4 q5 q6
    rw [zA] at p0 p1
    clear hN1 hO1 Hc hX d0 d1 w0 b0 b1 kA kB
    by_cases h7 : Kd ≤ 7
    · go_wp2_with fail
      refine (hans.out _ kC h7).mono ?_
      rintro e W3 hst
      obtain ⟨rfl, _⟩ := id hst
      go_wp2_with fail
      go_ret
      exact hst
    · go_wp2_with fail
      refine (htold.out _ kC (by omega)).mono ?_
      rintro e W3 hst
      obtain ⟨rfl, _⟩ := id hst
      go_wp2_with fail
      go_ret
      exact hst

end Go.Proofs.YtgjomknpjigkhaaGreatDoor
