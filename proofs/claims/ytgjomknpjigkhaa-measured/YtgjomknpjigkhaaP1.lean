/- P1. -/
import Derived.Test.YtgjomknpjigkhaaSh
import Derived.Test.YtgjomknpjigkhaaSf
namespace Go.Proofs.Ytgjomknpjigkhaa
open Go.RowKit Go.Shelf

theorem Run.begin {w w' : World} {m : MB} {M : ML} (hM : MillAt w' m M (KS.new M.n)) (I : MI M (KS.new M.n)) (n5 : M.n ≤ 5) (low : w.heap.size ≤ m.mb) (own : ∀ i ∈ m.b.own, w.heap.size ≤ i) : Run w.heap.size w' 0 m M (KS.new M.n) :=
  ⟨hM, I, n5, low, own, by show (ST.new M.n).next ≤ _; exact Int.le_refl _, Int.le_refl _⟩

theorem cell_lt {w : World} {a : Addr} {v : Value} (h : w.cell? a = some v) : a.block < w.heap.size := by
  unfold World.cell? at h
  apply Classical.byContradiction
  intro hc
  rw [Array.getElem?_eq_none (by omega)] at h
  simp at h

set_option maxRecDepth 100000 in
set_option maxHeartbeats 2000000 in
theorem pointwise_calls {w : World} (raw : Int) (hraw : Fits raw) (v : Value) (n : Nat) (hs : Script w v n) :
    Calls Try.prog 3 #[.int .i64 raw, v] w fun e w' => e = .returned (.bool true) ∧ Below w.heap.size w w' := by
  have hop := hide (opened_calls (w := w) raw hraw.1 hraw.2)
  have hpn : ∀ (w : World) (a : Addr), (binOp .eql 23 (.pointer (some a)) (.pointer none)).run Try.prog w = .ok (.bool false) w := fun w a => by kernel_rfl
  have hfew := hs.few
  rcases hs.row with ⟨rfl, rfl⟩ | ⟨a, cap, rfl, hcells⟩
  · go_enter Try.func3, Try.ntmps3
    go_wp2_with fail
    refine hop.out.mono ?_
    rintro e W0 ⟨m, M, rfl, hM, I, n1, n5, low, own, k0⟩
    have r0 := Run.begin hM I n5 low own
    have ht := hide (true1_calls hM I n5 (by have := (r0.ready (n := 1) (by omega) (by omega)).next; omega))
    go_wp2_with fail
    go_loopw [6] (fun x wr => x = .int .i64 0 ∧ wr = W0) (fun _ _ => 0)
    case atStart => exact ⟨rfl, rfl⟩
    case round =>
      obtain ⟨rfl, rfl⟩ := hrel
      go_wp2_with fail
      refine ht.out.mono ?_
      rintro e W1 ⟨rfl, hM1, k1⟩
      go_wp2_with fail
      go_ret
      exact ⟨rfl, (k0.below (Nat.le_refl _) (by simp)).trans (k1.below k0.size own)⟩
  · have Hcells := hide hcells
    clear hcells
    go_enter Try.func3, Try.ntmps3
    go_wp2_with fail
    refine hop.out.mono ?_
    rintro e W0 ⟨m, M, rfl, hM, I, n1, n5, low, own, k0⟩
    have r0 := Run.begin hM I n5 low own
    have b0 := k0.below (Nat.le_refl _) (by simp)
    obtain ⟨mb, hmb⟩ : ∃ x, x = m.mb := ⟨_, rfl⟩
    have Hmb := hide hmb
    rw [← hmb]
    clear hmb
    go_wp2_with fail
    go_loopw [6] (fun x wr => ∃ (i : Nat) (m' : MB) (M' : ML) (K' : KS), x = .int .i64 i ∧ i ≤ n ∧ m'.mb = mb ∧ Run w.heap.size wr i m' M' K' ∧ Below w.heap.size w wr) (fun x _ => ((n : Int) - intOf x).toNat)
    case atStart => exact ⟨0, m, M, _, rfl, by omega, Hmb.out.symm, r0, b0⟩
    case round =>
      obtain ⟨i, m', M', K', rfl, hi, hmb', rr, br⟩ := hrel
      by_cases hil : i < n
      · have hiI : (i : Int) < n := by omega
        obtain ⟨k, x, y, z, fx, fy, fz, g0, g1, g2, g3⟩ := Hcells.out i hil
        have lt : (a.add (i * 4)).block < w.heap.size := cell_lt g0
        have e0 : wr.cell? (a.add (i * 4)) = some (.int .i64 k) := by rw [br.cell lt]; exact g0
        have e1 : wr.cell? ⟨(a.add (i * 4)).block, (a.add (i * 4)).off + 1, none⟩ = some (.int .i64 x) := by rw [br.cell (p := ⟨(a.add (i * 4)).block, (a.add (i * 4)).off + 1, none⟩) lt]; exact g1
        have e2 : wr.cell? ⟨(a.add (i * 4)).block, (a.add (i * 4)).off + 2, none⟩ = some (.int .i64 y) := by rw [br.cell (p := ⟨(a.add (i * 4)).block, (a.add (i * 4)).off + 2, none⟩) lt]; exact g2
        have e3 : wr.cell? ⟨(a.add (i * 4)).block, (a.add (i * 4)).off + 3, none⟩ = some (.int .i64 z) := by rw [br.cell (p := ⟨(a.add (i * 4)).block, (a.add (i * 4)).off + 3, none⟩) lt]; exact g3
        have hst := step_calls (rr.ready hil hfew) k x y z fx fy fz
        rw [hmb'] at hst
        have Hst := hide hst
        clear g0 g1 g2 g3 hst
        go_wp2_with fail
        refine Hst.out.mono ?_
        rintro e W1 ⟨rfl, m1, M1, K1, st⟩
        go_wp2_with fail
        go_roundw
        · exact ⟨i + 1, m1, M1, K1, by simp, by omega, st.mb.trans hmb', rr.step st, br.trans st.below⟩
        · simp only [intOf]; omega
      · have hiI : ¬ (i : Int) < n := by omega
        have hlim : K'.S.next < lim := by have := rr.next; unfold lim; omega
        have ht := true1_calls rr.mill rr.know rr.n5 hlim
        rw [hmb'] at ht
        have Ht := hide ht
        clear ht
        go_wp2_with fail
        refine Ht.out.mono ?_
        rintro e W1 ⟨rfl, hM1, k1⟩
        go_wp2_with fail
        go_ret
        exact ⟨rfl, br.trans (k1.below br.size rr.own)⟩

end Go.Proofs.Ytgjomknpjigkhaa
