/- Texts: JE. -/
import Derived.Test.YtgjomknpjigkhaaGreatDoorT12
import Derived.Deep.RegionHeld3
namespace Go.Proofs.YtgjomknpjigkhaaGreatDoor
open Go.RowKit

/-- What an INT is held against. -/
structure TermFacts (w : World) (S B gk ck L d : Nat) (z : Int) : Prop where
  p : w.cell? ⟨S, 0, none⟩ = some (.pointer (some ⟨B, 0, none⟩))
  s : w.cell? ⟨B, 2, none⟩ = some (.slice (some ⟨gk, 0, none⟩) L ck)
  n : w.cell? ⟨gk, d, none⟩ = some (.int .i64 z)

theorem mean_size {w : World} {mb B : Nat} {m : Mean} (h : MeanAt w mb B m) {d : Nat} (hd : d < m.doms.length) : ∃ gk ck, gk < w.heap.size ∧ B < w.heap.size ∧ ∀ {W : World}, Keeps [] w W → W.cell? ⟨B, 2, none⟩ = some (.slice (some ⟨gk, 0, none⟩) m.doms.length ck) ∧ W.cell? ⟨gk, d, none⟩ = some (.int .i64 (m.size d)) := by
  obtain ⟨tD, mD, sz, tN, mN, co, cl, ln, cvs, kvs, hV⟩ := h
  obtain ⟨ak, ck, hk⟩ := ownE_len hV.sizes
  subst hk
  obtain ⟨gk, hgk⟩ := ownE_pos2 hV.sizes (by omega)
  subst hgk
  refine ⟨gk, ck, (ownE_lt hV.sizes gk rfl).2, hV.cells.lt, fun k => ⟨by rw [(hV.cells.keeps k (by simp)).cell]; rfl, ownE_cell (ownsRow_kept hV.sizes k (by simp)) ?_⟩⟩
  obtain ⟨q, hq⟩ : ∃ q, m.doms[d]? = some q := ⟨_, List.getElem?_eq_getElem hd⟩
  simp [intsV, hq, Mean.size]

set_option maxRecDepth 100000 in
set_option maxHeartbeats 8000000 in
theorem term_int_ok {w : World} {base S B mb : Nat} {sc : Scope} {m : Mean} (hm : MeanAt w mb B m) (h : ScopeAt w base S B sc) (t : Tn) {s : ByteArray} (hg : t.g = .int s) (hw : WfG t.g) (d : Nat) (hd : d < m.doms.length) (hlt : ¬ m.size d ≤ numOf t.g) : Calls Tryz.prog 340 #[.pointer (some ⟨S, 0, none⟩), tokV t, .int .i64 (d : Int)] w fun e w' => e = .returned (.agg #[.bool false, .int .i64 (numOf t.g)]) ∧ Keeps [] w w' := by
  have hkind : ((kindOf t.g).toList == [86, 65, 82]) = false := by rw [hg]; show (strInt.toList == [86, 65, 82]) = false; rw [toList_beq]; decide
  have hval := hide (fun (w : World) => value_calls (w := w) t s hg hw)
  have hno := hide (fun (w : World) => refuse_no (w := w) t 9)
  have kA := Keeps.alloc [] w (.cells #[.string (kindOf t.g), .string (txt t.g), .int .i64 t.line] 129)
  have kB := Keeps.alloc [] (w.alloc (.cells #[.string (kindOf t.g), .string (txt t.g), .int .i64 t.line] 129)) (.cells #[.bool false, .int .i64 0] 220)
  have hT := (CellsAt.new w #[.string (kindOf t.g), .string (txt t.g), .int .i64 t.line] 129).keeps kB (by simp)
  have hR := CellsAt.new (w.alloc (.cells #[.string (kindOf t.g), .string (txt t.g), .int .i64 t.line] 129)) #[.bool false, .int .i64 0] 220
  rw [sizeE_alloc] at hR
  obtain ⟨gk, ck, hgl, hBl, hsz⟩ := mean_size hm hd
  obtain ⟨tV, mV, kd, hV⟩ := h
  have hSl := hV.cells.lt
  have hS0 : ∀ {W : World}, Keeps [] w W → W.cell? ⟨S, 0, none⟩ = some (.pointer (some ⟨B, 0, none⟩)) := fun k => by rw [(hV.cells.keeps k (by simp)).cell]; rfl
  have hge : decide (m.size d ≤ numOf t.g) = false := decide_eq_false hlt
  have hdI : (d : Int) < m.doms.length := by omega
  have kAB := kA.trans kB
  have H1 : Hid (∀ {W : World}, Keeps [] w W → CellsAt W w.heap.size #[.string (kindOf t.g), .string (txt t.g), .int .i64 t.line] → (W.cell? ⟨S, 0, none⟩ = some (.pointer (some ⟨B, 0, none⟩)) ∧ W.cell? ⟨B, 2, none⟩ = some (.slice (some ⟨gk, 0, none⟩) m.doms.length ck) ∧ W.cell? ⟨gk, d, none⟩ = some (.int .i64 (m.size d)) ∧ W.cell? ⟨w.heap.size, 0, none⟩ = some (.string (kindOf t.g)) ∧ W.cell? ⟨w.heap.size, 1, none⟩ = some (.string (txt t.g)) ∧ W.cell? ⟨w.heap.size, 2, none⟩ = some (.int .i64 t.line))) := fun k hc => ⟨hS0 k, (hsz k).1, (hsz k).2, hc.cell 0, hc.cell 1, hc.cell 2⟩
  clear hV hS0 hsz hlt hg hw hm kA kB
  generalize hWW : (w.alloc (.cells #[.string (kindOf t.g), .string (txt t.g), .int .i64 t.line] 129)).alloc (.cells #[.bool false, .int .i64 0] 220) = W at *
  have hT2 := hT.keeps (Keeps.drew [] W) (by simp)
  have k2 := kAB.trans (Keeps.drew [] W)
  have F1 := H1.out k2 hT2
  have hT3 := hT2.keeps (Keeps.alloc [] W.drew (.cells #[.string (kindOf t.g), .string (txt t.g), .int .i64 t.line] 129)) (by simp)
  have k3 := k2.trans (Keeps.alloc [] W.drew (.cells #[.string (kindOf t.g), .string (txt t.g), .int .i64 t.line] 129))
  have F2 := H1.out k3 hT3
  have hT4 := hT3.keeps (Keeps.alloc [] _ (.cells #[.string (kindOf t.g), .string (txt t.g), .int .i64 t.line] 129)) (by simp)
  have k4 := k3.trans (Keeps.alloc [] _ (.cells #[.string (kindOf t.g), .string (txt t.g), .int .i64 t.line] 129))
  have F3 := H1.out k4 hT4
  subst hWW
  unfold tokV
  go_enter Tryz.func340, Tryz.ntmps340
  go_wp2_with fail
  go_region_held3 (fun w' => w'.cell? ⟨S, 0, none⟩ = some (.pointer (some ⟨B, 0, none⟩)) ∧ w'.cell? ⟨B, 2, none⟩ = some (.slice (some ⟨gk, 0, none⟩) m.doms.length ck) ∧ w'.cell? ⟨gk, d, none⟩ = some (.int .i64 (m.size d)) ∧ w'.cell? ⟨w.heap.size, 0, none⟩ = some (.string (kindOf t.g)) ∧ w'.cell? ⟨w.heap.size, 1, none⟩ = some (.string (txt t.g)) ∧ w'.cell? ⟨w.heap.size, 2, none⟩ = some (.int .i64 t.line)) (first | exact F1 | exact F2 | exact F3) (first
    | (go_at_call 140
       refine (hval.out _).mono ?_
       rintro e w1 ⟨rfl, rfl⟩)
    | (go_at_call 335
       refine (hno.out _).mono ?_
       rintro e w1 ⟨rfl, rfl⟩))
  have hRX : CellsAt ((((w.alloc (.cells #[.string (kindOf t.g), .string (txt t.g), .int .i64 t.line] 129)).alloc (.cells #[.bool false, .int .i64 0] 220)).alloc (.cells #[.string (kindOf t.g), .string (txt t.g), .int .i64 t.line] 129)).alloc (.cells #[.string (kindOf t.g), .string (txt t.g), .int .i64 t.line] 129)).drew (w.heap.size + 1) #[.bool false, .int .i64 0] := ((hR.keeps (Keeps.alloc [] _ (.cells #[.string (kindOf t.g), .string (txt t.g), .int .i64 t.line] 129)) (by simp)).keeps (Keeps.alloc [] _ (.cells #[.string (kindOf t.g), .string (txt t.g), .int .i64 t.line] 129)) (by simp)).keeps (Keeps.drew [] _) (by simp)
  have hTX : CellsAt ((((w.alloc (.cells #[.string (kindOf t.g), .string (txt t.g), .int .i64 t.line] 129)).alloc (.cells #[.bool false, .int .i64 0] 220)).alloc (.cells #[.string (kindOf t.g), .string (txt t.g), .int .i64 t.line] 129)).alloc (.cells #[.string (kindOf t.g), .string (txt t.g), .int .i64 t.line] 129)).drew w.heap.size #[.string (kindOf t.g), .string (txt t.g), .int .i64 t.line] := ((hT.keeps (Keeps.alloc [] _ (.cells #[.string (kindOf t.g), .string (txt t.g), .int .i64 t.line] 129)) (by simp)).keeps (Keeps.alloc [] _ (.cells #[.string (kindOf t.g), .string (txt t.g), .int .i64 t.line] 129)) (by simp)).keeps (Keeps.drew [] _) (by simp)
  have kX : Keeps [] w ((((w.alloc (.cells #[.string (kindOf t.g), .string (txt t.g), .int .i64 t.line] 129)).alloc (.cells #[.bool false, .int .i64 0] 220)).alloc (.cells #[.string (kindOf t.g), .string (txt t.g), .int .i64 t.line] 129)).alloc (.cells #[.string (kindOf t.g), .string (txt t.g), .int .i64 t.line] 129)).drew := ((kAB.trans (Keeps.alloc [] _ (.cells #[.string (kindOf t.g), .string (txt t.g), .int .i64 t.line] 129))).trans (Keeps.alloc [] _ (.cells #[.string (kindOf t.g), .string (txt t.g), .int .i64 t.line] 129))).trans (Keeps.drew [] _)
  clear F1 F2 F3 hT2 hT3 hT4 k2 k3 k4 H1 hR hT kAB
  generalize ((((w.alloc (.cells #[.string (kindOf t.g), .string (txt t.g), .int .i64 t.line] 129)).alloc (.cells #[.bool false, .int .i64 0] 220)).alloc (.cells #[.string (kindOf t.g), .string (txt t.g), .int .i64 t.line] 129)).alloc (.cells #[.string (kindOf t.g), .string (txt t.g), .int .i64 t.line] 129)).drew = Y at *
  have d0 := hTX.cell 0
  have d1 := hTX.cell 1
  have d2 := hTX.cell 2
  go_wp2_with fail
  refine (hval.out _).mono ?_
  rintro e w5 ⟨rfl, rfl⟩
  have hR5 := hRX.keeps (Keeps.alloc [] Y (.cells #[.string (kindOf t.g), .string (txt t.g), .int .i64 t.line] 129)) (by simp)
  have k5 := kX.trans (Keeps.alloc [] Y (.cells #[.string (kindOf t.g), .string (txt t.g), .int .i64 t.line] 129))
  generalize Y.alloc (.cells #[.string (kindOf t.g), .string (txt t.g), .int .i64 t.line] 129) = Z at *
  obtain ⟨c0, f0, c1, f1, hat, hk⟩ := res2 hR5 (.bool false) (.int .i64 (numOf t.g))
  have Hat := hide hat
  have Hk := hide hk
  clear hat hk hR5 hRX hTX d0 d1 d2
  go_wp2_with fail
  exact bodyPost_ret (v := .agg #[.bool false, .int .i64 (numOf t.g)]) (ret_cell (p := 6) (ty := 220) (by kernel_rfl) _ Hat.out Tryz.underlying220 size220 rfl) rfl ⟨rfl, k5.trans_new Hk.out (by simp)⟩

set_option maxRecDepth 100000 in
set_option maxHeartbeats 8000000 in
theorem term_int_bad {w : World} {base S B mb : Nat} {sc : Scope} {m : Mean} (hm : MeanAt w mb B m) (h : ScopeAt w base S B sc) (t : Tn) {s : ByteArray} (hg : t.g = .int s) (hw : WfG t.g) (d : Nat) (hd : d < m.doms.length) (hlt : m.size d ≤ numOf t.g) : Calls Tryz.prog 340 #[.pointer (some ⟨S, 0, none⟩), tokV t, .int .i64 (d : Int)] w fun e w' => e = gaveUp 9 t.line ∧ Keeps [] w w' := by
  have hkind : ((kindOf t.g).toList == [86, 65, 82]) = false := by rw [hg]; show (strInt.toList == [86, 65, 82]) = false; rw [toList_beq]; decide
  have hval := hide (fun (w : World) => value_calls (w := w) t s hg hw)
  have hyes := hide (fun (w : World) => refuse_yes (w := w) t 9)
  have kA := Keeps.alloc [] w (.cells #[.string (kindOf t.g), .string (txt t.g), .int .i64 t.line] 129)
  have kB := Keeps.alloc [] (w.alloc (.cells #[.string (kindOf t.g), .string (txt t.g), .int .i64 t.line] 129)) (.cells #[.bool false, .int .i64 0] 220)
  obtain ⟨gk, ck, hgl, hBl, hsz⟩ := mean_size hm hd
  obtain ⟨tV, mV, kd, hV⟩ := h
  have hSl := hV.cells.lt
  have hS0 : ∀ {W : World}, Keeps [] w W → W.cell? ⟨S, 0, none⟩ = some (.pointer (some ⟨B, 0, none⟩)) := fun k => by rw [(hV.cells.keeps k (by simp)).cell]; rfl
  have hge : decide (m.size d ≤ numOf t.g) = true := decide_eq_true hlt
  have hdI : (d : Int) < m.doms.length := by omega
  have k2 : Keeps [] w ((w.alloc (.cells #[.string (kindOf t.g), .string (txt t.g), .int .i64 t.line] 129)).alloc (.cells #[.bool false, .int .i64 0] 220)).drew := (kA.trans kB).trans (Keeps.drew [] _)
  have k3 := k2.trans (Keeps.alloc [] _ (.cells #[.string (kindOf t.g), .string (txt t.g), .int .i64 t.line] 129))
  have a1 := hS0 (kA.trans kB)
  obtain ⟨a2, a3⟩ := hsz (kA.trans kB)
  have b1 := hS0 ((kA.trans kB).trans (Keeps.alloc [] _ (.cells #[.string (kindOf t.g), .string (txt t.g), .int .i64 t.line] 129)))
  obtain ⟨b2, b3⟩ := hsz ((kA.trans kB).trans (Keeps.alloc [] _ (.cells #[.string (kindOf t.g), .string (txt t.g), .int .i64 t.line] 129)))
  clear hV hS0 hsz hlt hg hw hm kA kB
  unfold tokV
  go_enter Tryz.func340, Tryz.ntmps340
  go_wp2_with fail
  go_region_law (first
    | (refine step_callA rfl 140 _ _ rfl _ Tryz.func140 (by kernel_rfl) (by kernel_rfl) [tokV t] rfl ?_
       refine (hval.out _).mono ?_
       rintro e w1 ⟨rfl, rfl⟩)
    | (refine step_dies rfl 335 _ _ rfl _ Tryz.func335 (by kernel_rfl) (by kernel_rfl) [tokV t, .bool true, .int .i64 9] rfl ?_ ?_
       · refine (hyes.out _).mono ?_
         rintro e w1 ⟨rfl, rfl⟩
         exact ⟨rfl, rfl, k3.trans (Keeps.alloc [] _ _)⟩
       intro hf))
  all_goals exact (hf.out).elim

end Go.Proofs.YtgjomknpjigkhaaGreatDoor
