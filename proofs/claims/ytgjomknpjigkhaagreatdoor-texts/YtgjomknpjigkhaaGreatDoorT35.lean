/- Texts: PB PC PD PS PF PG PH PI PJ PK PT PV. -/
import Derived.Test.YtgjomknpjigkhaaGreatDoorT33
import Derived.Test.YtgjomknpjigkhaaGreatDoorT28
import Derived.Laws.StructEq
import Derived.Test.YtgjomknpjigkhaaGreatDoorT34
import Derived.WalkKit
import Derived.ProofKit
import Derived.OpenShut
import Derived.Deep.DeepHandedRow
import Derived.Lib.LaidTab
import Derived.WideKeyArgs
import Derived.Deep.Slices
import Derived.Test.YtgjomknpjigkhaaGreatDoorCards
import Derived.Test.YtgjomknpjigkhaaGreatDoorTie
import Derived.SizedLaws
import Derived.Test.YtgjomknpjigkhaaGreatDoorT01
namespace Go.Proofs.YtgjomknpjigkhaaGreatDoor
open Go.RowKit

set_option maxRecDepth 100000 in
set_option maxHeartbeats 8000000 in
theorem rread_sense {w : World} (s : ByteArray) (h : ¬ 1200 < s.size) {ts : List Tn} {m : Nat} (hT : scanT s.size s 1 = .inl (ts, m)) {is : List ItemI} (hG : itemsG (withEnd ts m).length (withEnd ts m) = .ok is) (hsn : SensOk (withEnd ts m) is) {f : Flt} (hS : senseS emptyM is = .error f) : Calls Tryz.prog 159 #[.string s] w fun e w' => RdTo w.heap.size (.error f) e w' ∧ Keeps [] w w' := by
  have htk := hide (tokens_calls (w := w.alloc (.cells #[.int .i64 0, .int .i64 0] 28)) s (by omega))
  rw [hT] at htk
  have Hfm := hide (fun (W : World) (b : Nat) (v : Value) (hv : W.ownsRow b 245 4 v (ts.length + 1) (rtCs (withEnd ts m))) => tok_form h hT hv)
  rw [hG] at Hfm
  have hwl : (withEnd ts m).length = ts.length + 1 := by simp [withEnd]
  have Hsn := hide hsn
  have kA := Keeps.alloc [] w (.cells #[.int .i64 0, .int .i64 0] 28)
  have hF := CellsAt.new w #[.int .i64 0, .int .i64 0] 28
  obtain ⟨fs, hfs⟩ := und28
  have hI : ¬ (1200 : Int) < s.size := by omega
  have hf0 := senseS_code hS
  have hb : ((f.1 : Int) == 0) = false := by rw [beq_eq_false_iff_ne]; omega
  have hb2 : ((f.1 : Int) != 0) = true := by rw [bne, hb]; rfl
  clear hT hG hsn
  go_enter Tryz.func159, Tryz.ntmps159
  go_wp2_with fail
  refine htk.out.mono ?_
  rintro e w1 ⟨⟨v, rfl, hv⟩, k1⟩
  obtain ⟨g, c, rfl, hfm⟩ := Hfm.out w1 _ v hv
  have hfm := hide hfm
  have Hv := hide hv
  clear hv
  go_wp2_with fail
  refine hfm.out.mono ?_
  rintro e w2 ⟨rfl, k2⟩
  have k3 := Keeps.alloc [] w2 (.cells #[.slice none 0 0, .slice none 0 0, .slice none 0 0, .slice (some ⟨g, 0, none⟩) (ts.length + 1) c, .int .i64 0, .int .i64 0] 243)
  have hP3 := CellsAt.new w2 #[.slice none 0 0, .slice none 0 0, .slice none 0 0, .slice (some ⟨g, 0, none⟩) (ts.length + 1) c, .int .i64 0, .int .i64 0] 243
  have hcall := Hsn.out _ w2.heap.size _ (.slice (some ⟨g, 0, none⟩) (ts.length + 1) c) hP3 (sizeE_alloc _ _) (by rw [hwl]; exact ownsRow_kept Hv.out (k2.trans k3) (by simp))
  rw [hS] at hcall
  have hcall := hide hcall
  have hz1 := k1.size
  have hz2 := k2.size
  rw [sizeE_alloc] at hz1
  clear hP3 Hv hfm Hfm htk Hsn hS
  simp only [formLine]
  go_wp2_with fail
  refine hcall.out.mono ?_
  rintro e w4 ⟨rfl, ⟨a, b, cc, hC⟩, k4⟩
  have kF := (k1.trans k2).trans k3
  have p4 := hC.cell 4
  have p5 := hC.cell 5
  have hPl := hC.lt
  have hF4 := (hF.keeps kF (by simp)).keeps k4 (by simp; omega)
  obtain ⟨c0, f0, c1, f1, hat, hk⟩ := res2 hF4 (.int .i64 f.1) (.int .i64 f.2)
  have Hat := hide (hat.keeps (Keeps.drew [] _) (by simp))
  have HK := hide ((((kA.trans kF).trans_new k4 (by simp; omega)).trans_new hk (by simp)).trans (Keeps.drew [] _))
  clear hat hk hF4 hF kA kF k1 k2 k3 k4 hC
  go_wp2_with fail
  go_region_law (fail)
  all_goals
    go_wp2_with fail
    exact bodyPost_ret (ret_two (t := 2) (p := 3) (ty := 28) (by kernel_rfl) _ Hat.out hfs size28 rfl) rfl ⟨rfl, HK.out⟩

end Go.Proofs.YtgjomknpjigkhaaGreatDoor

namespace Go.Proofs.YtgjomknpjigkhaaGreatDoor
open Go.RowKit

theorem later_facts {s : ByteArray} {ts : List Tn} {m : Nat} (hT : scanT s.size s 1 = .inl (ts, m)) {is : List ItemI} (hG : itemsG (withEnd ts m).length (withEnd ts m) = .ok is) {me : Mean} (hS : senseS emptyM is = .ok me) (h : ¬ 1200 < s.size) : MatchCs (clausesI is) me.clauses ∧ MeanOk me ∧ ∀ q ∈ clausesI is, q.1.terms ≠ [] ∧ q.1.terms.length ≤ 2000 ∧ q.2.length ≤ 2000 ∧ ∀ l ∈ q.2, l.atom.terms ≠ [] ∧ l.atom.terms.length ≤ 2000 := by
  have hend := scanT_ended hT
  have hwl : (withEnd ts m).length = ts.length + 1 := by simp [withEnd]
  have hlen := (scanT_len hT).1
  have hmc := senseS_match (m := emptyM) (cs := []) trivial hS
  rw [List.nil_append] at hmc
  refine ⟨hmc, senseS_ok MeanOk.empty hS, fun q hq => ?_⟩
  have hat : ItemsAt (withEnd ts m) 0 is := items_pos (i := 0) (k := (withEnd ts m).length) (by rw [List.drop_zero]; exact Nat.le_refl _) (by rw [List.drop_zero]; exact hend) (by rw [List.drop_zero]; exact hG)
  obtain ⟨n1, n2⟩ := hat.ne q hq
  have hin := (items_in (Nat.le_refl _) hend hG).1 _ (clausesI_mem hq)
  obtain ⟨i1, i2, i3⟩ := hin
  exact ⟨n1, by have := i1.2.2.2; omega, by omega, fun l hl => ⟨n2 l hl, by have := (i2 l hl).2.2.2; omega⟩⟩

set_option maxRecDepth 100000 in
set_option maxHeartbeats 8000000 in
theorem rread_unsafe {w : World} (s : ByteArray) (h : ¬ 1200 < s.size) {ts : List Tn} {m : Nat} (hT : scanT s.size s 1 = .inl (ts, m)) {is : List ItemI} (hG : itemsG (withEnd ts m).length (withEnd ts m) = .ok is) (hsn : SensOk (withEnd ts m) is) {me : Mean} (hS : senseS emptyM is = .ok me) {l : Nat} (hU : firstC unsafeM me.clauses = some l) : Calls Tryz.prog 159 #[.string s] w fun e w' => RdTo w.heap.size (.error (12, l)) e w' ∧ Keeps [] w w' := by
  have htk := hide (tokens_calls (w := w.alloc (.cells #[.int .i64 0, .int .i64 0] 28)) s (by omega))
  rw [hT] at htk
  have Hfm := hide (fun (W : World) (b : Nat) (v : Value) (hv : W.ownsRow b 245 4 v (ts.length + 1) (rtCs (withEnd ts m))) => tok_form h hT hv)
  rw [hG] at Hfm
  have hwl : (withEnd ts m).length = ts.length + 1 := by simp [withEnd]
  have Hsn := hide hsn
  have kA := Keeps.alloc [] w (.cells #[.int .i64 0, .int .i64 0] 28)
  have hF := CellsAt.new w #[.int .i64 0, .int .i64 0] 28
  obtain ⟨fs, hfs⟩ := und28
  have hI : ¬ (1200 : Int) < s.size := by omega
  clear hsn
  obtain ⟨Hm, Hok, Hll⟩ := later_facts hT hG hS h
  clear hT hG
  go_enter Tryz.func159, Tryz.ntmps159
  go_wp2_with fail
  refine htk.out.mono ?_
  rintro e w1 ⟨⟨v, rfl, hv⟩, k1⟩
  obtain ⟨g, c, rfl, hfm⟩ := Hfm.out w1 _ v hv
  have hfm := hide hfm
  have Hv := hide hv
  clear hv
  go_wp2_with fail
  refine hfm.out.mono ?_
  rintro e w2 ⟨rfl, k2⟩
  have k3 := Keeps.alloc [] w2 (.cells #[.slice none 0 0, .slice none 0 0, .slice none 0 0, .slice (some ⟨g, 0, none⟩) (ts.length + 1) c, .int .i64 0, .int .i64 0] 243)
  have hP3 := CellsAt.new w2 #[.slice none 0 0, .slice none 0 0, .slice none 0 0, .slice (some ⟨g, 0, none⟩) (ts.length + 1) c, .int .i64 0, .int .i64 0] 243
  have hcall := Hsn.out _ w2.heap.size _ (.slice (some ⟨g, 0, none⟩) (ts.length + 1) c) hP3 (sizeE_alloc _ _) (by rw [hwl]; exact ownsRow_kept Hv.out (k2.trans k3) (by simp))
  rw [hS] at hcall
  have hcall := hide hcall
  have hz1 := k1.size
  have hz2 := k2.size
  rw [sizeE_alloc] at hz1
  have Hrow := hide Hv.out
  clear hP3 Hv hfm Hfm htk Hsn hS
  simp only [formLine]
  go_wp2_with fail
  refine hcall.out.mono ?_
  rintro e w4 ⟨rfl, ⟨dv, rv, kv, kcs, hRP⟩, k4⟩
  have kF := (k1.trans k2).trans k3
  have hlen := hRP.rcs.len
  have hsafe := safe_calls (f := none) FOk.none (by omega) hRP (by rw [← hlen]; have := Hok.clauses; omega) Hll
  rw [safC_none, ← first_same Hm] at hsafe
  have p4 := hRP.cells.cell 4
  have hPl := hRP.cells.lt
  rw [hU] at hsafe
  have hsafe := hide hsafe
  have hC4 := hide hRP.cells
  clear hRP hcall
  go_wp2_with fail
  refine hsafe.out.mono ?_
  rintro e w5 ⟨rfl, hC, K5⟩
  have p4 := hC.cell 4
  have p5 := hC.cell 5
  have hF6 := ((hF.keeps kF (by simp)).keeps k4 (by simp; omega)).keeps K5 (by simp; omega)
  obtain ⟨c0, f0, c1, f1, hat, hk⟩ := res2 hF6 (.int .i64 12) (.int .i64 l)
  have Hat := hide (hat.keeps (Keeps.drew [] _) (by simp))
  have HK := hide (((((kA.trans kF).trans_new k4 (by simp; omega)).trans_new K5 (by simp; omega)).trans_new hk (by simp)).trans (Keeps.drew [] _))
  have hPl5 := hC.lt
  simp only [Option.map, fC] at p4 p5
  clear hC hC4
  clear hat hk hF6 hF kA kF k1 k2 k3 k4 K5
  go_wp2_with fail
  go_region_law (fail)
  all_goals
    go_wp2_with fail
    exact bodyPost_ret (ret_two (t := 2) (p := 3) (ty := 28) (by kernel_rfl) _ Hat.out hfs size28 rfl) rfl ⟨rfl, HK.out⟩

set_option maxRecDepth 100000 in
set_option maxHeartbeats 8000000 in
theorem rread_circle {w : World} (s : ByteArray) (h : ¬ 1200 < s.size) {ts : List Tn} {m : Nat} (hT : scanT s.size s 1 = .inl (ts, m)) {is : List ItemI} (hG : itemsG (withEnd ts m).length (withEnd ts m) = .ok is) (hsn : SensOk (withEnd ts m) is) {me : Mean} (hS : senseS emptyM is = .ok me) (hU : firstC unsafeM me.clauses = none) {l : Nat} (hV : firstC (circleC me.rels.length (edgesM me.clauses)) me.clauses = some l) : Calls Tryz.prog 159 #[.string s] w fun e w' => RdTo w.heap.size (.error (13, l)) e w' ∧ Keeps [] w w' := by
  have htk := hide (tokens_calls (w := w.alloc (.cells #[.int .i64 0, .int .i64 0] 28)) s (by omega))
  rw [hT] at htk
  have Hfm := hide (fun (W : World) (b : Nat) (v : Value) (hv : W.ownsRow b 245 4 v (ts.length + 1) (rtCs (withEnd ts m))) => tok_form h hT hv)
  rw [hG] at Hfm
  have hwl : (withEnd ts m).length = ts.length + 1 := by simp [withEnd]
  have Hsn := hide hsn
  have kA := Keeps.alloc [] w (.cells #[.int .i64 0, .int .i64 0] 28)
  have hF := CellsAt.new w #[.int .i64 0, .int .i64 0] 28
  obtain ⟨fs, hfs⟩ := und28
  have hI : ¬ (1200 : Int) < s.size := by omega
  clear hsn
  obtain ⟨Hm, Hok, Hll⟩ := later_facts hT hG hS h
  clear hT hG
  go_enter Tryz.func159, Tryz.ntmps159
  go_wp2_with fail
  refine htk.out.mono ?_
  rintro e w1 ⟨⟨v, rfl, hv⟩, k1⟩
  obtain ⟨g, c, rfl, hfm⟩ := Hfm.out w1 _ v hv
  have hfm := hide hfm
  have Hv := hide hv
  clear hv
  go_wp2_with fail
  refine hfm.out.mono ?_
  rintro e w2 ⟨rfl, k2⟩
  have k3 := Keeps.alloc [] w2 (.cells #[.slice none 0 0, .slice none 0 0, .slice none 0 0, .slice (some ⟨g, 0, none⟩) (ts.length + 1) c, .int .i64 0, .int .i64 0] 243)
  have hP3 := CellsAt.new w2 #[.slice none 0 0, .slice none 0 0, .slice none 0 0, .slice (some ⟨g, 0, none⟩) (ts.length + 1) c, .int .i64 0, .int .i64 0] 243
  have hcall := Hsn.out _ w2.heap.size _ (.slice (some ⟨g, 0, none⟩) (ts.length + 1) c) hP3 (sizeE_alloc _ _) (by rw [hwl]; exact ownsRow_kept Hv.out (k2.trans k3) (by simp))
  rw [hS] at hcall
  have hcall := hide hcall
  have hz1 := k1.size
  have hz2 := k2.size
  rw [sizeE_alloc] at hz1
  have Hrow := hide Hv.out
  clear hP3 Hv hfm Hfm htk Hsn hS
  simp only [formLine]
  go_wp2_with fail
  refine hcall.out.mono ?_
  rintro e w4 ⟨rfl, ⟨dv, rv, kv, kcs, hRP⟩, k4⟩
  have kF := (k1.trans k2).trans k3
  have hlen := hRP.rcs.len
  have hsafe := safe_calls (f := none) FOk.none (by omega) hRP (by rw [← hlen]; have := Hok.clauses; omega) Hll
  rw [safC_none, ← first_same Hm] at hsafe
  have p4 := hRP.cells.cell 4
  have hPl := hRP.cells.lt
  rw [hU] at hsafe
  have hsafe := hide hsafe
  have HRP := hide hRP
  clear hRP hcall
  go_wp2_with fail
  refine hsafe.out.mono ?_
  rintro e w5 ⟨rfl, hC, K5⟩
  have hPw : w2.heap.size < w2.heap.size + 1 := by omega
  have hRP5 := HRP.out.keeps hPw K5 hC
  have hlay := layered_calls (f := none) FOk.none hPw hRP5 (by have := Hok.rels; omega) (by rw [← hlen]; have := Hok.clauses; omega) (fun q hq => by have := (Hll q hq).2.2.1; omega) Hok.inR Hm
  rw [layC_none, hV] at hlay
  have hlay := hide hlay
  have p4 := hC.cell 4
  have hPl5 := hC.lt
  simp only [Option.map, fC] at p4
  clear hC HRP hRP5 hsafe
  go_wp2_with fail
  refine hlay.out.mono ?_
  rintro e w6 ⟨rfl, hC6, k6⟩
  have p46 := hC6.cell 4
  have p56 := hC6.cell 5
  have hF6 := (((hF.keeps kF (by simp)).keeps k4 (by simp; omega)).keeps K5 (by simp; omega)).keeps k6 (by simp; omega)
  obtain ⟨c0, f0, c1, f1, hat, hk⟩ := res2 hF6 (.int .i64 13) (.int .i64 l)
  have Hat := hide (hat.keeps (Keeps.drew [] _) (by simp))
  have HK := hide ((((((kA.trans kF).trans_new k4 (by simp; omega)).trans_new K5 (by simp; omega)).trans_new k6 (by simp; omega)).trans_new hk (by simp)).trans (Keeps.drew [] _))
  have hPl6 := hC6.lt
  simp only [Option.map, fC] at p46 p56
  clear hC6 k6 hlay
  clear hat hk hF6 hF kA kF k1 k2 k3 k4 K5
  go_wp2_with fail
  go_region_law (fail)
  all_goals
    go_wp2_with fail
    exact bodyPost_ret (ret_two (t := 2) (p := 3) (ty := 28) (by kernel_rfl) _ Hat.out hfs size28 rfl) rfl ⟨rfl, HK.out⟩

set_option maxRecDepth 100000 in
set_option maxHeartbeats 8000000 in
theorem rread_ok {w : World} (s : ByteArray) (h : ¬ 1200 < s.size) {ts : List Tn} {m : Nat} (hT : scanT s.size s 1 = .inl (ts, m)) {is : List ItemI} (hG : itemsG (withEnd ts m).length (withEnd ts m) = .ok is) (hsn : SensOk (withEnd ts m) is) {me : Mean} (hS : senseS emptyM is = .ok me) (hU : firstC unsafeM me.clauses = none) (hV : firstC (circleC me.rels.length (edgesM me.clauses)) me.clauses = none) : Calls Tryz.prog 159 #[.string s] w fun e w' => RdTo w.heap.size (.ok (withEnd ts m, me)) e w' ∧ Keeps [] w w' := by
  have htk := hide (tokens_calls (w := w.alloc (.cells #[.int .i64 0, .int .i64 0] 28)) s (by omega))
  rw [hT] at htk
  have Hfm := hide (fun (W : World) (b : Nat) (v : Value) (hv : W.ownsRow b 245 4 v (ts.length + 1) (rtCs (withEnd ts m))) => tok_form h hT hv)
  rw [hG] at Hfm
  have hwl : (withEnd ts m).length = ts.length + 1 := by simp [withEnd]
  have Hsn := hide hsn
  have kA := Keeps.alloc [] w (.cells #[.int .i64 0, .int .i64 0] 28)
  have hF := CellsAt.new w #[.int .i64 0, .int .i64 0] 28
  obtain ⟨fs, hfs⟩ := und28
  have hI : ¬ (1200 : Int) < s.size := by omega
  clear hsn
  obtain ⟨Hm, Hok, Hll⟩ := later_facts hT hG hS h
  clear hT hG
  go_enter Tryz.func159, Tryz.ntmps159
  go_wp2_with fail
  refine htk.out.mono ?_
  rintro e w1 ⟨⟨v, rfl, hv⟩, k1⟩
  obtain ⟨g, c, rfl, hfm⟩ := Hfm.out w1 _ v hv
  have hfm := hide hfm
  have Hv := hide hv
  clear hv
  go_wp2_with fail
  refine hfm.out.mono ?_
  rintro e w2 ⟨rfl, k2⟩
  have k3 := Keeps.alloc [] w2 (.cells #[.slice none 0 0, .slice none 0 0, .slice none 0 0, .slice (some ⟨g, 0, none⟩) (ts.length + 1) c, .int .i64 0, .int .i64 0] 243)
  have hP3 := CellsAt.new w2 #[.slice none 0 0, .slice none 0 0, .slice none 0 0, .slice (some ⟨g, 0, none⟩) (ts.length + 1) c, .int .i64 0, .int .i64 0] 243
  have hcall := Hsn.out _ w2.heap.size _ (.slice (some ⟨g, 0, none⟩) (ts.length + 1) c) hP3 (sizeE_alloc _ _) (by rw [hwl]; exact ownsRow_kept Hv.out (k2.trans k3) (by simp))
  rw [hS] at hcall
  have hcall := hide hcall
  have hz1 := k1.size
  have hz2 := k2.size
  rw [sizeE_alloc] at hz1
  have Hrow := hide Hv.out
  clear hP3 Hv hfm Hfm htk Hsn hS
  simp only [formLine]
  go_wp2_with fail
  refine hcall.out.mono ?_
  rintro e w4 ⟨rfl, ⟨dv, rv, kv, kcs, hRP⟩, k4⟩
  have kF := (k1.trans k2).trans k3
  have hlen := hRP.rcs.len
  have hsafe := safe_calls (f := none) FOk.none (by omega) hRP (by rw [← hlen]; have := Hok.clauses; omega) Hll
  rw [safC_none, ← first_same Hm] at hsafe
  have p4 := hRP.cells.cell 4
  have hPl := hRP.cells.lt
  rw [hU] at hsafe
  have hsafe := hide hsafe
  have HRP := hide hRP
  clear hRP hcall
  go_wp2_with fail
  refine hsafe.out.mono ?_
  rintro e w5 ⟨rfl, hC, K5⟩
  have hPw : w2.heap.size < w2.heap.size + 1 := by omega
  have hRP5 := HRP.out.keeps hPw K5 hC
  have hlay := layered_calls (f := none) FOk.none hPw hRP5 (by have := Hok.rels; omega) (by rw [← hlen]; have := Hok.clauses; omega) (fun q hq => by have := (Hll q hq).2.2.1; omega) Hok.inR Hm
  rw [layC_none, hV] at hlay
  have hlay := hide hlay
  have p4 := hC.cell 4
  have hPl5 := hC.lt
  simp only [Option.map, fC] at p4
  clear hC HRP hRP5 hsafe
  go_wp2_with fail
  refine hlay.out.mono ?_
  rintro e w6 ⟨rfl, hC6, k6⟩
  have p46 := hC6.cell 4
  have p56 := hC6.cell 5
  have hF6 := (((hF.keeps kF (by simp)).keeps k4 (by simp; omega)).keeps K5 (by simp; omega)).keeps k6 (by simp; omega)
  obtain ⟨c0, f0, c1, f1, hat, hk⟩ := res2 hF6 (.int .i64 0) (.int .i64 0)
  have Hat := hide hat
  have HK := hide (((((kA.trans kF).trans_new k4 (by simp; omega)).trans_new K5 (by simp; omega)).trans_new k6 (by simp; omega)).trans_new hk (by simp))
  have hPl6 := hC6.lt
  have hgl := (ownE_lt Hrow.out g rfl).2
  have HC6 := hide (hC6.keeps hk (by simp; omega))
  have HR6 := hide (ownsRow_kept (ownsRow_kept (ownsRow_kept (ownsRow_kept (ownsRow_kept Hrow.out (k2.trans k3) (by simp)) k4 (by simp [Value.ownBlock]; omega)) K5 (by simp [Value.ownBlock]; omega)) k6 (by simp [Value.ownBlock]; omega)) hk (by
    have := (ownE_lt Hrow.out g rfl).1
    rw [sizeE_alloc] at this
    simp [Value.ownBlock]; omega))
  simp only [Option.map, fC] at p46 p56
  clear hC6 k6 hlay hat hk hF6 hF kA kF k1 k2 k3 k4 K5
  go_wp2_with fail
  refine bodyPost_ret (ret_two (t := 2) (p := 3) (ty := 28) (by kernel_rfl) _ Hat.out hfs size28 rfl) rfl ⟨?_, HK.out⟩
  exact ⟨w2.heap.size, _, _, _, _, _, _, _, rfl, by omega, HC6.out, by rw [hwl]; exact HR6.out⟩

/-- The document's Read. -/
theorem rread_calls {w : World} (s : ByteArray) (hs : s.size ≤ 9223372036854775807) (hsense : ∀ ts m is, scanT s.size s 1 = .inl (ts, m) → itemsG (withEnd ts m).length (withEnd ts m) = .ok is → SensOk (withEnd ts m) is) : Calls Tryz.prog 159 #[.string s] w fun e w' => RdTo w.heap.size (readS s) e w' ∧ Keeps [] w w' := by
  by_cases h : 1200 < s.size
  · exact rread_long s h hs
  · unfold readS
    rw [if_neg h]
    cases hT : scanT s.size s 1 with
    | inr l => exact rread_scan s h hT
    | inl q =>
      obtain ⟨ts, m⟩ := q
      dsimp only
      cases hG : itemsG (withEnd ts m).length (withEnd ts m) with
      | error l => exact rread_form s h hT hG
      | ok is =>
        dsimp only
        have hsn := hsense ts m is hT hG
        cases hS : senseS emptyM is with
        | error f => exact rread_sense s h hT hG hsn hS
        | ok me =>
          dsimp only
          unfold laterS
          cases hU : firstC unsafeM me.clauses with
          | some l => exact rread_unsafe s h hT hG hsn hS hU
          | none =>
            dsimp only
            cases hV : firstC (circleC me.rels.length (edgesM me.clauses)) me.clauses with
            | some l => exact rread_circle s h hT hG hsn hS hU hV
            | none => exact rread_ok s h hT hG hsn hS hU hV

end Go.Proofs.YtgjomknpjigkhaaGreatDoor

namespace Go.Proofs.YtgjomknpjigkhaaGreatDoor
open Go.RowKit

theorem out_same (s : ByteArray) : refOutOf (readS s) = outOf (readS s) := by
  cases hR : readS s with
  | error f => rfl
  | ok q =>
    obtain ⟨toks, m⟩ := q
    obtain ⟨_, ts, l, is, hs, rfl, hi, _⟩ := readS_ok hR
    exact (items_print (Nat.le_refl _) (scanT_ended hs) hi).symm

theorem fault_eq (X Y : Int) (w : World) : (binOp .eql 28 (.agg #[.int .i64 X, .int .i64 Y]) (.agg #[.int .i64 X, .int .i64 Y])).run Tryz.prog w = .ok (.bool true) w := by
  have ht : Tryz.prog.underlying 28 = some (.struct (Tryz.prog.fieldsOf 28)) := by kernel_rfl
  have hp : Tryz.prog.stoodInHeld 28 = false := by kernel_rfl
  rw [run_eql_struct, run_equalIn_struct w 9999 28 _ _ ht hp]
  simp [Program.fieldsOf, Tryz.underlying28, go_sem]

/-- Of every text, sense is as it should be. -/
def SensAll : Prop := ∀ (s : ByteArray) (ts : List Tn) (m : Nat) (is : List ItemI), s.size ≤ 1200 → scanT s.size s 1 = .inl (ts, m) → itemsG (withEnd ts m).length (withEnd ts m) = .ok is → SensOk (withEnd ts m) is

set_option maxRecDepth 100000 in
set_option maxHeartbeats 4000000 in
theorem checked_calls (hsn : SensAll) {w : World} (s : ByteArray) (hs : s.size ≤ 9223372036854775807) : Calls Tryz.prog 57 #[.string s] w fun e w' => e = .returned (.bool true) ∧ Keeps [] w w' := by
  have h1 := hide (fun (w : World) => check_text (w := w) s hs)
  have h2 := hide (fun (w : World) => print_text (w := w) s hs)
  have h3 := hide (fun (w : World) => rprint_calls (w := w) s (fun w => by
    by_cases h : 1200 < s.size
    · exact rread_long s h hs
    · exact rread_calls s hs (fun ts m is hT hG => hsn s ts m is (by omega) hT hG)))
  rw [out_same] at h3
  generalize outOf (readS s) = O at *
  generalize (fltOf (readS s)).1 = X at *
  generalize (fltOf (readS s)).2 = Y at *
  have hO : (O.toList == O.toList) = true := by simp
  have heq : ∀ w : World, (binOp .eql 28 (.agg #[.int .i64 (X : Int), .int .i64 (Y : Int)]) (.agg #[.int .i64 (X : Int), .int .i64 (Y : Int)])).run Tryz.prog w = .ok (.bool true) w := fault_eq X Y
  go_enter Tryz.func57, Tryz.ntmps57
  go_wp2_with fail
  refine (h1.out _).mono ?_
  rintro e w1 ⟨rfl, k1⟩
  have kA := Keeps.alloc [] w1 (.cells #[.int .i64 (X : Int), .int .i64 (Y : Int)] 28)
  have hA := CellsAt.new w1 #[.int .i64 (X : Int), .int .i64 (Y : Int)] 28
  go_wp2_with fail
  refine (h2.out _).mono ?_
  rintro e w2 ⟨rfl, k2⟩
  have kB := Keeps.alloc [] w2 (.cells #[.int .i64 (X : Int), .int .i64 (Y : Int)] 28)
  have hB := CellsAt.new w2 #[.int .i64 (X : Int), .int .i64 (Y : Int)] 28
  have hA2 := (hA.keeps k2 (by simp)).keeps kB (by simp)
  go_wp2_with fail
  refine (h3.out _).mono ?_
  rintro e w3 ⟨rfl, k3⟩
  have kC := Keeps.alloc [] w3 (.cells #[.int .i64 (X : Int), .int .i64 (Y : Int)] 28)
  have hC := CellsAt.new w3 #[.int .i64 (X : Int), .int .i64 (Y : Int)] 28
  have hA3 := (hA2.keeps k3 (by simp)).keeps kC (by simp)
  have hB3 := (hB.keeps k3 (by simp)).keeps kC (by simp)
  have a0 := hA3.cell 0
  have a1 := hA3.cell 1
  have b0 := hB3.cell 0
  have b1 := hB3.cell 1
  have HK := hide (((((k1.trans kA).trans k2).trans kB).trans k3).trans kC)
  clear k1 kA k2 kB k3 kC hA hB hC hA2 hA3 hB3
  go_wp2_with fail
  go_ret
  exact ⟨rfl, HK.out⟩

end Go.Proofs.YtgjomknpjigkhaaGreatDoor

namespace Go.Proofs.YtgjomknpjigkhaaGreatDoor
open Go.RowKit

theorem sens_all : SensAll := by
  intro s ts m is hs hT hG w P b tv hP hsz hrow
  have hend := scanT_ended hT
  have hlen := (scanT_len hT).1
  have hwl : (withEnd ts m).length = ts.length + 1 := by simp [withEnd]
  have hat : ItemsAt (withEnd ts m) 0 is := items_pos (i := 0) (k := (withEnd ts m).length) (by rw [List.drop_zero]; exact Nat.le_refl _) (by rw [List.drop_zero]; exact hend) (by rw [List.drop_zero]; exact hG)
  have hin := (items_in (Nat.le_refl _) hend hG).1
  have hwf : ∀ t ∈ withEnd ts m, WfE t.g := by
    intro t ht
    unfold withEnd at ht
    rcases List.mem_append.1 ht with h | h
    · exact .inl (scanT_wf hT t h)
    · have e : t = ⟨.fin, m⟩ := by simpa using h
      subst e
      exact .inr rfl
  obtain ⟨av, c, rfl⟩ := ownE_len hrow
  obtain ⟨gt, hgt⟩ := ownE_pos2 hrow (by omega)
  subst hgt
  have hgP : gt ≠ P := by
    intro e
    subst e
    obtain ⟨t0, h0, _⟩ := hat.tok
    have h1 := (ownTok hrow h0).1
    rw [Nat.zero_mul, hP.cell] at h1
    simp at h1
  refine sense_calls (by omega) hwf hat (fun x hx => ?_) hP hsz hrow hgP
  have hi := hin x hx
  cases x with
  | dom n z => trivial
  | rel n cs => trivial
  | clause a ls =>
    obtain ⟨h1, h2, _⟩ := hi
    exact ⟨fun t ht => (h1.2.2.1 t ht).1, fun l hl t ht => ((h2 l hl).2.2.1 t ht).1⟩

end Go.Proofs.YtgjomknpjigkhaaGreatDoor

namespace Go.Proofs.YtgjomknpjigkhaaGreatDoor
open Go.RowKit

set_option maxRecDepth 100000 in
set_option maxHeartbeats 4000000 in
theorem step21_calls (hsn : SensAll) {w : World} {wb : Nat} (On A B C : Int) (S : ByteArray) (vL : Value) (hs : S.size ≤ 9223372036854775807) : Calls Tryz.prog 33 #[.pointer (some ⟨wb, 0, none⟩), .agg #[.int .i64 21, .int .i64 On, .int .i64 A, .int .i64 B, .int .i64 C, .string S, vL]] w fun e w' => e = .returned (.bool true) ∧ Keeps [] w w' := by
  have h1 := hide (fun (w : World) => checked_calls hsn (w := w) S hs)
  have kA := Keeps.alloc [] w (.cells #[.int .i64 21, .int .i64 On, .int .i64 A, .int .i64 B, .int .i64 C, .string S, vL] 80)
  go_enter Tryz.func33, Tryz.ntmps33
  go_wp2_with fail
  refine (h1.out _).mono ?_
  rintro e w1 ⟨rfl, k1⟩
  have K := hide (kA.trans k1)
  clear kA k1
  go_wp2_with fail
  go_ret
  exact ⟨rfl, K.out⟩

end Go.Proofs.YtgjomknpjigkhaaGreatDoor

namespace Go.Proofs.YtgjomknpjigkhaaGreatDoor
open Go.RowKit

set_option maxRecDepth 100000 in
set_option maxHeartbeats 4000000 in
theorem looks0_calls {w : World} {wb : Nat} (h : CellsAt w wb #[.slice none 0 0, .slice none 0 0, .slice none 0 0, .slice none 0 0, .slice none 0 0]) : Calls Tryz.prog 34 #[.pointer (some ⟨wb, 0, none⟩)] w fun e w' => e = .returned (.bool true) ∧ w' = w := by
  have c2 := h.cell 2
  have c3 := h.cell 3
  have c4 := h.cell 4
  have hl := h.lt
  clear h
  go_enter Tryz.func34, Tryz.ntmps34
  go_wp2_with fail
  go_loopw [3] (fun x wr => x = .int .i64 0 ∧ wr = w) (fun _ _ => 0)
  case atStart => exact ⟨rfl, rfl⟩
  case round =>
    obtain ⟨rfl, rfl⟩ := hrel
    go_wp2_with fail
    go_loopw [5] (fun y wr' => y = .int .i64 0 ∧ wr' = wr) (fun _ _ => 0)
    case atStart => exact ⟨rfl, rfl⟩
    case round =>
      obtain ⟨rfl, rfl⟩ := hrel
      go_wp2_with fail
      go_loopw [7] (fun y wr' => y = .int .i64 0 ∧ wr' = wr) (fun _ _ => 0)
      case atStart => exact ⟨rfl, rfl⟩
      case round =>
        obtain ⟨rfl, rfl⟩ := hrel
        go_wp2_with fail
        go_ret
        exact ⟨rfl, rfl⟩

end Go.Proofs.YtgjomknpjigkhaaGreatDoor

namespace Go.Proofs.YtgjomknpjigkhaaGreatDoor
open Go.RowKit

theorem ownX_cap {w : World} {base : Nat} {e : TypeId} {size g n c : Nat} {xs : List Value} (h : w.ownsRow base e size (.slice (some ⟨g, 0, none⟩) n c) n xs) : n ≤ c := by
  obtain ⟨_, ⟨h1, _⟩ | ⟨g', cap, cur, hv, hb', hg, hn, hc', hs', htk⟩⟩ := h
  · cases h1
  · cases hv
    exact hn
theorem ownX_form {w : World} {base : Nat} {e : TypeId} {size : Nat} {v : Value} {n : Nat} {xs : List Value} (h : w.ownsRow base e size v n xs) (hn : 0 < n) : ∃ g c, v = .slice (some ⟨g, 0, none⟩) n c := by
  obtain ⟨_, ⟨h1, h2⟩ | ⟨g', cap, cur, hv, _⟩⟩ := h
  · omega
  · exact ⟨g', cap, hv⟩

theorem info80X : (Tryz.prog.info? 80).map (fun i => (i.size, i.bytes)) = some (7, 80) := by kernel_rfl
theorem zero80X : (Tryz.prog.info? 80).bind (fun i => i.zero) = some (.agg #[.int .i64 0, .int .i64 0, .int .i64 0, .int .i64 0, .int .i64 0, .string ⟨#[]⟩, .slice none 0 0]) := by kernel_rfl

theorem run_append_noneX (w : World) (g n cap : Nat) (ty : TypeId) (hn : n ≤ cap) : (Builtin.append_ #[22, 22] ty #[.slice (some ⟨g, 0, none⟩) n cap, .slice none 0 0]).run Tryz.prog w = .ok (.slice (some ⟨g, 0, none⟩) n cap) w := by
  obtain ⟨i, hi⟩ : ∃ i, Tryz.prog.info? 80 = some i := by
    cases h : Tryz.prog.info? 80 with
    | none => have := info80X; rw [h] at this; cases this
    | some i => exact ⟨i, rfl⟩
  simp [Builtin.append_, run_underlying Tryz.underlying22, sizeOf, typeInfo, hi, Builtin.lenOf, Builtin.firstCells, loadCells, hn]
  simp [storeCells]

/-- A step of a script. -/
structure OpX where
  Kd : Int
  On : Int
  A : Int
  B : Int
  C : Int
  S : ByteArray
  vL : Value
def OpX.cells (o : OpX) : List Value := [.int .i64 o.Kd, .int .i64 o.On, .int .i64 o.A, .int .i64 o.B, .int .i64 o.C, .string o.S, o.vL]
def xcells (os : List OpX) : List Value := os.flatMap OpX.cells
theorem xcells_append (a b : List OpX) : xcells (a ++ b) = xcells a ++ xcells b := by simp [xcells]
theorem xcells_length (os : List OpX) : (xcells os).length = os.length * 7 := by
  induction os with
  | nil => rfl
  | cons o l ih =>
    simp only [xcells, List.flatMap_cons, List.length_append, List.length_cons] at ih ⊢
    rw [ih]
    simp only [OpX.cells, List.length_cons, List.length_nil]
    omega
theorem xcells_get {os : List OpX} {i : Nat} {o : OpX} (h : os[i]? = some o) (f : Nat) (hf : f < 7) : (xcells os)[i * 7 + f]? = o.cells[f]? := by
  induction os generalizing i with
  | nil => cases h
  | cons q l ih =>
    cases i with
    | zero =>
      cases h
      simp only [xcells, List.flatMap_cons]
      rw [List.getElem?_append_left (by simp [OpX.cells]; omega), Nat.zero_mul, Nat.zero_add]
    | succ i =>
      have := ih (i := i) h
      simp only [xcells, List.flatMap_cons] at this ⊢
      rw [List.getElem?_append_right (by simp [OpX.cells]; omega)]
      rw [show (i + 1) * 7 + f - q.cells.length = i * 7 + f by simp [OpX.cells]; omega]
      exact this

set_option maxRecDepth 100000 in
theorem wpList_append_texts {w : World} {ops : Array Oper} {rest : List Oper} {o : Oper} {a : Act} {Q : Exit → Act → World → Prop} (hgd : o.guard = none) (s x : Operand)
    (ho : o.op = .call { callee := .builtin .append, args := #[s, x], argTypes := #[22, 22] })
    (base g n cap : Nat) (xs : List Value) (hs : a.eval s = .slice (some ⟨g, 0, none⟩) n cap) (hown : w.ownsRow base 80 7 (.slice (some ⟨g, 0, none⟩) n cap) n xs)
    (vx : Value) (m : Nat) (news : List Value) (hx : a.eval x = vx) (hsrc : (vx = .slice none 0 0 ∧ m = 0 ∧ news = []) ∨ ∃ ad c, vx = .slice (some ad) m c ∧ news.length = m * 7 ∧ ∀ j u, news[j]? = some u → w.cell? (ad.add j) = some u) (h1 : ∀ u ∈ news, u.oneCell' = true)
    (h63 : (n + m) * 80 ≤ 140737488355328) (hbase : base ≤ w.heap.size)
    (h : ∀ g' c' w', w'.ownsRow base 80 7 (.slice (some ⟨g', 0, none⟩) (n + m) c') (n + m) (xs ++ news) → Keeps [g] w w' → wpList Tryz.prog ops Q rest (a.put o.dst (.slice (some ⟨g', 0, none⟩) (n + m) c')) w') :
    wpList Tryz.prog ops Q (o :: rest) a w := by
  obtain ⟨i, hi⟩ : ∃ i, Tryz.prog.info? 80 = some i := by
    cases h : Tryz.prog.info? 80 with
    | none => have := info80X; rw [h] at this; cases this
    | some i => exact ⟨i, rfl⟩
  have hz := zero80X
  have hi7 := info80X
  rw [hi] at hz hi7
  simp only [Option.map_some, Option.some.injEq, Prod.mk.injEq] at hi7
  have hz' : i.zero = some (.agg #[.int .i64 0, .int .i64 0, .int .i64 0, .int .i64 0, .int .i64 0, .string ⟨#[]⟩, .slice none 0 0]) := hz
  rcases hsrc with ⟨rfl, rfl, rfl⟩ | ⟨ad, c, rfl, hl, hnews⟩
  · refine wpList_plain hgd fun K hK => ?_
    have hr := run_append_noneX w g n cap o.type (ownX_cap hown)
    unfold Oper.wp execOp
    simp only [ho, resolve, invoke, builtin, Sem.run_bind, Sem.run_pure, Result.andThen_ok, List.map_toArray, List.map_cons, List.map_nil, hs, hx, hr]
    refine hK _ _ (h g cap w ?_ (Keeps.refl _ _))
    rw [List.append_nil]
    exact hown
  · by_cases h0 : n + m = 0
    · have hm : m = 0 := by omega
      have hn : news = [] := List.eq_nil_of_length_eq_zero (by rw [hl, hm])
      subst hm hn
      refine wpList_append_own_at w hgd s x 22 ho base 80 i _ 7 80 Tryz.underlying22 hi hz' hi7.1 hi7.2 rfl (by decide) _ n xs hs hown ad 0 c [] hx rfl hnews (by simp) (by unfold maxLen; omega) (by omega) hbase ?_
      intro v' w' own grow nl at2
      have k := grownBy_keeps' grow [g] (fun r e => .inl (by cases e; simp))
      rcases own.2 with ⟨e1, _⟩ | ⟨g', c', cur, e, _⟩
      · have := (nl.1 e1).1
        cases this
      · subst e
        exact h g' c' w' own k
    · refine wpList_append_own_at w hgd s x 22 ho base 80 i _ 7 80 Tryz.underlying22 hi hz' hi7.1 hi7.2 rfl (by decide) _ n xs hs hown ad m c news hx hl hnews h1 (by unfold maxLen; omega) (by omega) hbase ?_
      intro v' w' own grow _ at2
      have k := grownBy_keeps' grow [g] (fun r e => .inl (by cases e; simp))
      obtain ⟨g', c', rfl⟩ := ownX_form own (by omega)
      exact h g' c' w' own k

end Go.Proofs.YtgjomknpjigkhaaGreatDoor

namespace Go.Proofs.YtgjomknpjigkhaaGreatDoor
open Go.RowKit

structure OpXOk (o : OpX) : Prop where
  ls : ∃ a n c, o.vL = .slice a n c
  txt : o.S.size ≤ 9223372036854775807

def XScript (w : World) (v : Value) (os : List OpX) : Prop :=
  os.length * 80 + 4096 ≤ 140737488355328 ∧ ((v = .slice none 0 0 ∧ os = []) ∨ ∃ ad c, v = .slice (some ad) os.length c ∧ ∀ j u, (xcells os)[j]? = some u → w.cell? (ad.add j) = some u) ∧ ∀ o ∈ os, OpXOk o

def litsX (s1 s2 s3 : ByteArray) : List OpX := [⟨1, 0, 2, 0, 0, ⟨#[]⟩, .slice none 0 0⟩, ⟨2, 0, 0, 0, 0, ⟨#[]⟩, .slice none 0 0⟩, ⟨2, 0, 1, 0, 0, ⟨#[]⟩, .slice none 0 0⟩, ⟨4, 0, 2, 3, 0, ⟨#[]⟩, .slice none 0 0⟩, ⟨8, 0, 4, 3, 0, ⟨#[]⟩, .slice none 0 0⟩, ⟨21, 0, 0, 0, 0, s1, .slice none 0 0⟩, ⟨22, 0, 0, 0, 0, s2, .slice none 0 0⟩, ⟨24, 0, 0, 0, 0, s3, .slice none 0 0⟩]

theorem own_litsX (W : World) (base : Nat) (hb : base ≤ W.heap.size) (s1 s2 s3 : ByteArray) : (W.alloc (.cells (xcells (litsX s1 s2 s3)).toArray 80)).ownsRow base 80 7 (.slice (some ⟨W.heap.size, 0, none⟩) 8 8) 8 (xcells (litsX s1 s2 s3)) := by
  refine ⟨rfl, .inr ⟨W.heap.size, 8, _, rfl, hb, heap_alloc_new W _, by decide, by decide, rfl, ?_⟩⟩
  simp [xcells, litsX, OpX.cells]

set_option maxRecDepth 100000 in
set_option maxHeartbeats 4000000 in
theorem playsX_calls (hsn : SensAll) {w : World} {v : Value} {os : List OpX} (h : XScript w v os) : Calls Tryz.prog 12 #[v, .int .i64 21, .int .i64 21] w fun e w' => e = .returned (.bool true) ∧ Keeps [] w w' := by
  obtain ⟨hn, hv, hok⟩ := h
  have hsrc := hide (fun (W : World) (k : Keeps [] w W) => show (v = .slice none 0 0 ∧ os.length = 0 ∧ xcells os = []) ∨ ∃ ad c, v = .slice (some ad) os.length c ∧ (xcells os).length = os.length * 7 ∧ ∀ j u, (xcells os)[j]? = some u → W.cell? (ad.add j) = some u by
    rcases hv with ⟨e1, e2⟩ | ⟨ad, c, e, hc⟩
    · exact .inl ⟨e1, by rw [e2]; rfl, by rw [e2]; rfl⟩
    · refine .inr ⟨ad, c, e, xcells_length os, fun j u hu => ?_⟩
      have h1 := hc j u hu
      have hb := World.block_lt_of_cell? w _ h1
      rw [← h1]
      simp [World.cell?, k.block _ hb (by simp)])
  have hone : ∀ u ∈ xcells os, u.oneCell' = true := fun u hu => by
    obtain ⟨o, ho, hu⟩ := List.mem_flatMap.1 hu
    obtain ⟨a, n, c, e⟩ := (hok o ho).ls
    simp only [OpX.cells, e, List.mem_cons, List.not_mem_nil, or_false] at hu
    rcases hu with rfl | rfl | rfl | rfl | rfl | rfl | rfl <;> rfl
  have hvf : ∃ a n c, v = .slice a n c := by
    rcases hv with ⟨e, _⟩ | ⟨a, c, e, _⟩
    · exact ⟨_, _, _, e⟩
    · exact ⟨_, _, _, e⟩
  obtain ⟨va, vn, vc, hve⟩ := hvf
  have Hok := hide hok
  have Hone := hide hone
  have Hsn := hide hsn
  clear hv hok hone hsn
  have Hn := hide hn
  clear hn
  subst hve
  go_enter Tryz.func12, Tryz.ntmps12
  generalize hs1e : ({ data := (List.append _ _).toArray } : ByteArray) = s1
  have hs1 : s1.size ≤ 9223372036854775807 := by rw [← hs1e]; exact Nat.le_of_ble_eq_true rfl
  clear hs1e
  generalize hs3e : ({ data := #[112] } : ByteArray) = s3
  have hs3z : s3.size ≤ 9223372036854775807 := by rw [← hs3e]; exact Nat.le_of_ble_eq_true rfl
  clear hs3e
  have hown := own_litsX (w.alloc (.cells #[.slice none 0 0, .slice none 0 0, .slice none 0 0, .slice none 0 0, .slice none 0 0] 78)) w.heap.size (by rw [sizeE_alloc]; omega) s1 s1 s3
  have hk2 := (Keeps.alloc [] w (.cells #[.slice none 0 0, .slice none 0 0, .slice none 0 0, .slice none 0 0, .slice none 0 0] 78)).trans (Keeps.alloc [] (w.alloc (.cells #[.slice none 0 0, .slice none 0 0, .slice none 0 0, .slice none 0 0, .slice none 0 0] 78)) (.cells (xcells (litsX s1 s1 s3)).toArray 80))
  have hsz2 := sizeE_alloc (w.alloc (.cells #[.slice none 0 0, .slice none 0 0, .slice none 0 0, .slice none 0 0, .slice none 0 0] 78)) (.cells (xcells (litsX s1 s1 s3)).toArray 80)
  have hhd := (CellsAt.new w #[.slice none 0 0, .slice none 0 0, .slice none 0 0, .slice none 0 0, .slice none 0 0] 78).keeps (Keeps.alloc [] _ (.cells (xcells (litsX s1 s1 s3)).toArray 80)) (by simp)
  have hsz1 := sizeE_alloc w (.cells #[.slice none 0 0, .slice none 0 0, .slice none 0 0, .slice none 0 0, .slice none 0 0] 78)
  rw [hsz1] at hown hsz2
  have hbase : w.heap.size ≤ ((w.alloc (.cells #[.slice none 0 0, .slice none 0 0, .slice none 0 0, .slice none 0 0, .slice none 0 0] 78)).alloc (.cells (xcells (litsX s1 s1 s3)).toArray 80)).heap.size := by omega
  have hs2 := hsrc.out _ hk2
  have h63 : (8 + os.length) * 80 ≤ 140737488355328 := by have := Hn.out; omega
  have HH := hide (And.intro hown (And.intro hk2 (And.intro hsz2 (And.intro hhd (And.intro hbase hs2)))))
  clear hown hk2 hsz2 hsz1 hhd hbase hs2 hsrc
  simp only [xcells, litsX, OpX.cells, List.flatMap_cons, List.flatMap_nil, List.cons_append, List.nil_append, List.append_nil] at HH
  go_wp2_with (at_builtin; refine wpList_append_texts rfl _ _ rfl w.heap.size _ 8 8 _ rfl HH.out.1 _ os.length _ rfl HH.out.2.2.2.2.2 Hone.out h63 HH.out.2.2.2.2.1 ?_)
  intro g' c' w3 own3 k3
  obtain ⟨hown, hk2, hsz2, hhd, hbase, _⟩ := HH.out
  clear HH
  have k03 : Keeps [] w w3 := hk2.trans_new k3 (fun i hi => by simp only [List.mem_singleton] at hi; exact .inr (by omega))
  have hs3 := k3.size
  have hW3 := hhd.keeps k3 (by simp)
  have own4 : w3.ownsRow w.heap.size 80 7 (.slice (some ⟨g', 0, none⟩) (8 + os.length) c') (8 + os.length) (xcells (litsX s1 s1 s3 ++ os)) := by
    rw [xcells_append]
    exact own3
  have hOk : ∀ o ∈ litsX s1 s1 s3 ++ os, OpXOk o := fun o ho => by
    rcases List.mem_append.1 ho with ho | ho
    · simp only [litsX, List.mem_cons, List.not_mem_nil, or_false] at ho
      rcases ho with rfl | rfl | rfl | rfl | rfl | rfl | rfl | rfl
      all_goals first | exact ⟨⟨_, _, _, rfl⟩, hs1⟩ | exact ⟨⟨_, _, _, rfl⟩, hs3z⟩ | exact ⟨⟨_, _, _, rfl⟩, Nat.le_of_ble_eq_true rfl⟩
    · exact Hok.out o ho
  have hlen : (litsX s1 s1 s3 ++ os).length = 8 + os.length := by rw [List.length_append]; rfl
  generalize litsX s1 s1 s3 ++ os = ops at own4 hlen hOk
  have hM : ops.length ≤ 9000000000000000 := by omega
  rw [← hlen] at own4 ⊢
  have hgl := (ownE_lt own4 g' rfl).2
  have hwb3 := hW3.lt
  have HOk := hide hOk
  have Hrow := hide own4
  have HW := hide hW3
  have c0k := hW3.cell 0
  clear own3 own4 hown hk2 hsz2 hhd hbase k3 hlen h63 Hok Hone Hn hs3 hOk hW3 hs1 hs3z
  generalize hwb : w.heap.size = wb at *
  have Hwb := hide hwb
  clear hwb
  go_wp2_with fail
  go_loopw [9] (fun y wr => ∃ i : Nat, y = .int .i64 i ∧ i ≤ ops.length ∧ Keeps [] w3 wr) (fun y _ => ((ops.length : Int) - intOf y).toNat)
  case atStart => exact ⟨0, rfl, by omega, Keeps.refl _ _⟩
  case round =>
    obtain ⟨i, rfl, hi, kr⟩ := hrel
    by_cases hil : i < ops.length
    · have hiI : (i : Int) < ops.length := by omega
      obtain ⟨o, ho⟩ : ∃ o, ops[i]? = some o := ⟨_, List.getElem?_eq_getElem hil⟩
      have key : ∀ (W : World), Keeps [] w3 W → ∀ f x, f < 7 → o.cells[f]? = some x → W.cell? ⟨g', i * 7 + f, none⟩ = some x := fun W k f x hf hx => ownE_cells (ownsRow_kept Hrow.out k (by simp)) (by rw [xcells_get ho f hf]; exact hx)
      obtain ⟨⟨la, ln, lc, hvL⟩, htx⟩ := HOk.out o (List.mem_of_getElem? ho)
      have c0 := key wr kr 0 _ (by omega) rfl
      have c1 := key wr kr 1 _ (by omega) rfl
      have c2 := key wr kr 2 _ (by omega) rfl
      have c3 := key wr kr 3 _ (by omega) rfl
      have c4 := key wr kr 4 _ (by omega) rfl
      have c5 := key wr kr 5 _ (by omega) rfl
      have c6 := key wr kr 6 _ (by omega) rfl
      rw [Nat.add_zero] at c0
      rw [hvL] at c6
      have Key := hide (fun (W : World) (k : Keeps [] w3 W) => key W k 0 _ (by omega) rfl)
      have hgw : g' < wr.heap.size := Nat.lt_of_lt_of_le hgl kr.size
      clear key ho c0k
      by_cases hlo : o.Kd < 21
      · go_wp2_with fail
        go_roundw
        · exact ⟨i + 1, by simp, by omega, kr⟩
        · simp only [intOf]; omega
      · by_cases hhi : 21 < o.Kd
        · go_wp2_with fail
          go_roundw
          · exact ⟨i + 1, by simp, by omega, kr⟩
          · simp only [intOf]; omega
        · have hk : o.Kd = 21 := by omega
          rw [hk] at c0 Key
          have hst := hide (step21_calls Hsn.out (w := wr) (wb := wb) o.On o.A o.B o.C o.S (.slice la ln lc) htx)
          clear hlo hhi hk
          go_wp2_with fail
          refine hst.out.mono ?_
          rintro e W4 ⟨rfl, k4⟩
          have kr4 := kr.trans k4
          have d0 := Key.out W4 kr4
          rw [Nat.add_zero] at d0
          have hgw4 : g' < W4.heap.size := Nat.lt_of_lt_of_le hgw k4.size
          have hlk := hide (looks0_calls (HW.out.keeps kr4 (by simp)))
          clear c0 c1 c2 c3 c4 c5 c6 hst kr
          go_wp2_with fail
          refine hlk.out.mono ?_
          rintro e W5 ⟨rfl, rfl⟩
          go_wp2_with fail
          go_roundw
          · exact ⟨i + 1, by simp, by omega, kr4⟩
          · simp only [intOf]; omega
    · have hiI : ¬ (i : Int) < ops.length := by omega
      go_wp2_with fail
      go_ret
      exact ⟨rfl, k03.trans kr⟩

end Go.Proofs.YtgjomknpjigkhaaGreatDoor

namespace Go.Proofs.YtgjomknpjigkhaaGreatDoor
open Go.RowKit

set_option maxRecDepth 100000 in
set_option maxHeartbeats 1000000 in
theorem textsX_calls (hsn : SensAll) {w : World} {v : Value} {os : List OpX} (h : XScript w v os) : Calls Tryz.prog 4 #[v] w fun e w' => e = .returned (.bool true) ∧ Keeps [] w w' := by
  have hp := hide (playsX_calls hsn h)
  have hvf : ∃ a n c, v = .slice a n c := by
    rcases h.2.1 with ⟨e, _⟩ | ⟨a, c, e, _⟩
    · exact ⟨_, _, _, e⟩
    · exact ⟨_, _, _, e⟩
  obtain ⟨va, vn, vc, hve⟩ := hvf
  subst hve
  clear h
  go_enter Tryz.func4, Tryz.ntmps4
  go_wp2_with fail
  refine hp.out.mono ?_
  rintro e w1 ⟨rfl, k1⟩
  go_wp2_with fail
  go_ret
  exact ⟨rfl, k1⟩

end Go.Proofs.YtgjomknpjigkhaaGreatDoor

namespace Go.Proofs.YtgjomknpjigkhaaGreatDoor
open Go.ChangeShapes Go.WideShapes Go.ChangeAt Go.RowKit

theorem cellsOfX80 : Tryz.prog.cellsOf 80 = 7 := by kernel_rfl
theorem cellsOfX3 : Tryz.prog.cellsOf 3 = 1 := by kernel_rfl
theorem cellsOfX9 : Tryz.prog.cellsOf 9 = 1 := by kernel_rfl
theorem cellsOfX40 : Tryz.prog.cellsOf 40 = 1 := by kernel_rfl

section
variable {H : Type} {enc : TypeId × Value → H}

set_option maxRecDepth 100000 in
/-- A step, as it is read. -/
theorem opX_read {w : World} {n : Nat} {a : Addr} {cs : List Value} {x : DataW H × List MemPlace} (h1 : w.cells? 0 a 7 = some cs) (h2 : DataW.trod enc Tryz.prog w 0 (fun _ => true) true n 80 cs = some x) : ∃ o : OpX, OpXOk o ∧ ∀ f u, o.cells[f]? = some u → w.cell? (a.add f) = some u := by
  obtain ⟨_, hlen, hcell⟩ := World.cells?_some h1
  obtain ⟨xs, k, hk, hxy, _, hxl, hf⟩ := DataW.trod_struct Tryz.underlying80 h2
  match xs, hxl, cs, hlen with
  | [y0, y1, y2, y3, y4, y5, y6], _, [v0, v1, v2, v3, v4, v5, v6], _ =>
    have g0 := hf 0 _ rfl
    have g1 := hf 1 _ rfl
    have g2 := hf 2 _ rfl
    have g3 := hf 3 _ rfl
    have g4 := hf 4 _ rfl
    have g5 := hf 5 _ rfl
    have g6 := hf 6 _ rfl
    simp [cellsOfX3, cellsOfX9, cellsOfX40] at g0 g1 g2 g3 g4 g5 g6
    obtain ⟨z0, e0, _, _⟩ := DataW.trod_int Tryz.underlying3 g0
    obtain ⟨z1, e1, _, _⟩ := DataW.trod_int Tryz.underlying3 g1
    obtain ⟨z2, e2, _, _⟩ := DataW.trod_int Tryz.underlying3 g2
    obtain ⟨z3, e3, _, _⟩ := DataW.trod_int Tryz.underlying3 g3
    obtain ⟨z4, e4, _, _⟩ := DataW.trod_int Tryz.underlying3 g4
    obtain ⟨s5, e5, _, hs5⟩ := DataW.trod_string Tryz.underlying9 g5
    simp only [List.cons.injEq, and_true] at e0 e1 e2 e3 e4 e5
    subst e0 e1 e2 e3 e4 e5
    have hL : ∃ a n c, v6 = .slice a n c := by
      rcases Deep.open_slice Tryz.underlying40 g6 with ⟨hc, _⟩ | ⟨a, len, cap, m, n, Dd, Pl, hc, _⟩
      · simp only [List.cons.injEq, and_true] at hc
        exact ⟨_, _, _, hc⟩
      · simp only [List.cons.injEq, and_true] at hc
        exact ⟨_, _, _, hc⟩
    refine ⟨⟨z0, z1, z2, z3, z4, s5, v6⟩, ⟨hL, hs5⟩, fun f u hu => ?_⟩
    have hfl : f < 7 := by have := (List.getElem?_eq_some_iff.1 hu).1; simpa [OpX.cells] using this
    have hc := hcell f (by simpa using hfl)
    rw [hc]
    exact hu

theorem cellsX_of {w : World} {a : Addr} (L : Nat → OpX) (len : Nat) (hc : ∀ i, i < len → ∀ f u, (L i).cells[f]? = some u → w.cell? ((a.add (i * 7)).add f) = some u) (j : Nat) (u : Value) (hu : (xcells ((List.range len).map L))[j]? = some u) : w.cell? (a.add j) = some u := by
  have hj : j < len * 7 := by
    have := (List.getElem?_eq_some_iff.1 hu).1
    rw [xcells_length, List.length_map, List.length_range] at this
    exact this
  have hi : j / 7 < len := by omega
  have hm : j % 7 < 7 := Nat.mod_lt _ (by decide)
  have hd : j = j / 7 * 7 + j % 7 := by omega
  have hget : ((List.range len).map L)[j / 7]? = some (L (j / 7)) := by rw [List.getElem?_map, List.getElem?_range hi]; rfl
  rw [hd, xcells_get hget _ hm] at hu
  have := hc _ hi _ u hu
  rw [Addr.add_add, ← hd] at this
  exact this

theorem choose_opsX {p : Nat → OpX → Prop} {len : Nat} (h : ∀ i, i < len → ∃ o, p i o) : ∃ L : Nat → OpX, ∀ i, i < len → p i (L i) :=
  ⟨fun i => if hi : i < len then Classical.choose (h i hi) else ⟨0, 0, 0, 0, 0, ⟨#[]⟩, .slice none 0 0⟩, fun i hi => by
    simp only [dif_pos hi]
    exact Classical.choose_spec (h i hi)⟩

set_option maxRecDepth 100000 in
theorem scriptX_read {w : World} {v : Value} {d : DataW H} {ps : List MemPlace} {r : Go.Reach} {b0 : Nat} (hval : Value.okWide Tryz.prog w r b0 22 v) (h : DataW.Trod enc Tryz.prog w 0 (fun _ => true) true 22 v d ps) (hb : ∀ a len cap, v = .slice a len cap → len * 80 + 4096 ≤ 140737488355328) : ∃ os, XScript w v os := by
  obtain ⟨sa, sl, sc, rfl⟩ := okWide_slice Tryz.underlying22 hval
  obtain ⟨fuel, hn⟩ := h
  have hn' : DataW.trod enc Tryz.prog w 0 (fun _ => true) true fuel 22 [.slice sa sl sc] = some (d, ps) := hn
  rcases Deep.open_slice Tryz.underlying22 hn' with ⟨hc, _⟩ | ⟨a, len, cap, m, n, Dd, Pl, hc, _, hl, hm, hmm, hx, hel⟩
  · simp only [List.cons.injEq, and_true] at hc
    exact ⟨[], by simp, .inl ⟨hc, rfl⟩, by simp⟩
  · simp only [List.cons.injEq, and_true] at hc
    have hlm : len ≤ m := by rw [hmm]; simp; omega
    obtain ⟨L, hL⟩ := choose_opsX (p := fun i o => OpXOk o ∧ ∀ f u, o.cells[f]? = some u → w.cell? ((a.add (i * 7)).add f) = some u) (len := len) (fun i hi => by
      obtain ⟨cs', h1, h2⟩ := hel i (by omega)
      rw [cellsOfX80] at h1
      exact opX_read h1 h2)
    have hb' := hb _ _ _ hc
    refine ⟨(List.range len).map L, by rw [List.length_map, List.length_range]; exact hb', .inr ⟨a, cap, by rw [List.length_map, List.length_range]; exact hc, fun j u hu => cellsX_of L len (fun i hi => (hL i hi).2) j u hu⟩, fun o ho => ?_⟩
    obtain ⟨i, hi, rfl⟩ := List.mem_map.1 ho
    exact (hL i (List.mem_range.1 hi)).1

end

end Go.Proofs.YtgjomknpjigkhaaGreatDoor

namespace Go.Proofs.YtgjomknpjigkhaaGreatDoor
open Go.ChangeShapes Go.WideShapes Go.ChangeAt Go.RowKit

theorem laidOutX : laidOutB Tryz.prog = true := by kernel_rfl
theorem slice_readX22 : Tryz.prog.readableRec 22 = true := by kernel_rfl
theorem slice_rowX22 : 22 < Tryz.prog.types.size := of_decide_eq_true (by kernel_rfl)
theorem bytesX80 : Tryz.prog.bytesOf 80 = 80 := by kernel_rfl

theorem script_bound {H : Type} {enc : TypeId × Value → H} {w : World} {v : Value} {d : DataW H} {ps : List MemPlace} (h : DataW.Trod enc Tryz.prog w 0 (fun _ => true) true 22 v d ps) (hsz : (DataW.weightsEach Tryz.prog [22] [d]).all (· ≤ reachBytes) = true) : ∀ a len cap, v = .slice a len cap → len * 80 + 4096 ≤ 140737488355328 := by
  intro sa sl sc hv
  subst hv
  obtain ⟨fuel, hn⟩ := h
  have hn' : DataW.trod enc Tryz.prog w 0 (fun _ => true) true fuel 22 [.slice sa sl sc] = some (d, ps) := hn
  rcases Deep.open_slice Tryz.underlying22 hn' with ⟨hc, _⟩ | ⟨a, len, cap, m, n, Dd, Pl, hc, _, hl, hm, hmm, hx, hel⟩
  · simp only [List.cons.injEq, and_true, Value.slice.injEq] at hc
    obtain ⟨_, rfl, _⟩ := hc
    omega
  · simp only [List.cons.injEq, and_true, Value.slice.injEq] at hc
    obtain ⟨_, rfl, _⟩ := hc
    simp only [Prod.mk.injEq] at hx
    have := sized_slice hsz (j := 0) (t := 22) (e := 80) rfl (by rw [hx.1]; rfl) Tryz.underlying22
    rw [bytesX80] at this
    simp only [List.length_map, List.length_range, reachBytes] at this
    have h2 : sl * 80 ≤ (sl + (m - sl)) * 80 := Nat.mul_le_mul_right _ (Nat.le_add_right _ _)
    omega

set_option maxRecDepth 100000 in
theorem texts_contract (H : Type) (enc : TypeId × Value → H) (W : World) (base : Nat) (args : Array Value) (ds gs : List (DataW H)) (before : List MemPlace)
    (hval0 : ∀ (j : Nat) t v, Tryz.f4.params[j]? = some t → args[j]? = some v → Value.okWide Tryz.prog W .any base t v)
    (hW : DataW.Whole enc Tryz.prog Tryz.f4.params.toList Rows.textsSpec.vars false W args.toList ds gs before) (hsz0 : (DataW.weightsEach Tryz.prog (Tryz.f4.params.toList ++ Rows.textsSpec.plain.varTypes Tryz.prog) (ds ++ gs)).all (· ≤ reachBytes) = true) :
    Calls Tryz.prog 4 args W fun e W' => ∃ v, e = .returned v ∧ Rows.textsSpec.post enc Tryz.prog Tryz.f4 false true false false W args v W' := by
  have hval : ∀ (j : Nat) t v, Tryz.f4.params[j]? = some t → args[j]? = some v → Value.okWide Tryz.prog W .any base t v := hval0
  have hW' := hW
  obtain ⟨p, q, hA0, hV, rfl, hfz, hnd⟩ := hW
  have hA : DataW.TrodAll enc Tryz.prog W 0 (fun _ => true) true Tryz.f4.params.toList args.toList ds p := hA0
  have hsz : (DataW.weightsEach Tryz.prog (Tryz.f4.params.toList ++ []) (ds ++ gs)).all (· ≤ reachBytes) = true := hsz0
  rw [Tryz.params4] at hA hval hsz
  obtain ⟨v0, vs0, d0, ds0, p0, q0, hargs, rfl, rfl, h0, r0⟩ := trodAll_cons hA
  obtain ⟨rfl, rfl, rfl⟩ := trodAll_nil r0
  obtain rfl : args = #[v0] := by cases args; simp_all
  obtain ⟨rfl, rfl⟩ := trodVars_none hV
  clear hA0 hval0 hsz0
  obtain ⟨os, hs⟩ := scriptX_read (hval 0 22 v0 rfl rfl) h0 (script_bound h0 hsz)
  refine (textsX_calls sens_all hs).mono fun e W' ⟨he, k⟩ => ?_
  subst he
  have hB := k.below (B := W.heap.size) (Nat.le_refl _) (by simp)
  simp only [List.append_nil] at hW'
  have hlt : ∀ x ∈ p0, x.block < W.heap.size := fun x hx => hW'.lt x (by simpa using hx)
  refine ⟨.bool true, rfl, _, _, _, [], p0, [], hW', trodAll_mk1 (shut_bool Tryz.underlying4 _), ?_, rfl, hB.frame _, fun h => by cases h⟩
  exact trodAll_mk1 (WideElems.Trod_stays (P := Tryz.prog) laidOutX slice_readX22 slice_rowX22 h0 (fun x hx => hB.same (hlt x hx)) (fun x hx => by simpa using hlt x hx))

theorem texts_plain (f : FuncId) (fn : Func) (hf : Tryz.pinned.checked.prog.funcNamed "thresh/threshlaw.Texts" = some f) (hfn : Tryz.pinned.checked.prog.funcs[f]? = some fn) :
    true = Tryz.pinned.checked.prog.looks [] ∧ ∀ (j : Nat) t, fn.params[j]? = some t → Tryz.pinned.checked.prog.wantsStandIn t = false := by
  obtain rfl : f = 4 := Option.some.inj ((show Tryz.prog.funcNamed "thresh/threshlaw.Texts" = some 4 by kernel_rfl).symm.trans hf) |>.symm
  obtain rfl : fn = Tryz.f4 := (Option.some.inj (Tryz.func4.symm.trans hfn)).symm
  refine ⟨by kernel_rfl, fun j t ht => ?_⟩
  rw [Tryz.params4] at ht
  obtain rfl : t = 22 := by simpa using Array.mem_of_getElem? ht
  exact (show Tryz.prog.wantsStandIn 22 = false by kernel_rfl)

end Go.Proofs.YtgjomknpjigkhaaGreatDoor

namespace Go.Proofs.YtgjomknpjigkhaaGreatDoor
open Go.ChangeShapes Go.WideShapes Go.ChangeAt Go.RowKit

theorem ownX : ownKnob Tryz.prog.godebug = none := by kernel_rfl
set_option maxRecDepth 100000 in
theorem texts_lifted (os : Os) (started : os.Started) (H : Type) (enc : TypeId × Value → H) (F : Stop.Interp) :
    ReturnsInHanded {} Tryz.checked os 4 .any ((OpenSpec.ofChange Rows.textsSpec).preRow enc Tryz.prog Tryz.f4 Rows.textsRow.domain false Rows.textsRow.laid) (((OpenSpec.ofChange Rows.textsSpec).at F).post enc Tryz.prog Tryz.f4 false true false false) := by
  obtain ⟨places, hx⟩ := texts_reads os enc
  refine returnsInHanded_of_row (C := Tryz.checked) (s := OpenSpec.ofChange Rows.textsSpec) ownX started (by kernel_rfl) Tryz.func4
    (witness_row_at (enc := enc) (C := Tryz.checked) false (laidX os) #[.slice none 0 0] rfl (by kernel_rfl) (by kernel_rfl) (by kernel_rfl)
      (OpenSpec.preRow_of_cond 8 hx (by kernel_rfl) (fun k hk => by cases hk) (by kernel_rfl) (laidX_met os))) ?_
  intro W base args ds gs before hval hW _ _ hsz _ _ _
  exact texts_contract H enc W base args ds gs before hval hW hsz

theorem texts_said : Rows.TextsSaid :=
  OpenClaim.holds_of_cond 4 Tryz.f4 rfl rfl rfl rfl rfl rfl rfl ⟨rfl, rfl, rfl, rfl, rfl⟩ rfl rfl rfl rfl rfl (by kernel_rfl) Tryz.func4 texts_facts
    (of_decide_eq_true (by kernel_rfl)) (by unfold Func.isWrapper; first | (rw [if_pos (by decide +kernel)]; kernel_rfl) | (rw [if_neg (by decide +kernel)]; exact ⟨rfl, rfl⟩))
    (fun os started H enc _ F => by rw [OpenClaim.pre_eq_preRow]; exact texts_lifted os started H enc F)

theorem texts_card : Rows.TextsCardSaid :=
  Claim7.holds_tied_plain_at .later [] _ _ _ _ texts_said (fun _ h => by cases h) (by kernel_rfl) (fun _ h => by cases h) texts_row_tie rfl ⟨rfl, rfl⟩ (by kernel_rfl) rfl texts_plain (by kernel_rfl)

end Go.Proofs.YtgjomknpjigkhaaGreatDoor
