/- Texts: P6. -/
import Derived.Test.YtgjomknpjigkhaaGreatDoorT16
import Derived.Test.YtgjomknpjigkhaaGreatDoorT24
import Derived.Test.YtgjomknpjigkhaaGreatDoorT30
namespace Go.Proofs.YtgjomknpjigkhaaGreatDoor
open Go.RowKit

/-- What the document's Read gives. -/
def RdTo (z : Nat) (r : Except Flt (List Tn × Mean)) (e : Ending) (w' : World) : Prop := match r with
  | .error f => e = .returned (.tuple #[.pointer none, .agg #[.int .i64 f.1, .int .i64 f.2]])
  | .ok (toks, _) => ∃ p dv rv kv tv c l b, e = .returned (.tuple #[.pointer (some ⟨p, 0, none⟩), .agg #[.int .i64 0, .int .i64 0]]) ∧ z ≤ p ∧ CellsAt w' p #[dv, rv, kv, tv, c, l] ∧ w'.ownsRow b 245 4 tv toks.length (rtCs toks)

def refOutOf : Except Flt (List Tn × Mean) → ByteArray
  | .error _ => ⟨#[]⟩
  | .ok (toks, _) => refOut 0 false toks

theorem ref1_size {d : Int} {b : Bool} {t : Tn} (h : WfG t.g) : (ref1 d b t).size ≤ 9 := by
  have := prt_size (.inl h)
  unfold ref1
  split
  · rw [ByteArray.size_append, show blank.size = 1 from rfl]; omega
  · omega
theorem decG_size (n : Int) : (decG n).size ≤ 2 := by
  unfold decG
  split <;> exact Nat.le_of_ble_eq_true rfl

theorem refOut_fin (d : Int) (b : Bool) (m : Nat) : refOut d b [⟨.fin, m⟩] = ByteArray.empty := by
  show ref1 d b ⟨.fin, m⟩ ++ ByteArray.empty = _
  simp [ref1, isIntG, prt, txt]
  rfl

set_option maxRecDepth 100000 in
set_option maxHeartbeats 16000000 in
theorem rprint_calls {w : World} (s : ByteArray) (hrd : ∀ w : World, Calls Tryz.prog 159 #[.string s] w fun e w' => RdTo w.heap.size (readS s) e w' ∧ Keeps [] w w') : Calls Tryz.prog 91 #[.string s] w fun e w' => e = .returned (.tuple #[.string (refOutOf (readS s)), .agg #[.int .i64 (fltOf (readS s)).1, .int .i64 (fltOf (readS s)).2]]) ∧ Keeps [] w w' := by
  have kA := Keeps.alloc [] w (.cells #[.int .i64 0, .int .i64 0] 28)
  have hF := CellsAt.new w #[.int .i64 0, .int .i64 0] 28
  have hrd := hide (hrd (w.alloc (.cells #[.int .i64 0, .int .i64 0] 28)))
  rw [sizeE_alloc] at hrd
  obtain ⟨fs, hfs⟩ := und28
  cases hR : readS s with
  | error f =>
    rw [hR] at hrd
    go_enter Tryz.func91, Tryz.ntmps91
    go_wp2_with fail
    refine hrd.out.mono ?_
    rintro e w1 ⟨rfl, k1⟩
    have hF1 := hF.keeps k1 (by simp)
    have hsz := k1.size
    rw [sizeE_alloc] at hsz
    have kB := Keeps.alloc [] w1 (.cells #[.int .i64 f.1, .int .i64 f.2] 28)
    obtain ⟨c0, f0, c1, f1, hat, hk⟩ := res2 (hF1.keeps kB (by simp)) (.int .i64 f.1) (.int .i64 f.2)
    have HK := hide (((kA.trans k1).trans kB).trans_new hk (by simp))
    have Hat := hide hat
    clear hrd k1 kA kB hF hF1 hat hk
    go_wp2_with fail
    go_region_law (fail)
    all_goals
      go_wp2_with fail
      exact bodyPost_ret (ret_two (t := 2) (p := 3) (ty := 28) (by kernel_rfl) _ (Hat.out.keeps (Keeps.drew [] _) (by simp)) hfs size28 rfl) rfl ⟨rfl, HK.out.trans (Keeps.drew [] _)⟩
  | ok q =>
    obtain ⟨toks, mm⟩ := q
    rw [hR] at hrd
    obtain ⟨h1200, ts, m, is, hsc, htoks, _⟩ := readS_ok hR
    have hwf := hide (scanT_wf hsc)
    have hlen := (scanT_len hsc).1
    subst htoks
    have hwl : (withEnd ts m).length = ts.length + 1 := by simp [withEnd]
    generalize hRR : refOut 0 false (withEnd ts m) = R
    have HR := hide hRR
    have hgoal : refOutOf (.ok (withEnd ts m, mm)) = R := hRR
    rw [hgoal]
    show Calls _ _ _ _ fun e w' => e = .returned (.tuple #[.string R, .agg #[.int .i64 0, .int .i64 0]]) ∧ Keeps [] w w'
    clear hgoal hRR hR
    go_enter Tryz.func91, Tryz.ntmps91
    go_wp2_with fail
    refine hrd.out.mono ?_
    rintro e w1 ⟨⟨p, dv, rv, kv, tv, c, l, b, rfl, hpz, hP, hrow⟩, k1⟩
    obtain ⟨ay, cy, hy⟩ := ownE_len hrow
    subst hy
    rw [hwl] at hrow hP
    have hF1 := hF.keeps k1 (by simp)
    have hsz := k1.size
    rw [sizeE_alloc] at hsz
    have kB := Keeps.alloc [] w1 (.cells #[.int .i64 0, .int .i64 0] 28)
    have hPl := hP.lt
    have Hc3 := hide (fun (W : World) (k : Keeps [] w1 W) => (hP.keeps k (by simp)).cell 3)
    have Hrow := hide (fun (W : World) (k : Keeps [] w1 W) => ownsRow_kept hrow k (by simp))
    have HF := hide hF1
    have HK := hide (kA.trans k1)
    have HkB := hide kB
    have c3 := (hP.keeps kB (by simp)).cell 3
    clear hrd k1 kA kB hF hF1 hP hrow hpz
    go_wp2_with fail
    go_loopw [6, 7, 8, 9] (fun y d z x wr => ∃ (i : Nat) (out : ByteArray) (deep : Int) (decl : Bool), y = .string out ∧ d = .int .i64 deep ∧ z = .bool decl ∧ x = .int .i64 i ∧ i ≤ ts.length ∧ -(i : Int) ≤ deep ∧ deep ≤ i ∧ out.size ≤ 9 * i ∧ Keeps [] w1 wr ∧ out ++ refOut deep decl ((withEnd ts m).drop i) = R) (fun _ _ _ x _ => ts.length - (intOf x).toNat)
    case atStart => exact ⟨0, ⟨#[]⟩, 0, false, rfl, rfl, rfl, rfl, by omega, by omega, by omega, by decide, HkB.out, by rw [List.drop_zero, HR.out]; rfl⟩
    case round =>
      obtain ⟨i, out, deep, decl, rfl, rfl, rfl, rfl, hil, hd1, hd2, hos, kr, hres⟩ := hrel
      clear HR HkB c3
      have c3 := Hc3.out wr kr
      by_cases hlt : i < ts.length
      · have hiI : (i : Int) + 1 < (ts.length : Int) + 1 := by omega
        have hiJ : (i : Int) < (ts.length : Int) + 1 := by omega
        obtain ⟨t, ht⟩ : ∃ t, ts[i]? = some t := ⟨_, List.getElem?_eq_getElem hlt⟩
        have htE : (withEnd ts m)[i]? = some t := by unfold withEnd; rw [List.getElem?_append_left hlt]; exact ht
        have hdi : (withEnd ts m).drop i = t :: (withEnd ts m).drop (i + 1) := by
          have hi' : i < (withEnd ts m).length := by rw [hwl]; omega
          rw [List.drop_eq_getElem_cons hi']
          congr 1
          rw [List.getElem?_eq_getElem hi'] at htE
          exact Option.some.inj htE
        rw [hdi] at hres
        have hres' : out ++ ref1 deep decl t ++ refOut (deepOf deep t) (declOf deep decl t) ((withEnd ts m).drop (i + 1)) = R := by rw [← hres, ByteArray.append_assoc]; rfl
        have hr1 := Hrow.out wr kr
        obtain ⟨g, hg⟩ := ownE_pos2 hr1 (by omega)
        subst hg
        obtain ⟨t0, t1, t2, t3⟩ := ownTok hr1 htE
        have hgl : g < wr.heap.size := (ownE_lt hr1 g rfl).2
        have hwt := hwf.out t (List.mem_of_getElem? ht)
        have hwe : WfE t.g := .inl hwt
        have hrs := ref1_size (d := deep) (b := decl) hwt
        have kT := Keeps.alloc [] wr (.cells #[.int .u8 (rkind t.g), .string (txt t.g), .int .i64 (numOf t.g), .int .i64 t.line] 245)
        have hK := kr.trans kT
        have q44 := txt_comma hwe
        have q58 := txt_arrow hwe
        have q59 := txt_semi hwe
        have q46 := txt_dot hwe
        have q40 := txt_lp hwe
        have q41 := txt_rp hwe
        clear hdi hres ht htE hr1 kT
        cases hg : t.g with
        | dom =>
          rw [hg] at t0 t1 t2 hK q44 q58 q59 q46 q40 q41
          have e1 : ref1 deep decl t = prt (.dom) := by unfold ref1; rw [hg]; rfl
          have e2 : deepOf deep t = deep := by unfold deepOf; rw [hg]
          have e3 : declOf deep decl t = true := by unfold declOf; rw [hg]
          have e4 : out ++ (⟨#[100, 111, 109]⟩ : ByteArray) ++ (⟨#[32]⟩ : ByteArray) = out ++ ref1 deep decl t := by rw [e1]; simp only [prt, ByteArray.append_assoc]; rfl
          have Hres : Hid (out ++ (⟨#[100, 111, 109]⟩ : ByteArray) ++ (⟨#[32]⟩ : ByteArray) ++ refOut (deep) (true) ((withEnd ts m).drop (i + 1)) = R) := hide (by rw [e4, ← hres', e2, e3])
          have Hsz : Hid ((out ++ (⟨#[100, 111, 109]⟩ : ByteArray) ++ (⟨#[32]⟩ : ByteArray)).size ≤ 9 * (i + 1)) := hide (by rw [e4, ByteArray.size_append]; omega)
          simp only [txt, rkind, isCommaG, isArrowG, isSemiG, isDotG, isLpG, isRpG, numOf] at t0 t1 t2 hK q44 q58 q59 q46 q40 q41
          clear hres' e1 e2 e3 e4 hwt hwe hg hrs
          go_wp2_with fail
          go_roundw
          · exact ⟨i + 1, _, _, _, rfl, rfl, rfl, by simp, by omega, by omega, by omega, Hsz.out, hK, Hres.out⟩
          · simp only [intOf]; omega
        | rel =>
          rw [hg] at t0 t1 t2 hK q44 q58 q59 q46 q40 q41
          have e1 : ref1 deep decl t = prt (.rel) := by unfold ref1; rw [hg]; rfl
          have e2 : deepOf deep t = deep := by unfold deepOf; rw [hg]
          have e3 : declOf deep decl t = false := by unfold declOf; rw [hg]
          have e4 : out ++ (⟨#[114, 101, 108]⟩ : ByteArray) ++ (⟨#[32]⟩ : ByteArray) = out ++ ref1 deep decl t := by rw [e1]; simp only [prt, ByteArray.append_assoc]; rfl
          have Hres : Hid (out ++ (⟨#[114, 101, 108]⟩ : ByteArray) ++ (⟨#[32]⟩ : ByteArray) ++ refOut (deep) (false) ((withEnd ts m).drop (i + 1)) = R) := hide (by rw [e4, ← hres', e2, e3])
          have Hsz : Hid ((out ++ (⟨#[114, 101, 108]⟩ : ByteArray) ++ (⟨#[32]⟩ : ByteArray)).size ≤ 9 * (i + 1)) := hide (by rw [e4, ByteArray.size_append]; omega)
          simp only [txt, rkind, isCommaG, isArrowG, isSemiG, isDotG, isLpG, isRpG, numOf] at t0 t1 t2 hK q44 q58 q59 q46 q40 q41
          clear hres' e1 e2 e3 e4 hwt hwe hg hrs
          go_wp2_with fail
          go_roundw
          · exact ⟨i + 1, _, _, _, rfl, rfl, rfl, by simp, by omega, by omega, by omega, Hsz.out, hK, Hres.out⟩
          · simp only [intOf]; omega
        | lp =>
          rw [hg] at t0 t1 t2 hK q44 q58 q59 q46 q40 q41
          have e1 : ref1 deep decl t = prt (.lp) := by unfold ref1; rw [hg]; rfl
          have e2 : deepOf deep t = deep + 1 := by unfold deepOf; rw [hg]
          have e3 : declOf deep decl t = decl := by unfold declOf; rw [hg]
          have e4 : out ++ (⟨#[40]⟩ : ByteArray) = out ++ ref1 deep decl t := by rw [e1]; rfl
          have Hres : Hid (out ++ (⟨#[40]⟩ : ByteArray) ++ refOut (deep + 1) (decl) ((withEnd ts m).drop (i + 1)) = R) := hide (by rw [e4, ← hres', e2, e3])
          have Hsz : Hid ((out ++ (⟨#[40]⟩ : ByteArray)).size ≤ 9 * (i + 1)) := hide (by rw [e4, ByteArray.size_append]; omega)
          simp only [txt, rkind, isCommaG, isArrowG, isSemiG, isDotG, isLpG, isRpG, numOf] at t0 t1 t2 hK q44 q58 q59 q46 q40 q41
          clear hres' e1 e2 e3 e4 hwt hwe hg hrs
          go_wp2_with fail
          go_roundw
          · exact ⟨i + 1, _, _, _, rfl, rfl, rfl, by simp, by omega, by omega, by omega, Hsz.out, hK, Hres.out⟩
          · simp only [intOf]; omega
        | rp =>
          rw [hg] at t0 t1 t2 hK q44 q58 q59 q46 q40 q41
          have e1 : ref1 deep decl t = prt (.rp) := by unfold ref1; rw [hg]; rfl
          have e2 : deepOf deep t = deep - 1 := by unfold deepOf; rw [hg]
          have e3 : declOf deep decl t = decl := by unfold declOf; rw [hg]
          have e4 : out ++ (⟨#[41]⟩ : ByteArray) = out ++ ref1 deep decl t := by rw [e1]; rfl
          have Hres : Hid (out ++ (⟨#[41]⟩ : ByteArray) ++ refOut (deep - 1) (decl) ((withEnd ts m).drop (i + 1)) = R) := hide (by rw [e4, ← hres', e2, e3])
          have Hsz : Hid ((out ++ (⟨#[41]⟩ : ByteArray)).size ≤ 9 * (i + 1)) := hide (by rw [e4, ByteArray.size_append]; omega)
          simp only [txt, rkind, isCommaG, isArrowG, isSemiG, isDotG, isLpG, isRpG, numOf] at t0 t1 t2 hK q44 q58 q59 q46 q40 q41
          clear hres' e1 e2 e3 e4 hwt hwe hg hrs
          go_wp2_with fail
          go_roundw
          · exact ⟨i + 1, _, _, _, rfl, rfl, rfl, by simp, by omega, by omega, by omega, Hsz.out, hK, Hres.out⟩
          · simp only [intOf]; omega
        | comma =>
          rw [hg] at t0 t1 t2 hK q44 q58 q59 q46 q40 q41
          have e1 : ref1 deep decl t = prt (.comma) := by unfold ref1; rw [hg]; rfl
          have e2 : deepOf deep t = deep := by unfold deepOf; rw [hg]
          have e3 : declOf deep decl t = decl := by unfold declOf; rw [hg]
          have e4 : out ++ (⟨#[44]⟩ : ByteArray) ++ (⟨#[32]⟩ : ByteArray) = out ++ ref1 deep decl t := by rw [e1]; simp only [prt, ByteArray.append_assoc]; rfl
          have Hres : Hid (out ++ (⟨#[44]⟩ : ByteArray) ++ (⟨#[32]⟩ : ByteArray) ++ refOut (deep) (decl) ((withEnd ts m).drop (i + 1)) = R) := hide (by rw [e4, ← hres', e2, e3])
          have Hsz : Hid ((out ++ (⟨#[44]⟩ : ByteArray) ++ (⟨#[32]⟩ : ByteArray)).size ≤ 9 * (i + 1)) := hide (by rw [e4, ByteArray.size_append]; omega)
          simp only [txt, rkind, isCommaG, isArrowG, isSemiG, isDotG, isLpG, isRpG, numOf] at t0 t1 t2 hK q44 q58 q59 q46 q40 q41
          clear hres' e1 e2 e3 e4 hwt hwe hg hrs
          go_wp2_with fail
          go_roundw
          · exact ⟨i + 1, _, _, _, rfl, rfl, rfl, by simp, by omega, by omega, by omega, Hsz.out, hK, Hres.out⟩
          · simp only [intOf]; omega
        | semi =>
          rw [hg] at t0 t1 t2 hK q44 q58 q59 q46 q40 q41
          have e1 : ref1 deep decl t = prt (.semi) := by unfold ref1; rw [hg]; rfl
          have e2 : deepOf deep t = deep := by unfold deepOf; rw [hg]
          have e3 : declOf deep decl t = decl := by unfold declOf; rw [hg]
          have e4 : out ++ (⟨#[59]⟩ : ByteArray) ++ (⟨#[10]⟩ : ByteArray) = out ++ ref1 deep decl t := by rw [e1]; simp only [prt, ByteArray.append_assoc]; rfl
          have Hres : Hid (out ++ (⟨#[59]⟩ : ByteArray) ++ (⟨#[10]⟩ : ByteArray) ++ refOut (deep) (decl) ((withEnd ts m).drop (i + 1)) = R) := hide (by rw [e4, ← hres', e2, e3])
          have Hsz : Hid ((out ++ (⟨#[59]⟩ : ByteArray) ++ (⟨#[10]⟩ : ByteArray)).size ≤ 9 * (i + 1)) := hide (by rw [e4, ByteArray.size_append]; omega)
          simp only [txt, rkind, isCommaG, isArrowG, isSemiG, isDotG, isLpG, isRpG, numOf] at t0 t1 t2 hK q44 q58 q59 q46 q40 q41
          clear hres' e1 e2 e3 e4 hwt hwe hg hrs
          go_wp2_with fail
          go_roundw
          · exact ⟨i + 1, _, _, _, rfl, rfl, rfl, by simp, by omega, by omega, by omega, Hsz.out, hK, Hres.out⟩
          · simp only [intOf]; omega
        | dot =>
          rw [hg] at t0 t1 t2 hK q44 q58 q59 q46 q40 q41
          have e1 : ref1 deep decl t = prt (.dot) := by unfold ref1; rw [hg]; rfl
          have e2 : deepOf deep t = deep := by unfold deepOf; rw [hg]
          have e3 : declOf deep decl t = decl := by unfold declOf; rw [hg]
          have e4 : out ++ (⟨#[46]⟩ : ByteArray) ++ (⟨#[10]⟩ : ByteArray) = out ++ ref1 deep decl t := by rw [e1]; simp only [prt, ByteArray.append_assoc]; rfl
          have Hres : Hid (out ++ (⟨#[46]⟩ : ByteArray) ++ (⟨#[10]⟩ : ByteArray) ++ refOut (deep) (decl) ((withEnd ts m).drop (i + 1)) = R) := hide (by rw [e4, ← hres', e2, e3])
          have Hsz : Hid ((out ++ (⟨#[46]⟩ : ByteArray) ++ (⟨#[10]⟩ : ByteArray)).size ≤ 9 * (i + 1)) := hide (by rw [e4, ByteArray.size_append]; omega)
          simp only [txt, rkind, isCommaG, isArrowG, isSemiG, isDotG, isLpG, isRpG, numOf] at t0 t1 t2 hK q44 q58 q59 q46 q40 q41
          clear hres' e1 e2 e3 e4 hwt hwe hg hrs
          go_wp2_with fail
          go_roundw
          · exact ⟨i + 1, _, _, _, rfl, rfl, rfl, by simp, by omega, by omega, by omega, Hsz.out, hK, Hres.out⟩
          · simp only [intOf]; omega
        | bang =>
          rw [hg] at t0 t1 t2 hK q44 q58 q59 q46 q40 q41
          have e1 : ref1 deep decl t = prt (.bang) := by unfold ref1; rw [hg]; rfl
          have e2 : deepOf deep t = deep := by unfold deepOf; rw [hg]
          have e3 : declOf deep decl t = decl := by unfold declOf; rw [hg]
          have e4 : out ++ (⟨#[33]⟩ : ByteArray) = out ++ ref1 deep decl t := by rw [e1]; rfl
          have Hres : Hid (out ++ (⟨#[33]⟩ : ByteArray) ++ refOut (deep) (decl) ((withEnd ts m).drop (i + 1)) = R) := hide (by rw [e4, ← hres', e2, e3])
          have Hsz : Hid ((out ++ (⟨#[33]⟩ : ByteArray)).size ≤ 9 * (i + 1)) := hide (by rw [e4, ByteArray.size_append]; omega)
          simp only [txt, rkind, isCommaG, isArrowG, isSemiG, isDotG, isLpG, isRpG, numOf] at t0 t1 t2 hK q44 q58 q59 q46 q40 q41
          clear hres' e1 e2 e3 e4 hwt hwe hg hrs
          go_wp2_with fail
          go_roundw
          · exact ⟨i + 1, _, _, _, rfl, rfl, rfl, by simp, by omega, by omega, by omega, Hsz.out, hK, Hres.out⟩
          · simp only [intOf]; omega
        | arrow =>
          rw [hg] at t0 t1 t2 hK q44 q58 q59 q46 q40 q41
          have e1 : ref1 deep decl t = prt (.arrow) := by unfold ref1; rw [hg]; rfl
          have e2 : deepOf deep t = deep := by unfold deepOf; rw [hg]
          have e3 : declOf deep decl t = decl := by unfold declOf; rw [hg]
          have e4 : out ++ (⟨#[32]⟩ : ByteArray) ++ (⟨#[58, 45]⟩ : ByteArray) ++ (⟨#[32]⟩ : ByteArray) = out ++ ref1 deep decl t := by rw [e1]; simp only [prt, ByteArray.append_assoc]; rfl
          have Hres : Hid (out ++ (⟨#[32]⟩ : ByteArray) ++ (⟨#[58, 45]⟩ : ByteArray) ++ (⟨#[32]⟩ : ByteArray) ++ refOut (deep) (decl) ((withEnd ts m).drop (i + 1)) = R) := hide (by rw [e4, ← hres', e2, e3])
          have Hsz : Hid ((out ++ (⟨#[32]⟩ : ByteArray) ++ (⟨#[58, 45]⟩ : ByteArray) ++ (⟨#[32]⟩ : ByteArray)).size ≤ 9 * (i + 1)) := hide (by rw [e4, ByteArray.size_append]; omega)
          simp only [txt, rkind, isCommaG, isArrowG, isSemiG, isDotG, isLpG, isRpG, numOf] at t0 t1 t2 hK q44 q58 q59 q46 q40 q41
          clear hres' e1 e2 e3 e4 hwt hwe hg hrs
          go_wp2_with fail
          go_roundw
          · exact ⟨i + 1, _, _, _, rfl, rfl, rfl, by simp, by omega, by omega, by omega, Hsz.out, hK, Hres.out⟩
          · simp only [intOf]; omega
        | name s =>
          rw [hg] at t0 t1 t2 hK q44 q58 q59 q46 q40 q41
          have e1 : ref1 deep decl t = prt (.name s) := by unfold ref1; rw [hg]; rfl
          have e2 : deepOf deep t = deep := by unfold deepOf; rw [hg]
          have e3 : declOf deep decl t = decl := by unfold declOf; rw [hg]
          have e4 : out ++ s = out ++ ref1 deep decl t := by rw [e1]; rfl
          have Hres : Hid (out ++ s ++ refOut (deep) (decl) ((withEnd ts m).drop (i + 1)) = R) := hide (by rw [e4, ← hres', e2, e3])
          have Hsz : Hid ((out ++ s).size ≤ 9 * (i + 1)) := hide (by rw [e4, ByteArray.size_append]; omega)
          have hs6 : s.size ≤ 6 := by rw [hg] at hwt; exact hwt.2.2
          simp only [txt, rkind, isCommaG, isArrowG, isSemiG, isDotG, isLpG, isRpG, numOf] at t0 t1 t2 hK q44 q58 q59 q46 q40 q41
          clear hres' e1 e2 e3 e4 hwt hwe hg hrs
          go_wp2_with fail
          go_roundw
          · exact ⟨i + 1, _, _, _, rfl, rfl, rfl, by simp, by omega, by omega, by omega, Hsz.out, hK, Hres.out⟩
          · simp only [intOf]; omega
        | var s =>
          rw [hg] at t0 t1 t2 hK q44 q58 q59 q46 q40 q41
          have e1 : ref1 deep decl t = prt (.var s) := by unfold ref1; rw [hg]; rfl
          have e2 : deepOf deep t = deep := by unfold deepOf; rw [hg]
          have e3 : declOf deep decl t = decl := by unfold declOf; rw [hg]
          have e4 : out ++ s = out ++ ref1 deep decl t := by rw [e1]; rfl
          have Hres : Hid (out ++ s ++ refOut (deep) (decl) ((withEnd ts m).drop (i + 1)) = R) := hide (by rw [e4, ← hres', e2, e3])
          have Hsz : Hid ((out ++ s).size ≤ 9 * (i + 1)) := hide (by rw [e4, ByteArray.size_append]; omega)
          have hs6 : s.size ≤ 6 := by rw [hg] at hwt; have := hwt.2.2; omega
          simp only [txt, rkind, isCommaG, isArrowG, isSemiG, isDotG, isLpG, isRpG, numOf] at t0 t1 t2 hK q44 q58 q59 q46 q40 q41
          clear hres' e1 e2 e3 e4 hwt hwe hg hrs
          go_wp2_with fail
          go_roundw
          · exact ⟨i + 1, _, _, _, rfl, rfl, rfl, by simp, by omega, by omega, by omega, Hsz.out, hK, Hres.out⟩
          · simp only [intOf]; omega
        | fin => rw [hg] at hwt; exact hwt.elim
        | int s =>
          rw [hg] at t0 t1 t2 hK q44 q58 q59 q46 q40 q41 hwt
          obtain ⟨hd, _, h2⟩ := hwt
          have hr := valTo_range hd (Nat.le_refl _) h2
          have hdc := hide (fun (w : World) => decimal_calls (w := w) (valTo s s.size) hr.1 hr.2)
          have e2 : deepOf deep t = deep := by unfold deepOf; rw [hg]
          have hdz := decG_size (valTo s s.size)
          simp only [txt, rkind, isCommaG, isArrowG, isSemiG, isDotG, isLpG, isRpG, numOf] at t0 t1 t2 hK q44 q58 q59 q46 q40 q41
          have hTc := hide (CellsAt.new wr #[.int .u8 105, .string s, .int .i64 (valTo s s.size), .int .i64 t.line] 245)
          generalize hV : valTo s s.size = V at *
          cases hdl : decl with
          | false =>
            subst hdl
            have e1 : ref1 deep false t = decG V := by unfold ref1; rw [hg]; simp [prt, hV]
            have e3 : declOf deep false t = false := by unfold declOf; rw [hg]; simp
            have Hres : Hid (out ++ decG V ++ refOut deep false ((withEnd ts m).drop (i + 1)) = R) := hide (by rw [← hres', e1, e2, e3])
            have Hsz : Hid ((out ++ decG V).size ≤ 9 * (i + 1)) := hide (by rw [ByteArray.size_append]; omega)
            clear hres' e1 e2 e3 hwe hg hr hd h2 hV hrs
            go_wp2_with fail
            refine (hdc.out _).mono ?_
            rintro e w5 ⟨rfl, k5⟩
            have hT5 := hTc.out.keeps k5 (by simp)
            have p0 := hT5.cell 0
            have p1 := hT5.cell 1
            have hT5l := hT5.lt
            have K5 := hK.trans k5
            clear k5 hK
            go_wp2_with fail
            go_roundw
            · exact ⟨i + 1, _, _, _, rfl, rfl, rfl, by simp, by omega, by omega, by omega, Hsz.out, K5, Hres.out⟩
            · simp only [intOf]; omega
          | true =>
            subst hdl
            by_cases hz : deep = 0
            · subst hz
              have e1 : ref1 0 true t = blank ++ decG V := by unfold ref1; rw [hg]; simp [prt, hV, isIntG]
              have e3 : declOf 0 true t = false := by unfold declOf; rw [hg]; simp
              have Hres : Hid (out ++ (⟨#[32]⟩ : ByteArray) ++ decG V ++ refOut 0 false ((withEnd ts m).drop (i + 1)) = R) := hide (by rw [← hres', e1, e2, e3]; simp only [ByteArray.append_assoc]; rfl)
              have Hsz : Hid ((out ++ (⟨#[32]⟩ : ByteArray) ++ decG V).size ≤ 9 * (i + 1)) := hide (by rw [ByteArray.size_append, ByteArray.size_append, show (⟨#[32]⟩ : ByteArray).size = 1 from rfl]; omega)
              clear hres' e1 e2 e3 hwe hg hr hd h2 hV hrs
              go_wp2_with fail
              refine (hdc.out _).mono ?_
              rintro e w5 ⟨rfl, k5⟩
              have hT5 := hTc.out.keeps k5 (by simp)
              have p0 := hT5.cell 0
              have p1 := hT5.cell 1
              have hT5l := hT5.lt
              have K5 := hK.trans k5
              clear k5 hK
              go_wp2_with fail
              go_roundw
              · exact ⟨i + 1, _, _, _, rfl, rfl, rfl, by simp, by omega, by omega, by omega, Hsz.out, K5, Hres.out⟩
              · simp only [intOf]; omega
            · have hzb : (deep == 0) = false := by rw [beq_eq_false_iff_ne]; exact hz
              have e1 : ref1 deep true t = decG V := by unfold ref1; rw [hg]; simp [prt, hV, hz]
              have e3 : declOf deep true t = true := by unfold declOf; rw [hg]; simp [hz]
              have Hres : Hid (out ++ decG V ++ refOut deep true ((withEnd ts m).drop (i + 1)) = R) := hide (by rw [← hres', e1, e2, e3])
              have Hsz : Hid ((out ++ decG V).size ≤ 9 * (i + 1)) := hide (by rw [ByteArray.size_append]; omega)
              clear hres' e1 e2 e3 hwe hg hr hd h2 hV hrs hz
              go_wp2_with fail
              refine (hdc.out _).mono ?_
              rintro e w5 ⟨rfl, k5⟩
              have hT5 := hTc.out.keeps k5 (by simp)
              have p0 := hT5.cell 0
              have p1 := hT5.cell 1
              have hT5l := hT5.lt
              have K5 := hK.trans k5
              clear k5 hK
              go_wp2_with fail
              go_roundw
              · exact ⟨i + 1, _, _, _, rfl, rfl, rfl, by simp, by omega, by omega, by omega, Hsz.out, K5, Hres.out⟩
              · simp only [intOf]; omega
      · have hiI : ¬ (i : Int) + 1 < (ts.length : Int) + 1 := by omega
        have hdz : (withEnd ts m).drop i = [⟨.fin, m⟩] := by
          have e : i = ts.length := by omega
          subst e
          simp [withEnd]
        rw [hdz, refOut_fin] at hres
        have Hres : Hid (out = R) := hide (by rw [← hres]; simp)
        have hF5 := HF.out.keeps kr (by simp)
        obtain ⟨r0, r1, r2, r3, r4, r5⟩ := res2 hF5 (.int .i64 0) (.int .i64 0)
        have H4 := hide r4
        have H5 := hide r5
        clear hres hdz hF5 r4 r5
        go_wp2_with fail
        exact bodyPost_ret (ret_two (t := 2) (p := 3) (ty := 28) (by kernel_rfl) _ H4.out hfs size28 rfl) rfl ⟨by rw [← Hres.out]; rfl, (HK.out.trans kr).trans_new H5.out (by simp)⟩

end Go.Proofs.YtgjomknpjigkhaaGreatDoor
