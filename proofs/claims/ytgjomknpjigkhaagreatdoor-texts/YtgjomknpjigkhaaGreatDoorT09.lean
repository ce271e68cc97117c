/- Texts: H6 H7 H8. -/
import Derived.Test.YtgjomknpjigkhaaGreatDoorT08
import Derived.Deep.RegionLaw
import Derived.Deep.AppendLies
namespace Go.Proofs.YtgjomknpjigkhaaGreatDoor
open Go.RowKit

theorem info353 : (Tryz.prog.info? 353).map (fun i => (i.zero, i.size, i.bytes)) = some (some (.agg #[.string ⟨#[]⟩, .string ⟨#[]⟩, .int .i64 0, .slice none 0 0, .bool false]), 5, 72) := by kernel_rfl
theorem size330 : (Tryz.prog.info? 330).map (·.size) = some 5 := by kernel_rfl

def clauseG (ts : List Tn) : Except Nat ((AtomI × List LitI) × List Tn) :=
  match atomG ts with
  | .error l => .error l
  | .ok (a, us) => match bodyG us with
    | .error l => .error l
    | .ok (b, vs) => .ok ((a, b), vs)

def ClauseTo (base b g : Nat) (r : Except Nat ((AtomI × List LitI) × List Tn)) (e : Ending) (w' : World) : Prop := match r with
  | .ok ((a, ls), us) => ∃ hv lv cs, e = .returned (.agg #[.string (kindOf a.name.g), .string (txt a.name.g), .int .i64 a.name.line, hv, lv]) ∧ w'.ownsRow base 129 3 hv a.terms.length (tokCs a.terms) ∧ (∀ j, hv.ownBlock = some j → lv.ownBlock ≠ some j) ∧ w'.ownsRow base 353 5 lv ls.length cs ∧ LitsAre w' base lv.ownBlock.toList ls cs ∧ PAt w' b g us
  | .error l => e = gaveUp 5 l

def aheadC (a : AtomI) (d : List LitI) : Except Nat (List LitI × List Tn) → Except Nat ((AtomI × List LitI) × List Tn)
  | .ok (r, us) => .ok ((a, d ++ r), us)
  | .error l => .error l

/-- A call of a function as one step of a region that draws. -/
theorem step_call {ops : Array Oper} {o : Oper} {a : Act} {w : World} {K : Act → World → Prop} {Q : Exit → Act → World → Prop} {E : Prop} (hg : o.guard = none) (f : Nat) (x : Operand) (ty : TypeId) (hop : o.op = .call { callee := .value (.func f), args := #[x], argTypes := #[ty] }) (fn : Func) (hf : Tryz.prog.funcs[f]? = some fn) (hname : (fn.name == "runtime.NumGoroutine") = false) (hbody : fn.body.isNone = false) (v : Value) (hx : a.eval x = v)
    (h : Calls Tryz.prog f #[v] w fun
      | .returned v, w'' => K (a.put o.dst v) w''
      | .panicked chain, w'' => Q (.panic chain) a w''
      | .outgrown, _ => LetsOut Q) : if Region.wanted o (yielded ops a.tmps) = true then Oper.wp Tryz.prog o a w K Q else E := by
  have hw : Region.wanted o (yielded ops a.tmps) = true := by simp [Region.wanted, hg]
  rw [if_pos hw]
  unfold Oper.wp
  have he : (execOp a.eval o).run Tryz.prog w = .ok (.enter f #[v]) w := by
    have h1 : a.eval (.func f) = .func (.func f) #[] #[] := rfl
    simp only [execOp, hop, resolve, List.map_toArray, List.map_cons, List.map_nil, hx, h1, Deferred.ofValue, invoke, callFunc]
    have hn' : ¬ fn.name = "runtime.NumGoroutine" := by simpa using hname
    have hb' : ¬ fn.body = none := by intro e; rw [e] at hbody; cases hbody
    simp [hf]
    rw [if_neg hn', if_neg hb']
  rw [he]
  exact h

theorem lit_one {W : World} {a0 a1 a2 a3 a4 : Value} : ∀ (j : Nat) (x : Value), [a0, a1, a2, a3, a4][j]? = some x → (W.alloc (.cells #[a0, a1, a2, a3, a4] 353)).cell? ((⟨W.heap.size, 0, none⟩ : Addr).add j) = some x := by
  intro j x hx
  rw [Addr.add_lit, Nat.zero_add, (CellsAt.new W #[a0, a1, a2, a3, a4] 353).cell]
  match j with
  | 0 => simpa using hx
  | 1 => simpa using hx
  | 2 => simpa using hx
  | 3 => simpa using hx
  | 4 => simpa using hx
  | j + 5 => simp at hx

theorem CL.lit {w w4 w5 : World} {rb cb b g : Nat} {nm : Tn} {terms : List Tn} {hv : Value} {d : List LitI} {lv : Value} {cs : List Value} {us us' : List Tn} (h : CL w rb cb b g nm terms hv d lv cs us) (k5 : Keeps [b] w w4) (hp4 : PAt w4 b g us') {l : LitI} {tv : Value} (own4 : w4.ownsRow w.heap.size 129 3 tv l.atom.terms.length (tokCs l.atom.terms)) {o : Obj} (hgrow : (w4.alloc o).grownBy w5 lv.ownBlock) {gg cap : Nat} (hown : w5.ownsRow rb 353 5 (.slice (some ⟨gg, 0, none⟩) (d.length + 1) cap) (d.length + 1) (cs ++ litCells l tv)) (hat : lv.ownBlock = some gg ∨ gg = w4.heap.size + 1) :
    CL (w5.setCell ⟨cb, 4, none⟩ (.slice (some ⟨gg, 0, none⟩) (d.length + 1) cap)) rb cb b g nm terms hv (d ++ [l]) (.slice (some ⟨gg, 0, none⟩) (d.length + 1) cap) (cs ++ litCells l tv) us' ∧ Keeps ([b, cb] ++ lv.ownBlock.toList) w (w5.setCell ⟨cb, 4, none⟩ (.slice (some ⟨gg, 0, none⟩) (d.length + 1) cap)) := by
  have hC4 := (h.go k5 hp4).go (Keeps.alloc [b] w4 o) (alloc_at w4 hp4 o)
  have k6 := grownBy_keeps' hgrow lv.ownBlock.toList (fun r e => .inl (by simp [e]))
  have hcb := h.cl.lt
  have hrc := h.rc
  have hs := k5.size
  have hlv : ∀ j, lv.ownBlock = some j → j < w.heap.size := fun j hj => (ownE_lt h.lits j hj).2
  refine ⟨hC4.push (ownE_mono (ownsRow_kept own4 (Keeps.alloc [] w4 o) (by simp)) (by have := h.low; omega)) (fun j hj => ?_) k6 ?_ hown rfl, ?_⟩
  · have := ownE_lt own4 j hj
    rw [sizeE_alloc]
    refine ⟨fun hT => ?_, by omega⟩
    rcases List.mem_append.1 hT with hT | hT
    · have : j = rb ∨ j = cb := by simpa using hT
      omega
    · have := hlv j (by simpa using hT)
      omega
  · rcases hat with e | e
    · exact .inl e
    · right; rw [sizeE_alloc]; omega
  · have a1 : Keeps ([b, cb] ++ lv.ownBlock.toList) w (w4.alloc o) := (k5.trans (Keeps.alloc [b] w4 o)).mono (by simp)
    have a2 := a1.trans (k6.mono (fun i hi => List.mem_append_right _ hi))
    exact a2.trans ((Keeps.setCell w5 ⟨cb, 4, none⟩ _).mono (by simp))

theorem CL.done {w W : World} {rb cb b g : Nat} {a : AtomI} {hv : Value} {d : List LitI} {lv : Value} {cs : List Value} {us : List Tn} (h : CL w rb cb b g a.name a.terms hv d lv cs us) (k : Keeps [rb] w W) : ClauseTo rb b g (.ok ((a, d), us)) (.returned (.agg #[.string (kindOf a.name.g), .string (txt a.name.g), .int .i64 a.name.line, hv, lv])) W := by
  have := h.low
  have := h.rc
  refine ⟨hv, lv, cs, rfl, ownsRow_kept h.head k (fun j hj hT => ?_), fun j hj => (h.headA j hj).2, ownsRow_kept h.lits k (fun j hj hT => ?_), ?_, h.at_.keeps k (by simp; omega) (by simp; omega)⟩
  · have e : j = rb := (by simpa using hT); exact (h.headA j hj).1 (by simp [e])
  · have e : j = rb := (by simpa using hT); exact h.litsA j hj (by simp [e])
  · exact (h.are.keeps k (fun j hj => .inl (by have e : j = rb := (by simpa using hj); simp [e]))).apart (fun j hj => .inl (List.mem_append_right _ hj))

set_option maxRecDepth 100000 in
set_option maxHeartbeats 4000000 in
theorem clause_calls {w : World} {b g : Nat} {us : List Tn} (h : PAt w b g us) (he : Ended us) (hl : us.length ≤ 1000000) : Calls Tryz.prog 253 #[.pointer (some ⟨b, 0, none⟩)] w fun e w' => ClauseTo w.heap.size b g (clauseG us) e w' ∧ Keeps [b] w w' := by
  obtain ⟨i0, hi0, hz0, hz1, hz2⟩ := info_parts info353
  have h2 := hide (atom_calls (alloc_at w h (.cells #[.string ⟨#[]⟩, .string ⟨#[]⟩, .int .i64 0, .slice none 0 0, .slice none 0 0] 330)) he hl)
  have kA := Keeps.alloc [b] w (.cells #[.string ⟨#[]⟩, .string ⟨#[]⟩, .int .i64 0, .slice none 0 0, .slice none 0 0] 330)
  have hA := CellsAt.new w #[.string ⟨#[]⟩, .string ⟨#[]⟩, .int .i64 0, .slice none 0 0, .slice none 0 0] 330
  obtain ⟨hblt, hglt⟩ := h.lt
  clear h
  unfold clauseG
  cases hr : atomG us with
  | error l =>
    rw [hr] at h2
    go_enter Tryz.func253, Tryz.ntmps253
    go_wp2_with fail
    refine h2.out.mono ?_
    rintro e w1 ⟨rfl, k1⟩
    exact ⟨rfl, rfl, kA.trans k1⟩
  | ok q =>
    obtain ⟨a, vs⟩ := q
    rw [hr] at h2
    have g1 := atomG_goes he hr
    have hR0 : (match bodyG vs with
      | .error l => Except.error l
      | .ok (b, vs) => .ok ((a, b), vs)) = aheadC a [] (bodyG vs) := by
        cases bodyG vs with
        | error l => rfl
        | ok q => obtain ⟨x, y⟩ := q; rfl
    simp only
    rw [hR0]
    clear hR0
    generalize hR : aheadC a [] (bodyG vs) = R
    have HR := hide hR
    clear hR
    go_enter Tryz.func253, Tryz.ntmps253
    go_wp2_with fail
    refine h2.out.mono ?_
    rintro e w1 ⟨⟨hv, rfl, own, hp1⟩, k1⟩
    have hsz1 : w.heap.size + 1 ≤ w1.heap.size := by have := k1.size; rw [sizeE_alloc] at this; exact this
    have hres1 := hA.keeps k1 (by simp; omega)
    have kC := Keeps.alloc [b] w1 (.cells #[.string (kindOf a.name.g), .string (txt a.name.g), .int .i64 a.name.line, hv, .slice none 0 0] 330)
    have hCL : CL (w1.alloc (.cells #[.string (kindOf a.name.g), .string (txt a.name.g), .int .i64 a.name.line, hv, .slice none 0 0] 330)) w.heap.size w1.heap.size b g a.name a.terms hv [] (.slice none 0 0) [] vs :=
      ⟨hres1.keeps kC (by simp; omega), CellsAt.new w1 _ 330, by omega, ⟨hblt, hglt⟩, ownE_mono (ownsRow_kept own (Keeps.alloc [] w1 _) (by simp)) (by rw [sizeE_alloc]; omega), fun j hj => ⟨by have := ownE_lt own j hj; rw [sizeE_alloc] at this; simp; omega, by simp [Value.ownBlock]⟩, World.ownsRow_nil .., fun j hj => by simp [Value.ownBlock] at hj, rfl, alloc_at w1 hp1 _⟩
    have k3 : Keeps [b] w (w1.alloc (.cells #[.string (kindOf a.name.g), .string (txt a.name.g), .int .i64 a.name.line, hv, .slice none 0 0] 330)) := (kA.trans k1).trans kC
    have hTk := hide (takes_calls kp_arrow rfl hCL.at_ g1.2 (by have := g1.1; omega))
    obtain ⟨av, cv, hvv⟩ := ownE_len own
    subst hvv
    have HCL := hide hCL
    clear hCL own hres1
    cases hs : sees isArrowG vs with
    | false =>
      have hb : bodyG vs = (match takeG isDotG vs with
        | .error l => .error l
        | .ok (_, us) => .ok ([], us)) := by unfold bodyG; rw [hs]; rfl
      rw [hs] at hTk
      cases hr3 : takeG isDotG vs with
      | error l =>
        go_wp2_with fail
        refine hTk.out.mono ?_
        rintro e w2 ⟨rfl, hp2, k2⟩
        have h5 := hide (take_calls (us := vs) kp_dot rfl hp2 g1.2 (by have := g1.1; omega))
        rw [hr3] at h5
        go_wp2_with fail
        refine h5.out.mono ?_
        rintro e w4 ⟨rfl, k5⟩
        refine ⟨rfl, ?_, (k3.trans k2).trans k5⟩
        rw [← HR.out, hb, hr3]
        rfl
      | ok q3 =>
        obtain ⟨t3, us3⟩ := q3
        go_wp2_with fail
        refine hTk.out.mono ?_
        rintro e w2 ⟨rfl, hp2, k2⟩
        have h5 := hide (take_calls (us := vs) kp_dot rfl hp2 g1.2 (by have := g1.1; omega))
        rw [hr3] at h5
        go_wp2_with fail
        refine h5.out.mono ?_
        rintro e w4 ⟨⟨rfl, hp5⟩, k5⟩
        have hC4 := HCL.out.go (k2.trans k5) hp5
        have d0 := hC4.cl.cell 0
        have d1 := hC4.cl.cell 1
        have d2 := hC4.cl.cell 2
        have d3 := hC4.cl.cell 3
        have d4 := hC4.cl.cell 4
        obtain ⟨c0, f0, c1, f1, c2, f2, c3, f3, c4, f4, hat, hk⟩ := res5 hC4.res (.string (kindOf a.name.g)) (.string (txt a.name.g)) (.int .i64 a.name.line) (.slice av a.terms.length cv) (.slice none 0 0)
        have Hat := hide hat
        have Hdone := hide (hC4.done hk)
        have Hk := hide hk
        clear hat hk hC4
        go_wp2_with fail
        refine bodyPost_ret (v := .agg #[.string (kindOf a.name.g), .string (txt a.name.g), .int .i64 a.name.line, .slice av a.terms.length cv, .slice none 0 0]) (ret_cell (p := 2) (ty := 330) (by kernel_rfl) _ Hat.out Tryz.underlying330 size330 rfl) rfl ⟨?_, ((k3.trans k2).trans k5).trans_new Hk.out (by simp)⟩
        rw [← HR.out, hb, hr3]
        exact Hdone.out
    | true =>
      have g2 := sees_goes arrow_noFin g1.2 hs
      have hlt := hide (fun (w : World) (us : List Tn) (h : PAt w b g us) (he : Ended us) (hl : us.length ≤ 1000000) => lit_calls h he hl)
      rw [hs] at hTk
      cases hr3 : litG vs.tail with
      | error l =>
        have hb : bodyG vs = .error l := by unfold bodyG; rw [hs]; simp only [if_true]; rw [hr3]
        have Hbad : Hid (∀ W, ClauseTo w.heap.size b g R (gaveUp 5 l) W) := hide (fun W => by rw [← HR.out, hb]; exact rfl)
        go_wp2_with fail
        refine hTk.out.mono ?_
        rintro e w2 ⟨rfl, hp2, k2⟩
        have hC2 := HCL.out.go (us' := vs.tail) k2 hp2
        have hC2d := hC2.drew
        have h5 := hide (hlt.out w2.drew vs.tail hC2d.at_ g2.2 (by have := g1.1; have := g2.1; omega))
        rw [hr3] at h5
        have d4 := hC2.cl.cell 4
        have d4d := hC2d.cl.cell 4
        go_wp2_with fail
        refine wp_region_any (by kernel_rfl) ?_
        change wpAny _ _ _ _ _ _ _ (World.drew _)
        refine wpAny_take (i := 0) (v := ?_) rfl (by kernel_rfl) (by kernel_rfl) (by kernel_rfl) (fun _ _ _ h => h) (Or.inl ⟨by rfl, ?_⟩) ?_
        rotate_left
        · (intro w0; go_simp) <;> with_reducible rfl
        refine wpAny_take (i := 2) (v := ?_) rfl (by kernel_rfl) (by kernel_rfl) (by kernel_rfl) (fun _ _ _ h => h) (Or.inl ⟨by rfl, ?_⟩) ?_
        rotate_left
        · (intro w0; go_simp) <;> with_reducible rfl
        refine wpAny_ready (rs := [1, 3]) (by kernel_rfl) (by simp) ?_
        refine AllReady.cons rfl (fun K hK => ?_) ?_
        · go_simp
          refine hK _ _ ?_
          clear hK K
          refine wpAny_ready (rs := [3]) (by kernel_rfl) (by simp) ?_
          refine AllReady.cons rfl (fun K hK => ?_) AllReady.nil
          refine step_call rfl 290 _ _ rfl _ Tryz.func290 (by kernel_rfl) (by kernel_rfl) _ rfl ?_
          refine h5.out.mono ?_
          rintro e w4 ⟨rfl, k5⟩
          exact ⟨rfl, Hbad.out _, ((k3.trans k2).trans (Keeps.drew _ _)).trans k5⟩
        · refine AllReady.cons rfl (fun K hK => ?_) AllReady.nil
          refine step_call rfl 290 _ _ rfl _ Tryz.func290 (by kernel_rfl) (by kernel_rfl) _ rfl ?_
          refine h5.out.mono ?_
          rintro e w4 ⟨rfl, k5⟩
          exact ⟨rfl, Hbad.out _, ((k3.trans k2).trans (Keeps.drew _ _)).trans k5⟩
      | ok q3 =>
        obtain ⟨l3, us3⟩ := q3
        have g3 := litG_goes g2.2 hr3
        have hb : aheadC a [l3] (litsG us3.length us3) = R := by
          rw [← HR.out]
          unfold bodyG
          rw [hs]
          simp only [if_true]
          rw [hr3]
          simp only
          cases litsG us3.length us3 with
          | error l => rfl
          | ok q => obtain ⟨x, y⟩ := q; rfl
        have HR2 := hide hb
        clear hb HR
        go_wp2_with fail
        refine hTk.out.mono ?_
        rintro e w2 ⟨rfl, hp2, k2⟩
        have hC2 := HCL.out.go (us' := vs.tail) k2 hp2
        have hC2d := hC2.drew
        have h5 := hide (hlt.out w2.drew vs.tail hC2d.at_ g2.2 (by have := g1.1; have := g2.1; omega))
        rw [hr3] at h5
        have d4 := hC2.cl.cell 4
        have d4d := hC2d.cl.cell 4
        have HC2d := hide hC2d
        clear hC2 hC2d
        go_wp2_with fail
        go_region_law (first
          | (refine step_call rfl 290 _ _ rfl _ Tryz.func290 (by kernel_rfl) (by kernel_rfl) _ rfl ?_
             refine h5.out.mono ?_
             rintro e w4 ⟨⟨tv, rfl, own4, hp4⟩, k5⟩
             obtain ⟨tva, tvc, rfl⟩ := ownE_len own4
             have hs4 : w1.heap.size + 1 ≤ w4.heap.size := by have h1 := k2.size; have h2 := k5.size; rw [sizeE_alloc] at h1; exact Nat.le_trans h1 h2
             have hClA := (HC2d.out.go k5 hp4).cl.keeps (Keeps.alloc [] w4 (.cells #[.string (kindOf l3.atom.name.g), .string (txt l3.atom.name.g), .int .i64 l3.atom.name.line, .slice tva l3.atom.terms.length tvc, .bool l3.no] 353)) (by simp)
             have d4e := (HC2d.out.go k5 hp4).cl.cell 4
             have d4f := hClA.cell 4)
          | (refine step_append_lies _ (by rfl) _ _ _ (by rfl) w.heap.size 353 i0 _ 5 72 Tryz.underlying328 hi0 hz0 hz1 hz2 rfl (by omega) (.slice none 0 0) 0 [] (by rfl) (World.ownsRow_nil ..) ⟨w4.heap.size, 0, none⟩ 1 1 [.string (kindOf l3.atom.name.g), .string (txt l3.atom.name.g), .int .i64 l3.atom.name.line, .slice tva l3.atom.terms.length tvc, .bool l3.no] (by rfl) (by rfl) (lit_one (W := w4)) (by simp [Value.oneCell']) (by omega) (by unfold maxLen; omega) (by omega) (by simp; omega) (w4.heap.size + 1) (by simp) ?_
             intro gg cap w5 hown5 hgrow hat hlt5
             have k6 := grownBy_keeps' hgrow [] (fun r e => by simp [Value.ownBlock] at e)
             have hCl5 := hClA.keeps k6 (by simp)
             have d4g := hCl5.cell 4
             have f4g := hCl5.frozen 4
             have hNew := hide (HC2d.out.lit k5 hp4 own4 hgrow hown5 hat)
             clear hClA hCl5 k6))
        all_goals
          obtain ⟨hC6, k7⟩ := hNew.out
          have k8 : Keeps [b] w (w5.setCell ⟨w1.heap.size, 4, none⟩ (.slice (some ⟨gg, 0, none⟩) ([] : List LitI).length.succ cap)) := ((k3.trans k2).trans (Keeps.drew _ _)).trans_new k7 (fun i hi => by simp [Value.ownBlock] at hi; rcases hi with h | h <;> simp [h]; omega)
          have HC6 := hide hC6
          clear hC6 k7 d4d d4g f4g
          go_wp2_with fail
          go_loopw [16] (fun _ wr => ∃ (k : Nat) (d : List LitI) (lv : Value) (cs : List Value) (xs : List Tn), CL wr w.heap.size w1.heap.size b g a.name a.terms (.slice av a.terms.length cv) d lv cs xs ∧ Ended xs ∧ xs.length ≤ k ∧ d.length + xs.length ≤ us.length ∧ Keeps [b] w wr ∧ aheadC a d (litsG k xs) = R) (fun _ wr => sLen (wr.cell? ⟨b, 0, none⟩))
          case atStart => exact ⟨us3.length, [l3], _, _, us3, HC6.out, g3.2, Nat.le_refl _, by have := g1.1; have := g2.1; have := g3.1; simp; omega, k8, HR2.out⟩
          case round =>
            clear HC6 k8 hTk h5 hNew
            obtain ⟨k, d, lv, cs, xs, hCk, hex, hkx, hdx, kr, hres⟩ := hrel
            have hlen := hCk.at_.len
            obtain ⟨k, rfl⟩ : ∃ k', k = k' + 1 := by obtain ⟨t, q, rfl⟩ := hex.cons; simp at hkx; exact ⟨k - 1, by omega⟩
            have hCm := hide (takes_calls kp_comma rfl hCk.at_ hex (by omega))
            have HCk := hide hCk
            have Hlen := hide hlen
            clear hCk hlen
            cases hsc : sees isCommaG xs with
            | false =>
              rw [hsc] at hCm
              rw [litsG, hsc, if_neg (by decide)] at hres
              cases hrd : takeG isDotG xs with
              | error l =>
                rw [hrd] at hres
                have Hres := hide hres
                clear hres
                go_wp2_with fail
                refine hCm.out.mono ?_
                rintro e w6 ⟨rfl, hp6, k6⟩
                have h7 := hide (take_calls (us := xs) kp_dot rfl hp6 hex (by omega))
                rw [hrd] at h7
                go_wp2_with fail
                refine h7.out.mono ?_
                rintro e w7 ⟨rfl, k7⟩
                refine ⟨rfl, ?_, (kr.trans k6).trans k7⟩
                rw [← Hres.out]
                rfl
              | ok q4 =>
                obtain ⟨t4, us4⟩ := q4
                rw [hrd] at hres
                have Hres := hide hres
                clear hres
                go_wp2_with fail
                refine hCm.out.mono ?_
                rintro e w6 ⟨rfl, hp6, k6⟩
                have h7 := hide (take_calls (us := xs) kp_dot rfl hp6 hex (by omega))
                rw [hrd] at h7
                go_wp2_with fail
                refine h7.out.mono ?_
                rintro e w7 ⟨⟨rfl, hp7⟩, k7⟩
                have hC7 := HCk.out.go (k6.trans k7) hp7
                have d0 := hC7.cl.cell 0
                have d1 := hC7.cl.cell 1
                have d2 := hC7.cl.cell 2
                have d3 := hC7.cl.cell 3
                have d4 := hC7.cl.cell 4
                obtain ⟨lva, lvc, hlv⟩ := ownE_len hC7.lits
                subst hlv
                obtain ⟨c0, f0, c1, f1, c2, f2, c3, f3, c4, f4, hat7, hk7⟩ := res5 hC7.res (.string (kindOf a.name.g)) (.string (txt a.name.g)) (.int .i64 a.name.line) (.slice av a.terms.length cv) (.slice lva d.length lvc)
                have Hat := hide hat7
                have Hdone := hide (hC7.done hk7)
                have Hk := hide hk7
                clear hat7 hk7 hC7
                go_wp2_with fail
                refine bodyPost_ret (v := .agg #[.string (kindOf a.name.g), .string (txt a.name.g), .int .i64 a.name.line, .slice av a.terms.length cv, .slice lva d.length lvc]) (ret_cell (p := 2) (ty := 330) (by kernel_rfl) _ Hat.out Tryz.underlying330 size330 rfl) rfl ⟨?_, ((kr.trans k6).trans k7).trans_new Hk.out (by simp)⟩
                rw [← Hres.out]
                show ClauseTo w.heap.size b g (.ok ((a, d ++ []), us4)) _ _
                rw [List.append_nil]
                exact Hdone.out
            | true =>
              have g5 := sees_goes comma_noFin hex hsc
              rw [hsc] at hCm
              rw [litsG, hsc, if_pos rfl] at hres
              obtain ⟨lva, lvc, hlv⟩ := ownE_len HCk.out.lits
              subst hlv
              cases hr5 : litG xs.tail with
              | error l =>
                rw [hr5] at hres
                have Hbad : Hid (∀ W, ClauseTo w.heap.size b g R (gaveUp 5 l) W) := hide (fun W => by rw [← hres]; exact rfl)
                clear hres
                go_wp2_with fail
                refine hCm.out.mono ?_
                rintro e w6 ⟨rfl, hp6, k6⟩
                have hC6 := HCk.out.go (us' := xs.tail) k6 hp6
                have hC6d := hC6.drew
                have h7 := hide (hlt.out w6.drew xs.tail hC6d.at_ g5.2 (by have := g5.1; omega))
                rw [hr5] at h7
                have d4 := hC6.cl.cell 4
                have d4d := hC6d.cl.cell 4
                go_wp2_with fail
                refine wp_region_any (by kernel_rfl) ?_
                change wpAny _ _ _ _ _ _ _ (World.drew _)
                refine wpAny_take (i := 0) (v := ?_) rfl (by kernel_rfl) (by kernel_rfl) (by kernel_rfl) (fun _ _ _ h => h) (Or.inl ⟨by rfl, ?_⟩) ?_
                rotate_left
                · (intro w0; go_simp) <;> with_reducible rfl
                refine wpAny_take (i := 2) (v := ?_) rfl (by kernel_rfl) (by kernel_rfl) (by kernel_rfl) (fun _ _ _ h => h) (Or.inl ⟨by rfl, ?_⟩) ?_
                rotate_left
                · (intro w0; go_simp) <;> with_reducible rfl
                refine wpAny_ready (rs := [1, 3]) (by kernel_rfl) (by simp) ?_
                refine AllReady.cons rfl (fun K hK => ?_) ?_
                · go_simp
                  refine hK _ _ ?_
                  clear hK K
                  refine wpAny_ready (rs := [3]) (by kernel_rfl) (by simp) ?_
                  refine AllReady.cons rfl (fun K hK => ?_) AllReady.nil
                  refine step_call rfl 290 _ _ rfl _ Tryz.func290 (by kernel_rfl) (by kernel_rfl) _ rfl ?_
                  refine h7.out.mono ?_
                  rintro e w7 ⟨rfl, k7⟩
                  exact ⟨rfl, Hbad.out _, ((kr.trans k6).trans (Keeps.drew _ _)).trans k7⟩
                · refine AllReady.cons rfl (fun K hK => ?_) AllReady.nil
                  refine step_call rfl 290 _ _ rfl _ Tryz.func290 (by kernel_rfl) (by kernel_rfl) _ rfl ?_
                  refine h7.out.mono ?_
                  rintro e w7 ⟨rfl, k7⟩
                  exact ⟨rfl, Hbad.out _, ((kr.trans k6).trans (Keeps.drew _ _)).trans k7⟩
              | ok q5 =>
                obtain ⟨l5, us5⟩ := q5
                rw [hr5] at hres
                have g6 := litG_goes g5.2 hr5
                have hah : aheadC a (d ++ [l5]) (litsG k us5) = R := by
                  rw [← hres]
                  show _ = aheadC a d (match litsG k us5 with
                    | .error l => Except.error l
                    | .ok (r, vs) => .ok (l5 :: r, vs))
                  cases litsG k us5 with
                  | error l => rfl
                  | ok q => obtain ⟨r, xs⟩ := q; simp [aheadC]
                have Hah := hide hah
                clear hres hah
                go_wp2_with fail
                refine hCm.out.mono ?_
                rintro e w6 ⟨rfl, hp6, k6⟩
                have hC6 := HCk.out.go (us' := xs.tail) k6 hp6
                have hC6d := hC6.drew
                have h7 := hide (hlt.out w6.drew xs.tail hC6d.at_ g5.2 (by have := g5.1; omega))
                rw [hr5] at h7
                have d4 := hC6.cl.cell 4
                have d4d := hC6d.cl.cell 4
                have HC6d := hide hC6d
                have hrb6 := hC6d.low
                have hrl6 := hC6d.res.lt
                clear hC6 hC6d
                go_wp2_with fail
                go_region_law (first
                  | (refine step_call rfl 290 _ _ rfl _ Tryz.func290 (by kernel_rfl) (by kernel_rfl) _ rfl ?_
                     refine h7.out.mono ?_
                     rintro e w7 ⟨⟨tv5, rfl, own7, hp7⟩, k7⟩
                     obtain ⟨tva5, tvc5, rfl⟩ := ownE_len own7
                     have hs7 := k7.size
                     have hCl7 := (HC6d.out.go k7 hp7)
                     have hClA := hCl7.cl.keeps (Keeps.alloc [] w7 (.cells #[.string (kindOf l5.atom.name.g), .string (txt l5.atom.name.g), .int .i64 l5.atom.name.line, .slice tva5 l5.atom.terms.length tvc5, .bool l5.no] 353)) (by simp)
                     have hOwA := ownsRow_kept hCl7.lits (Keeps.alloc [] w7 (.cells #[.string (kindOf l5.atom.name.g), .string (txt l5.atom.name.g), .int .i64 l5.atom.name.line, .slice tva5 l5.atom.terms.length tvc5, .bool l5.no] 353)) (by simp)
                     have d4e := hCl7.cl.cell 4
                     have d4f := hClA.cell 4)
                  | (refine step_append_lies _ (by rfl) _ _ _ (by rfl) w.heap.size 353 i0 _ 5 72 Tryz.underlying328 hi0 hz0 hz1 hz2 rfl (by omega) (.slice lva d.length lvc) d.length cs (by rfl) hOwA ⟨w7.heap.size, 0, none⟩ 1 1 [.string (kindOf l5.atom.name.g), .string (txt l5.atom.name.g), .int .i64 l5.atom.name.line, .slice tva5 l5.atom.terms.length tvc5, .bool l5.no] (by rfl) (by rfl) (lit_one (W := w7)) (by simp [Value.oneCell']) (by omega) (by unfold maxLen; omega) (by omega) (by rw [sizeE_alloc]; omega) (w7.heap.size + 1) (by simp) ?_
                     intro gg7 cap7 w8 hown8 hgrow8 hat8 hlt8
                     have k8' := grownBy_keeps' hgrow8 (Value.slice lva d.length lvc).ownBlock.toList (fun r e => .inl (by simp [e]))
                     have hCl8 := hClA.keeps k8' (fun hT => HC6d.out.litsA w1.heap.size (by simpa using hT) (by simp))
                     have d4g := hCl8.cell 4
                     have f4g := hCl8.frozen 4
                     have hNew8 := hide (HC6d.out.lit k7 hp7 own7 hgrow8 hown8 hat8)
                     clear hClA hCl8 k8' hCl7 hOwA))
                all_goals
                  obtain ⟨hC9, k9⟩ := hNew8.out
                  have k10 : Keeps [b] w (w8.setCell ⟨w1.heap.size, 4, none⟩ (.slice (some ⟨gg7, 0, none⟩) (d.length + 1) cap7)) := ((kr.trans k6).trans (Keeps.drew _ _)).trans_new k9 (fun i hi => by
                    rcases List.mem_append.1 hi with hi | hi
                    · simp at hi; rcases hi with h | h <;> simp [h]; omega
                    · exact .inr (ownE_base HC6d.out.lits i (by simpa using hi)).1)
                  have hlen9 := hide hC9.at_.len
                  have HC9 := hide hC9
                  clear hC9 k9 d4d d4g f4g
                  go_wp2_with fail
                  go_roundw
                  · exact ⟨k, d ++ [l5], _, _, us5, HC9.out, g6.2, by have := g5.1; have := g6.1; omega, by have := g5.1; have := g6.1; rw [List.length_append, List.length_singleton]; omega, k10, Hah.out⟩
                  · rw [hlen9.out, Hlen.out]; have := g5.1; have := g6.1; omega

end Go.Proofs.YtgjomknpjigkhaaGreatDoor

namespace Go.Proofs.YtgjomknpjigkhaaGreatDoor
open Go.RowKit

/-- An item as a value: its rows lie apart from some blocks. -/
def ItemV (w : World) (base : Nat) (X : List Nat) : ItemI → Value → Prop
  | .dom n z, v => v = .iface 321 (.agg #[.string (kindOf n.g), .string (txt n.g), .int .i64 n.line, .string (kindOf z.g), .string (txt z.g), .int .i64 z.line])
  | .rel n cs, v => ∃ cv, v = .iface 325 (.agg #[.string (kindOf n.g), .string (txt n.g), .int .i64 n.line, cv]) ∧ w.ownsRow base 129 3 cv cs.length (tokCs cs) ∧ ∀ j, cv.ownBlock = some j → j ∉ X
  | .clause a ls, v => ∃ hv lv cs, v = .iface 330 (.agg #[.string (kindOf a.name.g), .string (txt a.name.g), .int .i64 a.name.line, hv, lv]) ∧ w.ownsRow base 129 3 hv a.terms.length (tokCs a.terms) ∧ (∀ j, hv.ownBlock = some j → j ∉ X) ∧ w.ownsRow base 353 5 lv ls.length cs ∧ (∀ j, lv.ownBlock = some j → j ∉ X) ∧ LitsAre w base X ls cs
theorem ItemV.keeps {w w' : World} {base : Nat} {X : List Nat} {i : ItemI} {v : Value} {T : List Nat} (h : ItemV w base X i v) (k : Keeps T w w') (hT : ∀ j ∈ T, j ∈ X ∨ j < base ∨ w.heap.size ≤ j) : ItemV w' base X i v := by
  have own : ∀ {e : TypeId} {size n : Nat} {u : Value} {xs : List Value}, w.ownsRow base e size u n xs → (∀ j, u.ownBlock = some j → j ∉ X) → w'.ownsRow base e size u n xs := fun h hx => ownsRow_kept h k (fun j hj hjT => by
    have := ownE_lt h j hj
    rcases hT j hjT with h' | h' | h'
    · exact hx j hj h'
    · omega
    · omega)
  cases i with
  | dom n z => exact h
  | rel n cs =>
    obtain ⟨cv, h1, h2, h3⟩ := h
    exact ⟨cv, h1, own h2 h3, h3⟩
  | clause a ls =>
    obtain ⟨hv, lv, cs, h1, h2, h3, h4, h5, h6⟩ := h
    exact ⟨hv, lv, cs, h1, own h2 h3, h3, own h4 h5, h5, h6.keeps k hT⟩
theorem ItemV.apart {w : World} {base : Nat} {X Y : List Nat} {i : ItemI} {v : Value} (h : ItemV w base X i v) (hY : ∀ j ∈ Y, j ∈ X ∨ w.heap.size ≤ j) : ItemV w base Y i v := by
  have ap : ∀ {e : TypeId} {size n : Nat} {u : Value} {xs : List Value}, w.ownsRow base e size u n xs → (∀ j, u.ownBlock = some j → j ∉ X) → ∀ j, u.ownBlock = some j → j ∉ Y := fun h hx j hj hjY => by
    have := ownE_lt h j hj
    rcases hY j hjY with h' | h'
    · exact hx j hj h'
    · omega
  cases i with
  | dom n z => exact h
  | rel n cs =>
    obtain ⟨cv, h1, h2, h3⟩ := h
    exact ⟨cv, h1, h2, ap h2 h3⟩
  | clause a ls =>
    obtain ⟨hv, lv, cs, h1, h2, h3, h4, h5, h6⟩ := h
    exact ⟨hv, lv, cs, h1, h2, ap h2 h3, h4, ap h4 h5, h6.apart hY⟩
theorem LitsAre.above {w : World} {base : Nat} {X Y : List Nat} {ls : List LitI} {cs : List Value} (h : LitsAre w base X ls cs) (hY : ∀ j ∈ Y, j < base) : LitsAre w base Y ls cs := by
  induction ls generalizing cs with
  | nil => exact h
  | cons l ls ih =>
    obtain ⟨v, rest, h1, h2, h3, h4⟩ := h
    exact ⟨v, rest, h1, h2, fun j hj hjY => by have := (ownE_base h2 j hj).1; have := hY j hjY; omega, ih h4⟩
/-- Blocks that lie below are apart. -/
theorem ItemV.above {w : World} {base : Nat} {X Y : List Nat} {i : ItemI} {v : Value} (h : ItemV w base X i v) (hY : ∀ j ∈ Y, j < base) : ItemV w base Y i v := by
  have ap : ∀ {e : TypeId} {size n : Nat} {u : Value} {xs : List Value}, w.ownsRow base e size u n xs → ∀ j, u.ownBlock = some j → j ∉ Y := fun h j hj hjY => by
    have := (ownE_base h j hj).1
    have := hY j hjY
    omega
  cases i with
  | dom n z => exact h
  | rel n cs =>
    obtain ⟨cv, h1, h2, h3⟩ := h
    exact ⟨cv, h1, h2, ap h2⟩
  | clause a ls =>
    obtain ⟨hv, lv, cs, h1, h2, h3, h4, h5, h6⟩ := h
    exact ⟨hv, lv, cs, h1, h2, ap h2, h4, ap h4, h6.above hY⟩
theorem ItemV.mono {w : World} {base base' : Nat} {X : List Nat} {i : ItemI} {v : Value} (h : ItemV w base X i v) (hb : base' ≤ base) : ItemV w base' X i v := by
  cases i with
  | dom n z => exact h
  | rel n cs =>
    obtain ⟨cv, h1, h2, h3⟩ := h
    exact ⟨cv, h1, ownE_mono h2 hb, h3⟩
  | clause a ls =>
    obtain ⟨hv, lv, cs, h1, h2, h3, h4, h5, h6⟩ := h
    exact ⟨hv, lv, cs, h1, ownE_mono h2 hb, h3, ownE_mono h4 hb, h5, h6.mono hb⟩

def ItemTo (base b g : Nat) (r : Except Nat (ItemI × List Tn)) (e : Ending) (w' : World) : Prop := match r with
  | .ok (i, us) => ∃ v, e = .returned v ∧ ItemV w' base [] i v ∧ v.oneCell' = true ∧ PAt w' b g us
  | .error l => e = gaveUp 5 l

set_option maxRecDepth 100000 in
set_option maxHeartbeats 4000000 in
theorem item_dom {w : World} {b g : Nat} {us : List Tn} (h : PAt w b g us) (he : Ended us) (hl : us.length ≤ 1000000) (hs : sees isDomG us = true) : Calls Tryz.prog 199 #[.pointer (some ⟨b, 0, none⟩)] w fun e w' => ItemTo w.heap.size b g (itemG us) e w' ∧ Keeps [b] w w' := by
  have hT := hide (takes_calls kp_dom rfl h he hl)
  have g1 := sees_goes dom_noFin he hs
  have hlow := h.lt
  rw [hs] at hT
  clear h
  unfold itemG
  rw [if_pos hs]
  cases hr1 : takeG isNameG us.tail with
  | error l =>
    go_enter Tryz.func199, Tryz.ntmps199
    go_wp2_with fail
    refine hT.out.mono ?_
    rintro e w1 ⟨rfl, hp1, k1⟩
    have h2 := hide (take_calls (us := us.tail) kp_name rfl hp1 g1.2 (by have := g1.1; omega))
    rw [hr1] at h2
    go_wp2_with fail
    refine h2.out.mono ?_
    rintro e w2 ⟨rfl, k2⟩
    exact ⟨rfl, rfl, k1.trans k2⟩
  | ok q1 =>
    obtain ⟨n, us1⟩ := q1
    have g2 := (takeG_goes name_noFin g1.2 hr1).1
    simp only
    cases hr2 : takeG isIntG us1 with
    | error l =>
      go_enter Tryz.func199, Tryz.ntmps199
      go_wp2_with fail
      refine hT.out.mono ?_
      rintro e w1 ⟨rfl, hp1, k1⟩
      have h2 := hide (take_calls (us := us.tail) kp_name rfl hp1 g1.2 (by have := g1.1; omega))
      rw [hr1] at h2
      go_wp2_with fail
      refine h2.out.mono ?_
      rintro e w2 ⟨⟨rfl, hp2⟩, k2⟩
      have h3 := hide (take_calls kp_int rfl hp2 g2.2 (by have := g1.1; have := g2.1; omega))
      rw [hr2] at h3
      go_wp2_with fail
      refine h3.out.mono ?_
      rintro e w3 ⟨rfl, k3⟩
      exact ⟨rfl, rfl, (k1.trans k2).trans k3⟩
    | ok q2 =>
      obtain ⟨z, us2⟩ := q2
      have g3 := (takeG_goes int_noFin g2.2 hr2).1
      simp only
      cases hr3 : takeG isSemiG us2 with
      | error l =>
        go_enter Tryz.func199, Tryz.ntmps199
        go_wp2_with fail
        refine hT.out.mono ?_
        rintro e w1 ⟨rfl, hp1, k1⟩
        have h2 := hide (take_calls (us := us.tail) kp_name rfl hp1 g1.2 (by have := g1.1; omega))
        rw [hr1] at h2
        go_wp2_with fail
        refine h2.out.mono ?_
        rintro e w2 ⟨⟨rfl, hp2⟩, k2⟩
        have h3 := hide (take_calls kp_int rfl hp2 g2.2 (by have := g1.1; have := g2.1; omega))
        rw [hr2] at h3
        go_wp2_with fail
        refine h3.out.mono ?_
        rintro e w3 ⟨⟨rfl, hp3⟩, k3⟩
        have h4 := hide (take_calls kp_semi rfl (alloc_at w3 hp3 (.cells #[.string (kindOf n.g), .string (txt n.g), .int .i64 n.line, .string (kindOf z.g), .string (txt z.g), .int .i64 z.line] 321)) g3.2 (by have := g1.1; have := g2.1; have := g3.1; omega))
        rw [hr3] at h4
        have kA := Keeps.alloc [b] w3 (.cells #[.string (kindOf n.g), .string (txt n.g), .int .i64 n.line, .string (kindOf z.g), .string (txt z.g), .int .i64 z.line] 321)
        unfold tokV
        go_wp2_with fail
        refine h4.out.mono ?_
        rintro e w4 ⟨rfl, k4⟩
        exact ⟨rfl, rfl, (((k1.trans k2).trans k3).trans kA).trans k4⟩
      | ok q3 =>
        obtain ⟨t3, us3⟩ := q3
        go_enter Tryz.func199, Tryz.ntmps199
        go_wp2_with fail
        refine hT.out.mono ?_
        rintro e w1 ⟨rfl, hp1, k1⟩
        have h2 := hide (take_calls (us := us.tail) kp_name rfl hp1 g1.2 (by have := g1.1; omega))
        rw [hr1] at h2
        go_wp2_with fail
        refine h2.out.mono ?_
        rintro e w2 ⟨⟨rfl, hp2⟩, k2⟩
        have h3 := hide (take_calls kp_int rfl hp2 g2.2 (by have := g1.1; have := g2.1; omega))
        rw [hr2] at h3
        go_wp2_with fail
        refine h3.out.mono ?_
        rintro e w3 ⟨⟨rfl, hp3⟩, k3⟩
        have h4 := hide (take_calls kp_semi rfl (alloc_at w3 hp3 (.cells #[.string (kindOf n.g), .string (txt n.g), .int .i64 n.line, .string (kindOf z.g), .string (txt z.g), .int .i64 z.line] 321)) g3.2 (by have := g1.1; have := g2.1; have := g3.1; omega))
        rw [hr3] at h4
        have kA := Keeps.alloc [b] w3 (.cells #[.string (kindOf n.g), .string (txt n.g), .int .i64 n.line, .string (kindOf z.g), .string (txt z.g), .int .i64 z.line] 321)
        have hA := CellsAt.new w3 #[.string (kindOf n.g), .string (txt n.g), .int .i64 n.line, .string (kindOf z.g), .string (txt z.g), .int .i64 z.line] 321
        have hb3 := hp3.lt
        unfold tokV
        go_wp2_with fail
        refine h4.out.mono ?_
        rintro e w4 ⟨⟨rfl, hp4⟩, k4⟩
        have hA4 := hA.keeps k4 (by simp; omega)
        have d0 := hA4.cell 0
        have d1 := hA4.cell 1
        have d2 := hA4.cell 2
        have d3 := hA4.cell 3
        have d4 := hA4.cell 4
        have d5 := hA4.cell 5
        clear hA4 hA
        go_wp2_with fail
        go_ret
        exact ⟨⟨_, rfl, rfl, rfl, hp4⟩, (((k1.trans k2).trans k3).trans kA).trans k4⟩

set_option maxRecDepth 100000 in
set_option maxHeartbeats 4000000 in
theorem item_rel {w : World} {b g : Nat} {us : List Tn} (h : PAt w b g us) (he : Ended us) (hl : us.length ≤ 1000000) (hs0 : sees isDomG us = false) (hs : sees isRelG us = true) : Calls Tryz.prog 199 #[.pointer (some ⟨b, 0, none⟩)] w fun e w' => ItemTo w.heap.size b g (itemG us) e w' ∧ Keeps [b] w w' := by
  have hT0 := hide (takes_calls kp_dom rfl h he hl)
  have g1 := sees_goes rel_noFin he hs
  have hlow := h.lt
  rw [hs0] at hT0
  clear h
  unfold itemG
  rw [if_neg (by rw [hs0]; decide), if_pos hs]
  cases hr1 : takeG isNameG us.tail with
  | error l =>
    go_enter Tryz.func199, Tryz.ntmps199
    go_wp2_with fail
    refine hT0.out.mono ?_
    rintro e w0 ⟨rfl, hp0, k0⟩
    have hT := hide (takes_calls (us := us) kp_rel rfl hp0 he hl)
    rw [hs] at hT
    go_wp2_with fail
    refine hT.out.mono ?_
    rintro e w1 ⟨rfl, hp1, k1⟩
    have h2 := hide (take_calls (us := us.tail) kp_name rfl hp1 g1.2 (by have := g1.1; omega))
    rw [hr1] at h2
    go_wp2_with fail
    refine h2.out.mono ?_
    rintro e w2 ⟨rfl, k2⟩
    exact ⟨rfl, rfl, (k0.trans k1).trans k2⟩
  | ok q1 =>
    obtain ⟨n, us1⟩ := q1
    have g2 := (takeG_goes name_noFin g1.2 hr1).1
    simp only
    cases hr2 : listG isNameG us1 with
    | error l =>
      go_enter Tryz.func199, Tryz.ntmps199
      go_wp2_with fail
      refine hT0.out.mono ?_
      rintro e w0 ⟨rfl, hp0, k0⟩
      have hT := hide (takes_calls (us := us) kp_rel rfl hp0 he hl)
      rw [hs] at hT
      go_wp2_with fail
      refine hT.out.mono ?_
      rintro e w1 ⟨rfl, hp1, k1⟩
      have h2 := hide (take_calls (us := us.tail) kp_name rfl hp1 g1.2 (by have := g1.1; omega))
      rw [hr1] at h2
      go_wp2_with fail
      refine h2.out.mono ?_
      rintro e w2 ⟨⟨rfl, hp2⟩, k2⟩
      have h3 := hide (list252_calls hp2 g2.2 (by have := g1.1; have := g2.1; omega))
      rw [hr2] at h3
      go_wp2_with fail
      refine h3.out.mono ?_
      rintro e w3 ⟨rfl, k3⟩
      exact ⟨rfl, rfl, ((k0.trans k1).trans k2).trans k3⟩
    | ok q2 =>
      obtain ⟨cs, us2⟩ := q2
      have g3 := listG_goes name_noFin g2.2 hr2
      simp only
      cases hr3 : takeG isSemiG us2 with
      | error l =>
        go_enter Tryz.func199, Tryz.ntmps199
        go_wp2_with fail
        refine hT0.out.mono ?_
        rintro e w0 ⟨rfl, hp0, k0⟩
        have hT := hide (takes_calls (us := us) kp_rel rfl hp0 he hl)
        rw [hs] at hT
        go_wp2_with fail
        refine hT.out.mono ?_
        rintro e w1 ⟨rfl, hp1, k1⟩
        have h2 := hide (take_calls (us := us.tail) kp_name rfl hp1 g1.2 (by have := g1.1; omega))
        rw [hr1] at h2
        go_wp2_with fail
        refine h2.out.mono ?_
        rintro e w2 ⟨⟨rfl, hp2⟩, k2⟩
        have h3 := hide (list252_calls hp2 g2.2 (by have := g1.1; have := g2.1; omega))
        rw [hr2] at h3
        go_wp2_with fail
        refine h3.out.mono ?_
        rintro e w3 ⟨⟨cv, rfl, own, hp3⟩, k3⟩
        obtain ⟨cva, cvc, rfl⟩ := ownE_len own
        have h4 := hide (take_calls kp_semi rfl (alloc_at w3 hp3 (.cells #[.string (kindOf n.g), .string (txt n.g), .int .i64 n.line, .slice cva cs.length cvc] 325)) g3.2 (by have := g1.1; have := g2.1; have := g3.1; omega))
        rw [hr3] at h4
        have kA := Keeps.alloc [b] w3 (.cells #[.string (kindOf n.g), .string (txt n.g), .int .i64 n.line, .slice cva cs.length cvc] 325)
        unfold tokV
        go_wp2_with fail
        refine h4.out.mono ?_
        rintro e w4 ⟨rfl, k4⟩
        exact ⟨rfl, rfl, ((((k0.trans k1).trans k2).trans k3).trans kA).trans k4⟩
      | ok q3 =>
        obtain ⟨t3, us3⟩ := q3
        go_enter Tryz.func199, Tryz.ntmps199
        go_wp2_with fail
        refine hT0.out.mono ?_
        rintro e w0 ⟨rfl, hp0, k0⟩
        have hT := hide (takes_calls (us := us) kp_rel rfl hp0 he hl)
        rw [hs] at hT
        go_wp2_with fail
        refine hT.out.mono ?_
        rintro e w1 ⟨rfl, hp1, k1⟩
        have h2 := hide (take_calls (us := us.tail) kp_name rfl hp1 g1.2 (by have := g1.1; omega))
        rw [hr1] at h2
        go_wp2_with fail
        refine h2.out.mono ?_
        rintro e w2 ⟨⟨rfl, hp2⟩, k2⟩
        have h3 := hide (list252_calls hp2 g2.2 (by have := g1.1; have := g2.1; omega))
        rw [hr2] at h3
        go_wp2_with fail
        refine h3.out.mono ?_
        rintro e w3 ⟨⟨cv, rfl, own, hp3⟩, k3⟩
        obtain ⟨cva, cvc, rfl⟩ := ownE_len own
        have h4 := hide (take_calls kp_semi rfl (alloc_at w3 hp3 (.cells #[.string (kindOf n.g), .string (txt n.g), .int .i64 n.line, .slice cva cs.length cvc] 325)) g3.2 (by have := g1.1; have := g2.1; have := g3.1; omega))
        rw [hr3] at h4
        have kA := Keeps.alloc [b] w3 (.cells #[.string (kindOf n.g), .string (txt n.g), .int .i64 n.line, .slice cva cs.length cvc] 325)
        have hA := CellsAt.new w3 #[.string (kindOf n.g), .string (txt n.g), .int .i64 n.line, .slice cva cs.length cvc] 325
        have hb3 := hp3.lt
        have hsz : w.heap.size ≤ w2.heap.size := by have := k0.size; have := k1.size; have := k2.size; omega
        unfold tokV
        go_wp2_with fail
        refine h4.out.mono ?_
        rintro e w4 ⟨⟨rfl, hp4⟩, k4⟩
        have hA4 := hA.keeps k4 (by simp; omega)
        have d0 := hA4.cell 0
        have d1 := hA4.cell 1
        have d2 := hA4.cell 2
        have d3 := hA4.cell 3
        have hown4 := ownE_mono (ownsRow_kept own (kA.trans k4) (fun j hj hT => by have := (ownE_base own j hj).1; have e : j = b := (by simpa using hT); omega)) hsz
        have Hown4 := hide hown4
        clear hA4 hA own hown4
        go_wp2_with fail
        go_ret
        exact ⟨⟨_, rfl, ⟨_, rfl, Hown4.out, by simp⟩, rfl, hp4⟩, ((((k0.trans k1).trans k2).trans k3).trans kA).trans k4⟩

set_option maxRecDepth 100000 in
set_option maxHeartbeats 4000000 in
theorem item_clause {w : World} {b g : Nat} {us : List Tn} (h : PAt w b g us) (he : Ended us) (hl : us.length ≤ 1000000) (hs0 : sees isDomG us = false) (hs : sees isRelG us = false) : Calls Tryz.prog 199 #[.pointer (some ⟨b, 0, none⟩)] w fun e w' => ItemTo w.heap.size b g (itemG us) e w' ∧ Keeps [b] w w' := by
  have hT0 := hide (takes_calls kp_dom rfl h he hl)
  have hlow := h.lt
  rw [hs0] at hT0
  clear h
  have hi : itemG us = (match clauseG us with
      | .error l => .error l
      | .ok (q, vs) => .ok (.clause q.1 q.2, vs)) := by
    unfold itemG clauseG
    rw [if_neg (by rw [hs0]; decide), if_neg (by rw [hs]; decide)]
    cases atomG us with
    | error l => rfl
    | ok q =>
      obtain ⟨a, vs⟩ := q
      simp only
      cases bodyG vs with
      | error l => rfl
      | ok q => rfl
  rw [hi]
  cases hr1 : clauseG us with
  | error l =>
    go_enter Tryz.func199, Tryz.ntmps199
    go_wp2_with fail
    refine hT0.out.mono ?_
    rintro e w0 ⟨rfl, hp0, k0⟩
    have hT := hide (takes_calls (us := us) kp_rel rfl hp0 he hl)
    rw [hs] at hT
    go_wp2_with fail
    refine hT.out.mono ?_
    rintro e w1 ⟨rfl, hp1, k1⟩
    have h2 := hide (clause_calls (us := us) hp1 he hl)
    rw [hr1] at h2
    go_wp2_with fail
    refine h2.out.mono ?_
    rintro e w2 ⟨rfl, k2⟩
    exact ⟨rfl, rfl, (k0.trans k1).trans k2⟩
  | ok q1 =>
    obtain ⟨⟨a, ls⟩, us1⟩ := q1
    go_enter Tryz.func199, Tryz.ntmps199
    go_wp2_with fail
    refine hT0.out.mono ?_
    rintro e w0 ⟨rfl, hp0, k0⟩
    have hT := hide (takes_calls (us := us) kp_rel rfl hp0 he hl)
    rw [hs] at hT
    go_wp2_with fail
    refine hT.out.mono ?_
    rintro e w1 ⟨rfl, hp1, k1⟩
    have h2 := hide (clause_calls (us := us) hp1 he hl)
    rw [hr1] at h2
    go_wp2_with fail
    refine h2.out.mono ?_
    rintro e w2 ⟨⟨hv, lv, cs, rfl, own1, _, own2, hla, hp2⟩, k2⟩
    have hsz : w.heap.size ≤ w1.heap.size := by have := k0.size; have := k1.size; omega
    go_wp2_with fail
    go_ret
    exact ⟨⟨_, rfl, ⟨hv, lv, cs, rfl, ownE_mono own1 hsz, by simp, ownE_mono own2 hsz, by simp, (hla.mono hsz).apart (fun j hj => by cases hj)⟩, rfl, hp2⟩, (k0.trans k1).trans k2⟩

theorem item_calls {w : World} {b g : Nat} {us : List Tn} (h : PAt w b g us) (he : Ended us) (hl : us.length ≤ 1000000) : Calls Tryz.prog 199 #[.pointer (some ⟨b, 0, none⟩)] w fun e w' => ItemTo w.heap.size b g (itemG us) e w' ∧ Keeps [b] w w' := by
  cases h1 : sees isDomG us with
  | true => exact item_dom h he hl h1
  | false =>
    cases h2 : sees isRelG us with
    | true => exact item_rel h he hl h1 h2
    | false => exact item_clause h he hl h1 h2

end Go.Proofs.YtgjomknpjigkhaaGreatDoor

namespace Go.Proofs.YtgjomknpjigkhaaGreatDoor
open Go.RowKit

theorem info273 : (Tryz.prog.info? 273).map (fun i => (i.zero, i.size, i.bytes)) = some (some Value.nilIface, 1, 16) := by kernel_rfl

/-- Items, one value each. -/
def ItemsAre (w : World) (base : Nat) (X : List Nat) : List ItemI → List Value → Prop
  | [], vs => vs = []
  | i :: is, vs => ∃ v rest, vs = v :: rest ∧ ItemV w base X i v ∧ ItemsAre w base X is rest
theorem ItemsAre.keeps {w w' : World} {base : Nat} {X : List Nat} {is : List ItemI} {vs : List Value} {T : List Nat} (h : ItemsAre w base X is vs) (k : Keeps T w w') (hT : ∀ j ∈ T, j ∈ X ∨ j < base ∨ w.heap.size ≤ j) : ItemsAre w' base X is vs := by
  induction is generalizing vs with
  | nil => exact h
  | cons i is ih =>
    obtain ⟨v, rest, h1, h2, h3⟩ := h
    exact ⟨v, rest, h1, h2.keeps k hT, ih h3⟩
theorem ItemsAre.apart {w : World} {base : Nat} {X Y : List Nat} {is : List ItemI} {vs : List Value} (h : ItemsAre w base X is vs) (hY : ∀ j ∈ Y, j ∈ X ∨ w.heap.size ≤ j) : ItemsAre w base Y is vs := by
  induction is generalizing vs with
  | nil => exact h
  | cons i is ih =>
    obtain ⟨v, rest, h1, h2, h3⟩ := h
    exact ⟨v, rest, h1, h2.apart hY, ih h3⟩
theorem ItemsAre.snoc {w : World} {base : Nat} {X : List Nat} {is : List ItemI} {vs : List Value} (h : ItemsAre w base X is vs) {i : ItemI} {v : Value} (h2 : ItemV w base X i v) : ItemsAre w base X (is ++ [i]) (vs ++ [v]) := by
  induction is generalizing vs with
  | nil =>
    have : vs = [] := h
    subst this
    exact ⟨v, [], rfl, h2, rfl⟩
  | cons x is ih =>
    obtain ⟨u, rest, h1, k2, k3⟩ := h
    exact ⟨u, rest ++ [v], by rw [h1]; rfl, k2, ih k3⟩
theorem ItemsAre.mono {w : World} {base base' : Nat} {X : List Nat} {is : List ItemI} {vs : List Value} (h : ItemsAre w base X is vs) (hb : base' ≤ base) : ItemsAre w base' X is vs := by
  induction is generalizing vs with
  | nil => exact h
  | cons i is ih =>
    obtain ⟨v, rest, h1, h2, h3⟩ := h
    exact ⟨v, rest, h1, h2.mono hb, ih h3⟩
theorem ItemsAre.len {w : World} {base : Nat} {X : List Nat} {is : List ItemI} {vs : List Value} (h : ItemsAre w base X is vs) : vs.length = is.length := by
  induction is generalizing vs with
  | nil => have : vs = [] := h; rw [this]; rfl
  | cons i is ih =>
    obtain ⟨v, rest, h1, _, h3⟩ := h
    rw [h1, List.length_cons, List.length_cons, ih h3]

theorem ItemV.iface {w : World} {base : Nat} {X : List Nat} {i : ItemI} {v : Value} (h : ItemV w base X i v) : ∃ t x, v = .iface t x := by
  cases i with
  | dom n z => exact ⟨_, _, h⟩
  | rel n cs => obtain ⟨cv, h1, _⟩ := h; exact ⟨_, _, h1⟩
  | clause a ls => obtain ⟨hv, lv, cs, h1, _⟩ := h; exact ⟨_, _, h1⟩

def ParseTo (base : Nat) (r : Except Nat (List ItemI)) (e : Ending) (w' : World) : Prop := match r with
  | .ok is => ∃ v vs, e = .returned v ∧ w'.ownsRow base 273 1 v is.length vs ∧ ItemsAre w' base v.ownBlock.toList is vs
  | .error l => e = gaveUp 5 l

def aheadI (d : List ItemI) : Except Nat (List ItemI) → Except Nat (List ItemI)
  | .ok r => .ok (d ++ r)
  | .error l => .error l

set_option maxRecDepth 100000 in
set_option maxHeartbeats 4000000 in
theorem parse_calls {w : World} {g c : Nat} {toks : List Tn} (ht : PTok w g 0 toks) (hc : toks.length ≤ c) (he : Ended toks) (hl : toks.length ≤ 1000000) : Calls Tryz.prog 135 #[.slice (some ⟨g, 0, none⟩) toks.length c] w fun e w' => ParseTo w.heap.size (itemsG toks.length toks) e w' ∧ Keeps [] w w' := by
  obtain ⟨i0, hi0, hz0, hz1, hz2⟩ := info_parts info273
  have hglt : g < w.heap.size := by obtain ⟨cs, h, _⟩ := ht; exact h.lt
  have kA := Keeps.alloc [] w (.cells #[.slice (some ⟨g, 0, none⟩) toks.length c] 276)
  have hP0 : PAt (w.alloc (.cells #[.slice (some ⟨g, 0, none⟩) toks.length c] 276)) w.heap.size g toks := ⟨0, c, CellsAt.new w _ 276, hc, ht.keeps kA (by simp), by omega⟩
  have HP0 := hide hP0
  generalize hR : itemsG toks.length toks = R
  have HR := hide hR
  clear hP0 hR
  go_enter Tryz.func135, Tryz.ntmps135
  go_wp2_with fail
  go_loopw [4] (fun y wr => ∃ (k : Nat) (d : List ItemI) (vs : List Value) (xs : List Tn), PAt wr w.heap.size g xs ∧ Ended xs ∧ xs.length ≤ k ∧ d.length + xs.length ≤ toks.length ∧ wr.ownsRow (w.heap.size + 1) 273 1 y d.length vs ∧ ItemsAre wr (w.heap.size + 1) y.ownBlock.toList d vs ∧ Keeps [] w wr ∧ w.heap.size + 1 ≤ wr.heap.size ∧ aheadI d (itemsG k xs) = R) (fun _ wr => sLen (wr.cell? ⟨w.heap.size, 0, none⟩))
  case atStart => exact ⟨toks.length, [], [], toks, HP0.out, he, Nat.le_refl _, by simp, World.ownsRow_nil .., rfl, kA, by rw [sizeE_alloc]; omega, by rw [← HR.out]; cases itemsG toks.length toks <;> rfl⟩
  case round =>
    obtain ⟨k, d, vs, xs, hpx, hex, hkx, hdx, own, hia, kr, hsz, hres⟩ := hrel
    have hlen := hpx.len
    obtain ⟨k, rfl⟩ : ∃ k', k = k' + 1 := by obtain ⟨t, q, rfl⟩ := hex.cons; simp at hkx; exact ⟨k - 1, by omega⟩
    have hne : xs ≠ [] := by obtain ⟨_, _, h⟩ := hex.cons; rw [h]; simp
    have hS := hide (sees_calls kp_fin hpx hne (by omega))
    have hI := hide (item_calls hpx hex (by omega))
    have Hpx := hide hpx
    have Hlen := hide hlen
    rw [itemsG] at hres
    clear HR HP0 hpx hlen
    cases hs : sees isFinG xs with
    | true =>
      rw [hs, if_pos rfl] at hres
      rw [hs] at hS
      have Hres := hide hres
      clear hres
      go_wp2_with fail
      refine hS.out.mono ?_
      rintro e w1 ⟨rfl, rfl⟩
      go_wp2_with fail
      go_ret
      refine ⟨?_, kr⟩
      rw [← Hres.out]
      show ParseTo w.heap.size (.ok (d ++ [])) _ _
      rw [List.append_nil]
      exact ⟨_, vs, rfl, ownE_mono own (by omega), hia.mono (by omega)⟩
    | false =>
      rw [hs, if_neg (by decide)] at hres
      rw [hs] at hS
      cases hr : itemG xs with
      | error l =>
        rw [hr] at hres hI
        have Hres := hide hres
        clear hres
        go_wp2_with fail
        refine hS.out.mono ?_
        rintro e w1 ⟨rfl, rfl⟩
        go_wp2_with fail
        refine hI.out.mono ?_
        rintro e w2 ⟨rfl, k2⟩
        refine ⟨rfl, ?_, kr.trans_new k2 (by simp)⟩
        rw [← Hres.out]
        rfl
      | ok q =>
        obtain ⟨it, us1⟩ := q
        rw [hr] at hres hI
        have g1 := itemG_goes hex hr
        have hah : aheadI (d ++ [it]) (itemsG k us1) = R := by
          rw [← hres]
          show _ = aheadI d (match itemsG k us1 with
            | .error l => Except.error l
            | .ok r => .ok (it :: r))
          cases itemsG k us1 with
          | error l => rfl
          | ok q => simp [aheadI]
        have Hah := hide hah
        clear hres hah
        obtain ⟨ay, cy, rfl⟩ := ownE_len own
        go_wp2_with fail
        refine hS.out.mono ?_
        rintro e w1 ⟨rfl, rfl⟩
        go_wp2_with fail
        refine hI.out.mono ?_
        rintro e w2 ⟨⟨iv, rfl, hiv, hone1, hp2⟩, k2⟩
        obtain ⟨ity, ix, rfl⟩ := hiv.iface
        have hlv : ∀ j, (Value.slice ay d.length cy).ownBlock = some j → w.heap.size + 1 ≤ j ∧ j < w1.heap.size := fun j hj => ownE_lt own j hj
        have kB := k2.trans (Keeps.alloc [w.heap.size] w2 (.cells #[.iface ity ix] 273))
        have ownB := ownsRow_kept own kB (fun j hj h => by have := hlv j hj; have e : j = w.heap.size := (by simpa using h); omega)
        have hiaB := hia.keeps kB (fun j hj => by have e : j = w.heap.size := (by simpa using hj); omega)
        have hivB : ItemV (w2.alloc (.cells #[.iface ity ix] 273)) (w.heap.size + 1) (Value.slice ay d.length cy).ownBlock.toList it (.iface ity ix) := ((hiv.keeps (Keeps.alloc [] w2 _) (by simp)).above (fun j hj => by have := hlv j (by simpa using hj); omega)).mono hsz
        have hp3 := alloc_at w2 hp2 (.cells #[.iface ity ix] 273)
        have hone : ∀ (j : Nat) (u : Value), [Value.iface ity ix][j]? = some u → (w2.alloc (.cells #[.iface ity ix] 273)).cell? ((⟨w2.heap.size, 0, none⟩ : Addr).add j) = some u := by
          intro j u hu
          rw [Addr.add_lit, Nat.zero_add, (CellsAt.new w2 #[.iface ity ix] 273).cell]
          match j with
          | 0 => simpa using hu
          | j + 1 => simp at hu
        have hszB : w.heap.size + 1 ≤ (w2.alloc (.cells #[.iface ity ix] 273)).heap.size := by rw [sizeE_alloc]; have := k2.size; omega
        go_wp2_with (at_builtin; refine wpList_append_own_at _ rfl _ _ 203 rfl (w.heap.size + 1) 273 i0 Value.nilIface 1 16 Tryz.underlying203 hi0 hz0 hz1 hz2 rfl (by decide) _ d.length vs rfl ownB ⟨w2.heap.size, 0, none⟩ 1 1 [.iface ity ix] rfl (by simp) hone (by simp [Value.oneCell']) (by unfold maxLen; omega) (by omega) hszB ?_)
        intro v' W2 own2 grow2 nil2 at2
        have k3 := grownBy_keeps' grow2 (Value.slice ay d.length cy).ownBlock.toList (fun r e => .inl (by simp [e]))
        have kf : Keeps [] w W2 := (kr.trans_new kB (by simp)).trans_new k3 fun j hj => .inr (by have := hlv j (by simpa using hj); omega)
        have hp4 := hp3.keeps k3 (fun hT => by have := hlv _ (by simpa using hT); omega) (fun hT => by have := hlv _ (by simpa using hT); omega)
        have hY : ∀ j ∈ v'.ownBlock.toList, j ∈ (Value.slice ay d.length cy).ownBlock.toList ∨ (w2.alloc (.cells #[.iface ity ix] 273)).heap.size ≤ j := fun j hj => by
          rcases at2 with h | h
          · left; rw [← h]; exact hj
          · right; rw [h] at hj; simp at hj; rw [sizeE_alloc]; omega
        have hall := ((hiaB.snoc hivB).apart (Y := v'.ownBlock.toList ++ (Value.slice ay d.length cy).ownBlock.toList) (fun j hj => by
          rcases List.mem_append.1 hj with h | h
          · exact hY j h
          · exact .inl h)).keeps k3 (fun j hj => .inl (List.mem_append_right _ hj))
        have hall2 := hall.apart (Y := v'.ownBlock.toList) (fun j hj => .inl (List.mem_append_left _ hj))
        have Hall := hide hall2
        have Hp4 := hide hp4
        have Hl4 := hide hp4.len
        have hsz2 : w.heap.size + 1 ≤ W2.heap.size := Nat.le_trans hszB k3.size
        clear hall hall2 hY hiaB hivB hone ownB hp4 hp3 hiv hia own
        go_wp2_with fail
        go_roundw
        · exact ⟨k, d ++ [it], vs ++ [.iface ity ix], us1, Hp4.out, g1.2, by have := g1.1; omega, by have := g1.1; rw [List.length_append, List.length_singleton]; omega, by rw [List.length_append, List.length_singleton]; exact own2, Hall.out, kf, hsz2, Hah.out⟩
        · rw [Hl4.out, Hlen.out]; have := g1.1; omega

end Go.Proofs.YtgjomknpjigkhaaGreatDoor
