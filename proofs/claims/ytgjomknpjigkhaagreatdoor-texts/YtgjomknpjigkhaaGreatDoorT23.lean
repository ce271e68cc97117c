/- Texts: P5. -/
import Derived.Test.YtgjomknpjigkhaaGreatDoorT22
namespace Go.Proofs.YtgjomknpjigkhaaGreatDoor
open Go.RowKit

def litsAsk (ls : List LitI) : List Tn := (ls.filter (·.no)).flatMap fun l => l.atom.terms
def askT (c : AtomI × List LitI) : List Tn := c.1.terms ++ litsAsk c.2
def safL (line : Nat) (ls : List LitI) : FltO → List Tn → FltO
  | f, [] => f
  | f, t :: ts => safL line ls (wrong f (isVarG t.g && !bndL ls (txt t.g)) 12 line) ts
def safC : FltO → List (AtomI × List LitI) → FltO
  | f, [] => f
  | f, c :: cs => safC (safL c.1.name.line c.2 f (askT c)) cs
def firstR (p : AtomI × List LitI → Bool) : List (AtomI × List LitI) → Option Nat
  | [] => none
  | c :: cs => if p c then some c.1.name.line else firstR p cs
theorem safL_some (line : Nat) (ls : List LitI) (f : Flt) (ts : List Tn) : safL line ls (some f) ts = some f := by
  induction ts with
  | nil => rfl
  | cons x xs ih => simp only [safL, wrong_some]; exact ih
theorem safC_some (f : Flt) (cs : List (AtomI × List LitI)) : safC (some f) cs = some f := by
  induction cs with
  | nil => rfl
  | cons x xs ih => simp only [safC, safL_some]; exact ih
theorem safL_none (line : Nat) (ls : List LitI) (ts : List Tn) : safL line ls none ts = if (ts.any fun t => isVarG t.g && !bndL ls (txt t.g)) = true then some (12, line) else none := by
  induction ts with
  | nil => rfl
  | cons x xs ih =>
    simp only [safL]
    cases hx : (isVarG x.g && !bndL ls (txt x.g)) with
    | true => rw [wrong_true, safL_some, if_pos (by simp only [List.any_cons, hx, Bool.true_or])]
    | false => rw [wrong_false, ih]; simp only [List.any_cons, hx, Bool.false_or]
theorem varsT_any (ts : List Tn) (p : ByteArray → Bool) : ((varsT ts).any p) = ts.any fun t => isVarG t.g && p (txt t.g) := by
  induction ts with
  | nil => rfl
  | cons t ts ih =>
    unfold varsT at ih ⊢
    cases hv : isVarG t.g with
    | true => rw [List.filter_cons_of_pos (by simpa using hv)]; simp [ih, hv]
    | false => rw [List.filter_cons_of_neg (by simp [hv])]; simp [ih, hv]
theorem unsafe_ask (c : AtomI × List LitI) : unsafeR c = (askT c).any fun t => isVarG t.g && !bndL c.2 (txt t.g) := by
  unfold unsafeR askedR askT litsAsk
  simp only [bound_same]
  rw [List.any_append, List.any_append, varsT_any]
  congr 1
  rw [List.any_flatMap, List.any_flatMap]
  congr 1
  funext l
  exact varsT_any _ _
theorem safC_none (cs : List (AtomI × List LitI)) : safC none cs = (firstR unsafeR cs).map fun l => (12, l) := by
  induction cs with
  | nil => rfl
  | cons c cs ih =>
    simp only [safC, safL_none, firstR, ← unsafe_ask]
    by_cases h : unsafeR c = true
    · rw [if_pos h, if_pos h, safC_some]; rfl
    · rw [if_neg h, if_neg h, ih]
theorem first_same {cs : List (AtomI × List LitI)} {xs : List ClauseM} (h : MatchCs cs xs) : firstC unsafeM xs = firstR unsafeR cs := by
  induction cs generalizing xs with
  | nil => cases xs with
    | nil => rfl
    | cons => exact h.elim
  | cons c cs ih => cases xs with
    | nil => exact h.elim
    | cons x xs =>
      have hl : x.line = c.1.name.line := by obtain ⟨_, _, _, _, _, h⟩ := h.1; exact h
      simp only [firstC, firstR, unsafe_same h.1, hl, ih h.2]
theorem litsAsk_cons (l : LitI) (ls : List LitI) : litsAsk (l :: ls) = (if l.no then l.atom.terms else []) ++ litsAsk ls := by
  unfold litsAsk
  cases h : l.no with
  | true => rw [List.filter_cons_of_pos (by simpa using h)]; simp
  | false => rw [List.filter_cons_of_neg (by simp [h])]; simp
theorem info245P : (Tryz.prog.info? 245).map (fun i => (i.zero, i.size, i.bytes)) = some (some (.agg #[.int .u8 0, .string ⟨#[]⟩, .int .i64 0, .int .i64 0]), 4, 40) := by kernel_rfl
theorem rtCs_one {ts : List Tn} : ∀ u ∈ rtCs ts, u.oneCell' = true := by
  intro u hu
  obtain ⟨t, _, h⟩ := List.mem_flatMap.1 hu
  simp only [rtC, List.mem_cons, List.not_mem_nil, or_false] at h
  rcases h with rfl | rfl | rfl | rfl <;> rfl
theorem ownTok_add {w : World} {base g n c : Nat} {ts : List Tn} (h : w.ownsRow base 245 4 (.slice (some ⟨g, 0, none⟩) n c) n (rtCs ts)) : ∀ j u, (rtCs ts)[j]? = some u → w.cell? ((⟨g, 0, none⟩ : Addr).add j) = some u := fun j u hj => by
  rw [Addr.add_lit, Nat.zero_add]
  exact ownE_cells h hj

set_option maxRecDepth 100000 in
set_option maxHeartbeats 16000000 in
theorem safe_calls {w : World} {base P n : Nat} {X : List Nat} {cs : List (AtomI × List LitI)} {xs : List ClauseM} {dv rv kv tv : Value} {f : FltO} {kcs : List Value} (hf : FOk f) (hPb : P < base) (h : RP w base P n X cs xs dv rv kv tv (.int .i64 (fC f).1) (.int .i64 (fC f).2) kcs) (hl : cs.length ≤ 1000000) (hll : ∀ q ∈ cs, q.1.terms ≠ [] ∧ q.1.terms.length ≤ 2000 ∧ q.2.length ≤ 2000 ∧ ∀ l ∈ q.2, l.atom.terms ≠ [] ∧ l.atom.terms.length ≤ 2000) : Calls Tryz.prog 231 #[.pointer (some ⟨P, 0, none⟩)] w fun e w' => e = .returned (.tuple #[]) ∧ CellsAt w' P #[dv, rv, kv, tv, .int .i64 (fC (safC f cs)).1, .int .i64 (fC (safC f cs)).2] ∧ Keeps [P] w w' := by
  obtain ⟨ka, kc, rfl⟩ := ownE_len h.row
  obtain ⟨i0, hi0, hz0, hz1, hz2⟩ := info_parts info245P
  have hPl := h.cells.lt
  have HP := hide (fun (W : World) (c' l' : Value) (k : Keeps [P] w W) (hc : CellsAt W P #[dv, rv, .slice ka cs.length kc, tv, c', l']) => h.keeps hPb k hc)
  have hcell := hide h.cells
  have Hll := hide hll
  generalize hR : safC f cs = R
  have HR := hide hR
  have Hf := hide hf
  clear hR h hll hf
  go_enter Tryz.func231, Tryz.ntmps231
  go_wp2_with fail
  go_loopw [2] (fun x wr => ∃ (q : Nat) (f : FltO), x = .int .i64 q ∧ q ≤ cs.length ∧ FOk f ∧ CellsAt wr P #[dv, rv, .slice ka cs.length kc, tv, .int .i64 (fC f).1, .int .i64 (fC f).2] ∧ Keeps [P] w wr ∧ safC f (cs.drop q) = R) (fun x _ => cs.length - (intOf x).toNat)
  case atStart => exact ⟨0, f, rfl, by omega, Hf.out, hcell.out, Keeps.refl _ _, by rw [List.drop_zero]; exact HR.out⟩
  case round =>
    clear HR Hf hcell
    obtain ⟨q, f, rfl, hqn, hf, hC, kr, hres⟩ := hrel
    have c2 := hC.cell 2
    have HfO := hide hf
    by_cases hql : q < cs.length
    · have hqI : (q : Int) < cs.length := by omega
      obtain ⟨ci, hci⟩ : ∃ ci, cs[q]? = some ci := ⟨_, List.getElem?_eq_getElem hql⟩
      have hRP := HP.out _ _ _ kr hC
      have hdi : cs.drop q = ci :: cs.drop (q + 1) := by
        rw [List.drop_eq_getElem_cons hql]
        congr 1
        rw [List.getElem?_eq_getElem hql] at hci
        exact Option.some.inj hci
      rw [hdi] at hres
      obtain ⟨hne, htl, hlls, hlt⟩ := Hll.out ci (List.mem_of_getElem? hci)
      have Hat := hide (fun (W : World) (f : FltO) (k : Keeps [P] w W) (hc : CellsAt W P #[dv, rv, .slice ka cs.length kc, tv, .int .i64 (fC f).1, .int .i64 (fC f).2]) => (HP.out W _ _ k hc).rcs.at hci)
      obtain ⟨x, hv, lv, ls, ru, hx, hcells, hhv, hlv, hls⟩ := hRP.rcs.at hci
      obtain ⟨ha1, hc1', rfl⟩ := ownE_len hhv
      obtain ⟨la, lc, rfl⟩ := ownE_len hlv
      have hrr := hRP.row
      obtain ⟨gk, hgk⟩ := ownE_pos2 hrr (by omega)
      subst hgk
      have htp : 0 < ci.1.terms.length := List.length_pos_iff.2 hne
      obtain ⟨gh, hgh⟩ := ownE_pos2 hhv htp
      subst hgh
      have own6 : ∀ {e : TypeId} {size n : Nat} {v : Value} {ys : List Value}, wr.ownsRow base e size v n ys → ∀ W, Keeps [P] wr W → W.ownsRow base e size v n ys := fun ho W k => ownsRow_kept ho k (fun i hi => by have := ownE_lt ho i hi; simp; omega)
      have Hk6 := hide (fun (W : World) (k : Keeps [P] wr W) => own6 hrr W k)
      have Hd4 := hide (fun (W : World) (k : Keeps [P] wr W) => (⟨ownE_cells (own6 hrr W k) (by rw [hcells 3 (by omega)]; rfl), ownE_cells (own6 hrr W k) (by rw [hcells 4 (by omega)]; rfl)⟩ : W.cell? ⟨gk, q * 6 + 3, none⟩ = some (.int .i64 ci.1.name.line) ∧ W.cell? ⟨gk, q * 6 + 4, none⟩ = some (.slice la ci.2.length lc)))
      have d1 : wr.cell? ⟨gk, q * 6 + 1, none⟩ = some (.slice (some ⟨gh, 0, none⟩) ci.1.terms.length hc1') := ownE_cells hrr (by rw [hcells 1 (by omega)]; rfl)
      have hgkl : gk < wr.heap.size := (ownE_lt hrr gk rfl).2
      have Hlv := hide (fun (W : World) (k : Keeps [P] wr W) => own6 hlv W k)
      have Hls := hide (fun (W : World) (k : Keeps [P] wr W) => hls.kept k (by simp; omega))
      have HrowI := hide hrr
      have Hres : Hid (safC (safL ci.1.name.line ci.2 f (askT ci)) (cs.drop (q + 1)) = R) := hide (by rw [← hres]; rfl)
      have Hbd := hide (fun (W : World) (k : Keeps [P] wr W) (s : ByteArray) => bound_calls (w := W) (base := base) (g := gk) (o := q * 6) (Hd4.out W k).2 (Nat.lt_of_lt_of_le hgkl k.size) (Hlv.out W k) (Hls.out W k) (by omega) (fun l hl => by have := (hlt l hl).2; omega) s)
      have HC := hide hC
      have hhone := hide (ownTok_add hhv)
      have Hkr := hide kr
      have Hlt := hide hlt
      have hwb := kr.size
      clear hres hC hlv hls hdi hci hx hcells hhv hrr hRP hf kr own6 hlt
      rename World => wo
      go_wp2_with (at_builtin; refine wpList_append_own _ rfl _ _ 241 rfl wo.heap.size 245 i0 (.agg #[.int .u8 0, .string ⟨#[]⟩, .int .i64 0, .int .i64 0]) 4 40 Tryz.underlying241 hi0 hz0 hz1 hz2 rfl (by decide) _ 0 [] rfl (World.ownsRow_nil ..) ⟨gh, 0, none⟩ ci.1.terms.length hc1' (rtCs ci.1.terms) rfl (rtCs_len _) hhone.out rtCs_one (by unfold maxLen; omega) (by omega) (Nat.le_refl _) ?_)
      intro v' W2 own2 grow2 _
      have k2 := grownBy_keeps' grow2 [] (fun r e => by simp [Value.ownBlock] at e)
      obtain ⟨ay, cy, hy⟩ := ownE_len own2
      subst hy
      have HC2 := hide (HC.out.keeps k2 (by simp))
      have Hown2 := hide own2
      have K2 := hide (k2.mono (T' := [P]) (by simp))
      generalize hALL : askT ci = ALL at *
      have HALL := hide hALL
      clear grow2 own2 k2 d1 hhone HC hALL
      go_wp2_with fail
      go_loopw [4, 5] (fun y x' wr => ∃ (i : Nat) (al : List Tn) (ay : Option Addr) (cy : Nat), y = .slice ay al.length cy ∧ x' = .int .i64 i ∧ i ≤ ci.2.length ∧ al.length ≤ 2000 * (i + 1) ∧ wr.ownsRow wo.heap.size 245 4 (.slice ay al.length cy) al.length (rtCs al) ∧ CellsAt wr P #[dv, rv, .slice (some ⟨gk, 0, none⟩) cs.length kc, tv, .int .i64 (fC f).1, .int .i64 (fC f).2] ∧ Keeps [P] wo wr ∧ al ++ litsAsk (ci.2.drop i) = ALL) (fun _ x' _ => ci.2.length - (intOf x').toNat)
      case atStart => exact ⟨0, ci.1.terms, ay, cy, rfl, rfl, by omega, by omega, Hown2.out, HC2.out, K2.out, by rw [List.drop_zero]; exact HALL.out⟩
      case round =>
        clear HC2 Hown2 K2 HALL c2
        obtain ⟨i, al, ay, cy, rfl, rfl, hil, hal, own, hC, kwo, hask⟩ := hrel
        obtain ⟨e3, e4⟩ := Hd4.out wr kwo
        have hgkw : gk < wr.heap.size := Nat.lt_of_lt_of_le hgkl kwo.size
        by_cases hi : i < ci.2.length
        · have hiI : (i : Int) < ci.2.length := by omega
          obtain ⟨li, hli⟩ : ∃ li, ci.2[i]? = some li := ⟨_, List.getElem?_eq_getElem hi⟩
          have hdj : ci.2.drop i = li :: ci.2.drop (i + 1) := by
            rw [List.drop_eq_getElem_cons hi]
            congr 1
            rw [List.getElem?_eq_getElem hi] at hli
            exact Option.some.inj hli
          rw [hdj, litsAsk_cons] at hask
          obtain ⟨xi, v, hxi, hcs, hv⟩ := (Hls.out wr kwo).at hli
          have hlr := Hlv.out wr kwo
          obtain ⟨gl, hgl⟩ := ownE_pos2 hlr (by omega)
          subst hgl
          obtain ⟨hlne, hl2000⟩ := Hlt.out li (List.mem_of_getElem? hli)
          have htp2 : 0 < li.atom.terms.length := List.length_pos_iff.2 hlne
          obtain ⟨va, vc, rfl⟩ := ownE_len hv
          obtain ⟨gv, hgv⟩ := ownE_pos2 hv htp2
          subst hgv
          have l1 : wr.cell? ⟨gl, i * 4 + 1, none⟩ = some (.slice (some ⟨gv, 0, none⟩) li.atom.terms.length vc) := ownE_cells hlr (by rw [hcs 1 (by omega)]; rfl)
          have l2 : wr.cell? ⟨gl, i * 4 + 2, none⟩ = some (.bool li.no) := ownE_cells hlr (by rw [hcs 2 (by omega)]; rfl)
          have hone := hide (ownTok_add hv)
          have HC := hide hC
          clear hcs hlr hxi hv hdj hli hC
          cases hno : li.no with
          | false =>
            rw [hno] at l2 hask
            have Hask : Hid (al ++ litsAsk (ci.2.drop (i + 1)) = ALL) := hide (by rw [← hask]; rfl)
            have Hown := hide own
            clear hask own hno
            go_wp2_with fail
            go_roundw
            · exact ⟨i + 1, al, ay, cy, rfl, by simp, by omega, by omega, Hown.out, HC.out, kwo, Hask.out⟩
            · simp only [intOf]; omega
          | true =>
            rw [hno] at l2 hask
            have Hask : Hid ((al ++ li.atom.terms) ++ litsAsk (ci.2.drop (i + 1)) = ALL) := hide (by rw [← hask, List.append_assoc]; rfl)
            have hwz := kwo.size
            have hPwo : P < wo.heap.size := Nat.lt_of_lt_of_le hPl hwb
            clear hask hno
            go_wp2_with (at_builtin; refine wpList_append_own _ rfl _ _ 241 rfl wo.heap.size 245 i0 (.agg #[.int .u8 0, .string ⟨#[]⟩, .int .i64 0, .int .i64 0]) 4 40 Tryz.underlying241 hi0 hz0 hz1 hz2 rfl (by decide) _ al.length (rtCs al) rfl own ⟨gv, 0, none⟩ li.atom.terms.length vc (rtCs li.atom.terms) rfl (rtCs_len _) hone.out rtCs_one (by unfold maxLen; omega) (by omega) hwz ?_)
            intro v' W3 own3 grow3 _
            have k3 := grownBy_keeps' grow3 (ownL (.slice ay al.length cy)) (fun r e => .inl (by simp [ownL, e]))
            obtain ⟨az, cz, hz⟩ := ownE_len own3
            subst hz
            have HC3 := hide (HC.out.keeps k3 (fun hp => by have := ownL_at own P hp; omega))
            have K3 := hide (kwo.trans_new (k3.mono (T' := ownL (.slice ay al.length cy)) (fun _ h => h)) (fun j hj => .inr (ownL_at own j hj).1))
            have Hown3 : Hid (W3.ownsRow wo.heap.size 245 4 (.slice az (al ++ li.atom.terms).length cz) (al ++ li.atom.terms).length (rtCs (al ++ li.atom.terms))) := hide (by rw [rtCs_append, List.length_append]; exact own3)
            have hL3 : (al.length + li.atom.terms.length) = (al ++ li.atom.terms).length := by rw [List.length_append]
            rw [hL3]
            have hal3 : (al ++ li.atom.terms).length ≤ 2000 * (i + 1 + 1) := by rw [← hL3]; omega
            generalize al ++ li.atom.terms = AL at *
            clear own3 grow3 k3 hone HC own l1 l2 hL3
            go_wp2_with fail
            go_roundw
            · exact ⟨i + 1, AL, az, cz, rfl, by simp, by omega, hal3, Hown3.out, HC3.out, K3.out, Hask.out⟩
            · simp only [intOf]; omega
        · have hiI : ¬ (i : Int) < ci.2.length := by omega
          have hdz : ci.2.drop i = [] := List.drop_eq_nil_of_le (by omega)
          have hAL : al = ALL := by rw [← hask, hdz]; simp [litsAsk]
          subst hAL
          have Hown := hide own
          have HC := hide hC
          have Hkwo := hide kwo
          have hall : al.length ≤ 10000000 := by omega
          have hPwo : P < wo.heap.size := Nat.lt_of_lt_of_le hPl hwb
          clear hask hdz own hC
          go_wp2_with fail
          go_loopw [6] (fun x' wr => ∃ (k : Nat) (f : FltO), x' = .int .i64 k ∧ k ≤ al.length ∧ FOk f ∧ CellsAt wr P #[dv, rv, .slice (some ⟨gk, 0, none⟩) cs.length kc, tv, .int .i64 (fC f).1, .int .i64 (fC f).2] ∧ Keeps [P] wo wr ∧ wr.ownsRow wo.heap.size 245 4 (.slice ay al.length cy) al.length (rtCs al) ∧ safC (safL ci.1.name.line ci.2 f (al.drop k)) (cs.drop (q + 1)) = R) (fun x' _ => al.length - (intOf x').toNat)
          case atStart => exact ⟨0, f, rfl, by omega, HfO.out, HC.out, Hkwo.out, Hown.out, by rw [List.drop_zero]; exact Hres.out⟩
          case round =>
            clear HC Hkwo Hown e3 e4 kwo HfO Hres hgkw
            obtain ⟨k, f, rfl, hkl, hf, hC, kwo, own, hres⟩ := hrel
            by_cases hk : k < al.length
            · have hkI : (k : Int) < al.length := by omega
              obtain ⟨t, htk⟩ : ∃ t, al[k]? = some t := ⟨_, List.getElem?_eq_getElem hk⟩
              have hdk : al.drop k = t :: al.drop (k + 1) := by
                rw [List.drop_eq_getElem_cons hk]
                congr 1
                rw [List.getElem?_eq_getElem hk] at htk
                exact Option.some.inj htk
              rw [hdk] at hres
              obtain ⟨gr, hgr⟩ := ownE_pos2 own (by omega)
              subst hgr
              have t1 := (ownTok own htk).2.1
              have hbd := hide (Hbd.out wr kwo (txt t.g))
              have hgrl : gr < wr.heap.size := (ownE_lt own gr rfl).2
              have HC := hide hC
              have Hown := hide own
              have Hf := hide hf
              have Htk := hide htk
              have Hkwo := hide kwo
              clear hdk hC own hf htk kwo
              go_wp2_with fail
              refine hbd.out.mono ?_
              rintro e w1 ⟨rfl, k1⟩
              have hC1 := HC.out.keeps k1 (by simp)
              have own1 := ownsRow_kept Hown.out k1 (by simp)
              have kw1 := Hkwo.out.trans (k1.mono (T' := [P]) (by simp))
              have u0 := (ownTok own1 Htk.out).1
              have u3 := (Hd4.out w1 kw1).1
              have hwr := hide (fun (bb : Bool) => wrongG_calls (w := w1.drew) (P := P) Hf.out 0 0 ci.1.name.line ⟨#[]⟩ bb 12 (hC1.keeps (Keeps.drew [] _) (by simp)))
              have Hown1 := hide own1
              have kw4 := hide (kw1.trans (Keeps.drew _ _))
              have hkv := kind_var t.g
              have hgr1 : gr < w1.heap.size := (ownE_lt own1 gr rfl).2
              have hgk1 : gk < w1.heap.size := Nat.lt_of_lt_of_le hgkl kw1.size
              have hP1 := hC1.lt
              have Hresk := hide hres
              generalize hBB : bndL ci.2 (txt t.g) = BB at *
              have HBB := hide hBB
              clear hBB hC1 own1 kw1 k1 HC Hown Hkwo hbd t1 hres
              cases hvv : isVarG t.g with
              | false =>
                rw [hvv] at hkv
                have hr2 : Hid (safC (safL ci.1.name.line ci.2 (wrong f false 12 ci.1.name.line) (al.drop (k + 1))) (cs.drop (q + 1)) = R) := hide (by rw [← Hresk.out]; simp only [safL, hvv, Bool.false_and])
                clear hvv Hresk
                go_wp2_with fail
                first | go_region_with (go_at_call 272; refine (hwr.out false).mono ?_; rintro e w6 ⟨rfl, hC6, k6, _⟩; have HC6 := hide hC6; have K6 := hide (kw4.out.trans k6); have Hown6 := hide (ownsRow_kept (ownsRow_kept Hown1.out (Keeps.drew [] _) (by simp)) k6 (fun i hi => by have := ownE_lt Hown1.out i hi; simp; omega)); clear hC6 k6) | fail
                all_goals
                  go_wp2_with fail
                  go_roundw
                  · exact ⟨k + 1, _, by simp, by omega, Hf.out.wrong _ (by decide), HC6.out, K6.out, Hown6.out, hr2.out⟩
                  · simp only [intOf]; omega
              | true =>
                rw [hvv] at hkv
                have hr2 : Hid (safC (safL ci.1.name.line ci.2 (wrong f (!BB) 12 ci.1.name.line) (al.drop (k + 1))) (cs.drop (q + 1)) = R) := hide (by rw [← Hresk.out]; simp only [safL, hvv, Bool.true_and, HBB.out])
                clear hvv Hresk
                go_wp2_with fail
                first | go_region_with (go_at_call 272; refine (hwr.out (!BB)).mono ?_; rintro e w6 ⟨rfl, hC6, k6, _⟩; have HC6 := hide hC6; have K6 := hide (kw4.out.trans k6); have Hown6 := hide (ownsRow_kept (ownsRow_kept Hown1.out (Keeps.drew [] _) (by simp)) k6 (fun i hi => by have := ownE_lt Hown1.out i hi; simp; omega)); clear hC6 k6) | fail
                all_goals
                  go_wp2_with fail
                  go_roundw
                  · exact ⟨k + 1, _, by simp, by omega, Hf.out.wrong _ (by decide), HC6.out, K6.out, Hown6.out, hr2.out⟩
                  · simp only [intOf]; omega
            · have hkI : ¬ (k : Int) < al.length := by omega
              have hdz : al.drop k = [] := List.drop_eq_nil_of_le (by omega)
              rw [hdz] at hres
              have Hres2 : Hid (safC f (cs.drop (q + 1)) = R) := hide hres
              have HC := hide hC
              have Hf := hide hf
              have K := hide (Hkr.out.trans kwo)
              clear hres hdz hC hf own kwo
              go_wp2_with fail
              go_roundw
              · exact ⟨q + 1, f, by simp, by omega, Hf.out, HC.out, K.out, Hres2.out⟩
              · simp only [intOf]; omega
    · have hqI : ¬ (q : Int) < cs.length := by omega
      have hdz : cs.drop q = [] := List.drop_eq_nil_of_le (by omega)
      rw [hdz] at hres
      have Hres : Hid (f = R) := hide hres
      have HC := hide hC
      clear hres hdz hC hf
      go_wp2_with fail
      go_end0
      exact ⟨rfl, by rw [← Hres.out]; exact HC.out, kr⟩

end Go.Proofs.YtgjomknpjigkhaaGreatDoor
