/- Texts: JI JJ K3 P1 PE P2. -/
import Derived.Test.YtgjomknpjigkhaaGreatDoorT15
import Derived.Test.YtgjomknpjigkhaaGreatDoorT10
import Derived.Test.YtgjomknpjigkhaaGreatDoorT07
import Derived.Test.YtgjomknpjigkhaaGreatDoorT06
namespace Go.Proofs.YtgjomknpjigkhaaGreatDoor
open Go.RowKit

theorem atomM_calls {w0 w : World} {base S B mb ib : Nat} {sc : Scope} {m : Mean} {X : List Nat} (hm : MeanAt w0 mb B m) (hok : MeanOk m) (k0 : Keeps [] w0 w) (hb0 : w0.heap.size ≤ base) (hbase : base ≤ w.heap.size) (h : ScopeX w base S B sc X) (hX : ∀ j ∈ X, j < w.heap.size) (hon : Once sc) (h4 : sc.length ≤ 4) (a : AtomI) {av : Option Addr} {cc : Nat} (hcv : w0.ownsRow ib 129 3 (.slice av a.terms.length cc) a.terms.length (tokCs a.terms)) (htl : a.terms.length ≤ 1000000) (htt : ∀ t ∈ a.terms, isTermG t.g = true ∧ WfG t.g) : Calls Tryz.prog 339 #[.pointer (some ⟨S, 0, none⟩), .agg #[.string (kindOf a.name.g), .string (txt a.name.g), .int .i64 a.name.line, .slice av a.terms.length cc]] w fun e w' => AtomMTo w.heap.size base S B X (atomS m sc a) e w' ∧ ∃ T, Keeps T w w' ∧ ∀ j ∈ T, base ≤ j ∧ j ∉ X := by
  unfold atomS
  cases hr : m.rel (txt a.name.g) with
  | none =>
    refine (atom_none (hm.keeps k0 (by simp)) h.to a.name av a.terms.length cc hr).mono ?_
    rintro e w' ⟨rfl, k⟩
    exact ⟨rfl, [], k, by simp⟩
  | some r =>
    obtain ⟨ds, hds⟩ := placeIn_some hr
    have hc : m.cols r = ds := by simp [Mean.cols, hds]
    simp only
    rw [hc]
    by_cases hne : a.terms.length = ds.length
    · rw [if_neg (by simp [hne])]
      have key := atom_walk hm hok k0 hb0 hbase h hX hon h4 a hcv htl htt hr hds hne
      cases ht : termsS m sc a.terms ds with
      | error f => rw [ht] at key; exact key
      | ok q => rw [ht] at key; exact key
    · rw [if_pos hne]
      refine (atom_arity (hm.keeps k0 (by simp)) h.to a.name av a.terms.length cc hr hds hne).mono ?_
      rintro e w' ⟨rfl, k⟩
      exact ⟨rfl, [], k, by simp⟩

def ownLs (vs : List Value) : List Nat := vs.flatMap ownL
section
variable {w w' : World} {base base' : Nat} {X Y T : List Nat}
theorem LitMs.kept {ls : List (AtomM × Bool)} {vs : List Value} (h : LitMs w base X ls vs) (k : Keeps T w w') (hT : ∀ j ∈ T, j ∉ ownLs vs) : LitMs w' base X ls vs := by
  induction ls generalizing vs with
  | nil => exact h
  | cons r rs ih =>
    obtain ⟨v, rest, h1, h2, h3, h4⟩ := h
    subst h1
    exact ⟨v, rest, rfl, ownsRow_kept h2 k (fun j hj hx => hT j hx (by simp [ownLs, ownL, hj])), h3, ih h4 (fun j hj q => hT j hj (by simp [ownLs] at q ⊢; exact .inr (.inr (.inr q))))⟩
theorem LitMs.lt {ls : List (AtomM × Bool)} {vs : List Value} (h : LitMs w base X ls vs) : ∀ j ∈ ownLs vs, base ≤ j ∧ j < w.heap.size := by
  induction ls generalizing vs with
  | nil => have e : vs = [] := h; subst e; intro j hj; simp [ownLs] at hj
  | cons r rs ih =>
    obtain ⟨v, rest, h1, h2, h3, h4⟩ := h
    subst h1
    intro j hj
    have hj' : j ∈ ownL v ∨ j ∈ ownLs rest := by simpa [ownLs, ownL, Value.ownBlock] using hj
    rcases hj' with q | q
    · exact ownL_at h2 j q
    · exact ih h4 j q
theorem LitMs.far {ls : List (AtomM × Bool)} {vs : List Value} (h : LitMs w base X ls vs) (hY : ∀ j ∈ ownLs vs, j ∉ Y) : LitMs w base Y ls vs := by
  induction ls generalizing vs with
  | nil => exact h
  | cons r rs ih =>
    obtain ⟨v, rest, h1, h2, h3, h4⟩ := h
    subst h1
    exact ⟨v, rest, rfl, h2, fun j hj => hY j (by simp [ownLs, hj]), ih h4 (fun j hj => hY j (by simp [ownLs] at hj ⊢; exact .inr (.inr (.inr hj))))⟩
theorem LitMs.mono {ls : List (AtomM × Bool)} {vs : List Value} (h : LitMs w base X ls vs) (hb : base' ≤ base) : LitMs w base' X ls vs := by
  induction ls generalizing vs with
  | nil => exact h
  | cons r rs ih =>
    obtain ⟨v, rest, h1, h2, h3, h4⟩ := h
    exact ⟨v, rest, h1, ownE_mono h2 hb, h3, ih h4⟩
end
theorem ownLs_lit (ls : List Value) (a b : Value) (tv : Value) (ha : ownL a = []) (hb : ownL b = []) : ownLs (ls ++ [a, tv, b]) = ownLs ls ++ ownL tv := by simp [ownLs, ha, hb]

structure ClL (w wr : World) (S B C : Nat) (n : Tn) (tav lav : Value) (sc : Scope) (hx : AtomM) (hv : Value) (xs : List (AtomM × Bool)) (lv : Value) (ls : List Value) : Prop where
  arg : CellsAt wr w.heap.size #[.string (kindOf n.g), .string (txt n.g), .int .i64 n.line, tav, lav]
  cl : CellsAt wr C #[.int .i64 (hx.rel : Int), hv, lv]
  low : w.heap.size + 1 ≤ C
  hrow : wr.ownsRow w.heap.size 220 2 hv hx.terms.length (termCs hx.terms)
  lrow : wr.ownsRow w.heap.size 279 3 lv xs.length ls
  lits : LitMs wr w.heap.size [] xs ls
  far : ∀ j ∈ ownL hv ++ ownL lv ++ ownLs ls, j ≠ w.heap.size ∧ j ≠ C
  lone : ∀ j ∈ ownL lv, j ∉ ownL hv ∧ j ∉ ownLs ls
  sc : ScopeX wr w.heap.size S B sc ([w.heap.size, C] ++ (ownL hv ++ ownL lv ++ ownLs ls))
  keep : Keeps [] w wr

theorem ClL.lt {w wr : World} {S B C : Nat} {n : Tn} {tav lav : Value} {sc : Scope} {hx : AtomM} {hv : Value} {xs : List (AtomM × Bool)} {lv : Value} {ls : List Value} (h : ClL w wr S B C n tav lav sc hx hv xs lv ls) : ∀ j ∈ [w.heap.size, C] ++ (ownL hv ++ ownL lv ++ ownLs ls), w.heap.size ≤ j ∧ j < wr.heap.size := fun j hj => by
  have h1 := h.arg.lt
  have h2 := h.cl.lt
  have h3 := h.low
  simp only [List.mem_append, List.mem_cons, List.not_mem_nil, or_false] at hj
  rcases hj with (hj | hj) | (hj | hj) | hj
  · omega
  · omega
  · exact ownL_at h.hrow j hj
  · exact ownL_at h.lrow j hj
  · exact h.lits.lt j hj

/-- What a call on the scope leaves. -/
theorem ClL.kept {w wr w4 : World} {S B C : Nat} {n : Tn} {tav lav : Value} {sc sc' : Scope} {hx : AtomM} {hv : Value} {xs : List (AtomM × Bool)} {lv : Value} {ls : List Value} {T4 : List Nat} (h : ClL w wr S B C n tav lav sc hx hv xs lv ls) (k4 : Keeps T4 wr w4) (hT4 : ∀ j ∈ T4, w.heap.size ≤ j ∧ j ∉ [w.heap.size, C] ++ (ownL hv ++ ownL lv ++ ownLs ls)) (hs4 : ScopeX w4 w.heap.size S B sc' ([w.heap.size, C] ++ (ownL hv ++ ownL lv ++ ownLs ls))) : ClL w w4 S B C n tav lav sc' hx hv xs lv ls := by
  have nT : ∀ j ∈ [w.heap.size, C] ++ (ownL hv ++ ownL lv ++ ownLs ls), j ∉ T4 := fun j hj q => (hT4 j q).2 hj
  exact ⟨h.arg.keeps k4 (nT _ (by simp)), h.cl.keeps k4 (nT _ (by simp)), h.low, ownsRow_kept h.hrow k4 (fun j hj => nT j (by simp [ownL, hj])), ownsRow_kept h.lrow k4 (fun j hj => nT j (by simp [ownL, hj])), h.lits.kept k4 (fun j hj q => (hT4 j hj).2 (by simp [q])), h.far, h.lone, hs4, h.keep.trans_new k4 (fun j hj => .inr (hT4 j hj).1)⟩

/-- A lit more. -/
theorem ClL.step {w w4 w5 : World} {S B C z : Nat} {n : Tn} {tav lav : Value} {sc : Scope} {hx : AtomM} {hv : Value} {xs : List (AtomM × Bool)} {lv : Value} {ls : List Value} {x : AtomM} {no : Bool} {tv : Value} (h : ClL w w4 S B C n tav lav sc hx hv xs lv ls) (hz : ∀ j ∈ [w.heap.size, C] ++ (ownL hv ++ ownL lv ++ ownLs ls), j < z) (hrow : w4.ownsRow z 220 2 tv x.terms.length (termCs x.terms)) (hs4 : ScopeX w4 w.heap.size S B sc ([w.heap.size, C] ++ (ownL hv ++ ownL lv ++ ownLs ls) ++ ownL tv)) {o : Obj} (hgrow : (w4.alloc o).grownBy w5 lv.ownBlock) {gg cap : Nat} (hown : w5.ownsRow w.heap.size 279 3 (.slice (some ⟨gg, 0, none⟩) (xs.length + 1) cap) (xs.length + 1) (ls ++ [.int .i64 (x.rel : Int), tv, .bool no])) (hat : lv.ownBlock = some gg ∨ gg = w4.heap.size + 1) : ClL w (w5.setCell ⟨C, 2, none⟩ (.slice (some ⟨gg, 0, none⟩) (xs.length + 1) cap)) S B C n tav lav sc hx hv (xs ++ [(x, no)]) (.slice (some ⟨gg, 0, none⟩) (xs.length + 1) cap) (ls ++ [.int .i64 (x.rel : Int), tv, .bool no]) := by
  have hL := h.lt
  have k5 := grownBy_keeps' hgrow (ownL lv) (fun r e => .inl (by simp [ownL, e]))
  have kA := Keeps.alloc [] w4 o
  have ks := Keeps.setCell w5 ⟨C, 2, none⟩ (.slice (some ⟨gg, 0, none⟩) (xs.length + 1) cap)
  have hA := h.arg.lt
  have hC := h.cl.lt
  have hlow := h.low
  have htv : ∀ j ∈ ownL tv, z ≤ j ∧ j < w4.heap.size := fun j hj => ownL_at hrow j hj
  have hzC := hz C (by simp)
  have hzA := hz w.heap.size (by simp)
  have hgg : gg ∈ ownL lv ∨ gg = w4.heap.size + 1 := by
    rcases hat with q | q
    · left; simp [ownL, q]
    · exact .inr q
  have hggC : gg ≠ w.heap.size ∧ gg ≠ C := by
    rcases hgg with q | q
    · exact h.far gg (by simp [q])
    · omega
  have e0 : ownLs (ls ++ [.int .i64 (x.rel : Int), tv, .bool no]) = ownLs ls ++ ownL tv := ownLs_lit _ _ _ _ rfl rfl
  have eg : ownL (.slice (some ⟨gg, 0, none⟩) (xs.length + 1) cap) = [gg] := rfl
  have hlvC : C ∉ ownL lv ∧ w.heap.size ∉ ownL lv := ⟨fun q => (h.far C (by simp [q])).2 rfl, fun q => (h.far _ (by simp [q])).1 rfl⟩
  have hlt : ∀ j ∈ ownL hv ++ ownLs ls, j ∉ ownL lv := fun j hj q => by
    rcases List.mem_append.1 hj with p | p
    · exact (h.lone j q).1 p
    · exact (h.lone j q).2 p
  have hneC : ∀ j ∈ ownL hv ++ ownLs ls, j ∉ [C] := fun j hj q => by
    have e : j = C := (by simpa using q)
    refine (h.far j ?_).2 e
    rcases List.mem_append.1 hj with p | p <;> simp [p]
  have htvlv : ∀ j ∈ ownL tv, j ∉ ownL lv ∧ j ∉ [C] ∧ j ≠ w.heap.size := fun j hj => by
    have h1 := htv j hj
    refine ⟨fun q => ?_, by simp; omega, by omega⟩
    have := hz j (by simp [q]); omega
  refine ⟨((h.arg.keeps kA (by simp)).keeps k5 hlvC.2).keeps ks (by simp; omega), ((h.cl.keeps kA (by simp)).keeps k5 hlvC.1).setCell 2 _, h.low, ?_, ?_, ?_, ?_, ?_, ?_, ?_⟩
  · exact ownsRow_kept (ownsRow_kept (ownsRow_kept h.hrow kA (by simp)) k5 (fun j hj => hlt j (by simp [ownL, hj]))) ks (fun j hj => hneC j (by simp [ownL, hj]))
  · rw [List.length_append, List.length_singleton]
    exact ownsRow_kept hown ks (fun j hj q => by
      have e1 : gg = j := (by simpa [Value.ownBlock] using hj)
      have e2 : j = C := (by simpa using q)
      exact hggC.2 (by rw [e1, e2]))
  · have l1 := ((h.lits.kept kA (by simp)).kept k5 (fun j hj q => hlt j (by simp [q]) hj)).kept ks (fun j hj q => hneC j (by simp [q]) hj)
    refine l1.snoc ?_ (by simp)
    have r1 := ownsRow_kept (ownsRow_kept (ownsRow_kept hrow kA (by simp)) k5 (fun j hj => (htvlv j (by simp [ownL, hj])).1)) ks (fun j hj => (htvlv j (by simp [ownL, hj])).2.1)
    exact ownE_mono r1 (by omega)
  · intro j hj
    rw [e0, eg] at hj
    simp only [List.mem_append, List.mem_singleton] at hj
    rcases hj with (hj | hj) | hj | hj
    · exact h.far j (by simp [hj])
    · rw [hj]; exact hggC
    · exact h.far j (by simp [hj])
    · have := htvlv j hj; simp at this; omega
  · intro j hj
    rw [eg] at hj
    have e : j = gg := (by simpa using hj)
    rw [e0]
    refine ⟨fun q => ?_, fun q => ?_⟩
    · rcases hgg with p | p
      · exact (h.lone j (by rw [e]; exact p)).1 q
      · have := (ownL_at h.hrow j q).2; omega
    · rcases List.mem_append.1 q with q | q
      · rcases hgg with p | p
        · exact (h.lone j (by rw [e]; exact p)).2 q
        · have := (h.lits.lt j q).2; omega
      · have h1 := htv j q
        rcases hgg with p | p
        · exact (htvlv j q).1 (by rw [e]; exact p)
        · omega
  · have h1 : ScopeF w4 w.heap.size S B sc (fun j => j ∉ [w.heap.size, C] ++ (ownL hv ++ ownL lv ++ ownLs ls) ++ ownL tv ∧ j < w4.heap.size) := hs4.mono (fun j _ h2 h3 => ⟨h3, h2⟩)
    have h2 := ((h1.keeps kA (by simp)).keeps k5 (fun j hj q => q.1 (by simp [hj]))).keeps ks (fun j hj q => q.1 (by have e : j = C := (by simpa using hj); rw [e]; simp))
    refine h2.mono (fun j _ _ q hx => ?_)
    rw [e0, eg] at hx
    simp only [List.mem_append, List.mem_cons, List.not_mem_nil, or_false] at hx
    rcases hx with (hx | hx) | ((hx | hx) | hx | hx)
    · exact q.1 (by simp [hx])
    · exact q.1 (by simp [hx])
    · exact q.1 (by simp [hx])
    · rcases hgg with p | p
      · exact q.1 (by rw [hx]; simp [p])
      · have := q.2; omega
    · exact q.1 (by simp [hx])
    · exact q.1 (by simp [hx])
  · exact ((h.keep.trans kA).trans_new k5 (fun j hj => .inr (ownL_at h.lrow j hj).1)).trans_new ks (fun j hj => .inr (by have e : j = C := (by simpa using hj); omega))

end Go.Proofs.YtgjomknpjigkhaaGreatDoor

namespace Go.Proofs.YtgjomknpjigkhaaGreatDoor
open Go.RowKit

def headC (B : Nat) (tD mD sz tN mN co : Value) : List Nat := [B] ++ ownL tD ++ mapL mD ++ ownL sz ++ ownL tN ++ mapL mN ++ ownL co
theorem footC (B : Nat) (tD mD sz tN mN co cl ln : Value) : footL B tD mD sz tN mN co cl ln = headC B tD mD sz tN mN co ++ (ownL cl ++ ownL ln) ++ [] := by simp [footL, headC]

theorem MeanV.addClause {w w' : World} {base B : Nat} {m : Mean} {tD mD sz tN mN co cl ln cl' ln' hv lv : Value} {cvs kvs ls : List Value} {T : List Nat} (h : MeanV w base B m tD mD sz tN mN co cl ln cvs kvs) {c : ClauseM} (k : Keeps T w w') (hT : ∀ j ∈ T, j ∈ [B] ++ (ownL cl ++ ownL ln) ∨ w.heap.size ≤ j)
    (hc : CellsAt w' B #[tD, mD, sz, tN, mN, co, cl', ln']) (hz : w'.ownsRow base 154 3 cl' (m.clauses.length + 1) (kvs ++ [.int .i64 (c.head.rel : Int), hv, lv])) (hl : w'.ownsRow base 3 1 ln' (m.clauses.length + 1) (natsV (m.clauses.map (·.line)) ++ [.int .i64 (c.line : Int)]))
    (h2 : w'.ownsRow base 220 2 hv c.head.terms.length (termCs c.head.terms)) (h3 : ∀ j ∈ ownL hv, j ∉ footL B tD mD sz tN mN co cl' ln') (h4 : w'.ownsRow base 279 3 lv c.lits.length ls) (h5 : ∀ j ∈ ownL lv, j ∉ footL B tD mD sz tN mN co cl' ln') (h6 : LitMs w' base (footL B tD mD sz tN mN co cl' ln') c.lits ls)
    (hn : ∀ j ∈ ownL cl' ++ ownL ln', j ∈ ownL cl ++ ownL ln ∨ w.heap.size ≤ j) (hd : (ownL cl' ++ ownL ln').Nodup) : MeanAt w' base B { m with clauses := m.clauses ++ [c] } := by
  have hf := h.foot
  rw [footC] at hf
  have hlt := h.foot_lt
  rw [footC] at hlt
  have hAp := mem_apart hf
  have hB : B ∈ headC B tD mD sz tN mN co := by simp [headC]
  have hTA : ∀ j ∈ headC B tD mD sz tN mN co, j ≠ B → j ∉ T := fun j hj hjB hjT => by
    rcases hT j hjT with h' | h'
    · rcases List.mem_append.1 h' with h' | h'
      · exact hjB (by simpa using h')
      · exact (hAp.1 j h').1 hj
    · have := (hlt j (List.mem_append_left _ (List.mem_append_left _ hj))).2; omega
  have hBn : ∀ j ∈ ownL tD ++ mapL mD ++ ownL sz ++ ownL tN ++ mapL mN ++ ownL co, j ≠ B := fun j hj e => by
    have h2 : ([B] ++ (ownL tD ++ mapL mD ++ ownL sz ++ ownL tN ++ mapL mN ++ ownL co) ++ (ownL cl ++ ownL ln)).Nodup := by have := h.foot; simpa [footL] using this
    exact ((mem_apart h2).1 j hj).1 (by simp [e])
  have nT : ∀ j ∈ ownL tD ++ mapL mD ++ ownL sz ++ ownL tN ++ mapL mN ++ ownL co, j ∉ T := fun j hj => hTA j (by simp only [headC, List.append_assoc]; exact List.mem_append_right _ (by simpa using hj)) (hBn j hj)
  have hfN : (footL B tD mD sz tN mN co cl' ln').Nodup := by
    rw [footC]
    refine nodup_mid (n := w.heap.size) hf (fun j hj => ?_) hd hn
    rcases List.mem_append.1 hj with h' | h'
    · exact (hlt j (List.mem_append_left _ (List.mem_append_left _ h'))).2
    · cases h'
  have hXT : ∀ j ∈ T, j ∈ footL B tD mD sz tN mN co cl ln ∨ j < base ∨ w.heap.size ≤ j := fun j hj => by
    rcases hT j hj with h' | h'
    · left
      rw [footC]
      rcases List.mem_append.1 h' with q | q
      · have e : j = B := (by simpa using q)
        exact List.mem_append_left _ (List.mem_append_left _ (by rw [e]; exact hB))
      · exact List.mem_append_left _ (List.mem_append_right _ q)
    · exact .inr (.inr h')
  have hY : ∀ j ∈ footL B tD mD sz tN mN co cl' ln' ++ footL B tD mD sz tN mN co cl ln, j ∈ footL B tD mD sz tN mN co cl ln ∨ w.heap.size ≤ j := fun j hj => by
    rcases List.mem_append.1 hj with hj | hj
    · rw [footC] at hj ⊢
      rcases List.mem_append.1 hj with h' | h'
      · rcases List.mem_append.1 h' with h'' | h''
        · exact .inl (List.mem_append_left _ (List.mem_append_left _ h''))
        · rcases hn j h'' with q | q
          · exact .inl (List.mem_append_left _ (List.mem_append_right _ q))
          · exact .inr q
      · cases h'
    · exact .inl hj
  have own : ∀ {e : TypeId} {size n : Nat} {u : Value} {xs : List Value}, w.ownsRow base e size u n xs → (∀ j ∈ ownL u, j ∉ T) → w'.ownsRow base e size u n xs := fun h hr => ownsRow_kept h k (fun j hj => hr j (by simp [ownL, hj]))
  refine ⟨tD, mD, sz, tN, mN, co, cl', ln', cvs, kvs ++ [.int .i64 (c.head.rel : Int), hv, lv], hc, h.low, hfN, h.doms.kept k (fun j hj => nT j (by simp [hj])) (fun j hj => nT j (by simp [hj])), own h.sizes (fun j hj => nT j (by simp [hj])), h.names.kept k (fun j hj => nT j (by simp [hj])) (fun j hj => nT j (by simp [hj])), own h.cols (fun j hj => nT j (by simp [hj])), ?_, by rw [List.length_append, List.length_singleton]; exact hz, ?_, by rw [List.length_append, List.length_singleton, List.map_append, natsV, List.map_append]; exact hl⟩
  · exact (((h.colsA.apart hY).keeps k (fun j hj => by
      rcases hXT j hj with h' | h'
      · exact .inl (List.mem_append_right _ h')
      · exact .inr h'))).apart (fun j hj => .inl (List.mem_append_left _ hj))
  · refine ClauseMs.snoc ?_ h2 h3 h4 h5 h6
    exact (((h.clsA.apart hY).keeps k (fun j hj => by
      rcases hXT j hj with h' | h'
      · exact .inl (List.mem_append_right _ h')
      · exact .inr h'))).apart (fun j hj => .inl (List.mem_append_left _ hj))

/-- A lit's cells in a row. -/
theorem LitsAre.at {w : World} {base : Nat} {X : List Nat} {ls : List LitI} {cs : List Value} (h : LitsAre w base X ls cs) {i : Nat} {l : LitI} (hi : ls[i]? = some l) : ∃ v, (∀ q, q < 5 → cs[i * 5 + q]? = (litCells l v)[q]?) ∧ w.ownsRow base 129 3 v l.atom.terms.length (tokCs l.atom.terms) := by
  induction ls generalizing cs i with
  | nil => simp at hi
  | cons x ls ih =>
    obtain ⟨v, rest, h1, h2, h3, h4⟩ := h
    subst h1
    cases i with
    | zero =>
      simp at hi; subst hi
      exact ⟨v, fun q hq => by rw [Nat.zero_mul, Nat.zero_add, List.getElem?_append_left (by simpa [litCells] using hq)], h2⟩
    | succ i =>
      obtain ⟨u, k1, k2⟩ := ih h4 (by simpa using hi)
      refine ⟨u, fun q hq => ?_, k2⟩
      rw [List.getElem?_append_right (by simp [litCells]; omega)]
      have : (i + 1) * 5 + q - (litCells x v).length = i * 5 + q := by simp [litCells]; omega
      rw [this]
      exact k1 q hq

/-- The cells of a row, in its block. -/
theorem ownE_cells {w : World} {base : Nat} {e : TypeId} {size n c g : Nat} {xs : List Value} (h : w.ownsRow base e size (.slice (some ⟨g, 0, none⟩) n c) n xs) {j : Nat} {v : Value} (hj : xs[j]? = some v) : w.cell? ⟨g, j, none⟩ = some v := by
  obtain ⟨_, ⟨h1, _⟩ | ⟨g', cap, cur, hv, hb, hg, hn, hc, hs, htk⟩⟩ := h
  · cases h1
  · cases hv
    rw [CellsAt.cell ⟨_, hg⟩]
    rw [← htk, List.getElem?_take] at hj
    split at hj
    · rw [← hj]; simp
    · cases hj

end Go.Proofs.YtgjomknpjigkhaaGreatDoor

namespace Go.Proofs.YtgjomknpjigkhaaGreatDoor
open Go.RowKit

theorem ClauseMs.at {w : World} {base : Nat} {X : List Nat} {cs : List ClauseM} {vs : List Value} (h : ClauseMs w base X cs vs) {i : Nat} {c : ClauseM} (hi : cs[i]? = some c) : ∃ hv lv ls, (∀ q, q < 3 → vs[i * 3 + q]? = [Value.int .i64 (c.head.rel : Int), hv, lv][q]?) ∧ w.ownsRow base 220 2 hv c.head.terms.length (termCs c.head.terms) ∧ w.ownsRow base 279 3 lv c.lits.length ls ∧ LitMs w base X c.lits ls := by
  induction cs generalizing vs i with
  | nil => simp at hi
  | cons x cs ih =>
    obtain ⟨hv, lv, ls, rest, h1, h2, h3, h4, h5, h6, h7⟩ := h
    subst h1
    cases i with
    | zero =>
      simp at hi; subst hi
      exact ⟨hv, lv, ls, fun q hq => by rw [Nat.zero_mul, Nat.zero_add, List.getElem?_append_left (by simpa using hq)], h2, h4, h6⟩
    | succ i =>
      obtain ⟨a, b, d, k1, k2⟩ := ih h7 (by simpa using hi)
      refine ⟨a, b, d, fun q hq => ?_, k2⟩
      rw [List.getElem?_append_right (by simp; omega)]
      have : (i + 1) * 3 + q - [Value.int .i64 (x.head.rel : Int), hv, lv].length = i * 3 + q := by simp; omega
      rw [this]
      exact k1 q hq
theorem LitMs.at {w : World} {base : Nat} {X : List Nat} {ls : List (AtomM × Bool)} {vs : List Value} (h : LitMs w base X ls vs) {i : Nat} {l : AtomM × Bool} (hi : ls[i]? = some l) : ∃ v, (∀ q, q < 3 → vs[i * 3 + q]? = [Value.int .i64 (l.1.rel : Int), v, .bool l.2][q]?) ∧ w.ownsRow base 220 2 v l.1.terms.length (termCs l.1.terms) := by
  induction ls generalizing vs i with
  | nil => simp at hi
  | cons x ls ih =>
    obtain ⟨v, rest, h1, h2, h3, h4⟩ := h
    subst h1
    cases i with
    | zero =>
      simp at hi; subst hi
      exact ⟨v, fun q hq => by rw [Nat.zero_mul, Nat.zero_add, List.getElem?_append_left (by simpa using hq)], h2⟩
    | succ i =>
      obtain ⟨a, k1, k2⟩ := ih h4 (by simpa using hi)
      refine ⟨a, fun q hq => ?_, k2⟩
      rw [List.getElem?_append_right (by simp; omega)]
      have : (i + 1) * 3 + q - [Value.int .i64 (x.1.rel : Int), v, .bool x.2].length = i * 3 + q := by simp; omega
      rw [this]
      exact k1 q hq
theorem termCs_at {xs : List TermM} {i : Nat} {x : TermM} (h : xs[i]? = some x) : (termCs xs)[i * 2]? = some (.bool x.isVar) ∧ (termCs xs)[i * 2 + 1]? = some (.int .i64 x.num) := by
  induction xs generalizing i with
  | nil => simp at h
  | cons y xs ih =>
    have e : termCs (y :: xs) = [.bool y.isVar, .int .i64 y.num] ++ termCs xs := by simp [termCs, termC]
    rw [e]
    cases i with
    | zero => simp at h; subst h; simp
    | succ i =>
      have h2 := ih (i := i) (by simpa using h)
      rw [List.getElem?_append_right (by simp; omega), List.getElem?_append_right (by simp; omega)]
      have e1 : (i + 1) * 2 - [Value.bool y.isVar, .int .i64 y.num].length = i * 2 := by simp; omega
      have e2 : (i + 1) * 2 + 1 - [Value.bool y.isVar, .int .i64 y.num].length = i * 2 + 1 := by simp; omega
      rw [e1, e2]
      exact h2

def maskStep (m : Nat) (x : TermM) : Nat := if x.isVar then m ||| 2 ^ x.num.toNat else m
def maskOf (m : Nat) (xs : List TermM) : Nat := xs.foldl maskStep m
def NumOk (xs : List TermM) : Prop := ∀ x ∈ xs, x.isVar = true → ∃ p : Nat, x.num = (p : Int) ∧ p < 4

theorem maskStep_lt {m : Nat} (hm : m < 16) {x : TermM} (hx : x.isVar = true → ∃ p : Nat, x.num = (p : Int) ∧ p < 4) : maskStep m x < 16 := by
  unfold maskStep
  split
  · rename_i h
    obtain ⟨p, hp, hp4⟩ := hx h
    rw [hp]
    have : (2 : Nat) ^ (p : Int).toNat < 2 ^ 4 := Nat.pow_lt_pow_right (by omega) (by omega)
    exact Nat.or_lt_two_pow (n := 4) hm this
  · exact hm
theorem maskOf_lt {m : Nat} (hm : m < 16) {xs : List TermM} (hx : NumOk xs) : maskOf m xs < 16 := by
  induction xs generalizing m with
  | nil => exact hm
  | cons x xs ih => exact ih (maskStep_lt hm (hx x (by simp))) (fun y hy => hx y (by simp [hy]))
theorem maskOf_or (m : Nat) (xs : List TermM) : maskOf m xs = m ||| maskOf 0 xs := by
  induction xs generalizing m with
  | nil => simp [maskOf]
  | cons x xs ih =>
    show maskOf (maskStep m x) xs = m ||| maskOf (maskStep 0 x) xs
    rw [ih (maskStep m x), ih (maskStep 0 x), ← Nat.or_assoc]
    congr 1
    unfold maskStep
    split <;> simp
theorem maskOf_bit {xs : List TermM} (hx : NumOk xs) (i : Nat) : (maskOf 0 xs).testBit i = true ↔ (i : Int) ∈ varsM xs := by
  induction xs with
  | nil => simp [maskOf, varsM]
  | cons x xs ih =>
    have hx' : NumOk xs := fun y hy => hx y (by simp [hy])
    have e : maskOf 0 (x :: xs) = maskOf (maskStep 0 x) xs := rfl
    rw [e, maskOf_or, Nat.testBit_or, Bool.or_eq_true, ih hx']
    unfold maskStep
    cases hv : x.isVar with
    | false => simp [varsM, hv]
    | true =>
      obtain ⟨p, hp, _⟩ := hx x (by simp) hv
      have : varsM (x :: xs) = x.num :: varsM xs := by simp [varsM, hv]
      rw [this, hp]
      simp only [if_true, Int.toNat_natCast, Nat.zero_or, List.mem_cons, Int.natCast_inj]
      rw [Nat.testBit_two_pow]
      simp [eq_comm]

theorem shl_val {p : Nat} (hp : p < 60) : IntKind.i64.wrap (2 ^ p) = ((2 ^ p : Nat) : Int) := by
  have h3 : (2 : Nat) ^ p < 4611686018427387904 := Nat.lt_of_lt_of_le (Nat.pow_lt_pow_right (by omega) hp) (by decide)
  have := wrapN h3
  simpa using this

set_option maxRecDepth 100000 in
set_option maxHeartbeats 4000000 in
theorem vars_calls {w : World} {base : Nat} (r : Int) (xs : List TermM) {av : Option Addr} {cc : Nat} (hrow : w.ownsRow base 220 2 (.slice av xs.length cc) xs.length (termCs xs)) (hx : NumOk xs) (hl : xs.length ≤ 1000000) : Calls Tryz.prog 200 #[.agg #[.int .i64 r, .slice av xs.length cc]] w fun e w' => e = .returned (.int .i64 ((maskOf 0 xs : Nat) : Int)) ∧ Keeps [] w w' := by
  have kA := Keeps.alloc [] w (.cells #[.int .i64 r, .slice av xs.length cc] 151)
  have Hrow := hide hrow
  have Hx := hide hx
  generalize hR : maskOf 0 xs = R
  have HR := hide hR
  clear hR hrow hx
  go_enter Tryz.func200, Tryz.ntmps200
  go_wp2_with fail
  go_loopw [3, 9] (fun y x wr => ∃ (i M : Nat), y = .int .i64 (M : Int) ∧ x = .int .i64 i ∧ i ≤ xs.length ∧ M < 16 ∧ Keeps [] w wr ∧ maskOf M (xs.drop i) = R) (fun _ x _ => xs.length - (intOf x).toNat)
  case atStart => exact ⟨0, 0, rfl, rfl, by omega, by omega, kA, by rw [List.drop_zero]; exact HR.out⟩
  case round =>
    obtain ⟨i, M, rfl, rfl, hil, hM, kr, hres⟩ := hrel
    clear kA HR
    by_cases hlt : i < xs.length
    · obtain ⟨x, hx⟩ : ∃ x, xs[i]? = some x := ⟨_, List.getElem?_eq_getElem hlt⟩
      have hdi : xs.drop i = x :: xs.drop (i + 1) := by
        rw [List.drop_eq_getElem_cons hlt]
        congr 1
        rw [List.getElem?_eq_getElem hlt] at hx
        exact Option.some.inj hx
      have hres' : maskOf (maskStep M x) (xs.drop (i + 1)) = R := by rw [← hres, hdi]; rfl
      have hrr := ownsRow_kept Hrow.out kr (by simp)
      obtain ⟨gt, hgt⟩ := ownE_pos2 hrr (by omega)
      subst hgt
      obtain ⟨t0, t1⟩ := termCs_at hx
      have c0 := ownE_cells hrr t0
      have c1 := ownE_cells hrr t1
      have hiI : (i : Int) < xs.length := by omega
      have hgl : gt < wr.heap.size := (ownE_lt hrr gt rfl).2
      have hxm := Hx.out x (List.mem_of_getElem? hx)
      have hM2 := maskStep_lt hM hxm
      have kK := Keeps.alloc [] wr (.cells #[.bool x.isVar, .int .i64 x.num] 220)
      clear hdi hres hx t0 t1 hrr
      cases hv : x.isVar with
      | false =>
        have e : maskStep M x = M := by unfold maskStep; rw [hv]; rfl
        rw [e] at hres'
        have Hres := hide hres'
        rw [hv] at c0 kK
        clear hres' e hM2 hxm
        go_wp2_with fail
        go_roundw
        · exact ⟨i + 1, M, rfl, by simp, by omega, hM, kr.trans kK, Hres.out⟩
        · simp only [intOf]; omega
      | true =>
        obtain ⟨p, hp, hp4⟩ := hxm hv
        have e : maskStep M x = M ||| 2 ^ p := by unfold maskStep; rw [hv, hp]; rfl
        rw [e] at hres' hM2
        have Hres := hide hres'
        rw [hp] at c1
        rw [hv] at c0
        rw [hp, hv] at kK
        have hsh := shl_val (p := p) (by omega)
        have h2p : (2 : Nat) ^ p < 16 := Nat.lt_of_lt_of_le (Nat.pow_lt_pow_right (by omega) hp4) (by decide)
        generalize hP2 : (2 : Nat) ^ p = P2 at *
        have hor := or_val (a := M) (b := P2) (by omega) (by omega)
        clear hres' e hp hv
        go_wp2_with fail
        go_roundw
        · exact ⟨i + 1, M ||| P2, rfl, by simp, by omega, hM2, kr.trans kK, Hres.out⟩
        · simp only [intOf]; omega
    · have hiI : ¬ (i : Int) < xs.length := by omega
      have hdz : xs.drop i = [] := List.drop_eq_nil_of_le (by omega)
      rw [hdz] at hres
      have Hres : Hid (M = R) := hide hres
      clear hres hdz
      go_wp2_with fail
      go_ret
      exact ⟨by rw [← Hres.out]; rfl, kr⟩

end Go.Proofs.YtgjomknpjigkhaaGreatDoor

namespace Go.Proofs.YtgjomknpjigkhaaGreatDoor
open Go.RowKit

def rtC (t : Tn) : List Value := [.int .u8 (rkind t.g), .string (txt t.g), .int .i64 (numOf t.g), .int .i64 t.line]
def rtCs (ts : List Tn) : List Value := ts.flatMap rtC
theorem rtCs_at {ts : List Tn} {i : Nat} {t : Tn} (h : ts[i]? = some t) : ∀ q, q < 4 → (rtCs ts)[i * 4 + q]? = (rtC t)[q]? := by
  intro q hq
  induction ts generalizing i with
  | nil => simp at h
  | cons x ts ih =>
    have e : rtCs (x :: ts) = rtC x ++ rtCs ts := by simp [rtCs]
    have hl : (rtC x).length = 4 := rfl
    cases i with
    | zero =>
      simp at h
      subst h
      rw [e, List.getElem?_append_left (by omega)]
      congr 1
      omega
    | succ i =>
      rw [e, List.getElem?_append_right (by omega), hl]
      rw [show (i + 1) * 4 + q - 4 = i * 4 + q by omega]
      exact ih (by simpa using h)
theorem rtCs_len (ts : List Tn) : (rtCs ts).length = ts.length * 4 := by
  induction ts with
  | nil => rfl
  | cons x ts ih =>
    have e : rtCs (x :: ts) = rtC x ++ rtCs ts := by simp [rtCs]
    rw [e, List.length_append, ih]
    simp [rtC]
    omega
theorem rtCs_append (a b : List Tn) : rtCs (a ++ b) = rtCs a ++ rtCs b := by simp [rtCs]

/-- A row of tokens. -/
theorem ownTok {w : World} {base g n c : Nat} {ts : List Tn} (h : w.ownsRow base 245 4 (.slice (some ⟨g, 0, none⟩) n c) n (rtCs ts)) {i : Nat} {t : Tn} (hi : ts[i]? = some t) : w.cell? ⟨g, i * 4, none⟩ = some (.int .u8 (rkind t.g)) ∧ w.cell? ⟨g, i * 4 + 1, none⟩ = some (.string (txt t.g)) ∧ w.cell? ⟨g, i * 4 + 2, none⟩ = some (.int .i64 (numOf t.g)) ∧ w.cell? ⟨g, i * 4 + 3, none⟩ = some (.int .i64 t.line) := by
  have k := rtCs_at hi
  refine ⟨ownE_cells h ?_, ownE_cells h ?_, ownE_cells h ?_, ownE_cells h ?_⟩
  · have := k 0 (by omega); rw [Nat.add_zero] at this; rw [this]; rfl
  · rw [k 1 (by omega)]; rfl
  · rw [k 2 (by omega)]; rfl
  · rw [k 3 (by omega)]; rfl

/-- The lits of a clause, as the document's answer keeps them. -/
def RLs (w : World) (base : Nat) (X : List Nat) : List LitI → List (AtomM × Bool) → List Value → Prop
  | [], [], vs => vs = []
  | l :: ls, x :: xs, vs => ∃ v rest, vs = [.int .i64 (x.1.rel : Int), v, .bool l.no, .int .i64 l.atom.name.line] ++ rest ∧ w.ownsRow base 245 4 v l.atom.terms.length (rtCs l.atom.terms) ∧ (∀ j ∈ ownL v, j ∉ X) ∧ RLs w base X ls xs rest
  | _, _, _ => False
def RCs (w : World) (base : Nat) (X : List Nat) : List (AtomI × List LitI) → List ClauseM → List Value → Prop
  | [], [], vs => vs = []
  | c :: cs, x :: xs, vs => ∃ hv lv ls rest ru, vs = [.int .i64 (x.head.rel : Int), hv, .bool false, .int .i64 c.1.name.line, lv, .bool ru] ++ rest ∧ w.ownsRow base 245 4 hv c.1.terms.length (rtCs c.1.terms) ∧ (∀ j ∈ ownL hv, j ∉ X) ∧ w.ownsRow base 251 4 lv c.2.length ls ∧ (∀ j ∈ ownL lv, j ∉ X) ∧ RLs w base X c.2 x.lits ls ∧ RCs w base X cs xs rest
  | _, _, _ => False

theorem RLs.len {w : World} {base : Nat} {X : List Nat} {ls : List LitI} {xs : List (AtomM × Bool)} {vs : List Value} (h : RLs w base X ls xs vs) : xs.length = ls.length := by
  induction ls generalizing xs vs with
  | nil => cases xs with
    | nil => rfl
    | cons => exact h.elim
  | cons l ls ih => cases xs with
    | nil => exact h.elim
    | cons x xs => obtain ⟨_, _, _, _, _, h⟩ := h; simp [ih h]
theorem RCs.len {w : World} {base : Nat} {X : List Nat} {ls : List (AtomI × List LitI)} {xs : List ClauseM} {vs : List Value} (h : RCs w base X ls xs vs) : xs.length = ls.length := by
  induction ls generalizing xs vs with
  | nil => cases xs with
    | nil => rfl
    | cons => exact h.elim
  | cons l ls ih => cases xs with
    | nil => exact h.elim
    | cons x xs => obtain ⟨_, _, _, _, _, _, _, _, _, _, _, h⟩ := h; simp [ih h]
theorem RLs.at {w : World} {base : Nat} {X : List Nat} {ls : List LitI} {xs : List (AtomM × Bool)} {vs : List Value} (h : RLs w base X ls xs vs) {i : Nat} {l : LitI} (hi : ls[i]? = some l) : ∃ x v, xs[i]? = some x ∧ (∀ q, q < 4 → vs[i * 4 + q]? = [.int .i64 (x.1.rel : Int), v, .bool l.no, .int .i64 l.atom.name.line][q]?) ∧ w.ownsRow base 245 4 v l.atom.terms.length (rtCs l.atom.terms) := by
  induction ls generalizing i xs vs with
  | nil => simp at hi
  | cons y ls ih => cases xs with
    | nil => exact h.elim
    | cons x xs =>
      obtain ⟨v, rest, rfl, ho, _, hr⟩ := h
      cases i with
      | zero =>
        simp at hi
        subst hi
        refine ⟨x, v, rfl, fun q hq => ?_, ho⟩
        rw [Nat.zero_mul, Nat.zero_add, List.getElem?_append_left (by simpa using hq)]
      | succ i =>
        obtain ⟨x', v', h1, h2, h3⟩ := ih hr (by simpa using hi)
        refine ⟨x', v', by simpa using h1, fun q hq => ?_, h3⟩
        rw [List.getElem?_append_right (by simp; omega)]
        rw [show (i + 1) * 4 + q - [Value.int .i64 (x.1.rel : Int), v, .bool y.no, .int .i64 y.atom.name.line].length = i * 4 + q by simp; omega]
        exact h2 q hq
theorem RCs.at {w : World} {base : Nat} {X : List Nat} {cs : List (AtomI × List LitI)} {xs : List ClauseM} {vs : List Value} (h : RCs w base X cs xs vs) {i : Nat} {c : AtomI × List LitI} (hi : cs[i]? = some c) : ∃ x hv lv ls ru, xs[i]? = some x ∧ (∀ q, q < 6 → vs[i * 6 + q]? = [.int .i64 (x.head.rel : Int), hv, .bool false, .int .i64 c.1.name.line, lv, .bool ru][q]?) ∧ w.ownsRow base 245 4 hv c.1.terms.length (rtCs c.1.terms) ∧ w.ownsRow base 251 4 lv c.2.length ls ∧ RLs w base X c.2 x.lits ls := by
  induction cs generalizing i xs vs with
  | nil => simp at hi
  | cons y cs ih => cases xs with
    | nil => exact h.elim
    | cons x xs =>
      obtain ⟨hv, lv, ls, rest, ru, rfl, ho, _, ho2, _, hl, hr⟩ := h
      cases i with
      | zero =>
        simp at hi
        subst hi
        refine ⟨x, hv, lv, ls, ru, rfl, fun q hq => ?_, ho, ho2, hl⟩
        rw [Nat.zero_mul, Nat.zero_add, List.getElem?_append_left (by simpa using hq)]
      | succ i =>
        obtain ⟨x', hv', lv', ls', ru', h1, h2, h3⟩ := ih hr (by simpa using hi)
        refine ⟨x', hv', lv', ls', ru', by simpa using h1, fun q hq => ?_, h3⟩
        rw [List.getElem?_append_right (by simp; omega)]
        rw [show (i + 1) * 6 + q - [Value.int .i64 (x.head.rel : Int), hv, .bool false, .int .i64 y.1.name.line, lv, .bool ru].length = i * 6 + q by simp; omega]
        exact h2 q hq
theorem RLs.kept {w w' : World} {base : Nat} {X T : List Nat} {ls : List LitI} {xs : List (AtomM × Bool)} {vs : List Value} (h : RLs w base X ls xs vs) (k : Keeps T w w') (hT : ∀ j ∈ T, j ∈ X ∨ j < base ∨ w.heap.size ≤ j) : RLs w' base X ls xs vs := by
  induction ls generalizing xs vs with
  | nil => cases xs with
    | nil => exact h
    | cons => exact h.elim
  | cons l ls ih => cases xs with
    | nil => exact h.elim
    | cons x xs =>
      obtain ⟨v, rest, e, ho, hX, hr⟩ := h
      refine ⟨v, rest, e, ownsRow_kept ho k (fun i hi hiT => ?_), hX, ih hr⟩
      have h1 := ownE_lt ho i hi
      rcases hT i hiT with q | q | q
      · exact hX i (by simp [ownL, hi]) q
      · omega
      · omega
theorem RCs.kept {w w' : World} {base : Nat} {X T : List Nat} {ls : List (AtomI × List LitI)} {xs : List ClauseM} {vs : List Value} (h : RCs w base X ls xs vs) (k : Keeps T w w') (hT : ∀ j ∈ T, j ∈ X ∨ j < base ∨ w.heap.size ≤ j) : RCs w' base X ls xs vs := by
  induction ls generalizing xs vs with
  | nil => cases xs with
    | nil => exact h
    | cons => exact h.elim
  | cons l ls ih => cases xs with
    | nil => exact h.elim
    | cons x xs =>
      obtain ⟨hv, lv, lcs, rest, ru, e, ho, hX, ho2, hX2, hl, hr⟩ := h
      have key : ∀ {e : TypeId} {size n : Nat} {v : Value} {xs : List Value}, w.ownsRow base e size v n xs → (∀ j ∈ ownL v, j ∉ X) → w'.ownsRow base e size v n xs := fun ho hX => ownsRow_kept ho k (fun i hi hiT => by
        have h1 := ownE_lt ho i hi
        rcases hT i hiT with q | q | q
        · exact hX i (by simp [ownL, hi]) q
        · omega
        · omega)
      exact ⟨hv, lv, lcs, rest, ru, e, key ho hX, hX, key ho2 hX2, hX2, hl.kept k hT, ih hr⟩

/-- A fault as the cells hold it. -/
def fC : FltO → Nat × Nat
  | none => (0, 0)
  | some f => f
def FOk (f : FltO) : Prop := ∀ c, f = some c → c.1 ≠ 0
theorem FOk.none : FOk none := fun _ h => by cases h
theorem FOk.wrong {f : FltO} (h : FOk f) (b : Bool) {c l : Nat} (hc : c ≠ 0) : FOk (wrong f b c l) := by
  unfold YtgjomknpjigkhaaGreatDoor.wrong
  split
  · intro q hq; cases hq; exact hc
  · exact h

set_option maxRecDepth 100000 in
set_option maxHeartbeats 1000000 in
theorem wrongG_no {w : World} {P : Nat} (k n l : Int) (s : ByteArray) (c : Int) : Calls Tryz.prog 272 #[.pointer (some ⟨P, 0, none⟩), .bool false, .int .i64 c, .agg #[.int .u8 k, .string s, .int .i64 n, .int .i64 l]] w fun e w' => e = .returned (.tuple #[]) ∧ w' = w.alloc (.cells #[.int .u8 k, .string s, .int .i64 n, .int .i64 l] 245) := by
  go_enter Tryz.func272, Tryz.ntmps272
  go_wp2_with fail
  go_end0
  exact ⟨rfl, rfl⟩
set_option maxRecDepth 100000 in
set_option maxHeartbeats 1000000 in
theorem wrongG_old {w : World} {P : Nat} (k n l : Int) (s : ByteArray) (c q : Int) (hk : (q == 0) = false) {cs : Array Value} (hP : CellsAt w P cs) (hc : cs[4]? = some (.int .i64 q)) : Calls Tryz.prog 272 #[.pointer (some ⟨P, 0, none⟩), .bool true, .int .i64 c, .agg #[.int .u8 k, .string s, .int .i64 n, .int .i64 l]] w fun e w' => e = .returned (.tuple #[]) ∧ w' = w.alloc (.cells #[.int .u8 k, .string s, .int .i64 n, .int .i64 l] 245) := by
  have hc2 : (w.alloc (.cells #[.int .u8 k, .string s, .int .i64 n, .int .i64 l] 245)).cell? ⟨P, 4, none⟩ = some (.int .i64 q) := by rw [(hP.keeps (Keeps.alloc [] w _) (by simp)).cell]; exact hc
  go_enter Tryz.func272, Tryz.ntmps272
  go_wp2_with fail
  go_end0
  exact ⟨rfl, rfl⟩
set_option maxRecDepth 100000 in
set_option maxHeartbeats 1000000 in
theorem wrongG_new {w : World} {P : Nat} {a b c d : Value} {ln : Int} (k n l : Int) (s : ByteArray) (cd : Int) (hP : CellsAt w P #[a, b, c, d, .int .i64 0, .int .i64 ln]) : Calls Tryz.prog 272 #[.pointer (some ⟨P, 0, none⟩), .bool true, .int .i64 cd, .agg #[.int .u8 k, .string s, .int .i64 n, .int .i64 l]] w fun e w' => e = .returned (.tuple #[]) ∧ CellsAt w' P #[a, b, c, d, .int .i64 cd, .int .i64 l] ∧ Keeps [P] w w' := by
  have hPl := hP.lt
  have kA := Keeps.alloc [] w (.cells #[.int .u8 k, .string s, .int .i64 n, .int .i64 l] 245)
  have hP1 := hP.keeps kA (by simp)
  have c4 := hP1.cell 4
  have f4 := hP1.frozen 4
  have hP2 := hP1.setCell 4 (.int .i64 cd)
  have hP0 := hP.setCell 4 (.int .i64 cd)
  have hP0A := hP0.keeps (Keeps.alloc [] _ (.cells #[.int .u8 k, .string s, .int .i64 n, .int .i64 l] 245)) (by simp)
  have c5 := hP0A.cell 5
  have f5 := hP0A.frozen 5
  have c5' := hP2.cell 5
  have f5' := hP2.frozen 5
  have Hend := hide ((hP0.setCell 5 (.int .i64 l)).keeps (Keeps.alloc [] _ (.cells #[.int .u8 k, .string s, .int .i64 n, .int .i64 l] 245)) (by simp))
  have Hk : Hid (Keeps [P] w (((w.setCell ⟨P, 4, none⟩ (.int .i64 cd)).setCell ⟨P, 5, none⟩ (.int .i64 l)).alloc (.cells #[.int .u8 k, .string s, .int .i64 n, .int .i64 l] 245))) := hide (((Keeps.setCell w ⟨P, 4, none⟩ _).trans (Keeps.setCell _ ⟨P, 5, none⟩ _)).trans (Keeps.alloc [P] _ _))
  clear hP hP1 hP2 hP0 hP0A
  go_enter Tryz.func272, Tryz.ntmps272
  go_wp2_with fail
  go_end0
  exact ⟨rfl, Hend.out, Hk.out⟩

/-- A fault, if none was found yet. -/
theorem wrongG_calls {w : World} {P : Nat} {a b c d : Value} {f : FltO} (hf : FOk f) (k n : Int) (l : Nat) (s : ByteArray) (bb : Bool) (cd : Nat) (hP : CellsAt w P #[a, b, c, d, .int .i64 (fC f).1, .int .i64 (fC f).2]) : Calls Tryz.prog 272 #[.pointer (some ⟨P, 0, none⟩), .bool bb, .int .i64 cd, .agg #[.int .u8 k, .string s, .int .i64 n, .int .i64 l]] w fun e w' => e = .returned (.tuple #[]) ∧ CellsAt w' P #[a, b, c, d, .int .i64 (fC (wrong f bb cd l)).1, .int .i64 (fC (wrong f bb cd l)).2] ∧ Keeps [P] w w' ∧ (bb = false ∨ f ≠ none → Keeps [] w w') := by
  have hA : ∀ o, CellsAt (w.alloc o) P #[a, b, c, d, .int .i64 (fC f).1, .int .i64 (fC f).2] := fun o => hP.keeps (Keeps.alloc [] w o) (by simp)
  cases bb with
  | false =>
    refine (wrongG_no k n l s cd).mono ?_
    rintro e w' ⟨rfl, rfl⟩
    rw [wrong_false]
    exact ⟨rfl, hA _, Keeps.alloc _ _ _, fun _ => Keeps.alloc _ _ _⟩
  | true =>
    cases f with
    | some q =>
      have h0 := hf q rfl
      refine (wrongG_old k n l s cd q.1 (by rw [beq_eq_false_iff_ne]; omega) hP rfl).mono ?_
      rintro e w' ⟨rfl, rfl⟩
      rw [wrong_some]
      exact ⟨rfl, hA _, Keeps.alloc _ _ _, fun _ => Keeps.alloc _ _ _⟩
    | none =>
      refine (wrongG_new k n l s cd hP).mono ?_
      rintro e w' ⟨rfl, h1, h2⟩
      rw [wrong_true]
      exact ⟨rfl, h1, h2, fun h => by rcases h with h | h <;> simp at h⟩

end Go.Proofs.YtgjomknpjigkhaaGreatDoor

namespace Go.Proofs.YtgjomknpjigkhaaGreatDoor
open Go.RowKit

def domC2 (d : ByteArray × Int) : List Value := [.string d.1, .int .i64 d.2]
def domCs (l : List (ByteArray × Int)) : List Value := l.flatMap domC2
theorem domCs_at {l : List (ByteArray × Int)} {i : Nat} {d : ByteArray × Int} (h : l[i]? = some d) : (domCs l)[i * 2]? = some (.string d.1) ∧ (domCs l)[i * 2 + 1]? = some (.int .i64 d.2) := by
  induction l generalizing i with
  | nil => simp at h
  | cons x l ih =>
    have e : domCs (x :: l) = [.string x.1, .int .i64 x.2] ++ domCs l := by simp [domCs, domC2]
    cases i with
    | zero => simp at h; subst h; rw [e]; exact ⟨rfl, rfl⟩
    | succ i =>
      have := ih (i := i) (by simpa using h)
      rw [e, List.getElem?_append_right (by simp; omega), List.getElem?_append_right (by simp; omega)]
      rw [show (i + 1) * 2 - [Value.string x.1, .int .i64 x.2].length = i * 2 by simp; omega, show (i + 1) * 2 + 1 - [Value.string x.1, .int .i64 x.2].length = i * 2 + 1 by simp; omega]
      exact this
theorem domCs_append (a b : List (ByteArray × Int)) : domCs (a ++ b) = domCs a ++ domCs b := by simp [domCs]

def colC (ds : List Nat) : List Value := ds.map fun d : Nat => .int .i64 (d : Int)
theorem colC_at {ds : List Nat} {i d : Nat} (h : ds[i]? = some d) : (colC ds)[i]? = some (.int .i64 (d : Int)) := by simp [colC, h]

/-- The rels, each with its row of columns. -/
def RRs (w : World) (base : Nat) (X : List Nat) : List (ByteArray × List Nat) → List Value → Prop
  | [], vs => vs = []
  | r :: rs, vs => ∃ v rest, vs = [.string r.1, v] ++ rest ∧ w.ownsRow base 3 1 v r.2.length (colC r.2) ∧ (∀ j ∈ ownL v, j ∉ X) ∧ RRs w base X rs rest
theorem RRs.at {w : World} {base : Nat} {X : List Nat} {rs : List (ByteArray × List Nat)} {vs : List Value} (h : RRs w base X rs vs) {i : Nat} {r : ByteArray × List Nat} (hi : rs[i]? = some r) : ∃ v, vs[i * 2]? = some (.string r.1) ∧ vs[i * 2 + 1]? = some v ∧ w.ownsRow base 3 1 v r.2.length (colC r.2) := by
  induction rs generalizing i vs with
  | nil => simp at hi
  | cons x rs ih =>
    obtain ⟨v, rest, rfl, ho, _, hr⟩ := h
    cases i with
    | zero => simp at hi; subst hi; exact ⟨v, rfl, rfl, ho⟩
    | succ i =>
      obtain ⟨v', h1, h2, h3⟩ := ih hr (by simpa using hi)
      refine ⟨v', ?_, ?_, h3⟩
      · rw [List.getElem?_append_right (by simp; omega), show (i + 1) * 2 - [Value.string x.1, v].length = i * 2 by simp; omega]
        exact h1
      · rw [List.getElem?_append_right (by simp; omega), show (i + 1) * 2 + 1 - [Value.string x.1, v].length = i * 2 + 1 by simp; omega]
        exact h2
theorem RRs.kept {w w' : World} {base : Nat} {X T : List Nat} {rs : List (ByteArray × List Nat)} {vs : List Value} (h : RRs w base X rs vs) (k : Keeps T w w') (hT : ∀ j ∈ T, j ∈ X ∨ j < base ∨ w.heap.size ≤ j) : RRs w' base X rs vs := by
  induction rs generalizing vs with
  | nil => exact h
  | cons x rs ih =>
    obtain ⟨v, rest, e, ho, hX, hr⟩ := h
    refine ⟨v, rest, e, ownsRow_kept ho k (fun i hi hiT => ?_), hX, ih hr⟩
    have h1 := ownE_lt ho i hi
    rcases hT i hiT with q | q | q
    · exact hX i (by simp [ownL, hi]) q
    · omega
    · omega
theorem RRs.push {w : World} {base : Nat} {X : List Nat} {rs : List (ByteArray × List Nat)} {vs : List Value} (h : RRs w base X rs vs) {r : ByteArray × List Nat} {v : Value} (ho : w.ownsRow base 3 1 v r.2.length (colC r.2)) (hX : ∀ j ∈ ownL v, j ∉ X) : RRs w base X (rs ++ [r]) (vs ++ [.string r.1, v]) := by
  induction rs generalizing vs with
  | nil => cases h; exact ⟨v, [], rfl, ho, hX, rfl⟩
  | cons x rs ih =>
    obtain ⟨u, rest, rfl, h1, h2, hr⟩ := h
    exact ⟨u, rest ++ [.string r.1, v], by simp, h1, h2, ih hr⟩

/-- Doms and rels, as the document's program keeps them. -/
structure RMn (w : World) (base : Nat) (X : List Nat) (m : Mean) (dv rv : Value) (rvs : List Value) : Prop where
  doms : w.ownsRow base 314 2 dv m.doms.length (domCs m.doms)
  domsX : ∀ j ∈ ownL dv, j ∉ X
  rels : w.ownsRow base 264 2 rv m.rels.length rvs
  relsX : ∀ j ∈ ownL rv, j ∉ X
  rrs : RRs w base X m.rels rvs
theorem RMn.kept {w w' : World} {base : Nat} {X T : List Nat} {m : Mean} {dv rv : Value} {rvs : List Value} (h : RMn w base X m dv rv rvs) (k : Keeps T w w') (hT : ∀ j ∈ T, j ∈ X ∨ j < base ∨ w.heap.size ≤ j) : RMn w' base X m dv rv rvs := by
  have key : ∀ {e : TypeId} {size n : Nat} {v : Value} {xs : List Value}, w.ownsRow base e size v n xs → (∀ j ∈ ownL v, j ∉ X) → w'.ownsRow base e size v n xs := fun ho hX => ownsRow_kept ho k (fun i hi hiT => by
    have h1 := ownE_lt ho i hi
    rcases hT i hiT with q | q | q
    · exact hX i (by simp [ownL, hi]) q
    · omega
    · omega)
  exact ⟨key h.doms h.domsX, h.domsX, key h.rels h.relsX, h.relsX, h.rrs.kept k hT⟩

/-- A dom's place. -/
theorem rdom_at {w : World} {base P : Nat} {X : List Nat} {m : Mean} {dv rv : Value} {rvs : List Value} (h : RMn w base X m dv rv rvs) (hc : w.cell? ⟨P, 0, none⟩ = some dv) (hl : m.doms.length ≤ 1000000) (s : ByteArray) : Calls Tryz.prog 273 #[.pointer (some ⟨P, 0, none⟩), .string s] w fun e w' => e = .returned (.int .i64 (plInt (m.dom s))) ∧ w' = w := by
  obtain ⟨a, c, rfl⟩ := ownE_len h.doms
  refine rdom_calls (g := (a.map (·.block)).getD 0) (c := c) (a := a) m.doms hl hc (fun q hq => ?_) (fun i q hi => ?_) s
  · obtain ⟨g, hg⟩ := ownE_pos2 h.doms (List.length_pos_of_mem hq)
    subst hg
    rfl
  · have hd := h.doms
    obtain ⟨g, hg⟩ := ownE_pos2 hd (List.length_pos_of_mem (List.mem_of_getElem? hi))
    subst hg
    exact ownE_cells hd (domCs_at hi).1
/-- A rel's place. -/
theorem rrel_at {w : World} {base P : Nat} {X : List Nat} {m : Mean} {dv rv : Value} {rvs : List Value} (h : RMn w base X m dv rv rvs) (hc : w.cell? ⟨P, 1, none⟩ = some rv) (hl : m.rels.length ≤ 1000000) (s : ByteArray) : Calls Tryz.prog 193 #[.pointer (some ⟨P, 0, none⟩), .string s] w fun e w' => e = .returned (.int .i64 (plInt (m.rel s))) ∧ w' = w := by
  obtain ⟨a, c, rfl⟩ := ownE_len h.rels
  refine rrel_calls (g := (a.map (·.block)).getD 0) (c := c) (a := a) m.rels hl hc (fun q hq => ?_) (fun i q hi => ?_) s
  · obtain ⟨g, hg⟩ := ownE_pos2 h.rels (List.length_pos_of_mem hq)
    subst hg
    rfl
  · have hd := h.rels
    obtain ⟨g, hg⟩ := ownE_pos2 hd (List.length_pos_of_mem (List.mem_of_getElem? hi))
    subst hg
    obtain ⟨v, h1, _, _⟩ := h.rrs.at hi
    exact ownE_cells hd h1

end Go.Proofs.YtgjomknpjigkhaaGreatDoor

namespace Go.Proofs.YtgjomknpjigkhaaGreatDoor
open Go.RowKit

def bndL (ls : List LitI) (s : ByteArray) : Bool := ls.any fun l => !l.no && hasB (varsT l.atom.terms) s
theorem hasB_append (a b : List ByteArray) (s : ByteArray) : hasB (a ++ b) s = (hasB a s || hasB b s) := by simp [hasB]
theorem bound_same (c : AtomI × List LitI) (s : ByteArray) : hasB (boundR c) s = bndL c.2 s := by
  unfold boundR bndL
  generalize c.2 = ls
  induction ls with
  | nil => rfl
  | cons l ls ih =>
    rw [List.any_cons, ← ih]
    cases hl : l.no with
    | true => rw [List.filter_cons_of_neg (by simp [hl])]; simp
    | false => rw [List.filter_cons_of_pos (by simp [hl]), List.flatMap_cons, hasB_append]; simp
theorem varsT_cons (t : Tn) (ts : List Tn) (s : ByteArray) : hasB (varsT (t :: ts)) s = ((isVarG t.g && decide (txt t.g = s)) || hasB (varsT ts) s) := by
  unfold varsT
  cases hv : isVarG t.g with
  | true => rw [List.filter_cons_of_pos (by simpa using hv)]; simp [hasB]
  | false => rw [List.filter_cons_of_neg (by simp [hv])]; simp

set_option maxRecDepth 100000 in
set_option maxHeartbeats 4000000 in
theorem bound_calls {w : World} {base g o : Nat} {lv : Value} {ls : List LitI} {xs : List (AtomM × Bool)} {lcs : List Value} {X : List Nat} (hc : w.cell? ⟨g, o + 4, none⟩ = some lv) (hgl : g < w.heap.size) (hlv : w.ownsRow base 251 4 lv ls.length lcs) (hls : RLs w base X ls xs lcs) (hl : ls.length ≤ 1000000) (htl : ∀ l ∈ ls, l.atom.terms.length ≤ 1000000) (s : ByteArray) : Calls Tryz.prog 275 #[.pointer (some ⟨g, o, none⟩), .string s] w fun e w' => e = .returned (.bool (bndL ls s)) ∧ Keeps [] w w' := by
  obtain ⟨av, cc, rfl⟩ := ownE_len hlv
  have Hc := hide (fun (W : World) (k : Keeps [] w W) => (show W.cell? ⟨g, o + 4, none⟩ = some (.slice av ls.length cc) by rw [← hc]; unfold World.cell?; rw [k.block g hgl (by simp)]))
  have Hlv := hide hlv
  have Hls := hide hls
  have Htl := hide htl
  generalize hR : bndL ls s = R
  have HR := hide hR
  clear hR hlv hls htl
  go_enter Tryz.func275, Tryz.ntmps275
  go_wp2_with fail
  go_loopw [5] (fun x wr => ∃ i : Nat, x = .int .i64 i ∧ i ≤ ls.length ∧ Keeps [] w wr ∧ bndL (ls.drop i) s = R) (fun x _ => ls.length - (intOf x).toNat)
  case atStart => exact ⟨0, rfl, by omega, Keeps.refl [] w, by rw [List.drop_zero]; exact HR.out⟩
  case round =>
    obtain ⟨i, rfl, hil, kr, hres⟩ := hrel
    have hc1 := Hc.out wr kr
    clear HR hc
    by_cases hlt : i < ls.length
    · obtain ⟨l, hli⟩ : ∃ l, ls[i]? = some l := ⟨_, List.getElem?_eq_getElem hlt⟩
      have hdi : ls.drop i = l :: ls.drop (i + 1) := by
        rw [List.drop_eq_getElem_cons hlt]
        congr 1
        rw [List.getElem?_eq_getElem hlt] at hli
        exact Option.some.inj hli
      have hres' : ((!l.no && hasB (varsT l.atom.terms) s) || bndL (ls.drop (i + 1)) s) = R := by rw [← hres, hdi]; rfl
      have hiI : (i : Int) < ls.length := by omega
      have hrr := Hlv.out
      obtain ⟨gl, hgl2⟩ := ownE_pos2 hrr (by omega)
      subst hgl2
      obtain ⟨x, v, hx, hcs, hv⟩ := Hls.out.at hli
      obtain ⟨va, vc, rfl⟩ := ownE_len hv
      have Hcs := hide (fun (W : World) (k : Keeps [] w W) => (⟨ownE_cells (ownsRow_kept hrr k (by simp)) (by rw [hcs 1 (by omega)]; rfl), ownE_cells (ownsRow_kept hrr k (by simp)) (by rw [hcs 2 (by omega)]; rfl)⟩ : W.cell? ⟨gl, i * 4 + 1, none⟩ = some (.slice va l.atom.terms.length vc) ∧ W.cell? ⟨gl, i * 4 + 2, none⟩ = some (.bool l.no)))
      have htl := Htl.out l (List.mem_of_getElem? hli)
      have Hv := hide hv
      have hgll : gl < w.heap.size := (ownE_lt hrr gl rfl).2
      have Hres' := hide hres'
      clear hdi hres hres' hli hrr hcs hv hx
      generalize hR2 : bndL (ls.drop (i + 1)) s = R2 at *
      have HR2 := hide hR2
      clear hR2
      generalize hN : l.no = N at *
      generalize hTs : l.atom.terms = Ts at *
      clear hN hTs
      go_wp2_with fail
      go_loopw [6] (fun y ws => ∃ k : Nat, y = .int .i64 k ∧ k ≤ Ts.length ∧ Keeps [] w ws ∧ ((!N && hasB (varsT (Ts.drop k)) s) || R2) = R) (fun y _ => Ts.length - (intOf y).toNat)
      case atStart => exact ⟨0, rfl, by omega, kr, by rw [List.drop_zero]; exact Hres'.out⟩
      case round =>
        clear hc1 kr Hres'
        obtain ⟨k, rfl, hkl, ks, hres⟩ := hrel
        have hc1 := Hc.out wr ks
        obtain ⟨hc2, hc3⟩ := Hcs.out wr ks
        have hsz := ks.size
        by_cases hkt : k < Ts.length
        · obtain ⟨t, htk⟩ : ∃ t, Ts[k]? = some t := ⟨_, List.getElem?_eq_getElem hkt⟩
          have hdk : Ts.drop k = t :: Ts.drop (k + 1) := by
            rw [List.drop_eq_getElem_cons hkt]
            congr 1
            rw [List.getElem?_eq_getElem hkt] at htk
            exact Option.some.inj htk
          rw [hdk, varsT_cons] at hres
          have hkI : (k : Int) < Ts.length := by omega
          have hrv := ownsRow_kept Hv.out ks (by simp)
          obtain ⟨gv, hgv⟩ := ownE_pos2 hrv (by omega)
          subst hgv
          obtain ⟨t0, t1, t2, t3⟩ := ownTok hrv htk
          have hgvl : gv < wr.heap.size := (ownE_lt hrv gv rfl).2
          have kT := Keeps.alloc [] wr (.cells #[.int .u8 (rkind t.g), .string (txt t.g), .int .i64 (numOf t.g), .int .i64 t.line] 245)
          have hK := ks.trans kT
          have hc4 := Hc.out _ hK
          obtain ⟨hc5, hc6⟩ := Hcs.out _ hK
          have hkv := kind_var t.g
          clear hdk hrv htk kT
          cases N with
          | true =>
            have Hres := hide (show ((!true && hasB (varsT (Ts.drop (k + 1))) s) || R2) = R by rw [← hres]; rfl)
            clear hres
            go_wp2_with fail
            go_roundw
            · exact ⟨k + 1, by simp, by omega, hK, Hres.out⟩
            · simp only [intOf]; omega
          | false =>
            cases hvv : isVarG t.g with
            | false =>
              rw [hvv] at hkv hres
              have Hres := hide (show ((!false && hasB (varsT (Ts.drop (k + 1))) s) || R2) = R by rw [← hres]; rfl)
              clear hres hvv
              go_wp2_with fail
              go_roundw
              · exact ⟨k + 1, by simp, by omega, hK, Hres.out⟩
              · simp only [intOf]; omega
            | true =>
              rw [hvv] at hkv hres
              by_cases hts : txt t.g = s
              · have hb : ((txt t.g).toList == s.toList) = true := str_eq.2 hts
                have Hres : Hid (true = R) := hide (by rw [← hres, hts]; simp)
                clear hres hvv hts
                go_wp2_with fail
                go_ret
                exact ⟨by rw [← Hres.out]; rfl, hK⟩
              · have hb : ((txt t.g).toList == s.toList) = false := by rw [← Bool.not_eq_true, str_eq]; exact hts
                have Hres := hide (show ((!false && hasB (varsT (Ts.drop (k + 1))) s) || R2) = R by rw [← hres, decide_eq_false hts]; rfl)
                clear hres hvv hts
                go_wp2_with fail
                go_roundw
                · exact ⟨k + 1, by simp, by omega, hK, Hres.out⟩
                · simp only [intOf]; omega
        · have hkI : ¬ (k : Int) < Ts.length := by omega
          have hdz : Ts.drop k = [] := List.drop_eq_nil_of_le (by omega)
          have Hres : Hid (R2 = R) := hide (by rw [← hres, hdz]; cases N <;> rfl)
          clear hres hdz
          go_wp2_with fail
          go_roundw
          · exact ⟨i + 1, by simp, by omega, ks, HR2.out.trans Hres.out⟩
          · simp only [intOf]; omega
    · have hiI : ¬ (i : Int) < ls.length := by omega
      have hdz : ls.drop i = [] := List.drop_eq_nil_of_le (by omega)
      rw [hdz] at hres
      have Hres : Hid (false = R) := hide hres
      clear hres hdz
      go_wp2_with fail
      go_ret
      exact ⟨by rw [← Hres.out]; rfl, kr⟩

end Go.Proofs.YtgjomknpjigkhaaGreatDoor
