/- Texts: N3 N4 N5 N6 N7. -/
import Derived.Test.YtgjomknpjigkhaaGreatDoorT25
import Derived.Deep.AppendLies
import Derived.Test.YtgjomknpjigkhaaGreatDoorT04
namespace Go.Proofs.YtgjomknpjigkhaaGreatDoor
open Go.RowKit

theorem Grows.trans_kept {b : Nat} {T T' : List Nat} {x y z : World} (h : Grows b T x y) (k : Keeps T' y z) (hT : ∀ i ∈ T', i ∈ T ∨ x.heap.size ≤ i) : Grows b T x z :=
  ⟨k.os.trans h.os, k.tape.trans h.tape, k.output.trans h.output, Nat.le_trans h.size k.size, fun i hi hn hc => (k.block i (Nat.lt_of_lt_of_le hi h.size) (fun q => by
    rcases hT i q with p | p
    · exact hn p
    · omega)).trans (h.block i hi hn hc)⟩

set_option maxRecDepth 100000 in
set_option maxHeartbeats 1000000 in
theorem all_calls {w : World} {B : Nat} {a : Option Addr} {n c : Nat} (hc : w.cell? ⟨B, 3, none⟩ = some (.slice a n c)) : Calls Tryz.prog 76 #[.pointer (some ⟨B, 3, none⟩)] w fun e w' => e = .returned (.func (.func 222) #[] #[.pointer (some ⟨w.heap.size, 0, none⟩)]) ∧ w' = w.alloc (.cells #[.slice a n c] 35) := by
  go_enter Tryz.func76, Tryz.ntmps76
  go_wp2
  go_ret
  exact ⟨rfl, rfl⟩

def eP (x : Nat × ByteArray) : Array Value := #[.int .i64 (x.1 : Int), .string x.2]
def NthOf (ns : List ByteArray) (pre : List (Nat × ByteArray)) (x : Nat × ByteArray) : Prop := x.1 = pre.length ∧ ns[pre.length]? = some x.2
def AllNth (ns : List ByteArray) (xs : List (Nat × ByteArray)) : Prop := xs.length = ns.length

set_option maxRecDepth 100000 in
set_option maxHeartbeats 2000000 in
theorem all_iter {w : World} {p g c : Nat} {ns : List ByteArray} {a : Option Addr} (hp0 : CellsAt w p #[.slice a ns.length c]) (ha : ∀ s ∈ ns, a = some ⟨g, 0, none⟩ ∧ g < w.heap.size) (hg : ∀ {W : World}, (∀ i, i = g → W.heap[i]? = w.heap[i]?) → ∀ (i : Nat) (s : ByteArray), ns[i]? = some s → W.cell? ⟨g, i, none⟩ = some (.string s)) (hl : ns.length ≤ 1000000) (T : List Nat) (hT : ∀ t ∈ T, t < w.heap.size ∧ t ≠ p ∧ (ns ≠ [] → t ≠ g)) :
    IterG 222 #[.pointer (some ⟨p, 0, none⟩)] eP (NthOf ns) (AllNth ns) T w := by
  intro n l J W hl' hlW hb hJ hY h0
  have hp := hp0.of_heap (w' := W) (hb.block p hp0.lt)
  have c0 := hp.cell 0
  simp at c0
  have HY := hide hY
  have HJ := hide hJ
  have Hg := hide (fun (W : World) (h : ∀ i, i = g → W.heap[i]? = w.heap[i]?) => hg h)
  have Ha := hide ha
  have HT := hide hT
  have Hb := hide hb
  clear hY hJ hg ha hT hb
  refine callsIn_of_wp Tryz.func222 rfl trivial ?_ rfl
  simp only [Tryz.ntmps222, List.size_toArray, List.length_cons, List.length_nil, Nat.reduceAdd, Nat.reduceSub, Array.replicate_succ, Array.replicate_zero, List.push_toArray, List.append_toArray, List.nil_append, List.cons_append]
  gi_wp2_with fail
  gi_loopw [7] (fun x wr => ∃ (i : Nat) (xs : List (Nat × ByteArray)), x = .int .i64 i ∧ i = xs.length ∧ i ≤ ns.length ∧ J xs wr ∧ Grows w.heap.size (l :: T) W wr) (fun x _ => ns.length - (intOf x).toNat)
  case atStart => exact ⟨0, [], rfl, rfl, by omega, h0, (Keeps.refl [] W).grows (by simp)⟩
  case round =>
    obtain ⟨i, xs, rfl, hix, hil, hJs, hgr⟩ := hrel
    clear c0 h0
    have Hix := hide hix
    clear hix
    by_cases hlt : i < ns.length
    · obtain ⟨s, hs⟩ : ∃ s, ns[i]? = some s := ⟨_, List.getElem?_eq_getElem hlt⟩
      obtain ⟨hag, hgl⟩ := Ha.out s (List.mem_of_getElem? hs)
      subst hag
      have hne : ns ≠ [] := by intro e; rw [e] at hlt; simp at hlt
      have hcell := Hg.out wr (fun j hj => by
        subst hj
        refine (hgr.block j (Nat.lt_of_lt_of_le hgl Hb.out.size) (fun q => ?_) (.inl hgl)).trans (Hb.out.block j hgl)
        rcases List.mem_cons.1 q with q | q
        · omega
        · exact (HT.out j q).2.2 hne rfl) i s hs
      have hiI : (i : Int) < ns.length := by omega
      obtain ⟨fn, tmps, assign, body, hy, hR⟩ := HY.out xs (i, s) wr hJs ⟨Hix.out, by rw [← Hix.out]; exact hs⟩
      simp only [eP] at hy
      clear hs
      gi_wp2_with fail
      refine ⟨fun h => (nomatch h), ?_⟩
      refine hR.mono ?_
      rintro e W3 ⟨rfl, hJ3, g3⟩
      have hg3 : Grows w.heap.size (l :: T) W W3 := hgr.trans g3
      gi_wp2_with fail
      refine ⟨⟨i + 1, xs ++ [(i, s)], by simp, by rw [List.length_append, List.length_singleton, ← Hix.out], by omega, hJ3, hg3⟩, ?_⟩
      simp only [intOf]; omega
    · have hiI : ¬ (i : Int) < ns.length := by omega
      gi_wp2_with fail
      go_end0
      exact ⟨⟨_, rfl⟩, xs, by have := Hix.out; unfold AllNth; omega, hJs, hgr⟩

end Go.Proofs.YtgjomknpjigkhaaGreatDoor

namespace Go.Proofs.YtgjomknpjigkhaaGreatDoor
open Go.RowKit

theorem listed_set {listed : Array Bool} {i j : Nat} (h : (listed.setIfInBounds i true).getD j false = true) : j = i ∨ listed.getD j false = true := by
  by_cases e : j = i
  · exact .inl e
  · right
    rw [← h, Array.getD_eq_getD_getElem?, Array.getD_eq_getD_getElem?, Array.getElem?_setIfInBounds, if_neg (fun q => e q.symm)]
theorem listed_keep {listed : Array Bool} {i j : Nat} (h : j ≠ i) : (listed.setIfInBounds i true).getD j false = listed.getD j false := by
  rw [Array.getD_eq_getD_getElem?, Array.getD_eq_getD_getElem?, Array.getElem?_setIfInBounds, if_neg (fun q => h q.symm)]

/-- What an operation waits for has come up ahead of it. -/
def DepClosed (md : Region.Mode) (ops : Array Oper) (listed : Array Bool) : Prop := ∀ j, listed.getD j false = true → ∀ o, ops[j]? = some o → ∀ e ∈ o.after, Region.binds md e = true → listed.getD e.on false = true
theorem replicate_no (n j : Nat) : (Array.replicate n false).getD j false = false := by
  rw [Array.getD_eq_getD_getElem?, Array.getElem?_replicate]
  split <;> rfl
theorem listed_more {listed : Array Bool} {i j : Nat} (h : listed.getD j false = true) : (listed.setIfInBounds i true).getD j false = true := by
  by_cases e : j = i
  · subst e
    have hj : j < listed.size := by
      rcases Nat.lt_or_ge j listed.size with q | q
      · exact q
      · simp [Array.getD, Nat.not_lt.2 q] at h
    rw [Array.getD_eq_getD_getElem?, Array.getElem?_setIfInBounds, if_pos rfl, if_pos hj]
    rfl
  · rw [listed_keep e]; exact h
/-- Each operation waits for earlier ones alone. -/
def earlier (ops : Array Oper) : Bool := (List.range ops.size).all fun i => ((ops[i]?).map fun o => o.after.all fun e => decide (e.on < i)).getD true
theorem ready_nil {md : Region.Mode} {ops : Array Oper} {listed : Array Bool} (hb : earlier ops = true) (hsz : listed.size = ops.size) (h : Region.ready md ops listed = []) : ∀ i, i < ops.size → listed.getD i false = true := by
  intro i
  induction i using Nat.strongRecOn with
  | ind i ih =>
    intro hi
    have hi' : i < listed.size := by omega
    rcases hv : listed.getD i false with _ | _
    · exfalso
      have hm : i ∈ Region.ready md ops listed := by
        simp only [Region.ready, List.mem_filter, List.mem_range, Bool.and_eq_true, Bool.not_eq_true']
        refine ⟨hi, ?_, ?_⟩
        · simp [Array.getD, hi'] at hv ⊢; exact hv
        · rw [Array.getElem?_eq_getElem hi]
          simp only [Option.map_some, Option.getD_some, Array.all_eq_true_iff_forall_mem, Bool.or_eq_true]
          intro e he
          right
          unfold earlier at hb
          rw [List.all_eq_true] at hb
          have h2 := hb i (List.mem_range.2 hi)
          rw [Array.getElem?_eq_getElem hi] at h2
          simp only [Option.map_some, Option.getD_some, Array.all_eq_true_iff_forall_mem, decide_eq_true_eq] at h2
          have h3 := h2 e he
          exact ih e.on h3 (by omega)
      rw [h] at hm
      cases hm
    · rfl
theorem wpIn_region_flow {n : Nat} {P : Program} {ops : Array Oper} {Q : Exit → Act → World → Prop} {F : Fence} {id : Nat} {a : Act} {w : World} {S : Array Bool → Act → World → Prop} (hm : P.follows .mixedOrders = true) (hb : earlier ops = true) (h0 : S (Array.replicate ops.size false) a w.drew) (hstep : ∀ listed a w i, S listed a w → DepClosed .any ops listed → listed.size = ops.size → i < ops.size → listed.getD i false = false → (∀ o, ops[i]? = some o → ∀ e ∈ o.after, Region.binds .any e = true → listed.getD e.on false = true) → wpOpIn F n P ops Q i (S (listed.setIfInBounds i true)) a w) (hend : ∀ listed a w, S listed a w → (∀ i, i < ops.size → listed.getD i false = true) → Q .normal a w) : (Code.region id ops true).wpIn F n P Q a w := by
  refine wpIn_region_inv (S := fun listed a w => S listed a w ∧ DepClosed .any ops listed ∧ listed.size = ops.size) hm ⟨h0, fun j hj => (by rw [replicate_no] at hj; cases hj), Array.size_replicate⟩ (fun listed a w i hS hi => ?_) (fun listed a w hS hr => hend listed a w hS.1 (ready_nil hb hS.2.2 hr))
  obtain ⟨h1, h2, h3⟩ := ready_spec hi
  have h2' : listed.getD i false = false := by
    have hi' : i < listed.size := by rw [hS.2.2]; exact h1
    simp [Array.getD, hi'] at h2 ⊢; exact h2
  refine wpOpIn_mono (fun a w h => ⟨h, ?_, by rw [Array.size_setIfInBounds]; exact hS.2.2⟩) (hstep listed a w i hS.1 hS.2.1 hS.2.2 h1 h2' h3)
  intro j hj o ho e he hb
  rcases listed_set hj with q | q
  · subst q
    exact listed_more (h3 o ho e he hb)
  · exact listed_more (hS.2.1 j q o ho e he hb)

/-- What has come up so far, of operations that write into slots from base on, and leave what was there. -/
structure Flow (base N : Nat) (φ : Nat → Value → World → Prop) (a0 : Act) (W : World) (listed : Array Bool) (a : Act) (w : World) : Prop where
  size : a.tmps.size = a0.tmps.size
  low : ∀ j, j < base → a.eval (.tmp j) = a0.eval (.tmp j)
  dfr : a.defers = a0.defers
  keep : Keeps [] W w
  got : ∀ j, j < N → listed.getD j false = true → φ j (a.eval (.tmp (base + j))) w
  room : listed.size = N + 2
  more : listed.getD N false = false ∧ listed.getD (N + 1) false = false

theorem Flow.put {base N : Nat} {φ : Nat → Value → World → Prop} {a0 : Act} {W : World} {listed : Array Bool} {a : Act} {w w' : World} {i : Nat} {v : Value} (h : Flow base N φ a0 W listed a w) (hs : ∀ j v w w', φ j v w → Keeps [] w w' → φ j v w') (k : Keeps [] w w') (hi : i < N) (hb : base + N ≤ a0.tmps.size) (hv : φ i v w') : Flow base N φ a0 W (listed.setIfInBounds i true) (a.put (some (base + i)) v) w' := by
  refine ⟨by rw [put_size]; exact h.size, fun j hj => by rw [put_eval (by omega)]; exact h.low j hj, by rw [put_defers]; exact h.dfr, h.keep.trans k, fun j hj hl => ?_, by rw [Array.size_setIfInBounds]; exact h.room, ?_⟩
  · by_cases e : j = i
    · subst e
      rw [put_eval_same (by rw [h.size]; omega)]
      exact hv
    · rw [put_eval (by omega)]
      rw [listed_keep e] at hl
      exact hs _ _ _ _ (h.got j hj hl) k
  · rw [listed_keep (by omega), listed_keep (by omega)]
    exact h.more

structure RelM where
  name : ByteArray
  sizes : List Int
  layer : Nat
/-- The rels, three cells each. -/
def RelVs (w : World) (base : Nat) (X : List Nat) : List RelM → List Value → Prop
  | [], vs => vs = []
  | r :: rs, vs => ∃ v rest, vs = [.string r.name, v, .int .i64 (r.layer : Int)] ++ rest ∧ w.ownsRow base 3 1 v r.sizes.length (intsV r.sizes) ∧ (∀ j ∈ ownL v, j ∉ X) ∧ RelVs w base X rs rest
theorem RelVs.keeps {w w' : World} {base : Nat} {X T : List Nat} {rs : List RelM} {vs : List Value} (h : RelVs w base X rs vs) (k : Keeps T w w') (hT : ∀ j ∈ T, j ∈ X ∨ j < base ∨ w.heap.size ≤ j) : RelVs w' base X rs vs := by
  induction rs generalizing vs with
  | nil => exact h
  | cons r rs ih =>
    obtain ⟨v, rest, h1, h2, h3, h4⟩ := h
    exact ⟨v, rest, h1, keepRow h2 h3 k hT, h3, ih h4⟩
theorem RelVs.apart {w : World} {base : Nat} {X Y : List Nat} {rs : List RelM} {vs : List Value} (h : RelVs w base X rs vs) (hY : ∀ j ∈ Y, j ∈ X ∨ w.heap.size ≤ j) : RelVs w base Y rs vs := by
  induction rs generalizing vs with
  | nil => exact h
  | cons r rs ih =>
    obtain ⟨v, rest, h1, h2, h3, h4⟩ := h
    exact ⟨v, rest, h1, h2, apartRow h2 h3 hY, ih h4⟩
theorem RelVs.snoc {w : World} {base : Nat} {X : List Nat} {rs : List RelM} {vs : List Value} (h : RelVs w base X rs vs) {r : RelM} {v : Value} (h2 : w.ownsRow base 3 1 v r.sizes.length (intsV r.sizes)) (h3 : ∀ j ∈ ownL v, j ∉ X) : RelVs w base X (rs ++ [r]) (vs ++ [.string r.name, v, .int .i64 (r.layer : Int)]) := by
  induction rs generalizing vs with
  | nil =>
    have e : vs = [] := h
    subst e
    exact ⟨v, [], rfl, h2, h3, rfl⟩
  | cons x rs ih =>
    obtain ⟨u, rest, k1, k2, k3, k4⟩ := h
    exact ⟨u, rest ++ [.string r.name, v, .int .i64 (r.layer : Int)], by rw [k1]; simp, k2, k3, ih k4⟩

theorem info144 : (Tryz.prog.info? 144).map (fun i => (i.zero, i.size, i.bytes)) = some (some (.agg #[.string ⟨#[]⟩, .slice none 0 0, .int .i64 0]), 3, 48) := by kernel_rfl

/-- What comes up in a round. -/
def relφ (W : World) (B gL : Nat) (n i : Nat) (v : Value) (r : RelM) : Nat → Value → World → Prop
  | 0, u, _ => u = v
  | 1, u, _ => u = .string r.name
  | 2, u, _ => u = .string r.name
  | 3, u, _ => u = .pointer (some ⟨B, 0, none⟩)
  | 4, u, _ => u = .int .i64 (i : Int)
  | 5, u, w => w.ownsRow W.heap.size 3 1 u r.sizes.length (intsV r.sizes)
  | 6, u, _ => u = .slice (some ⟨gL, 0, none⟩) n n
  | 7, u, _ => u = .int .i64 (i : Int)
  | 8, u, _ => u = .pointer (some ⟨gL, i, none⟩)
  | 9, u, _ => u = .int .i64 (r.layer : Int)
  | 10, u, w => ∃ sv, u = .agg #[.string r.name, sv, .int .i64 (r.layer : Int)] ∧ w.ownsRow W.heap.size 3 1 sv r.sizes.length (intsV r.sizes)
  | 11, u, w => ∃ sv g, u = .slice (some ⟨g, 0, none⟩) 1 1 ∧ CellsAt w g #[.string r.name, sv, .int .i64 (r.layer : Int)] ∧ W.heap.size ≤ g ∧ w.ownsRow W.heap.size 3 1 sv r.sizes.length (intsV r.sizes)
  | _, _, _ => True
theorem relφ_keeps {W : World} {B gL n i : Nat} {v : Value} {r : RelM} (j : Nat) (u : Value) (w w' : World) (h : relφ W B gL n i v r j u w) (k : Keeps [] w w') : relφ W B gL n i v r j u w' := by
  rcases j with _ | _ | _ | _ | _ | _ | _ | _ | _ | _ | _ | _ | j
  all_goals first
    | exact h
    | exact ownsRow_kept h k (by simp)
    | (obtain ⟨sv, h1, h2⟩ := h; exact ⟨sv, h1, ownsRow_kept h2 k (by simp)⟩)
    | (obtain ⟨sv, g, h1, h2, h3, h4⟩ := h; exact ⟨sv, g, h1, h2.keeps k (by simp), h3, ownsRow_kept h4 k (by simp)⟩)

end Go.Proofs.YtgjomknpjigkhaaGreatDoor

namespace Go.Proofs.YtgjomknpjigkhaaGreatDoor
open Go.RowKit

def relsM (m : Mean) (vals : List Nat) : List RelM := m.rels.zipIdx.map fun p => ⟨p.1.1, p.1.2.map m.size, vals.getD p.2 0⟩
theorem relsM_at {m : Mean} {vals : List Nat} {i : Nat} {s : ByteArray} {ds : List Nat} (h : m.rels[i]? = some (s, ds)) : (relsM m vals)[i]? = some ⟨s, ds.map m.size, vals.getD i 0⟩ := by
  simp [relsM, List.getElem?_zipIdx, h]
theorem relsM_len {m : Mean} {vals : List Nat} : (relsM m vals).length = m.rels.length := by simp [relsM]

/-- The rels so far: b4 the list's variable. -/
def RelI (W0 : World) (b4 base : Nat) (rs : List RelM) (pre : List (Nat × ByteArray)) (W : World) : Prop := Keeps [b4] W0 W ∧ ∃ v vs, CellsAt W b4 #[v] ∧ W.ownsRow base 144 3 v pre.length vs ∧ RelVs W base (ownL v) (rs.take pre.length) vs

theorem still_row {b base : Nat} {e : TypeId} {size n : Nat} {v : Value} {xs : List Value} {w w' : World} (h : w.ownsRow base e size v n xs) (hs : Still b w w') : w'.ownsRow base e size v n xs := by
  obtain ⟨e0, ⟨e1, e2⟩ | ⟨g, cap, cur, e1, e2, e3, e4⟩⟩ := h
  · exact ⟨e0, .inl ⟨e1, e2⟩⟩
  · exact ⟨e0, .inr ⟨g, cap, cur, e1, e2, (hs.block _ (Array.getElem?_eq_some_iff.1 e3).1 (.inr ⟨_, _, _, e3⟩)).trans e3, e4⟩⟩
theorem RelVs.still {b : Nat} {w w' : World} {base : Nat} {X : List Nat} {rs : List RelM} {vs : List Value} (h : RelVs w base X rs vs) (hs : Still b w w') : RelVs w' base X rs vs := by
  induction rs generalizing vs with
  | nil => exact h
  | cons r rs ih =>
    obtain ⟨v, rest, h1, h2, h3, h4⟩ := h
    exact ⟨v, rest, h1, still_row h2 hs, h3, ih h4⟩

theorem run_move {a : Act} {o : Oper} {w : World} {x : Operand} {v : Value} (hop : o.op = .move x) (hx : a.eval x = v) : (execOp a.eval o).run Tryz.prog w = .ok (.value v) w := by
  simp [execOp, hop, hx]
theorem run_append {a : Act} {o : Oper} {w : World} {x y : Operand} {t base e size bytes n m c : Nat} {i : TypeInfo} {z v : Value} {xs news : List Value} {ad : Addr} (hop : o.op = .call { callee := .builtin .append, args := #[x, y], argTypes := #[t, t] }) (hx : a.eval x = v) (hy : a.eval y = .slice (some ad) m c) (ht : Tryz.prog.underlying t = some (.slice e)) (hi : Tryz.prog.info? e = some i) (hz : i.zero = some z)
    (hsize : i.size = size) (hby : i.bytes = bytes) (hzs : z.cells.size = size) (hsz : 0 < size) (hown : w.ownsRow base e size v n xs) (hl : news.length = m * size) (hnews : ∀ j u, news[j]? = some u → w.cell? (ad.add j) = some u) (h1 : ∀ u ∈ news, u.oneCell' = true)
    (h63 : n + m ≤ maxLen) (hbytes : (n + m) * bytes ≤ 140737488355328) (hbase : base ≤ w.heap.size) :
    ∃ v' w', (execOp a.eval o).run Tryz.prog w = .ok (.value v') w' ∧ w'.ownsRow base e size v' (n + m) (xs ++ news) ∧ w.grownBy w' v.ownBlock ∧ (v'.ownBlock = v.ownBlock ∨ v'.ownBlock = some w.heap.size) := by
  obtain ⟨v', w', hr, h2, h3, _, h5⟩ := run_append_own_at (P := Tryz.prog) w base t o.type e i z size bytes ht hi hz hsize hby hzs hsz v n xs hown ad m c news hl hnews h1 h63 hbytes hbase
  refine ⟨v', w', ?_, h2, h3, h5⟩
  simp only [execOp, hop, resolve, invoke, builtin, Sem.run_bind, Sem.run_pure, Result.andThen_ok, List.map_toArray, List.map_cons, List.map_nil, hx, hy, hr]

theorem ld123 {o : Oper} {a : Act} {u : World} {x : Operand} {b k : Nat} {v : Value} (hop : o.op = .load 123 x) (hx : a.eval x = .pointer (some ⟨b, k, none⟩)) (c : u.cell? ⟨b, k, none⟩ = some v) : (execOp a.eval o).run Tryz.prog u = .ok (.value v) u := by
  simp only [execOp, hop, hx]
  go_simp
theorem ld201 {o : Oper} {a : Act} {u : World} {x : Operand} {b k : Nat} {v : Value} (hop : o.op = .load 201 x) (hx : a.eval x = .pointer (some ⟨b, k, none⟩)) (c : u.cell? ⟨b, k, none⟩ = some v) : (execOp a.eval o).run Tryz.prog u = .ok (.value v) u := by
  simp only [execOp, hop, hx]
  go_simp
theorem ld40 {o : Oper} {a : Act} {u : World} {x : Operand} {b k : Nat} {v : Value} (hop : o.op = .load 40 x) (hx : a.eval x = .pointer (some ⟨b, k, none⟩)) (c : u.cell? ⟨b, k, none⟩ = some v) : (execOp a.eval o).run Tryz.prog u = .ok (.value v) u := by
  simp only [execOp, hop, hx]
  go_simp
theorem ld3 {o : Oper} {a : Act} {u : World} {x : Operand} {b k : Nat} {v : Value} (hop : o.op = .load 3 x) (hx : a.eval x = .pointer (some ⟨b, k, none⟩)) (c : u.cell? ⟨b, k, none⟩ = some v) : (execOp a.eval o).run Tryz.prog u = .ok (.value v) u := by
  simp only [execOp, hop, hx]
  go_simp
theorem ix40 {o : Oper} {a : Act} {u : World} {x y : Operand} {b i n c : Nat} (hop : o.op = .indexAddr 40 x y) (hx : a.eval x = .slice (some ⟨b, 0, none⟩) n c) (hy : a.eval y = .int .i64 (i : Int)) (hi : (i : Int) < n) : (execOp a.eval o).run Tryz.prog u = .ok (.value (.pointer (some ⟨b, i, none⟩))) u := by
  simp only [execOp, hop, hx, hy]
  go_simp
theorem bd144 {o : Oper} {a : Act} {u : World} {x y z : Operand} {s : ByteArray} {sa : Option Addr} {sn sc : Nat} {L : Int} (hop : o.op = .build 144 #[(0, x), (1, y), (2, z)]) (hx : a.eval x = .string s) (hy : a.eval y = .slice sa sn sc) (hz : a.eval z = .int .i64 L) : (execOp a.eval o).run Tryz.prog u = .ok (.value (.agg #[.string s, .slice sa sn sc, .int .i64 L])) u := by
  simp only [execOp, hop, List.map_toArray, List.map_cons, List.map_nil, hx, hy, hz]
  go_simp
theorem bs123 {o : Oper} {a : Act} {u : World} {x : Operand} {s : ByteArray} {sa : Option Addr} {sn sc : Nat} {L : Int} (hop : o.op = .buildSlice 123 1 #[(0, x)]) (hx : a.eval x = .agg #[.string s, .slice sa sn sc, .int .i64 L]) : (execOp a.eval o).run Tryz.prog u = .ok (.value (.slice (some ⟨u.heap.size, 0, none⟩) 1 1)) (u.alloc (.cells #[.string s, .slice sa sn sc, .int .i64 L] 144)) := by
  simp only [execOp, hop, List.map_toArray, List.map_cons, List.map_nil, hx]
  go_simp
theorem st123 {o : Oper} {a : Act} {u : World} {x y : Operand} {b : Nat} {v : Value} {sa : Option Addr} {sn sc : Nat} (hop : o.op = .store 123 x y) (hx : a.eval x = .pointer (some ⟨b, 0, none⟩)) (hy : a.eval y = .slice sa sn sc) (c : u.cell? ⟨b, 0, none⟩ = some v) (f : u.frozen? ⟨b, 0, none⟩ = false) : (execOp a.eval o).run Tryz.prog u = .ok .skip (u.setCell ⟨b, 0, none⟩ (.slice sa sn sc)) := by
  simp only [execOp, hop, hx, hy]
  go_simp

theorem RelVs.noCells {w w' : World} {base base' d : Nat} {X : List Nat} {rs : List RelM} {vs : List Value} (h : RelVs w base X rs vs) (k : Keeps [d] w w') (hd : ∀ cs t f, w.heap[d]? ≠ some (.cells cs t f)) (hb : base' ≤ base) : RelVs w' base' X rs vs := by
  induction rs generalizing vs with
  | nil => exact h
  | cons r rs ih =>
    obtain ⟨v, rest, h1, h2, h3, h4⟩ := h
    refine ⟨v, rest, h1, ownE_mono (ownsRow_kept h2 k (fun j hj q => ?_)) hb, h3, ih h4⟩
    have e : j = d := (by simpa using q)
    obtain ⟨_, cs, t, b2⟩ := ownE_base h2 j hj
    rw [e] at b2
    exact hd _ _ _ b2

end Go.Proofs.YtgjomknpjigkhaaGreatDoor

namespace Go.Proofs.YtgjomknpjigkhaaGreatDoor
open Go.RowKit

/-- Behind the append: only the variable is to be written. -/
def RelDone (W5 W : World) (b4 : Nat) (rs : List RelM) (pre : List (Nat × ByteArray)) (nv : Value) (w' : World) : Prop := ∃ v vs, CellsAt w' b4 #[v] ∧ w'.ownsRow W5.heap.size 144 3 nv (pre.length + 1) vs ∧ RelVs w' W5.heap.size (ownL nv) (rs.take (pre.length + 1)) vs ∧ Keeps [b4] W5 w' ∧ Grows W5.heap.size [b4] W w' ∧ (∀ j ∈ ownL nv, j ≠ b4)

set_option maxRecDepth 100000 in
set_option maxHeartbeats 8000000 in
theorem rels_in (n : Nat) {w : World} {mb B : Nat} {m : Mean} (hm : MeanAt w mb B m) (hok : MeanOk m) (hnc : ∀ c ∈ m.clauses, circleC m.rels.length (edgesM m.clauses) c = false) (hnm : ∀ r ∈ m.rels, r.1.size ≤ 1000000) :
    CallsIn Fence.wide n Tryz.prog 138 #[.pointer (some ⟨B, 0, none⟩)] w fun e w' => (∃ vals v vs, LayI m.clauses m.rels.length vals ∧ StableG layG m.clauses vals ∧ e = .returned v ∧ w'.ownsRow w.heap.size 144 3 v m.rels.length vs ∧ RelVs w' w.heap.size (ownL v) (relsM m vals) vs) ∧ Keeps [] w w' := by
  obtain ⟨i0, hi0, hz0, hz1, hz2⟩ := info_parts info144
  have hBl := mean_lt hm
  have hn6 := hok.rels
  have k1 := Keeps.alloc [] w (.cells #[.pointer (some ⟨B, 0, none⟩)] 201)
  have a1 := CellsAt.new w #[.pointer (some ⟨B, 0, none⟩)] 201
  have hlay := hide (layers_calls (hm.keeps k1 (by simp)) hok hnc)
  rw [sizeE_alloc] at hlay
  obtain ⟨tD, mD, sz, tN, mN, co, cl, ln, cvs, kvs, hV⟩ := id hm
  obtain ⟨aN, cN, hN⟩ := ownE_len hV.names.row
  rw [List.length_map] at hN
  subst hN
  have Hm := hide hm
  have Hok := hide hok
  have HV := hide hV
  clear hm hok hnc hV
  refine callsIn_of_wp_marks Tryz.func138 rfl trivial ?_ rfl
  simp only [Tryz.ntmps138, List.size_toArray, List.length_cons, List.length_nil, Nat.reduceAdd, Nat.reduceSub, Array.replicate_succ, Array.replicate_zero, List.push_toArray, List.append_toArray, List.nil_append, List.cons_append]
  gi_wp2_with fail
  refine ⟨trivial, fun h => (nomatch h), ?_⟩
  refine (callsIn_wide.2 hlay.out).mono ?_
  rintro e w1 ⟨⟨vals, rfl, hL, hLI, hLs⟩, k2⟩
  have z1 : w.heap.size + 2 ≤ w1.heap.size := hL.lt
  have a1' := a1.keeps k2 (by simp)
  have kw1 := k1.trans k2
  have k3 := Keeps.alloc [] w1 (.cells #[.slice (some ⟨w.heap.size + 1, 0, none⟩) m.rels.length m.rels.length] 40)
  have a3 := CellsAt.new w1 #[.slice (some ⟨w.heap.size + 1, 0, none⟩) m.rels.length m.rels.length] 40
  have k4 := Keeps.alloc [] (w1.alloc (.cells #[.slice (some ⟨w.heap.size + 1, 0, none⟩) m.rels.length m.rels.length] 40)) (.cells #[.slice none 0 0] 123)
  have a4 := CellsAt.new (w1.alloc (.cells #[.slice (some ⟨w.heap.size + 1, 0, none⟩) m.rels.length m.rels.length] 40)) #[.slice none 0 0] 123
  rw [sizeE_alloc] at a4
  have k34 := k3.trans k4
  have b1 := a1'.keeps k34 (by simp)
  have bL := hL.keeps k34 (by simp)
  have b3 := a3.keeps k4 (by simp)
  have kw4 := kw1.trans k34
  have c1 := a1'.cell 0
  simp at c1
  have zz : ((w1.alloc (.cells #[.slice (some ⟨w.heap.size + 1, 0, none⟩) m.rels.length m.rels.length] 40)).alloc (.cells #[.slice none 0 0] 123)).heap.size = w1.heap.size + 2 := by rw [sizeE_alloc, sizeE_alloc]
  have cN3 := (HV.out.cells.keeps kw4 (by simp)).cell 3
  have hB3 := all_calls (w := (w1.alloc (.cells #[.slice (some ⟨w.heap.size + 1, 0, none⟩) m.rels.length m.rels.length] 40)).alloc (.cells #[.slice none 0 0] 123)) (B := B) cN3
  have HB3 := hide hB3
  clear hB3 cN3 k3 k4 a3 k34 a1 a1' hL hlay
  have hw1l : w.heap.size < w1.heap.size := by omega
  gi_wp2_with fail
  generalize (w1.alloc (.cells #[.slice (some ⟨w.heap.size + 1, 0, none⟩) m.rels.length m.rels.length] 40)).alloc (.cells #[.slice none 0 0] 123) = W4 at *
  refine ⟨trivial, fun h => (nomatch h), ?_⟩
  refine (callsIn_wide.2 HB3.out).mono ?_
  rintro e w5 ⟨rfl, rfl⟩
  have k5 := Keeps.alloc [] W4 (.cells #[.slice aN m.rels.length cN] 35)
  have hp5 := CellsAt.new W4 #[.slice aN m.rels.length cN] 35
  have d1 := b1.keeps k5 (by simp)
  have dL := bL.keeps k5 (by simp)
  have d3 := b3.keeps k5 (by simp)
  have d4 := a4.keeps k5 (by simp)
  have kw5 := kw4.trans k5
  have z5 : (W4.alloc (.cells #[.slice aN m.rels.length cN] 35)).heap.size = w1.heap.size + 3 := by rw [sizeE_alloc, zz]
  have hit := all_iter (w := W4.alloc (.cells #[.slice aN m.rels.length cN] 35)) (p := W4.heap.size) (g := (aN.map (·.block)).getD 0) (c := cN) (ns := m.rels.map Prod.fst) (a := aN) (by rw [List.length_map]; exact hp5) (fun s hs => by
      have hpos : 0 < (m.rels.map Prod.fst).length := List.length_pos_of_mem hs
      have hrow := HV.out.names.row
      have hle : (m.rels.map Prod.fst).length = m.rels.length := by rw [List.length_map]
      rw [hle] at hrow hpos
      obtain ⟨g, hg⟩ := ownE_pos2 hrow hpos
      subst hg
      exact ⟨rfl, Nat.lt_of_lt_of_le (ownE_lt hrow g rfl).2 kw5.size⟩) (fun {W} hW i s hs => by
      have hrow := HV.out.names.row
      have hle : (m.rels.map Prod.fst).length = m.rels.length := by rw [List.length_map]
      rw [hle] at hrow
      have hpos : 0 < m.rels.length := by
        rcases Nat.lt_or_ge i (m.rels.map Prod.fst).length with q | q
        · rw [hle] at q; omega
        · rw [List.getElem?_eq_none q] at hs; cases hs
      obtain ⟨g, hg⟩ := ownE_pos2 hrow hpos
      subst hg
      have h5 := ownsRow_kept hrow kw5 (by simp)
      have hc := ownE_cells h5 (j := i) (v := .string s) (by simp [eS]; simpa using hs)
      have hb : W.heap[g]? = (W4.alloc (.cells #[.slice (some ⟨g, 0, none⟩) m.rels.length cN] 35)).heap[g]? := hW g rfl
      obtain ⟨_, ⟨h1, _⟩ | ⟨g', cap, cur, hv, hb', hg, hn, hc', hs', htk⟩⟩ := h5
      · cases h1
      · cases hv
        have hcc : CellsAt W g cur := ⟨_, by rw [hb]; exact hg⟩
        have hcc' : CellsAt (W4.alloc (.cells #[.slice (some ⟨g, 0, none⟩) m.rels.length cN] 35)) g cur := ⟨_, hg⟩
        rw [hcc'.cell] at hc
        show W.cell? ⟨g, i, none⟩ = _
        rw [hcc.cell]
        exact hc) (by rw [List.length_map]; omega) [w1.heap.size + 1] (fun t ht => by
      have e : t = w1.heap.size + 1 := (by simpa using ht)
      refine ⟨by rw [z5]; omega, by rw [e, zz]; omega, fun hne => ?_⟩
      have hrow := HV.out.names.row
      have hle : (m.rels.map Prod.fst).length = m.rels.length := by rw [List.length_map]
      have hpos : 0 < (m.rels.map Prod.fst).length := List.length_pos_iff.2 hne
      rw [hle] at hrow hpos
      obtain ⟨g, hg⟩ := ownE_pos2 hrow hpos
      subst hg
      have := (ownE_lt hrow g rfl).2
      show t ≠ g
      omega)
  have h0 : RelI (W4.alloc (.cells #[.slice aN m.rels.length cN] 35)) (w1.heap.size + 1) (W4.alloc (.cells #[.slice aN m.rels.length cN] 35)).heap.size (relsM m vals) [] (W4.alloc (.cells #[.slice aN m.rels.length cN] 35)) := ⟨Keeps.refl _ _, .slice none 0 0, [], d4, World.ownsRow_nil .., rfl⟩
  have Hd1 := hide d1
  have HdL := hide dL
  have Hd3 := hide d3
  have Hkw := hide kw5
  clear d1 dL d3 d4 kw5 hp5 k5 a4 b1 bL b3 kw4 kw1 HB3
  generalize hW5 : W4.alloc (.cells #[.slice aN m.rels.length cN] 35) = W5 at *
  rw [zz] at hit
  gi_wp2_with fail
  refine range_lawG (gf := 222) (lb := #[.pointer (some ⟨w1.heap.size + 2, 0, none⟩)]) rfl (enters_of Tryz.func222 (by kernel_rfl) rfl) (T := [w1.heap.size + 1]) (by simp; omega) hit (fun _ => rfl)
    (RelI W5 (w1.heap.size + 1) W5.heap.size (relsM m vals))
    (fun pre W1 W2 hI hs => by
      obtain ⟨kk, v, vs, h1, h2, h3⟩ := hI
      have hlt := h1.lt
      refine ⟨⟨hs.os.trans kk.os, hs.tape.trans kk.tape, hs.output.trans kk.output, Nat.le_trans kk.size hs.size, fun i hi hn => (hs.block i (Nat.lt_of_lt_of_le hi kk.size) (.inl hi)).trans (kk.block i hi hn)⟩, v, vs, h1.of_heap (hs.block _ hlt (.inl (by omega))), still_row h2 hs, h3.still hs⟩) h0
    (fun x a' _ => a' = { tmps := #[.pointer (some ⟨B, 0, none⟩), .pointer (some ⟨w.heap.size, 0, none⟩), .slice none 0 0, .pointer (some ⟨w1.heap.size, 0, none⟩), .pointer (some ⟨w1.heap.size + 1, 0, none⟩), .int .i64 (x.1 : Int), .string x.2, .pointer (some ⟨B, 0, none⟩), .slice (some ⟨w.heap.size + 1, 0, none⟩) m.rels.length m.rels.length, .pointer (some ⟨B, 0, none⟩), .pointer (some ⟨B, 0, none⟩), .pointer (some ⟨B, 3, none⟩), .func (.func 222) #[] #[.pointer (some ⟨w1.heap.size + 2, 0, none⟩)], .int .i64 (x.1 : Int), .string x.2, undef, undef, undef, undef, undef, undef, undef, undef, undef, undef, undef, undef, undef, undef], defers := [] })
    (fun x a' W1 W2 h _ => h) ?assign ?body ?done
  case assign =>
    intro l pre x W K hlt hi hc hK
    simp only [eP, List.zip_toArray, List.zip_cons_cons, List.zip_nil_right, List.foldl_toArray', List.size_toArray, List.length_cons, List.length_nil, List.foldl_cons, List.foldl_nil, List.setIfInBounds_toArray, List.set_cons_succ, List.set_cons_zero]
    gi_wp2
    exact hK _ _ rfl (Keeps.refl _ _)
  case body =>
    rintro l pre ⟨i, s⟩ a' W hlt ⟨kW, v, vs, hc4, hown, hrv⟩ ⟨hi, hs⟩ rfl
    have hfol : Tryz.prog.follows .mixedOrders = true := by kernel_rfl
    have hi' : i = pre.length := hi
    subst hi'
    have hrs : ∃ ds, m.rels[pre.length]? = some (s, ds) := by
      rw [List.getElem?_map] at hs
      cases hq : m.rels[pre.length]? with
      | none => rw [hq] at hs; cases hs
      | some q => rw [hq] at hs; cases hs; exact ⟨q.2, rfl⟩
    obtain ⟨ds, hrs⟩ := hrs
    have hrm := relsM_at (vals := vals) hrs
    have hprl : pre.length < m.rels.length := by
      rcases Nat.lt_or_ge pre.length m.rels.length with q | q
      · exact q
      · rw [List.getElem?_eq_none q] at hrs; cases hrs
    have hnl : s.size ≤ 1000000 := hnm _ (List.mem_of_getElem? hrs)
    have kwW : Keeps [] w W := Hkw.out.trans_new kW (fun j hj => .inr (by have e : j = w1.heap.size + 1 := (by simpa using hj); omega))
    have e1 := Hd1.out.keeps kW (by simp; omega)
    have eL := HdL.out.keeps kW (by simp; omega)
    have e3 := Hd3.out.keeps kW (by simp)
    have Hsz := hide (fun (W' : World) (k : Keeps [] W W') => sizesOf_calls (Hm.out.keeps (kwW.trans k) (by simp)) Hok.out hrs)
    have hvl : vals.length = m.rels.length := hLI.1
    generalize hRM : (⟨s, ds.map m.size, vals.getD pre.length 0⟩ : RelM) = r at *
    have hrn : r.name = s := by rw [← hRM]
    have hrz : r.sizes = ds.map m.size := by rw [← hRM]
    have hrl : r.layer = vals.getD pre.length 0 := by rw [← hRM]
    have hzW := kW.size
    have Hown := hide hown
    have Hrv := hide hrv
    clear hit hown hrv h0
    gi_wp2_with fail
    refine wpIn_region_flow (S := fun listed a w' => Flow 15 12 (relφ W B (w.heap.size + 1) m.rels.length pre.length v r) { tmps := #[.pointer (some ⟨B, 0, none⟩), .pointer (some ⟨w.heap.size, 0, none⟩), .slice none 0 0, .pointer (some ⟨w1.heap.size, 0, none⟩), .pointer (some ⟨w1.heap.size + 1, 0, none⟩), .int .i64 (pre.length : Int), .string s, .pointer (some ⟨B, 0, none⟩), .slice (some ⟨w.heap.size + 1, 0, none⟩) m.rels.length m.rels.length, .pointer (some ⟨B, 0, none⟩), .pointer (some ⟨B, 0, none⟩), .pointer (some ⟨B, 3, none⟩), .func (.func 222) #[] #[.pointer (some ⟨w1.heap.size + 2, 0, none⟩)], .int .i64 (pre.length : Int), .string s, undef, undef, undef, undef, undef, undef, undef, undef, undef, undef, undef, undef, undef, undef], defers := [] } W listed a w'
        ∨ (listed.getD 12 false = true ∧ listed.getD 13 false = false ∧ a.eval (.tmp 4) = .pointer (some ⟨w1.heap.size + 1, 0, none⟩) ∧ ∃ nv, a.eval (.tmp 27) = nv ∧ RelDone W5 W (w1.heap.size + 1) (relsM m vals) pre nv w')
        ∨ (listed.getD 13 false = true ∧ RelI W5 (w1.heap.size + 1) W5.heap.size (relsM m vals) (pre ++ [(pre.length, s)]) w' ∧ Grows W5.heap.size [w1.heap.size + 1] W w')) hfol (by kernel_rfl) ?_ ?_ ?_
    · exact .inl ⟨rfl, fun _ _ => rfl, rfl, Keeps.drew [] W, fun j hj hl => (by rw [replicate_no] at hl; cases hl), rfl, replicate_no _ _, replicate_no _ _⟩
    · intro listed a u i hS hcl hlz hi14 hin hdep
      rcases hS with hF | ⟨h12, h13, hp4, nv, hnv, hD⟩ | ⟨h13, _⟩
      · have put := fun {j : Nat} {u' : World} {v' : Value} (k : Keeps [] u u') (hj : j < 12) (hv : relφ W B (w.heap.size + 1) m.rels.length pre.length v r j v' u') => hF.put (i := j) (relφ_keeps (W := W) (B := B) (gL := w.heap.size + 1) (n := m.rels.length) (i := pre.length) (v := v) (r := r)) k hj (show 27 ≤ 29 by omega) hv
        have keep := hF.keep
        have t1 : a.eval (.tmp 1) = .pointer (some ⟨w.heap.size, 0, none⟩) := hF.low 1 (by omega)
        have t3 : a.eval (.tmp 3) = .pointer (some ⟨w1.heap.size, 0, none⟩) := hF.low 3 (by omega)
        have t4 : a.eval (.tmp 4) = .pointer (some ⟨w1.heap.size + 1, 0, none⟩) := hF.low 4 (by omega)
        have t5 : a.eval (.tmp 5) = .int .i64 (pre.length : Int) := hF.low 5 (by omega)
        have t6 : a.eval (.tmp 6) = .string s := hF.low 6 (by omega)
        have got := fun (j : Nat) (hj : j < 12) (hl : listed.getD j false = true) => hF.got j hj hl
        match i, hi14, hdep, hin with
        | 0, _, hdep, _ =>
          have c := (hc4.keeps keep (by simp)).cell 0
          exact opIn_val rfl rfl (by intro c h; cases h) (ld123 rfl t4 c) (.inl (put (Keeps.refl _ _) (by omega) rfl))
        | 1, _, hdep, _ => exact opIn_val rfl rfl (by intro c h; cases h) (run_move rfl t6) (.inl (put (Keeps.refl _ _) (by omega) (by rw [← hrn]; rfl)))
        | 2, _, hdep, _ =>
          have g1 : a.eval (.tmp 16) = .string r.name := got 1 (by omega) (hdep _ rfl ⟨1, .data⟩ (by simp) rfl)
          refine opIn_call rfl rfl (by intro c h; cases h) (run_call 203 _ _ rfl _ Tryz.func203 (by kernel_rfl) (by kernel_rfl) [.string r.name] (by simp [g1])) (clone203_calls r.name (by rw [hrn]; exact hnl)) ?_
          rintro e u' ⟨rfl, k⟩
          exact ⟨_, rfl, .inl (put k (by omega) rfl)⟩
        | 3, _, hdep, _ =>
          have c := (e1.keeps keep (by simp)).cell 0
          exact opIn_val rfl rfl (by intro c h; cases h) (ld201 rfl t1 c) (.inl (put (Keeps.refl _ _) (by omega) rfl))
        | 4, _, hdep, _ => exact opIn_val rfl rfl (by intro c h; cases h) (run_move rfl t5) (.inl (put (Keeps.refl _ _) (by omega) rfl))
        | 5, _, hdep, _ =>
          have g1 : a.eval (.tmp 18) = .pointer (some ⟨B, 0, none⟩) := got 3 (by omega) (hdep _ rfl ⟨3, .data⟩ (by simp) rfl)
          have g2 : a.eval (.tmp 19) = .int .i64 (pre.length : Int) := got 4 (by omega) (hdep _ rfl ⟨4, .data⟩ (by simp) rfl)
          refine opIn_call rfl rfl (by intro c h; cases h) (run_call 204 _ _ rfl _ Tryz.func204 (by kernel_rfl) (by kernel_rfl) [.pointer (some ⟨B, 0, none⟩), .int .i64 (pre.length : Int)] (by simp [g1, g2])) (Hsz.out u keep) ?_
          rintro e u' ⟨⟨sv, rfl, hsv⟩, k⟩
          refine ⟨_, rfl, .inl (put k (by omega) ?_)⟩
          show u'.ownsRow W.heap.size 3 1 sv r.sizes.length (intsV r.sizes)
          rw [hrz, List.length_map]
          exact ownE_mono hsv keep.size
        | 6, _, hdep, _ =>
          have c := (e3.keeps keep (by simp)).cell 0
          exact opIn_val rfl rfl (by intro c h; cases h) (ld40 rfl t3 c) (.inl (put (Keeps.refl _ _) (by omega) rfl))
        | 7, _, hdep, _ => exact opIn_val rfl rfl (by intro c h; cases h) (run_move rfl t5) (.inl (put (Keeps.refl _ _) (by omega) rfl))
        | 8, _, hdep, _ =>
          have g1 : a.eval (.tmp 21) = .slice (some ⟨w.heap.size + 1, 0, none⟩) m.rels.length m.rels.length := got 6 (by omega) (hdep _ rfl ⟨6, .data⟩ (by simp) rfl)
          have g2 : a.eval (.tmp 22) = .int .i64 (pre.length : Int) := got 7 (by omega) (hdep _ rfl ⟨7, .data⟩ (by simp) rfl)
          have hpI : (pre.length : Int) < m.rels.length := by omega
          exact opIn_val rfl rfl (by intro c h; cases h) (ix40 rfl g1 g2 hpI) (.inl (put (Keeps.refl _ _) (by omega) rfl))
        | 9, _, hdep, _ =>
          have g1 : a.eval (.tmp 23) = .pointer (some ⟨w.heap.size + 1, pre.length, none⟩) := got 8 (by omega) (hdep _ rfl ⟨8, .data⟩ (by simp) rfl)
          have c : u.cell? ⟨w.heap.size + 1, pre.length, none⟩ = some (.int .i64 (r.layer : Int)) := by rw [(eL.keeps keep (by simp)).cell, hrl]; exact natC_at (by omega)
          exact opIn_val rfl rfl (by intro c h; cases h) (ld3 rfl g1 c) (.inl (put (Keeps.refl _ _) (by omega) rfl))
        | 10, _, hdep, _ =>
          have g1 : a.eval (.tmp 17) = .string r.name := got 2 (by omega) (hdep _ rfl ⟨2, .data⟩ (by simp) rfl)
          have g2 : u.ownsRow W.heap.size 3 1 (a.eval (.tmp 20)) r.sizes.length (intsV r.sizes) := got 5 (by omega) (hdep _ rfl ⟨5, .data⟩ (by simp) rfl)
          have g3 : a.eval (.tmp 24) = .int .i64 (r.layer : Int) := got 9 (by omega) (hdep _ rfl ⟨9, .data⟩ (by simp) rfl)
          obtain ⟨sa, sc, hsv⟩ := ownE_len g2
          rw [hsv] at g2
          exact opIn_val rfl rfl (by intro c h; cases h) (bd144 rfl g1 hsv g3) (.inl (put (Keeps.refl _ _) (by omega) ⟨_, rfl, g2⟩))
        | 11, _, hdep, _ =>
          obtain ⟨sv, g1, g2⟩ : ∃ sv, a.eval (.tmp 25) = .agg #[.string r.name, sv, .int .i64 (r.layer : Int)] ∧ u.ownsRow W.heap.size 3 1 sv r.sizes.length (intsV r.sizes) := got 10 (by omega) (hdep _ rfl ⟨10, .data⟩ (by simp) rfl)
          obtain ⟨sa, sc, hsv⟩ := ownE_len g2
          subst hsv
          have kA := Keeps.alloc [] u (.cells #[.string r.name, .slice sa r.sizes.length sc, .int .i64 (r.layer : Int)] 144)
          exact opIn_val rfl rfl (by intro c h; cases h) (bs123 rfl g1) (.inl (put kA (by omega) ⟨_, u.heap.size, rfl, CellsAt.new u _ 144, keep.size, ownsRow_kept g2 kA (by simp)⟩))
        | 12, _, hdep, _ =>
          have g0 : a.eval (.tmp 15) = v := got 0 (by omega) (hdep _ rfl ⟨0, .data⟩ (by simp) rfl)
          obtain ⟨sv, g, g1, g2, g3, g4⟩ : ∃ sv g, a.eval (.tmp 26) = .slice (some ⟨g, 0, none⟩) 1 1 ∧ CellsAt u g #[.string r.name, sv, .int .i64 (r.layer : Int)] ∧ W.heap.size ≤ g ∧ u.ownsRow W.heap.size 3 1 sv r.sizes.length (intsV r.sizes) := got 11 (by omega) (hdep _ rfl ⟨11, .data⟩ (by simp) rfl)
          have hzu := keep.size
          obtain ⟨nv, u', hrun, hown', hgrow, hat⟩ := run_append (o := ⟨some 27, .call { callee := .builtin .append, args := #[.tmp 15, .tmp 26], argTypes := #[123, 123] }, 123, "meaning.go:122", #[⟨0, .data⟩, ⟨11, .data⟩, ⟨5, .chain⟩], none⟩) (a := a) (w := u) (base := W5.heap.size) (n := pre.length) (news := [.string r.name, sv, .int .i64 (r.layer : Int)]) rfl g0 g1 Tryz.underlying123 hi0 hz0 hz1 hz2 rfl (by decide) (ownsRow_kept Hown.out keep (by simp)) (by simp) (fun j x hx => by
            rw [Addr.add_lit, Nat.zero_add, g2.cell]
            match j with
            | 0 => simpa using hx
            | 1 => simpa using hx
            | 2 => simpa using hx
            | j + 3 => simp at hx) (by
            obtain ⟨sa, sc, hsv⟩ := ownE_len g4
            subst hsv
            simp [Value.oneCell']) (by unfold maxLen; omega) (by omega) (by omega)
          refine opIn_val rfl rfl (by intro c h; cases h) hrun (.inr (.inl ⟨?_, ?_, ?_, nv, ?_, ?_⟩))
          · rw [Array.getD_eq_getD_getElem?, Array.getElem?_setIfInBounds, if_pos rfl, if_pos (by rw [hF.room]; omega)]; rfl
          · rw [listed_keep (by omega)]; exact hF.more.2
          · exact (put_eval (d := 27) (j := 4) (by omega)).trans t4
          · exact put_eval_same (by rw [hF.size]; show 27 < 29; omega)
          · have hvl2 : ∀ j ∈ ownL v, W5.heap.size ≤ j ∧ j < W.heap.size := fun j hj => ownL_at Hown.out j hj
            have hsvl : ∀ j ∈ ownL sv, W.heap.size ≤ j ∧ j < u.heap.size := fun j hj => ownL_at g4 j hj
            have k6 := grownBy_keeps' hgrow (ownL v) (fun r e => .inl (by simp [ownL, e]))
            have htk : (relsM m vals).take (pre.length + 1) = (relsM m vals).take pre.length ++ [r] := by rw [List.take_add_one, hrm]; rfl
            have hr1 := (Hrv.out.keeps keep (by simp)).snoc (ownE_mono g4 hzW) (fun j hj q => by have := hvl2 j q; have := hsvl j hj; omega)
            have hY : ∀ j ∈ ownL nv ++ ownL v, j ∈ ownL v ∨ u.heap.size ≤ j := fun j hj => by
              rcases List.mem_append.1 hj with q | q
              · rcases hat with p | p
                · left; simp only [ownL] at q ⊢; rw [← p]; exact q
                · right; simp only [ownL] at q; rw [p] at q; simp at q; omega
              · exact .inl q
            refine ⟨v, vs ++ [.string r.name, sv, .int .i64 (r.layer : Int)], (hc4.keeps keep (by simp)).keeps k6 (fun q => by have := (hvl2 _ q).1; omega), hown', ?_, (kW.trans (keep.mono (by simp))).trans_new k6 (fun j hj => .inr (hvl2 j hj).1), (keep.grows (by simp)).trans (k6.growsRow (fun j hj => .inr ?_)), fun j hj => ?_⟩
            · rw [htk]
              exact ((hr1.apart hY).keeps k6 (fun j hj => .inl (List.mem_append_right _ hj))).apart (fun j hj => .inl (List.mem_append_left _ hj))
            · obtain ⟨b1, cs, t, b2⟩ := ownE_base (ownsRow_kept Hown.out keep (by simp)) j (by simpa [ownL] using hj)
              exact ⟨b1, cs, t, _, b2⟩
            · have := (ownL_at hown' j hj).1; omega
        | 13, _, hdep, _ =>
          have := hdep _ rfl ⟨12, .data⟩ (by simp) rfl
          rw [hF.more.1] at this
          cases this
      · have l0 := hcl 12 h12 _ rfl ⟨0, .data⟩ (by simp) rfl
        have l11 := hcl 12 h12 _ rfl ⟨11, .data⟩ (by simp) rfl
        have l10 := hcl 11 l11 _ rfl ⟨10, .data⟩ (by simp) rfl
        have l2 := hcl 10 l10 _ rfl ⟨2, .data⟩ (by simp) rfl
        have l5 := hcl 10 l10 _ rfl ⟨5, .data⟩ (by simp) rfl
        have l9 := hcl 10 l10 _ rfl ⟨9, .data⟩ (by simp) rfl
        have l8 := hcl 9 l9 _ rfl ⟨8, .data⟩ (by simp) rfl
        have l6 := hcl 8 l8 _ rfl ⟨6, .data⟩ (by simp) rfl
        have l7 := hcl 8 l8 _ rfl ⟨7, .data⟩ (by simp) rfl
        have l3 := hcl 5 l5 _ rfl ⟨3, .data⟩ (by simp) rfl
        have l4 := hcl 5 l5 _ rfl ⟨4, .data⟩ (by simp) rfl
        have l1 := hcl 2 l2 _ rfl ⟨1, .data⟩ (by simp) rfl
        match i, hi14, hin with
        | 0, _, q => rw [l0] at q; cases q
        | 1, _, q => rw [l1] at q; cases q
        | 2, _, q => rw [l2] at q; cases q
        | 3, _, q => rw [l3] at q; cases q
        | 4, _, q => rw [l4] at q; cases q
        | 5, _, q => rw [l5] at q; cases q
        | 6, _, q => rw [l6] at q; cases q
        | 7, _, q => rw [l7] at q; cases q
        | 8, _, q => rw [l8] at q; cases q
        | 9, _, q => rw [l9] at q; cases q
        | 10, _, q => rw [l10] at q; cases q
        | 11, _, q => rw [l11] at q; cases q
        | 12, _, q => rw [h12] at q; cases q
        | 13, _, _ =>
          obtain ⟨v0, vs0, hb4, hown0, hrv0, k50, hg0, hne0⟩ := hD
          obtain ⟨na, nc, hnv2⟩ := ownE_len hown0
          subst hnv2
          have c := hb4.cell 0
          have f := hb4.frozen 0
          have ks := Keeps.setCell u ⟨w1.heap.size + 1, 0, none⟩ (.slice na (pre.length + 1) nc)
          refine opIn_skip rfl rfl (by intro c h; cases h) (st123 rfl hp4 hnv c f) (.inr (.inr ⟨?_, ⟨k50.trans ks, .slice na (pre.length + 1) nc, vs0, hb4.setCell 0 _, ?_, ?_⟩, hg0.trans (ks.grows (by simp))⟩))
          · rw [Array.getD_eq_getD_getElem?, Array.getElem?_setIfInBounds, if_pos rfl, if_pos (by rw [hlz]; show 13 < 14; omega)]; rfl
          · rw [List.length_append, List.length_singleton]
            exact ownsRow_kept hown0 ks (fun j hj q => hne0 j (by simp [ownL, hj]) (by simpa using q))
          · rw [List.length_append, List.length_singleton]
            exact hrv0.keeps ks (fun j hj => .inr (.inl (by have e : j = w1.heap.size + 1 := (by simpa using hj); omega)))
      · have all : ∀ k, k < 13 → listed.getD k false = true := fun k hk => hcl 13 h13 _ rfl ⟨k, .phase⟩ (by
          match k, hk with
          | 0, _ => simp
          | 1, _ => simp
          | 2, _ => simp
          | 3, _ => simp
          | 4, _ => simp
          | 5, _ => simp
          | 6, _ => simp
          | 7, _ => simp
          | 8, _ => simp
          | 9, _ => simp
          | 10, _ => simp
          | 11, _ => simp
          | 12, _ => simp) rfl
        exfalso
        have hi14' : i < 14 := hi14
        rcases Nat.lt_or_ge i 13 with q | q
        · rw [all i q] at hin; cases hin
        · have e : i = 13 := by omega
          rw [e, h13] at hin; cases hin
    · intro listed a u hS hall
      have h12 := hall 12 (show 12 < 14 by omega)
      have h13 := hall 13 (show 13 < 14 by omega)
      rcases hS with hF | ⟨_, h, _⟩ | ⟨_, h1, h2⟩
      · rw [hF.more.1] at h12; cases h12
      · rw [h] at h13; cases h13
      · exact ⟨by rw [← z5]; exact h1, by rw [← z5]; exact h2⟩
  case done =>
    rintro xs W hG ⟨kW, v, vs, hc4, hown, hrv⟩ hk hlt hD
    have hG' : xs.length = m.rels.length := by have : xs.length = (m.rels.map Prod.fst).length := hG; rw [List.length_map] at this; exact this
    rw [hG'] at hown hrv
    rw [List.take_of_length_le (by rw [relsM_len]; exact Nat.le_refl _)] at hrv
    have c0 := hc4.cell 0
    simp at c0
    have Hown := hide hown
    have Hrv := hide hrv
    have HLI := hide hLI
    have HLs := hide hLs
    clear hown hrv hit
    gi_wp2_with fail
    refine ⟨by simp, .inl ⟨_, _, rfl, run_takeDeferred hD, ?_⟩⟩
    refine ⟨_, results_tmp rfl _ _ _, ⟨vals, v, vs, HLI.out, HLs.out, rfl, ?_, ?_⟩, ?_⟩
    · refine ownE_mono (ownsRow_kept Hown.out (Keeps.putObj W W5.heap.size _) ?_) (by omega)
      intro j hj x
      have e : j = W5.heap.size := (by simpa using x)
      obtain ⟨b1, cs, t, b2⟩ := ownE_base Hown.out j hj
      rw [e, hD] at b2
      cases b2
    · exact Hrv.out.noCells (Keeps.putObj W W5.heap.size _) (by rw [hD]; intro _ _ _ e; cases e) (by omega)
    · refine ((Hkw.out.trans_new hk ?_).trans_new (Keeps.putObj W W5.heap.size _) ?_)
      · intro j hj; have e : j = w1.heap.size + 1 := (by simpa using hj); exact .inr (by omega)
      · intro j hj; have e : j = W5.heap.size := (by simpa using hj); exact .inr (by omega)

theorem rels_calls {w : World} {mb B : Nat} {m : Mean} (hm : MeanAt w mb B m) (hok : MeanOk m) (hnc : ∀ c ∈ m.clauses, circleC m.rels.length (edgesM m.clauses) c = false) (hnm : ∀ r ∈ m.rels, r.1.size ≤ 1000000) : Calls Tryz.prog 138 #[.pointer (some ⟨B, 0, none⟩)] w fun e w' => (∃ vals v vs, LayI m.clauses m.rels.length vals ∧ StableG layG m.clauses vals ∧ e = .returned v ∧ w'.ownsRow w.heap.size 144 3 v m.rels.length vs ∧ RelVs w' w.heap.size (ownL v) (relsM m vals) vs) ∧ Keeps [] w w' :=
  callsIn_wide.1 (rels_in 0 hm hok hnc hnm)

end Go.Proofs.YtgjomknpjigkhaaGreatDoor

namespace Go.Proofs.YtgjomknpjigkhaaGreatDoor

def AtomIn (ts : List Tn) (a : AtomI) : Prop := isNameG a.name.g = true ∧ a.name ∈ ts ∧ (∀ t ∈ a.terms, isTermG t.g = true ∧ t ∈ ts) ∧ a.terms.length ≤ ts.length
def ItemIn (ts : List Tn) : ItemI → Prop
  | .dom n z => (isNameG n.g = true ∧ n ∈ ts) ∧ isIntG z.g = true ∧ z ∈ ts
  | .rel n cs => (isNameG n.g = true ∧ n ∈ ts) ∧ (∀ c ∈ cs, isNameG c.g = true ∧ c ∈ ts) ∧ cs.length ≤ ts.length
  | .clause a ls => AtomIn ts a ∧ (∀ l ∈ ls, AtomIn ts l.atom) ∧ ls.length ≤ ts.length

theorem AtomIn.mono {ts us : List Tn} {a : AtomI} (h : AtomIn us a) (g : us <:+ ts) : AtomIn ts a := by
  have hs := g.subset
  exact ⟨h.1, hs h.2.1, fun t ht => ⟨(h.2.2.1 t ht).1, hs (h.2.2.1 t ht).2⟩, Nat.le_trans h.2.2.2 g.length_le⟩
theorem ItemIn.mono {ts us : List Tn} {i : ItemI} (h : ItemIn us i) (g : us <:+ ts) : ItemIn ts i := by
  have hs := g.subset
  cases i with
  | dom n z => exact ⟨⟨h.1.1, hs h.1.2⟩, h.2.1, hs h.2.2⟩
  | rel n cs => exact ⟨⟨h.1.1, hs h.1.2⟩, fun c hc => ⟨(h.2.1 c hc).1, hs (h.2.1 c hc).2⟩, Nat.le_trans h.2.2 g.length_le⟩
  | clause a ls => exact ⟨h.1.mono g, fun l hl => (h.2.1 l hl).mono g, Nat.le_trans h.2.2 g.length_le⟩

theorem rest_len {p : Sg → Bool} (hp : NoFin p) {k : Nat} {ts us r : List Tn} (hk : ts.length ≤ k) (e : Ended ts) (h : restG p k ts = .ok (r, us)) : r.length + us.length < ts.length := by
  induction k generalizing ts us r with
  | zero =>
    obtain ⟨t, us, rfl⟩ := e.cons
    simp at hk
  | succ k ih =>
    simp only [restG] at h
    split at h
    · rename_i hc
      have g1 := sees_goes comma_noFin e hc
      split at h
      · cases h
      · rename_i t us' ht
        have g2 := (takeG_goes hp g1.2 ht).1
        split at h
        · cases h
        · rename_i r' vs hr
          cases h
          have := ih (by have := g1.1; have := g2.1; omega) g2.2 hr
          have := g1.1
          have := g2.1
          rw [List.length_cons]
          omega
    · split at h
      · cases h
      · rename_i t us' ht
        cases h
        have := (takeG_goes rp_noFin e ht).1.1
        simpa using this
theorem list_len {p : Sg → Bool} (hp : NoFin p) {ts us r : List Tn} (e : Ended ts) (h : listG p ts = .ok (r, us)) : r.length + us.length < ts.length := by
  unfold listG at h
  split at h
  · cases h
  · rename_i t1 us1 h1
    have g1 := (takeG_goes lp_noFin e h1).1
    split at h
    · cases h
    · rename_i t2 us2 h2
      have g2 := (takeG_goes hp g1.2 h2).1
      split at h
      · cases h
      · rename_i r3 us3 h3
        cases h
        have := rest_len hp (Nat.le_refl _) g2.2 h3
        have := g1.1
        have := g2.1
        rw [List.length_cons]
        omega
theorem atom_in {ts us : List Tn} {a : AtomI} (e : Ended ts) (h : atomG ts = .ok (a, us)) : AtomIn ts a := by
  obtain ⟨h1, _, h3, h4⟩ := atom_are e h
  refine ⟨h3, h4, h1, ?_⟩
  unfold atomG at h
  split at h
  · cases h
  · rename_i t1 us1 hh
    have g1 := (takeG_goes name_noFin e hh).1
    split at h
    · cases h
    · rename_i r3 us3 h3
      cases h
      have := list_len term_noFin g1.2 h3
      have := g1.1
      show r3.length ≤ _
      omega
theorem lit_in {ts us : List Tn} {l : LitI} (e : Ended ts) (h : litG ts = .ok (l, us)) : AtomIn ts l.atom := by
  unfold litG at h
  split at h
  · rename_i hc
    have g1 := sees_goes bang_noFin e hc
    split at h
    · cases h
    · rename_i r3 us3 h3
      cases h
      exact (atom_in g1.2 h3).mono g1.3
  · split at h
    · cases h
    · rename_i r3 us3 h3
      cases h
      exact atom_in e h3
theorem lits_in {k : Nat} {ts us : List Tn} {r : List LitI} (hk : ts.length ≤ k) (e : Ended ts) (h : litsG k ts = .ok (r, us)) : (∀ l ∈ r, AtomIn ts l.atom) ∧ r.length + us.length < ts.length := by
  induction k generalizing ts us r with
  | zero =>
    obtain ⟨t, us, rfl⟩ := e.cons
    simp at hk
  | succ k ih =>
    simp only [litsG] at h
    split at h
    · rename_i hc
      have g1 := sees_goes comma_noFin e hc
      split at h
      · cases h
      · rename_i t us' ht
        have g2 := litG_goes g1.2 ht
        split at h
        · cases h
        · rename_i r' vs hr
          cases h
          obtain ⟨h1, h2⟩ := ih (by have := g1.1; have := g2.1; omega) g2.2 hr
          refine ⟨fun l hl => ?_, ?_⟩
          · rcases List.mem_cons.1 hl with rfl | hl
            · exact (lit_in g1.2 ht).mono g1.3
            · exact (h1 l hl).mono (g2.3.trans g1.3)
          · have := g1.1
            have := g2.1
            rw [List.length_cons]
            omega
    · split at h
      · cases h
      · rename_i t us' ht
        cases h
        have := (takeG_goes dot_noFin e ht).1.1
        exact ⟨fun l hl => (by cases hl), by simpa using this⟩
theorem body_in {ts us : List Tn} {r : List LitI} (e : Ended ts) (h : bodyG ts = .ok (r, us)) : (∀ l ∈ r, AtomIn ts l.atom) ∧ r.length + us.length < ts.length := by
  unfold bodyG at h
  split at h
  · rename_i hc
    have g1 := sees_goes arrow_noFin e hc
    split at h
    · cases h
    · rename_i t us' ht
      have g2 := litG_goes g1.2 ht
      split at h
      · cases h
      · rename_i r' vs hr
        cases h
        obtain ⟨h1, h2⟩ := lits_in (Nat.le_refl _) g2.2 hr
        refine ⟨fun l hl => ?_, ?_⟩
        · rcases List.mem_cons.1 hl with rfl | hl
          · exact (lit_in g1.2 ht).mono g1.3
          · exact (h1 l hl).mono (g2.3.trans g1.3)
        · have := g1.1
          have := g2.1
          rw [List.length_cons]
          omega
  · split at h
    · cases h
    · rename_i t us' ht
      cases h
      have := (takeG_goes dot_noFin e ht).1.1
      exact ⟨fun l hl => (by cases hl), by simpa using this⟩
theorem item_in {ts us : List Tn} {i : ItemI} (e : Ended ts) (h : itemG ts = .ok (i, us)) : ItemIn ts i := by
  unfold itemG at h
  split at h
  · rename_i hc
    have g1 := sees_goes dom_noFin e hc
    split at h
    · cases h
    · rename_i t2 us2 h2
      obtain ⟨g2, e2, p2⟩ := takeG_goes name_noFin g1.2 h2
      split at h
      · cases h
      · rename_i t3 us3 h3
        obtain ⟨g3, e3, p3⟩ := takeG_goes int_noFin g2.2 h3
        split at h
        · cases h
        · cases h
          exact ⟨⟨p2, g1.3.subset (by rw [e2]; simp)⟩, p3, (g2.3.trans g1.3).subset (by rw [e3]; simp)⟩
  · split at h
    · rename_i hc
      have g1 := sees_goes rel_noFin e hc
      split at h
      · cases h
      · rename_i t2 us2 h2
        obtain ⟨g2, e2, p2⟩ := takeG_goes name_noFin g1.2 h2
        split at h
        · cases h
        · rename_i t3 us3 h3
          have g3 := list_are name_noFin g2.2 h3
          have l3 := list_len name_noFin g2.2 h3
          split at h
          · cases h
          · cases h
            refine ⟨⟨p2, g1.3.subset (by rw [e2]; simp)⟩, fun c hc => ⟨(g3.1 c hc).1, (g2.3.trans g1.3).subset (g3.1 c hc).2⟩, ?_⟩
            have := g1.1
            have := g2.1
            omega
    · split at h
      · cases h
      · rename_i a us1 h1
        have g1 := atomG_goes e h1
        split at h
        · cases h
        · rename_i b us2 h2
          cases h
          obtain ⟨q1, q2⟩ := body_in g1.2 h2
          refine ⟨atom_in e h1, fun l hl => (q1 l hl).mono g1.3, ?_⟩
          have := g1.1
          omega
theorem items_in {k : Nat} {ts : List Tn} {is : List ItemI} (hk : ts.length ≤ k) (e : Ended ts) (h : itemsG k ts = .ok is) : (∀ i ∈ is, ItemIn ts i) ∧ is.length ≤ ts.length := by
  induction k generalizing ts is with
  | zero =>
    obtain ⟨t, us, rfl⟩ := e.cons
    simp at hk
  | succ k ih =>
    simp only [itemsG] at h
    split at h
    · cases h
      exact ⟨fun i hi => (by cases hi), by simp⟩
    · split at h
      · cases h
      · rename_i i us hi
        have g1 := itemG_goes e hi
        split at h
        · cases h
        · rename_i r hr
          cases h
          obtain ⟨h1, h2⟩ := ih (by have := g1.1; omega) g1.2 hr
          refine ⟨fun j hj => ?_, ?_⟩
          · rcases List.mem_cons.1 hj with rfl | hj
            · exact item_in e hi
            · exact (h1 j hj).mono g1.3
          · have := g1.1
            rw [List.length_cons]
            omega

/-- Names of rels come of items. -/
theorem senseS_names {m m' : Mean} {is : List ItemI} {p : ByteArray → Prop} (hm : ∀ r ∈ m.rels, p r.1) (hi : ∀ i ∈ is, ∀ n cs, i = .rel n cs → p (txt n.g)) (h : senseS m is = .ok m') : ∀ r ∈ m'.rels, p r.1 := by
  induction is generalizing m with
  | nil => cases h; exact hm
  | cons i is ih =>
    simp only [senseS] at h
    split at h
    · cases h
    · rename_i m1 h1
      refine ih ?_ (fun j hj => hi j (by simp [hj])) h
      cases i with
      | dom n z =>
        simp only [addItem, addDom] at h1
        split at h1
        · cases h1
        · split at h1
          · cases h1
          · split at h1
            · cases h1
            · cases h1; exact hm
      | rel n cs =>
        simp only [addItem, addRel] at h1
        split at h1
        · cases h1
        · split at h1
          · cases h1
          · split at h1
            · cases h1
            · cases h1
              intro r hr
              rcases List.mem_append.1 hr with q | q
              · exact hm r q
              · have e : r = _ := (by simpa using q)
                rw [e]
                exact hi _ (by simp) n cs rfl
      | clause a ls =>
        obtain ⟨x, _, _, _, h4⟩ := addClause_match (by simpa [addItem] using h1)
        rw [h4]
        exact hm

end Go.Proofs.YtgjomknpjigkhaaGreatDoor
