/- The document's kernel: nodes. -/
import Derived.Test.YtgjomknpjigkhaaGreatDoorA4
namespace Go.Proofs.YtgjomknpjigkhaaGreatDoor
open Go.RowKit Go.Shelf

/-- Tables as texts. -/
def strs (l : List (List Bool)) : List Value := l.map fun t => .string (bts t)
theorem strs_length (l : List (List Bool)) : (strs l).length = l.length := by simp [strs]
theorem strs_get {l : List (List Bool)} {i : Nat} {t : List Bool} (h : l[i]? = some t) : (strs l)[i]? = some (.string (bts t)) := by simp [strs, h]

theorem info9 : (Tryz.prog.info? 9).map (fun i => (i.zero, i.size, i.bytes)) = some (some (.string ⟨#[]⟩), 1, 16) := by kernel_rfl

theorem str_cell {W : World} {v : Value} {ty : TypeId} : ∀ (j : Nat) (x : Value), [v][j]? = some x → (W.alloc (.cells #[v] ty)).cell? ((⟨W.heap.size, 0, none⟩ : Addr).add j) = some x := by
  intro j x hx
  rw [Addr.add_lit, Nat.zero_add, (CellsAt.new W #[v] ty).cell]
  cases j with
  | zero => simp at hx; subst hx; rfl
  | succ j => simp at hx

/-- A row's block stays or is new. -/
def Stays (w : World) (v v' : Value) : Prop := v'.ownBlock = v.ownBlock ∨ ∃ g, v'.ownBlock = some g ∧ w.heap.size ≤ g

set_option maxRecDepth 100000 in
set_option maxHeartbeats 1000000 in
theorem with_calls {w : World} {base : Nat} {v : Value} (l : List (List Bool)) (t : List Bool) (hown : w.ownsRow base 9 1 v l.length (strs l)) (hn : l.length ≤ 1000000) (hbase : base ≤ w.heap.size) :
    Calls Tryz.prog 237 #[v, .string (bts t)] w fun e w' => ∃ v', e = .returned v' ∧ w'.ownsRow base 9 1 v' (ins l t).length (strs (ins l t)) ∧ Keeps v.ownBlock.toList w w' ∧ Stays w v v' := by
  obtain ⟨i0, hi0, hz0, hz1, hz2⟩ := info_parts info9
  obtain ⟨av, cv, hv⟩ := own_len hown
  subst hv
  go_enter Tryz.func237, Tryz.ntmps237
  go_wp2_with fail
  go_loopw [5] (fun y wr => ∃ i : Nat, y = .int .i64 i ∧ i ≤ l.length ∧ t ∉ l.take i ∧ wr = w) (fun y _ => ((l.length : Int) - intOf y).toNat)
  case atStart => exact ⟨0, rfl, by omega, by simp, rfl⟩
  case round =>
    obtain ⟨i, rfl, hi, hno, rfl⟩ := hrel
    by_cases hil : i < l.length
    · have hiI : (i : Int) < l.length := by omega
      obtain ⟨g, c, e⟩ := own_form hown (by omega)
      cases e
      have hc := own_cap hown
      obtain ⟨u, hu⟩ : ∃ u, l[i]? = some u := ⟨_, List.getElem?_eq_getElem hil⟩
      have eu := own_cellAt hown (strs_get hu)
      have hb := bts_beq u t
      by_cases hut : u = t
      · rw [decide_eq_true hut] at hb
        have hm : t ∈ l := hut ▸ List.mem_of_getElem? hu
        have hins : ins l t = l := by unfold ins; rw [if_pos hm]
        have Hins := hide hins
        clear hu hut hm hins
        go_wp2_with fail
        go_ret
        refine ⟨_, rfl, ?_, Keeps.refl _ _, .inl rfl⟩
        rw [Hins.out]
        exact hown
      · rw [decide_eq_false hut] at hb
        have hno' : t ∉ l.take (i + 1) := by
          rw [List.take_add_one, hu]
          simp only [Option.toList_some, List.mem_append, List.mem_singleton, not_or]
          exact ⟨hno, fun e => hut e.symm⟩
        have Hno := hide hno'
        clear hno' hu hut hno
        go_wp2_with fail
        go_roundw
        · exact ⟨i + 1, by simp, by omega, Hno.out, by trivial⟩
        · simp only [intOf]; omega
    · have hiI : ¬ (i : Int) < l.length := by omega
      have hm : t ∉ l := by
        rw [List.take_of_length_le (by omega)] at hno
        exact hno
      have hins : ins l t = l ++ [t] := by unfold ins; rw [if_neg hm]
      have Hins := hide hins
      clear hm hins hno
      have kB := Keeps.alloc [] wr (.cells #[.string (bts t)] 9)
      have hownB := ownsRow_kept hown kB (by simp)
      have hone := str_cell (W := wr) (v := .string (bts t)) (ty := 9)
      have hszB : base ≤ (wr.alloc (.cells #[.string (bts t)] 9)).heap.size := by rw [size_alloc']; omega
      go_wp2_with (at_builtin; refine wpList_append_own_at _ rfl _ _ 35 rfl base 9 i0 (.string ⟨#[]⟩) 1 16 Tryz.underlying35 hi0 hz0 hz1 hz2 rfl (by decide) _ l.length (strs l) rfl hownB ⟨wr.heap.size, 0, none⟩ 1 1 [.string (bts t)] rfl (by simp) hone (by simp [Value.oneCell']) (by unfold maxLen; omega) (by omega) hszB ?_)
      intro v' W2 own2 grow2 nil2 at2
      have k2 := grownBy_keeps' grow2 (Value.slice av l.length cv).ownBlock.toList (fun r e => .inl (by simp [e]))
      go_wp2_with fail
      go_ret
      refine ⟨v', rfl, ?_, (kB.mono (by simp)).trans k2, ?_⟩
      · rw [Hins.out]
        simpa [strs] using own2
      · rcases at2 with e | e
        · exact .inl e
        · exact .inr ⟨_, e, by omega⟩

theorem Apart.stays {w : World} {x y y' : Value} (h : Apart x y) (hs : Stays w y y') (hx : ∀ i, x.ownBlock = some i → i < w.heap.size) : Apart x y' := by
  intro i j hi hj
  rcases hs with e | ⟨g, e, hg⟩
  · exact h i j hi (by rw [← e]; exact hj)
  · rw [e] at hj
    cases hj
    have := hx i hi
    omega
theorem Apart.symm {x y : Value} (h : Apart x y) : Apart y x := fun i j hi hj e => h j i hj hi e.symm
theorem Apart.not {x y : Value} (h : Apart x y) : ∀ i, x.ownBlock = some i → i ∉ y.ownBlock.toList := fun i hi hm => h i i hi (by simpa using hm) rfl

theorem lvl_len (n : Nat) (ord : List Int) (s : Nat) : ∀ (l all next : List (List Bool)), (lvl n ord s l all next).2.length ≤ next.length + 2 * l.length ∧ (lvl n ord s l all next).1.length ≤ all.length + l.length
  | [], all, next => by simp [lvl]
  | f :: l, all, next => by
    have i1 := ins_length all f
    have i2 := ins_length next (fixT n f (ord.getD s 0).toNat false)
    have i3 := ins_length (ins next (fixT n f (ord.getD s 0).toNat false)) (fixT n f (ord.getD s 0).toNat true)
    unfold lvl
    split
    · have := lvl_len n ord s l all next
      simp only [List.length_cons]
      omega
    · split
      · have := lvl_len n ord s l (ins all f) (ins (ins next (fixT n f (ord.getD s 0).toNat false)) (fixT n f (ord.getD s 0).toNat true))
        simp only [List.length_cons]
        omega
      · have := lvl_len n ord s l (ins all f) next
        simp only [List.length_cons]
        omega

/-- All tables have their length. -/
def Len (n : Nat) (l : List (List Bool)) : Prop := ∀ t ∈ l, t.length = 2 ^ n
theorem Len.ins {n : Nat} {l : List (List Bool)} (h : Len n l) {t : List Bool} (ht : t.length = 2 ^ n) : Len n (ins l t) := fun u hu => by
  rcases (ins_mem _ _ _).1 hu with a | rfl
  · exact h u a
  · exact ht

structure NodesIn (w0 wr : World) (v1 v9 v11 : Value) (l all next : List (List Bool)) : Prop where
  l : wr.ownsRow 0 9 1 v1 l.length (strs l)
  all : wr.ownsRow w0.heap.size 9 1 v9 all.length (strs all)
  next : wr.ownsRow w0.heap.size 9 1 v11 next.length (strs next)
  a1 : Apart v1 v9
  a2 : Apart v1 v11
  a3 : Apart v9 v11
  k : Keeps [] w0 wr

theorem NodesIn.keeps0 {w0 wr w' : World} {v1 v9 v11 : Value} {l all next : List (List Bool)} (h : NodesIn w0 wr v1 v9 v11 l all next) (k : Keeps [] wr w') : NodesIn w0 w' v1 v9 v11 l all next :=
  ⟨ownsRow_kept h.l k (by simp), ownsRow_kept h.all k (by simp), ownsRow_kept h.next k (by simp), h.a1, h.a2, h.a3, h.k.trans k⟩

theorem NodesIn.putAll {w0 wr w' : World} {v1 v9 v11 v' : Value} {l all all' next : List (List Bool)} (h : NodesIn w0 wr v1 v9 v11 l all next) (o : w'.ownsRow w0.heap.size 9 1 v' all'.length (strs all')) (k : Keeps v9.ownBlock.toList wr w') (s : Stays wr v9 v') : NodesIn w0 w' v1 v' v11 l all' next :=
  ⟨ownsRow_kept h.l k h.a1.not, o, ownsRow_kept h.next k h.a3.symm.not, h.a1.stays s (own_lt h.l), h.a2, (h.a3.symm.stays s (own_lt h.next)).symm, h.k.trans_new k fun i hi => .inr (own_base h.all i (by simpa using hi)).1⟩

theorem NodesIn.putNext {w0 wr w' : World} {v1 v9 v11 v' : Value} {l all next next' : List (List Bool)} (h : NodesIn w0 wr v1 v9 v11 l all next) (o : w'.ownsRow w0.heap.size 9 1 v' next'.length (strs next')) (k : Keeps v11.ownBlock.toList wr w') (s : Stays wr v11 v') : NodesIn w0 w' v1 v9 v' l all next' :=
  ⟨ownsRow_kept h.l k h.a2.not, ownsRow_kept h.all k h.a3.not, o, h.a1, h.a2.stays s (own_lt h.l), h.a3.stays s (own_lt h.all), h.k.trans_new k fun i hi => .inr (own_base h.next i (by simpa using hi)).1⟩

set_option maxRecDepth 100000 in
set_option maxHeartbeats 2000000 in
theorem rnodes_calls {w : World} {b : RB} {R : RS} (h : RefAt w b R) (v : Value) (l0 : List (List Bool)) (hown : w.ownsRow 0 9 1 v l0.length (strs l0)) (hl0 : l0.length ≤ 100) (hL : Len R.n l0) (g c : Nat) (ord : List Int) (hg : g < w.heap.size) (hc : R.n ≤ c) (ho : ∀ (i : Nat) (x : Int), ord[i]? = some x → w.cell? ⟨g, i, none⟩ = some (.int .i64 x)) (hol : ord.length = R.n) (hor : ∀ x ∈ ord, 0 ≤ x ∧ x < R.n) :
    Calls Tryz.prog 183 #[.pointer (some ⟨b.r, 0, none⟩), v, .slice (some ⟨g, 0, none⟩) R.n c] w fun e w' => e = .returned (.int .i64 ((nodesT R.n ord l0).length : Nat)) ∧ Keeps [] w w' := by
  have hb := h.head.lt
  have n8 := h.n8
  have c0 : ∀ wr : World, Keeps [] w wr → wr.cell? ⟨b.r, 0, none⟩ = some (.int .i64 (R.n : Int)) := fun _ k => (h.keeps0 k).head.cell 0
  have hk0 := hide (fun (x : Bool) (wr : World) (k : Keeps [] w wr) => constant_calls x (h.keeps0 k).head (by rfl) rfl n8)
  have hfix := hide (fun (wr : World) (k : Keeps [] w wr) (t : List Bool) (i : Nat) (v : Bool) (ht : t.length = 2 ^ R.n) (hi : i < R.n) => fixed_calls t i v (h.keeps0 k).head (by rfl) rfl n8 ht hi)
  have cO : ∀ (wr : World), Keeps [] w wr → ∀ (i : Nat) (x : Int), ord[i]? = some x → wr.cell? ⟨g, i, none⟩ = some (.int .i64 x) := fun wr k i x hx => by
    rw [← ho i x hx]
    simp [World.cell?, k.block g hg (by simp)]
  have C0 := hide c0
  have CO := hide cO
  have Hol := hide hol
  have Hor := hide hor
  have HL := hide hL
  have hcI : (R.n : Int) ≤ c := by omega
  obtain ⟨N, hN⟩ : ∃ N : Nat, N = (nodesT R.n ord l0).length := ⟨_, rfl⟩
  rw [← hN]
  have HN := hide hN
  clear c0 cO hol hor ho hN hL
  go_enter Tryz.func183, Tryz.ntmps183
  go_wp2_with fail
  refine (hk0.out false _ (Keeps.refl _ _)).mono ?_
  rintro e w1 ⟨rfl, k1⟩
  go_wp2_with fail
  refine (hk0.out true _ k1).mono ?_
  rintro e w2 ⟨rfl, k2⟩
  have k12 := k1.trans k2
  go_wp2_with fail
  go_loopw [1, 9, 10] (fun v1 v9 y wr => ∃ (s : Nat) (l all : List (List Bool)), y = .int .i64 s ∧ s ≤ R.n + 1 ∧ NodesIn w wr v1 v9 (.slice none 0 0) l all [] ∧ Len R.n l ∧ l.length ≤ 100 * 2 ^ s ∧ all.length ≤ 100 * 2 ^ s ∧ lvls R.n ord (R.n + 1 - s) s l all = nodesT R.n ord l0) (fun _ _ y _ => ((R.n : Int) + 1 - intOf y).toNat)
  case atStart => exact ⟨0, l0, [], rfl, by omega, ⟨ownsRow_kept hown k12 (by simp), ⟨rfl, .inl ⟨rfl, rfl⟩⟩, ⟨rfl, .inl ⟨rfl, rfl⟩⟩, fun i j _ hj => (by simp [Value.ownBlock] at hj), fun i j _ hj => (by simp [Value.ownBlock] at hj), fun i j _ hj => (by simp [Value.ownBlock] at hj), k12⟩, HL.out, by simpa using hl0, by simp, rfl⟩
  case round =>
    clear hown k1 k2 k12
    obtain ⟨s, l, all, rfl, hs, hI, hLl, hll, hal, hlv⟩ := hrel
    have e0 := C0.out _ hI.k
    by_cases hsn : s ≤ R.n
    · have hsI : (s : Int) ≤ R.n := by omega
      have hpow : 2 ^ s ≤ 256 := Nat.pow_le_pow_right (n := 2) (by decide) (by omega : s ≤ 8)
      have e1 : R.n + 1 - s = (R.n + 1 - (s + 1)) + 1 := by omega
      rw [e1, lvls] at hlv
      have Hlv := hide hlv
      have hlen := lvl_len R.n ord s l all []
      have Hlen := hide hlen
      clear hlv hlen e1
      go_wp2_with fail
      go_loopw [9, 11, 12] (fun v9 v11 z wr' => ∃ (i : Nat) (all' next : List (List Bool)), z = .int .i64 i ∧ i ≤ l.length ∧ NodesIn w wr' u1 v9 v11 l all' next ∧ Len R.n next ∧ all'.length ≤ all.length + i ∧ next.length ≤ 2 * i ∧ lvl R.n ord s (l.drop i) all' next = lvl R.n ord s l all []) (fun _ _ z _ => ((l.length : Int) - intOf z).toNat)
      case atStart => exact ⟨0, all, [], rfl, by omega, hI, fun t ht => by simp at ht, by omega, by simp, rfl⟩
      case round =>
        clear hI
        obtain ⟨i, all', next, rfl, hi, hI, hLn, ha', hn', hst⟩ := hrel
        obtain ⟨av, cv, hv⟩ := own_len hI.l
        subst hv
        by_cases hil : i < l.length
        · have hiI : (i : Int) < l.length := by omega
          obtain ⟨g1, c1, e⟩ := own_form hI.l (by omega)
          cases e
          have hcap := own_cap hI.l
          obtain ⟨f, hf⟩ : ∃ f, l[i]? = some f := ⟨_, List.getElem?_eq_getElem hil⟩
          have ef := own_cellAt hI.l (strs_get hf)
          have hfl := hLl f (List.mem_of_getElem? hf)
          have hdr : l.drop i = f :: l.drop (i + 1) := by
            rw [List.drop_eq_getElem_cons hil]
            congr 1
            have := List.getElem?_eq_getElem hil
            rw [hf] at this
            exact (Option.some.inj this).symm
          rw [hdr, lvl] at hst
          have b0 := bts_beq f (tab R.n fun _ => false)
          have b1 := bts_beq f (tab R.n fun _ => true)
          by_cases hc0 : f = tab R.n fun _ => false
          · rw [if_pos (.inl hc0)] at hst
            rw [decide_eq_true hc0] at b0
            have Hst := hide hst
            clear hc0 hdr hf hst b1
            go_wp2_with fail
            go_roundw
            · exact ⟨i + 1, all', next, by simp, by omega, hI, hLn, by omega, by omega, Hst.out⟩
            · simp only [intOf]; omega
          rw [decide_eq_false hc0] at b0
          by_cases hc1 : f = tab R.n fun _ => true
          · rw [if_pos (.inr hc1)] at hst
            rw [decide_eq_true hc1] at b1
            have Hst := hide hst
            clear hc0 hc1 hdr hf hst
            go_wp2_with fail
            go_roundw
            · exact ⟨i + 1, all', next, by simp, by omega, hI, hLn, by omega, by omega, Hst.out⟩
            · simp only [intOf]; omega
          rw [decide_eq_false hc1] at b1
          rw [if_neg (fun x => x.elim hc0 hc1)] at hst
          clear hc0 hc1 hdr hf
          have hwA := hide (with_calls all' f hI.all (by omega) hI.k.size)
          have hIa := ins_length all' f
          by_cases hs1 : s < R.n
          · have hs1I : (s : Int) < R.n := by omega
            rw [if_pos hs1] at hst
            obtain ⟨x, hx⟩ : ∃ x, ord[s]? = some x := ⟨_, List.getElem?_eq_getElem (by rw [Hol.out]; exact hs1)⟩
            obtain ⟨x0, x1⟩ := Hor.out x (List.mem_of_getElem? hx)
            obtain ⟨xn, rfl⟩ := Int.eq_ofNat_of_zero_le x0
            have hgd : (ord.getD s 0).toNat = xn := by rw [List.getD_eq_getElem?_getD, hx]; rfl
            rw [hgd] at hst
            have hxn : xn < R.n := by omega
            have hlu : (fixT R.n f xn false).length = 2 ^ R.n := by simp [fixT]
            have hlv' : (fixT R.n f xn true).length = 2 ^ R.n := by simp [fixT]
            have hI1 := ins_length next (fixT R.n f xn false)
            have hI2 := ins_length (ins next (fixT R.n f xn false)) (fixT R.n f xn true)
            have hLn1 := hLn.ins hlu
            have hLn2 := hLn1.ins hlv'
            have Hst := hide hst
            have Hx := hide hx
            clear hst hx hgd
            go_wp2_with fail
            refine hwA.out.mono ?_
            rintro e w3 ⟨v9', rfl, o3, k3, s3⟩
            have hJ := hI.putAll o3 k3 s3
            have e3 := C0.out _ hJ.k
            have ex := CO.out _ hJ.k s _ Hx.out
            have fA := hide (hfix.out _ hJ.k f xn false hfl hxn)
            go_wp2_with fail
            refine fA.out.mono ?_
            rintro e w4 ⟨rfl, k4⟩
            have hJ4 := hJ.keeps0 k4
            have ex4 := CO.out _ hJ4.k s _ Hx.out
            have fB := hide (hfix.out _ hJ4.k f xn true hfl hxn)
            go_wp2_with fail
            refine fB.out.mono ?_
            rintro e w5 ⟨rfl, k5⟩
            have hJ5 := hJ4.keeps0 k5
            have hwB := hide (with_calls next (fixT R.n f xn false) hJ5.next (by omega) hJ5.k.size)
            go_wp2_with fail
            refine hwB.out.mono ?_
            rintro e w6 ⟨v11', rfl, o6, k6, s6⟩
            have hJ6 := hJ5.putNext o6 k6 s6
            have hwC := hide (with_calls _ (fixT R.n f xn true) hJ6.next (by omega) hJ6.k.size)
            go_wp2_with fail
            refine hwC.out.mono ?_
            rintro e w7 ⟨v11'', rfl, o7, k7, s7⟩
            have hJ7 := hJ6.putNext o7 k7 s7
            go_wp2_with fail
            go_roundw
            · exact ⟨i + 1, _, _, by simp, by omega, hJ7, hLn2, by omega, by omega, Hst.out⟩
            · simp only [intOf]; omega
          · have hs1I : ¬ (s : Int) < R.n := by omega
            rw [if_neg hs1] at hst
            have Hst := hide hst
            clear hst
            go_wp2_with fail
            refine hwA.out.mono ?_
            rintro e w3 ⟨v9', rfl, o3, k3, s3⟩
            have hJ := hI.putAll o3 k3 s3
            have e3 := C0.out _ hJ.k
            go_wp2_with fail
            go_roundw
            · exact ⟨i + 1, _, next, by simp, by omega, hJ, hLn, by omega, by omega, Hst.out⟩
            · simp only [intOf]; omega
        · have hiI : ¬ (i : Int) < l.length := by omega
          have ei : i = l.length := by omega
          subst ei
          rw [List.drop_length, lvl] at hst
          have h1 := congrArg Prod.fst hst
          have h2 := congrArg Prod.snd hst
          have hlv2 := Hlv.out
          rw [← h1, ← h2] at hlv2
          have Hl2 := hide hlv2
          clear hst h1 h2 hlv2
          go_wp2_with fail
          go_roundw
          · refine ⟨s + 1, next, all', by simp, by omega, ⟨ownsRow_base hI.next (by omega), hI.all, ⟨rfl, .inl ⟨rfl, rfl⟩⟩, hI.a3.symm, fun i j _ hj => (by simp [Value.ownBlock] at hj), fun i j _ hj => (by simp [Value.ownBlock] at hj), hI.k⟩, hLn, ?_, ?_, Hl2.out⟩
            · rw [Nat.pow_succ]; omega
            · rw [Nat.pow_succ]; omega
          · simp only [intOf]; omega
    · have hsI : ¬ (s : Int) ≤ R.n := by omega
      have es : s = R.n + 1 := by omega
      have hN2 : all.length = N := by
        rw [HN.out, ← hlv, es, Nat.sub_self]
        rfl
      have ho9 := hI.all
      rw [hN2] at ho9
      obtain ⟨a9, c9, e9⟩ := own_len ho9
      subst e9
      go_wp2_with fail
      go_ret
      exact ⟨rfl, hI.k⟩

end Go.Proofs.YtgjomknpjigkhaaGreatDoor
