/- The law's script: its steps. -/
import Derived.Test.YtgjomknpjigkhaaGreatDoorC9
import Derived.Test.YtgjomknpjigkhaaGreatDoorD1
namespace Go.Proofs.YtgjomknpjigkhaaGreatDoor
open Go.RowKit Go.Shelf

structure OpOk (w : World) (o : OpR) : Prop where
  o0 : -9223372036854775808 ≤ o.On
  o1 : o.On ≤ 9223372036854775807
  ls : LS w.heap.size w.heap.size w o.vL

def Script (w : World) (v : Value) (os : List OpR) : Prop :=
  os.length ≤ 2000000 ∧ ((v = .slice none 0 0 ∧ os = []) ∨ ∃ ad c, v = .slice (some ad) os.length c ∧ ∀ j u, (ocells os)[j]? = some u → w.cell? (ad.add j) = some u) ∧ ∀ o ∈ os, OpOk w o

/-- What every script begins with. -/
def lits (s1 s2 s3 : ByteArray) : List OpR := [⟨1, 0, 2, 0, 0, ⟨#[]⟩, .slice none 0 0⟩, ⟨2, 0, 0, 0, 0, ⟨#[]⟩, .slice none 0 0⟩, ⟨2, 0, 1, 0, 0, ⟨#[]⟩, .slice none 0 0⟩, ⟨4, 0, 2, 3, 0, ⟨#[]⟩, .slice none 0 0⟩, ⟨8, 0, 4, 3, 0, ⟨#[]⟩, .slice none 0 0⟩, ⟨21, 0, 0, 0, 0, s1, .slice none 0 0⟩, ⟨22, 0, 0, 0, 0, s2, .slice none 0 0⟩, ⟨24, 0, 0, 0, 0, s3, .slice none 0 0⟩]

theorem own_lits (W : World) (base : Nat) (hb : base ≤ W.heap.size) (s1 s2 s3 : ByteArray) : (W.alloc (.cells (ocells (lits s1 s2 s3)).toArray 80)).ownsRow base 80 7 (.slice (some ⟨W.heap.size, 0, none⟩) 8 8) 8 (ocells (lits s1 s2 s3)) := by
  refine ⟨rfl, .inr ⟨W.heap.size, 8, _, rfl, hb, (MapKept.heap_alloc W _).1, by decide, by decide, rfl, ?_⟩⟩
  simp [ocells, lits, OpR.cells]

theorem step_at {B : Nat} {w : World} {wb : Nat} {vk vi : Value} {ps : List Pr} {es : List (Nat × Nat × Nat)} {N : Nat} (h : WA B w wb vk vi ps es N) (hN : N ≤ 10000000) (o : OpR) (o0 : -9223372036854775808 ≤ o.On) (o1 : o.On ≤ 9223372036854775807) (hL : LS B wb w o.vL) (h1 : 1 ≤ o.Kd) (h16 : o.Kd ≤ 16) (hf : 0 < ps.length ∨ (o.Kd = 1 ∧ o.A = 2)) :
    Calls Tryz.prog 33 #[.pointer (some ⟨wb, 0, none⟩), .agg #[.int .i64 o.Kd, .int .i64 o.On, .int .i64 o.A, .int .i64 o.B, .int .i64 o.C, .string o.S, o.vL]] w (StepsTo B w wb 1 N) := by
  rcases hf with h0 | ⟨e1, e2⟩
  · exact (step_any h hN o.Kd o.On o.A o.B o.C (.inr h0) h1 h16 o0 o1 o.S hL).mono fun e w' ⟨r, vk', vi', ps', es', T, g, l, k, t⟩ => ⟨r, vk', vi', ps', es', T, g, by omega, k, t⟩
  · obtain ⟨a, n, c, e3⟩ := hL.form
    rw [e1, e2, e3]
    exact (step_good h hN o.On o.B o.C 2 (by decide) (by decide) o.S a n c).mono fun e w' ⟨r, vk', vi', ps', es', T, g, l, k, t⟩ => ⟨r, vk', vi', ps', es', T, g, by omega, k, t⟩

theorem WA.start {w : World} {wb : Nat} (hh : w.heap[wb]? = some (.cells #[.slice none 0 0, .slice none 0 0, .slice none 0 0, .slice none 0 0, .slice none 0 0] 78 (0, 0))) : WA w.heap.size w wb (.slice none 0 0) (.slice none 0 0) [] [] 0 := by
  have hlt : wb < w.heap.size := (Array.getElem?_eq_some_iff.1 hh).1
  exact ⟨⟨hh, hlt, World.ownsRow_nil .., by simp⟩, World.ownsRow_nil .., by simp, by simp, by simp, by simp, by simp, by simp, by simp, rfl, by simp, Nat.le_refl _⟩

/-- A script as it is walked: a row of steps below B. -/
structure Rowed (B wb : Nat) (w : World) (g : Nat) (os : List OpR) : Prop where
  lt : g < B
  ne : g ≠ wb
  cells : ∀ (i : Nat) (o : OpR), os[i]? = some o → ∀ (f : Nat) (x : Value), o.cells[f]? = some x → w.cell? ⟨g, i * 7 + f, none⟩ = some x
  ok : ∀ o ∈ os, -9223372036854775808 ≤ o.On ∧ o.On ≤ 9223372036854775807 ∧ LS B wb w o.vL
  first : ∀ o, os[0]? = some o → o.Kd = 1 ∧ o.A = 2

theorem Rowed.keeps {B wb : Nat} {w w' : World} {g : Nat} {os : List OpR} {T : List Nat} (h : Rowed B wb w g os) (k : Keeps T w w') (hB : B ≤ w.heap.size) (hT : ∀ i ∈ T, i = wb ∨ B ≤ i) : Rowed B wb w' g os :=
  ⟨h.lt, h.ne, fun i o ho f x hx => by
    rw [← h.cells i o ho f x hx]
    have := h.lt
    exact cell_same (k.block g (by omega) (fun hm => by rcases hT g hm with e | e <;> have := h.ne <;> omega)) _, fun o ho => ⟨(h.ok o ho).1, (h.ok o ho).2.1, (h.ok o ho).2.2.keeps k hB hT⟩, h.first⟩

set_option maxRecDepth 100000 in
set_option maxHeartbeats 2000000 in
theorem plays_calls {w : World} {v : Value} {os : List OpR} (h : Script w v os) : Calls Tryz.prog 12 #[v, .int .i64 1, .int .i64 16] w fun e w' => e = .returned (.bool true) ∧ Keeps [] w w' := by
  obtain ⟨hn, hv, hok⟩ := h
  have hsrc := hide (fun (W : World) (k : Keeps [] w W) => show (v = .slice none 0 0 ∧ os.length = 0 ∧ ocells os = []) ∨ ∃ ad c, v = .slice (some ad) os.length c ∧ (ocells os).length = os.length * 7 ∧ ∀ j u, (ocells os)[j]? = some u → W.cell? (ad.add j) = some u from by
    rcases hv with ⟨e1, e2⟩ | ⟨ad, c, e, hc⟩
    · exact .inl ⟨e1, by rw [e2]; rfl, by rw [e2]; rfl⟩
    · refine .inr ⟨ad, c, e, ocells_length os, fun j u hu => ?_⟩
      have h1 := hc j u hu
      have hb := World.block_lt_of_cell? w _ h1
      rw [← h1]
      simp [World.cell?, k.block _ hb (by simp)])
  have hone : ∀ u ∈ ocells os, u.oneCell' = true := fun u hu => by
    obtain ⟨o, ho, hu⟩ := List.mem_flatMap.1 hu
    obtain ⟨a, n, c, e⟩ := (hok o ho).ls.form
    simp only [OpR.cells, e, List.mem_cons, List.not_mem_nil, or_false] at hu
    rcases hu with rfl | rfl | rfl | rfl | rfl | rfl | rfl <;> rfl
  have hvf : ∃ a n c, v = .slice a n c := by
    rcases hv with ⟨e, _⟩ | ⟨a, c, e, _⟩
    · exact ⟨_, _, _, e⟩
    · exact ⟨_, _, _, e⟩
  obtain ⟨va, vn, vc, hve⟩ := hvf
  have Hok := hide hok
  have Hone := hide hone
  clear hv hok hone
  have Hn := hide hn
  clear hn
  subst hve
  go_enter Tryz.func12, Tryz.ntmps12
  generalize ({ data := (List.append _ _).toArray } : ByteArray) = s1
  generalize ({ data := #[112] } : ByteArray) = s3
  have hown := own_lits (w.alloc (.cells #[.slice none 0 0, .slice none 0 0, .slice none 0 0, .slice none 0 0, .slice none 0 0] 78)) w.heap.size (by rw [size_alloc']; omega) s1 s1 s3
  have hk2 := (Keeps.alloc [] w (.cells #[.slice none 0 0, .slice none 0 0, .slice none 0 0, .slice none 0 0, .slice none 0 0] 78)).trans (Keeps.alloc [] (w.alloc (.cells #[.slice none 0 0, .slice none 0 0, .slice none 0 0, .slice none 0 0, .slice none 0 0] 78)) (.cells (ocells (lits s1 s1 s3)).toArray 80))
  have hsz2 := size_alloc' (w.alloc (.cells #[.slice none 0 0, .slice none 0 0, .slice none 0 0, .slice none 0 0, .slice none 0 0] 78)) (.cells (ocells (lits s1 s1 s3)).toArray 80)
  have hhd : ((w.alloc (.cells #[.slice none 0 0, .slice none 0 0, .slice none 0 0, .slice none 0 0, .slice none 0 0] 78)).alloc (.cells (ocells (lits s1 s1 s3)).toArray 80)).heap[w.heap.size]? = some (.cells #[.slice none 0 0, .slice none 0 0, .slice none 0 0, .slice none 0 0, .slice none 0 0] 78 (0, 0)) := by
    rw [(Keeps.alloc [] _ _).block w.heap.size (by rw [size_alloc']; omega) (by simp)]
    exact (MapKept.heap_alloc w _).1
  have hsz1 := size_alloc' w (.cells #[.slice none 0 0, .slice none 0 0, .slice none 0 0, .slice none 0 0, .slice none 0 0] 78)
  rw [hsz1] at hown hsz2
  have hbase : w.heap.size ≤ ((w.alloc (.cells #[.slice none 0 0, .slice none 0 0, .slice none 0 0, .slice none 0 0, .slice none 0 0] 78)).alloc (.cells (ocells (lits s1 s1 s3)).toArray 80)).heap.size := by omega
  have hs2 := hsrc.out _ hk2
  have h63 : 8 + os.length ≤ 100000000 := by have := Hn.out; omega
  have HH := hide (And.intro hown (And.intro hk2 (And.intro hsz2 (And.intro hhd (And.intro hbase hs2)))))
  clear hown hk2 hsz2 hsz1 hhd hbase hs2 hsrc
  simp only [ocells, lits, OpR.cells, List.flatMap_cons, List.flatMap_nil, List.cons_append, List.nil_append, List.append_nil] at HH
  go_wp2_with (at_builtin; refine wpList_append_script rfl _ _ rfl w.heap.size _ 8 8 _ rfl HH.out.1 _ os.length _ rfl HH.out.2.2.2.2.2 Hone.out h63 HH.out.2.2.2.2.1 ?_)
  intro g' c' w3 own3 k3
  obtain ⟨hown, hk2, hsz2, hhd, hbase, _⟩ := HH.out
  clear HH
  have k03 : Keeps [] w w3 := hk2.trans_new k3 (fun i hi => by simp only [List.mem_singleton] at hi; exact .inr (by omega))
  have hs3 := k3.size
  have hA := WA.start (w := w3) (wb := w.heap.size) (by rw [k3.block w.heap.size (by omega) (by simp)]; exact hhd)
  have hR : Rowed w3.heap.size w.heap.size w3 g' (lits s1 s1 s3 ++ os) := by
    have own4 : w3.ownsRow w.heap.size 80 7 (.slice (some ⟨g', 0, none⟩) (8 + os.length) c') (8 + os.length) (ocells (lits s1 s1 s3 ++ os)) := by
      rw [ocells_append]
      exact own3
    obtain ⟨cs, tg⟩ := own_tag own4 g' rfl
    refine ⟨own_lt own4 g' rfl, fun e => ?_, fun i o ho f x hx => ?_, fun o ho => ?_, fun o ho => ?_⟩
    · have := hA.mw.head
      rw [← e, tg] at this
      cases this
    · refine own_cellAt own4 ?_
      rw [ocells_get ho f (by have := (List.getElem?_eq_some_iff.1 hx).1; simpa [OpR.cells] using this)]
      exact hx
    · rcases List.mem_append.1 ho with ho | ho
      · simp only [lits, List.mem_cons, List.not_mem_nil, or_false] at ho
        rcases ho with rfl | rfl | rfl | rfl | rfl | rfl | rfl | rfl <;> exact ⟨show (-9223372036854775808 : Int) ≤ 0 by decide, show (0 : Int) ≤ 9223372036854775807 by decide, .inl rfl⟩
      · have := Hok.out o ho
        refine ⟨this.o0, this.o1, ?_⟩
        rcases this.ls with e | ⟨g, o', sp, c, L, e, h0, h1, h2, h3, h4⟩
        · exact .inl e
        · refine .inr ⟨g, o', sp, c, L, e, h0, h1, h2, fun hl => ?_, fun i x hx => ?_⟩
          · have := h3 hl
            exact ⟨by omega, this.2⟩
          · have := h3 (by have := (List.getElem?_eq_some_iff.1 hx).1; omega)
            rw [← h4 i x hx]
            exact cell_same (k03.block g this.1 (by simp)) _
    · cases ho
      exact ⟨rfl, rfl⟩
  have hlen : (lits s1 s1 s3 ++ os).length = 8 + os.length := by rw [List.length_append]; rfl
  generalize lits s1 s1 s3 ++ os = ops at hR hlen
  have hM : ops.length ≤ 3000000 := by have := Hn.out; omega
  rw [← hlen]
  have hcap : ops.length ≤ c' := by have := own_cap own3; omega
  have hwb3 : w.heap.size < w3.heap.size := hA.mw.wlt
  clear own3 hown hk2 hsz2 hhd hbase k3 hlen h63 Hok Hone Hn hs3
  generalize hwb : w.heap.size = wb at hA hR hwb3 ⊢
  have Hwb := hide hwb
  have HA := hide hA
  have HR := hide hR
  clear hwb hA hR
  go_wp2_with fail
  go_loopw [9] (fun y wr => ∃ i : Nat, y = .int .i64 i ∧ i ≤ ops.length ∧ ∃ vk vi ps es T, WA w3.heap.size wr wb vk vi ps es i ∧ (0 < i → 0 < ps.length) ∧ Keeps T w3 wr ∧ ∀ x ∈ T, x = wb ∨ w3.heap.size ≤ x) (fun y _ => ((ops.length : Int) - intOf y).toNat)
  case atStart => exact ⟨0, rfl, by omega, _, _, [], [], [], HA.out, by simp, Keeps.refl _ _, by simp⟩
  case round =>
    obtain ⟨i, rfl, hi, vk, vi, ps, es, T, hA, hps, kr, hT⟩ := hrel
    by_cases hil : i < ops.length
    · have hiI : (i : Int) < ops.length := by omega
      obtain ⟨o, ho⟩ : ∃ o, ops[i]? = some o := ⟨_, List.getElem?_eq_getElem hil⟩
      have hRr := HR.out.keeps kr (Nat.le_refl _) hT
      have c0 := hRr.cells i o ho 0 _ rfl
      have c1 := hRr.cells i o ho 1 _ rfl
      have c2 := hRr.cells i o ho 2 _ rfl
      have c3 := hRr.cells i o ho 3 _ rfl
      have c4 := hRr.cells i o ho 4 _ rfl
      have c5 := hRr.cells i o ho 5 _ rfl
      have c6 := hRr.cells i o ho 6 _ rfl
      rw [Nat.add_zero] at c0
      have HRr := hide hRr
      have Hps := hide hps
      have Ho := hide ho
      clear hRr hps ho
      by_cases hlo : o.Kd < 1
      · have HA' := hide hA
        clear hA
        go_wp2_with fail
        go_roundw
        · exact ⟨i + 1, by simp, by omega, vk, vi, ps, es, T, HA'.out.more, fun _ => Hps.out (by rcases Nat.eq_zero_or_pos i with h0 | h0; (have := Ho.out; rw [h0] at this; have := (HR.out.first o this).1; omega); exact h0), kr, hT⟩
        · simp only [intOf]; omega
      · by_cases hhi : 16 < o.Kd
        · have HA' := hide hA
          clear hA
          go_wp2_with fail
          go_roundw
          · exact ⟨i + 1, by simp, by omega, vk, vi, ps, es, T, HA'.out.more, fun _ => Hps.out (by rcases Nat.eq_zero_or_pos i with h0 | h0; (have := Ho.out; rw [h0] at this; have := (HR.out.first o this).1; omega); exact h0), kr, hT⟩
          · simp only [intOf]; omega
        · have hst := hide (step_at hA (by omega) o (HRr.out.ok o (List.mem_of_getElem? Ho.out)).1 (HRr.out.ok o (List.mem_of_getElem? Ho.out)).2.1 (HRr.out.ok o (List.mem_of_getElem? Ho.out)).2.2 (by omega) (by omega) (by
            by_cases h0 : i = 0
            · have := Ho.out
              rw [h0] at this
              exact .inr (HR.out.first o this)
            · exact .inl (Hps.out (by omega))))
          have hsB := hA.size
          clear hA
          go_wp2_with fail
          refine hst.out.mono ?_
          rintro e W4 ⟨rfl, vk', vi', ps', es', T', hA', hp', k', hT'⟩
          have hR4 := HRr.out.keeps k' hsB hT'
          have d0 := hR4.cells i o Ho.out 0 _ rfl
          rw [Nat.add_zero] at d0
          clear c0 c1 c2 c3 c4 c5 c6
          have w0 := hA'.mw.cells.cell 0
          simp only [List.getElem?_toArray, List.getElem?_cons_zero] at w0
          obtain ⟨ak, ck, hvk⟩ := own_len hA'.ks
          rw [hvk] at w0
          have hz0 : ((ps'.length : Int) == 0) = false := by rw [beq_eq_false_iff_ne]; omega
          have e22 : (o.Kd == 22) = false := by simp; omega
          have hlk := hide (looks_calls hA'.mw (by have := hA'.elen; omega) hA'.vk_form)
          have kf : Keeps (T ++ T') w3 W4 := (kr.mono fun x hx => List.mem_append.2 (.inl hx)).trans (k'.mono fun x hx => List.mem_append.2 (.inr hx))
          have hTf : ∀ x ∈ T ++ T', x = wb ∨ w3.heap.size ≤ x := fun x hx => (List.mem_append.1 hx).elim (hT x) (hT' x)
          have HA' := hide hA'
          have Hf := hide (And.intro kf hTf)
          have Hp := hide hp'
          clear hA' kf hTf hT hT' kr k' hp' hR4
          by_cases hk1 : o.Kd = 1
          · have e1 : (o.Kd == 1) = true := by simp [hk1]
            have Hk1 := hide hk1
            clear hk1
            go_wp2_with fail
            refine hlk.out.mono ?_
            rintro e W5 ⟨rfl, k5⟩
            have hA5 := hide (HA'.out.keeps0 k5)
            have kf5 := hide (Hf.out.1.trans (k5.mono (by simp)))
            go_wp2_with fail
            go_roundw
            · exact ⟨i + 1, by simp, by omega, vk', vi', ps', es', T ++ T', hA5.out, fun _ => Hp.out, kf5.out, Hf.out.2⟩
            · simp only [intOf]; omega
          · have e1 : (o.Kd == 1) = false := by simp [hk1]
            have Hk1 := hide hk1
            clear hk1
            go_wp2_with fail
            refine hlk.out.mono ?_
            rintro e W5 ⟨rfl, k5⟩
            have hA5 := hide (HA'.out.keeps0 k5)
            have kf5 := hide (Hf.out.1.trans (k5.mono (by simp)))
            go_wp2_with fail
            go_roundw
            · exact ⟨i + 1, by simp, by omega, vk', vi', ps', es', T ++ T', hA5.out, fun _ => Hp.out, kf5.out, Hf.out.2⟩
            · simp only [intOf]; omega
    · have hiI : ¬ (i : Int) < ops.length := by omega
      clear hA
      go_wp2_with fail
      go_ret
      have := Hwb.out
      exact ⟨rfl, k03.trans_new kr (fun x hx => .inr (by rcases hT x hx with e | e <;> omega))⟩

end Go.Proofs.YtgjomknpjigkhaaGreatDoor
