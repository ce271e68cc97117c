import Derived.Test.YtgjomknpjigkhaaGreatDoorU02
namespace Go.Proofs.YtgjomknpjigkhaaGreatDoor
open Go.Proofs.Tryz
set_option maxRecDepth 100000
set_option maxHeartbeats 4000000
section
open Go.RowKit
theorem fld80_0 (x y z:Value) (w:World):(Instr.field 228 (.agg #[x,y,z]) 0).run prog w=.ok x w:=by
 simp [Instr.field,run_underlying underlying228,asAgg,part30]
theorem fld80_1 (x y z:Value) (w:World):(Instr.field 228 (.agg #[x,y,z]) 1).run prog w=.ok y w:=by
 simp [Instr.field,run_underlying underlying228,asAgg,part31]
theorem fld80_2 (x y z:Value) (w:World):(Instr.field 228 (.agg #[x,y,z]) 2).run prog w=.ok z w:=by
 simp [Instr.field,run_underlying underlying228,asAgg,part32]
attribute [local go_sem] fld80_0 fld80_1 fld80_2
theorem level_low {w:World} {B:SB} {S:ST} (h:gQA w B S) (f:Int) (hf:f≤1) :
  Calls prog 206 #[.pointer (some ⟨B.b,0,none⟩),.int .i64 f] w fun e w'=>e=.returned (.int .i64 S.order.length)∧∃ n,w' = w.drewN n:=by
 have c0:=h.head.cell 0;simp at c0;go_enter func206,ntmps206
 go_wp2
 go_ret
 exact ⟨rfl,0,rfl⟩
theorem level_high {w:World} {B:SB} {S:ST} (h:gQA w B S) (f:Int) (hf:1<f) (v l r p:Int) (hg:get S.N f=some (v,l,r)) (hv:0≤v) (hv2:v<S.place.length) (hp:S.place[v.toNat]?=some p) :
  Calls prog 206 #[.pointer (some ⟨B.b,0,none⟩),.int .i64 f] w fun e w'=>e=.returned (.int .i64 p)∧∃ n,w' = w.drewN n:=by
 have c1:=h.head.cell 1;have c2:=h.head.cell 2;simp at c1 c2;have hl:∀ n,(Instr.lookup 209 (.map (some B.rn)) (.int .i64 f) false).run prog (w.drewN n)=.ok (.agg #[.int .i64 v,.int .i64 l,.int .i64 r]) (w.drewN n):=by
  intro n;have:=xQD (P:=prog) underlying209 key3 (z:=.agg #[.int .i64 0,.int .i64 0,.int .i64 0]) zero228 (h.drewN n).nodes f false;rw [hg] at this;exact this
 have hc:w.cell? ⟨B.bp,v.toNat,none⟩=some (.int .i64 p):=h.place.cell hp;go_enter func206,ntmps206
 go_wp2
 go_quiet (fail)
 go_wp2
 go_ret
 exact ⟨rfl,_,rfl⟩
theorem level_calls {w:World} {B:SB} {S:ST} (h:gQA w B S) (hw:WF S) (f:Int) (hf:S.ok f) :
  Calls prog 206 #[.pointer (some ⟨B.b,0,none⟩),.int .i64 f] w fun e w'=>e=.returned (.int .i64 (S.lev f))∧∃ n,w' = w.drewN n:=by
 rcases hf with rfl | rfl | ⟨h2,⟨v,l,r⟩,ht⟩
 ·rw [zQE (by omega)];exact level_low h 0 (by omega)
 ·rw [zQE (by omega)];exact level_low h 1 (by omega)
 ·obtain ⟨_,_,v0,v1,_⟩:=hw.node f v l r ht;have hp:=hw.pl_range v0 v1;rw [pQB hw ht];exact level_high h f (by omega) v l r _ ht v0 (by rw [hw.ord.len];exact v1) hp.2.2.2
theorem look71 {w:World} {B:SB} {S:ST} (h:gQA w B S) {f:Int} {t:Tri} (hg:get S.N f=some t) (n:Nat) :
  (Instr.lookup 209 (.map (some B.rn)) (.int .i64 f) false).run prog (w.drewN n)=.ok (.agg #[.int .i64 t.1,.int .i64 t.2.1,.int .i64 t.2.2]) (w.drewN n):=by
 have:=xQD (P:=prog) underlying209 key3 (z:=.agg #[.int .i64 0,.int .i64 0,.int .i64 0]) zero228 (h.drewN n).nodes f false;rw [hg] at this;exact this
theorem look71' {w:World} {B:SB} {S:ST} (h:gQA w B S) {f:Int} {t:Tri} (hg:get S.N f=some t) :
  (Instr.lookup 209 (.map (some B.rn)) (.int .i64 f) false).run prog w=.ok (.agg #[.int .i64 t.1,.int .i64 t.2.1,.int .i64 t.2.2]) w:=look71 h hg 0
theorem starts_low {w:World} (p:Value) (f u:Int) (hf:f≤1) :
  Calls prog 259 #[p,.int .i64 f,.int .i64 u] w fun e w'=>e=.returned (.bool false)∧w' = w:=by
 have hd:decide (1<f)=false:=by simp;omega
 go_enter func259,ntmps259
 go_wp2
 go_ret
 exact ⟨rfl,rfl⟩
theorem starts_high {w:World} {B:SB} {S:ST} (h:gQA w B S) (f u:Int) (hf:1<f) (v l r:Int) (hg:get S.N f=some (v,l,r)) :
  Calls prog 259 #[.pointer (some ⟨B.b,0,none⟩),.int .i64 f,.int .i64 u] w fun e w'=>e=.returned (.bool (v == u))∧w' = w:=by
 have c2:=h.head.cell 2;simp at c2;have hl:=look71' h hg;have hd:decide (1<f)=true:=by simp;omega
 go_enter func259,ntmps259
 go_wp2
 go_ret
 exact ⟨rfl,rfl⟩
end
section
open Go.RowKit
attribute [local go_sem] fld80_0 fld80_1 fld80_2
theorem split_low {w:World} (p:Value) (f u:Int) (hf:f≤1) :
  Calls prog 207 #[p,.int .i64 f,.int .i64 u] w fun e w'=>e=.returned (.tuple #[.int .i64 f,.int .i64 f])∧aQA [] w w':=by
 go_enter func207,ntmps207
 go_wp2_with (go_at_call 259;refine (starts_low p f u hf).mono ?_;rintro e w' ⟨rfl,rfl⟩)
 go_ret2
 exact ⟨rfl,aQA.refl _ _⟩
theorem split_no {w:World} {B:SB} {S:ST} (h:gQA w B S) (f u:Int) (hf:1<f) (v l r:Int) (hg:get S.N f=some (v,l,r)) (hv:(v == u)=false) :
  Calls prog 207 #[.pointer (some ⟨B.b,0,none⟩),.int .i64 f,.int .i64 u] w fun e w'=>e=.returned (.tuple #[.int .i64 f,.int .i64 f])∧aQA [] w w':=by
 go_enter func207,ntmps207
 go_wp2_with (go_at_call 259;refine (starts_high h f u hf v l r hg).mono ?_;rintro e w' ⟨rfl,rfl⟩)
 go_ret2
 exact ⟨rfl,aQA.refl _ _⟩
theorem split_yes {w:World} {B:SB} {S:ST} (h:gQA w B S) (f u:Int) (hf:1<f) (v l r:Int) (hg:get S.N f=some (v,l,r)) (hv:(v == u)=true) :
  Calls prog 207 #[.pointer (some ⟨B.b,0,none⟩),.int .i64 f,.int .i64 u] w fun e w'=>e=.returned (.tuple #[.int .i64 l,.int .i64 r])∧aQA [] w w':=by
 have c2:=h.head.cell 2;simp at c2;have hl:=look71' h hg;go_enter func207,ntmps207
 go_wp2_with (go_at_call 259;refine (starts_high h f u hf v l r hg).mono ?_;rintro e w' ⟨rfl,rfl⟩)
 go_quiet (fail)
 go_wp2
 go_ret2
 exact ⟨rfl,(aQA.alloc _ _ _).trans (aQA.drewN _ _ _)⟩
theorem set_calls {w:World} {B:SB} {S:ST} (h:gQA w B S) (f v l r:Int) :
  Calls prog 260 #[.pointer (some ⟨B.b,0,none⟩),.int .i64 f,.agg #[.int .i64 v,.int .i64 l,.int .i64 r]] w fun e w'=>e=.returned (.tuple #[]) ∧
   gQA w' B { S with N:=put S.N f (v,l,r),U:=put S.U (v,l,r) f }∧aQA B.own w w':=by
 go_enter func260,ntmps260
 go_wp2
 obtain ⟨W,hW⟩:∃ W,w.alloc (.cells #[.int .i64 v,.int .i64 l,.int .i64 r] 228)=W:=⟨_,rfl⟩;have hN:=cQA.new w #[.int .i64 v,.int .i64 l,.int .i64 r] 228;have hS:=h.alloc (.cells #[.int .i64 v,.int .i64 l,.int .i64 r] 228);have hK:=aQA.alloc B.own w (.cells #[.int .i64 v,.int .i64 l,.int .i64 r] 228);have hne:∀ i∈B.own,i≠w.heap.size:=fun i hi=>Nat.ne_of_lt (h.lt i hi);rw [hW] at hN hS hK ⊢;clear hW;obtain ⟨z,hz⟩:∃ z,w.heap.size=z:=⟨_,rfl⟩;rw [hz] at hN hne ⊢;clear hz;have c2:=hS.head.cell 2;have n0:=hN.cell 0;have n1:=hN.cell 1;have n2:=hN.cell 2;simp at c2 n0 n1 n2;obtain ⟨o,hrun,hm⟩:=wQG (P:=prog) underlying209 key3 hS.drew.nodes f (v,l,r);simp only [eI,eT] at hrun;go_region
 have hS2:=hS.drew.nodesBlk hm;have hK2:aQA B.own w (blk W.drew B.rn o):=(hK.trans (aQA.drew _ _)).trans ((aQA.blk _ _ _).mono (by simp [SB.own]));have hN2:cQA (blk W.drew B.rn o) z _:=hN.of_heap (w':=blk W.drew B.rn o) (iQB o (hne B.rn (by simp [SB.own])).symm);clear hrun hm c2 n0 n1 n2;generalize blk W.drew B.rn o=W2 at hS2 hK2 hN2 ⊢;have c3:=hS2.head.cell 3;have n0:=hN2.cell 0;have n1:=hN2.cell 1;have n2:=hN2.cell 2;simp at c3 n0 n1 n2;obtain ⟨o2,hrun,hm⟩:=wQG (P:=prog) underlying210 key228 hS2.drew.numbers (v,l,r) f;simp only [eI,eT] at hrun;go_wp2
 go_region
 go_end0
 exact ⟨rfl,hS2.drew.numbersBlk hm,(hK2.trans (aQA.drew _ _)).trans ((aQA.blk _ _ _).mono (by simp [SB.own]))⟩
end
section
open Go.RowKit
theorem number_same {w:World} (p:Value) (v l r:Int) (hlr:(l == r)=true) :
  Calls prog 208 #[p,.int .i64 v,.int .i64 l,.int .i64 r] w fun e w'=>e=.returned (.int .i64 l)∧w' = w:=by
 go_enter func208,ntmps208
 go_wp2
 go_ret
 exact ⟨rfl,rfl⟩
theorem look72 {w:World} {B:SB} {S:ST} (h:gQA w B S) (t:Tri) (n:Nat) :
  (Instr.lookup 210 (.map (some B.ru)) (.agg #[.int .i64 t.1,.int .i64 t.2.1,.int .i64 t.2.2]) true).run prog (w.drewN n)=.ok (.tuple #[((get S.U t).map eI).getD (.int .i64 0),.bool (get S.U t).isSome]) (w.drewN n):=
 xQD (P:=prog) underlying210 key228 (z:=.int .i64 0) zero3 (h.drewN n).numbers t true
theorem number_found {w:World} {B:SB} {S:ST} (h:gQA w B S) (v l r f:Int) (hlr:(l == r)=false) (hg:get S.U (v,l,r)=some f) :
  Calls prog 208 #[.pointer (some ⟨B.b,0,none⟩),.int .i64 v,.int .i64 l,.int .i64 r] w fun e w'=>e=.returned (.int .i64 f)∧aQA [] w w':=by
 go_enter func208,ntmps208
 go_wp2
 have hN:=cQA.new w #[.int .i64 v,.int .i64 l,.int .i64 r] 228;have hS:=h.alloc (.cells #[.int .i64 v,.int .i64 l,.int .i64 r] 228);have hK:=aQA.alloc [] w (.cells #[.int .i64 v,.int .i64 l,.int .i64 r] 228);generalize w.alloc (.cells #[.int .i64 v,.int .i64 l,.int .i64 r] 228)=W at hN hS hK ⊢;generalize w.heap.size=z at hN ⊢;have c3:=hS.head.cell 3;have n0:=hN.cell 0;have n1:=hN.cell 1;have n2:=hN.cell 2;simp at c3 n0 n1 n2;have hl:=fun n=>look72 hS (v,l,r) n;simp only [hg,Option.map_some,Option.getD_some,eI,Option.isSome_some] at hl;go_quiet (fail)
 go_wp2
 go_ret
 exact ⟨rfl,hK.trans (aQA.drewN _ _ _)⟩
theorem number_new {w:World} {B:SB} {S:ST} (h:gQA w B S) (v l r:Int) (hlr:(l == r)=false) (hg:get S.U (v,l,r)=none) (hn:0≤S.next) (hn2:S.next<9223372036854775807) :
  Calls prog 208 #[.pointer (some ⟨B.b,0,none⟩),.int .i64 v,.int .i64 l,.int .i64 r] w fun e w'=>e=.returned (.int .i64 S.next)∧gQA w' B (S.add (v,l,r))∧aQA B.own w w':=by
 go_enter func208,ntmps208
 go_wp2
 have hN:=cQA.new w #[.int .i64 v,.int .i64 l,.int .i64 r] 228;have hS:=h.alloc (.cells #[.int .i64 v,.int .i64 l,.int .i64 r] 228);have hK:=aQA.alloc B.own w (.cells #[.int .i64 v,.int .i64 l,.int .i64 r] 228);have hne:∀ i∈B.own,i≠w.heap.size:=fun i hi=>Nat.ne_of_lt (h.lt i hi);generalize w.alloc (.cells #[.int .i64 v,.int .i64 l,.int .i64 r] 228)=W at hN hS hK ⊢;generalize w.heap.size=z at hN hne ⊢;have c3:=hS.head.cell 3;have n0:=hN.cell 0;have n1:=hN.cell 1;have n2:=hN.cell 2;simp at c3 n0 n1 n2;have hl:=fun n=>look72 hS (v,l,r) n;simp only [hg,Option.map_none,Option.getD_none,Option.isSome_none] at hl;go_quiet (fail)
 clear hl c3 n0 n1 n2;have hS2:=hS.drewN nq;have hN2:cQA (W.drewN nq) z _:=hN.of_heap rfl;have hK2:=hK.trans (aQA.drewN B.own W nq);generalize W.drewN nq=W2 at hS2 hN2 hK2 ⊢;have c4:=hS2.head.cell 4;have f4:=hS2.head.frozen 4;simp at c4;have hS3:=hS2.nextCell (S.next+1);have hN3:cQA (W2.setCell ⟨B.b,4,none⟩ (.int .i64 (S.next+1))) z _:=hN2.of_heap (Go.RowKit.Below.heap_setCell _ _ _ _ (hne B.b (by simp [SB.own])).symm);have n0:=hN3.cell 0;have n1:=hN3.cell 1;have n2:=hN3.cell 2;simp at n0 n1 n2;go_wp2_with (go_at_call 260;refine (set_calls hS3 _ _ _ _).mono ?_;rintro e w' ⟨rfl,hS4,hK4⟩)
 go_ret
 exact ⟨rfl,hS4,(hK2.trans ((aQA.setCell _ _ _).mono (by simp [SB.own]))).trans hK4⟩
theorem sQJ {w:World} {B:SB} {S:ST} (h:gQA w B S) (hw:WF S) (v l r:Int) (v0:0≤v) (v1:v<S.n) (okl:S.ok l) (okr:S.ok r) (hp:l≠r→S.pl v<S.lev l∧S.pl v<S.lev r) (hn2:S.next<9223372036854775807) :
  Calls prog 208 #[.pointer (some ⟨B.b,0,none⟩),.int .i64 v,.int .i64 l,.int .i64 r] w fun e w'=>∃ x S',e=.returned (.int .i64 x)∧gQA w' B S'∧aQA B.own w w'∧NumPost S S' v l r x:=by
 by_cases hlr:l=r
 ·subst hlr;exact (number_same _ v l l (by simp)).mono fun e w' ⟨he,hw'⟩=>⟨l,S,he,hw' ▸ h,hw' ▸ aQA.refl _ _,numPost_same hw v l okl⟩
 ·have hb:(l == r)=false:=by simpa using hlr
  cases hg:get S.U (v,l,r) with
  | some f=>exact (number_found h v l r f hb hg).mono fun e w' ⟨he,hk⟩=>⟨f,S,he,h.keeps hk (by simp),hk.mono (by simp),numPost_found hw hg⟩
  | none=>exact (number_new h v l r hb hg (by have:=hw.two;omega) hn2).mono fun e w' ⟨he,hs,hk⟩=>⟨S.next,_,he,hs,hk,numPost_new hw v0 v1 hlr okl okr (hp hlr).1 (hp hlr).2 hg⟩
theorem kQL {w:World} {B:SB} {S:ST} (h:gQA w B S) (hw:WF S) (f u:Int) (hf:S.ok f) :
  Calls prog 207 #[.pointer (some ⟨B.b,0,none⟩),.int .i64 f,.int .i64 u] w fun e w'=>e=.returned (.tuple #[.int .i64 (S.cof f u).1,.int .i64 (S.cof f u).2])∧aQA [] w w':=by
 rcases hf with rfl | rfl | ⟨h2,⟨v,l,r⟩,ht⟩
 ·rw [cof_low hw u (by omega)];exact split_low _ _ _ (by omega)
 ·rw [cof_low hw u (by omega)];exact split_low _ _ _ (by omega)
 ·by_cases hv:v=u
  ·have e:S.cof f u=(l,r):=by
    have:1<f:=(by omega);simp [ST.cof,ht,this,hv]
   rw [e];exact split_yes h f u (by omega) v l r ht (by simpa using hv)
  ·have e:S.cof f u=(f,f):=(by simp [ST.cof,ht,hv]);rw [e];exact split_no h f u (by omega) v l r ht (by simpa using hv)
end
section
open Go.RowKit
theorem ite_one {w:World} (p:Value) (f g h:Int) (hf:(f == 1)=true) :
  Calls prog 141 #[p,.int .i64 f,.int .i64 g,.int .i64 h] w fun e w'=>e=.returned (.int .i64 g)∧w' = w:=by
 go_enter func141,ntmps141
 go_wp2
 go_ret
 exact ⟨rfl,rfl⟩
theorem ite_same {w:World} (p:Value) (f g h:Int) (hf:(f == 1)=false) (hg:(g == h)=true) :
  Calls prog 141 #[p,.int .i64 f,.int .i64 g,.int .i64 h] w fun e w'=>e=.returned (.int .i64 g)∧w' = w:=by
 go_enter func141,ntmps141
 go_wp2
 go_ret
 exact ⟨rfl,rfl⟩
theorem ite_zero {w:World} (p:Value) (f g h:Int) (hf:(f == 1)=false) (hg:(g == h)=false) (hf0:(f == 0)=true) :
  Calls prog 141 #[p,.int .i64 f,.int .i64 g,.int .i64 h] w fun e w'=>e=.returned (.int .i64 h)∧w' = w:=by
 go_enter func141,ntmps141
 go_wp2
 go_ret
 exact ⟨rfl,rfl⟩
theorem ite_self {w:World} (p:Value) (f g h:Int) (hf:(f == 1)=false) (hg:(g == h)=false) (hf0:(f == 0)=false) (hg1:(g == 1)=true) (hh:(h == 0)=true) :
  Calls prog 141 #[p,.int .i64 f,.int .i64 g,.int .i64 h] w fun e w'=>e=.returned (.int .i64 f)∧w' = w:=by
 go_enter func141,ntmps141
 go_wp2
 go_ret
 exact ⟨rfl,rfl⟩
theorem look73 {w:World} {B:SB} {S:ST} (h:gQA w B S) (t:Tri) (n:Nat) :
  (Instr.lookup 211 (.map (some B.rk)) (.agg #[.int .i64 t.1,.int .i64 t.2.1,.int .i64 t.2.2]) true).run prog (w.drewN n)=.ok (.tuple #[((get S.K t).map eI).getD (.int .i64 0),.bool (get S.K t).isSome]) (w.drewN n):=
 xQD (P:=prog) underlying211 key285 (z:=.int .i64 0) zero3 (h.drewN n).known t true
def Rest (f g h:Int):Prop:=(f == 1)=false∧(g == h)=false∧(f == 0)=false∧((g == 1)=false∨(g == 1)=true∧(h == 0)=false)
theorem ite_known {w:World} {B:SB} {S:ST} (hS0:gQA w B S) (f g h r:Int) (hr:Rest f g h) (hk:get S.K (f,g,h)=some r) :
  Calls prog 141 #[.pointer (some ⟨B.b,0,none⟩),.int .i64 f,.int .i64 g,.int .i64 h] w fun e w'=>e=.returned (.int .i64 r)∧aQA [] w w':=by
 obtain ⟨hf,hg,hf0,hr⟩:=hr;rcases hr with hg1 | ⟨hg1,hh⟩;all_goals
  go_enter func141,ntmps141
  go_wp2
  have hN:=cQA.new w #[.int .i64 f,.int .i64 g,.int .i64 h] 285;have hS:=hS0.alloc (.cells #[.int .i64 f,.int .i64 g,.int .i64 h] 285);have hK:=aQA.alloc [] w (.cells #[.int .i64 f,.int .i64 g,.int .i64 h] 285);generalize w.alloc (.cells #[.int .i64 f,.int .i64 g,.int .i64 h] 285)=W at hN hS hK ⊢;generalize w.heap.size=z at hN ⊢;have c5:=hS.head.cell 5;have n0:=hN.cell 0;have n1:=hN.cell 1;have n2:=hN.cell 2;simp at c5 n0 n1 n2;have hl:=fun n=>look73 hS (f,g,h) n;simp only [hk,Option.map_some,Option.getD_some,eI,Option.isSome_some] at hl;go_quiet (fail)
  go_wp2
  go_ret
  exact ⟨rfl,hK.trans (aQA.drewN _ _ _)⟩
theorem min3 (a b c:Int) (ty:TypeId) (w:World):(Builtin.min_ #[3,3,3] ty #[.int .i64 a,.int .i64 b,.int .i64 c]).run prog w=.ok (.int .i64 (min (min a b) c)) w:=by
 have e:∀ x y:Int,(if y<x then y else x)=min x y:=fun x y=>by omega
 simp [Builtin.min_,Builtin.min2,e]
end
section
open Go.RowKit
def lim:Int:=9223372036854775800
def IteSays (B:SB) (k:Nat):Prop:=∀ (w:World) (S:ST) (f g h:Int),gQA w B S→WF S→KOK S→S.ok f→S.ok g→S.ok h→(S.n:Int) - min (min (S.lev f) (S.lev g)) (S.lev h)≤k→S.next+cst k<lim →
 Calls prog 141 #[.pointer (some ⟨B.b,0,none⟩),.int .i64 f,.int .i64 g,.int .i64 h] w fun e w'=>∃ r S',e=.returned (.int .i64 r)∧gQA w' B S'∧aQA B.own w w'∧yQL S S' f g h r k
theorem top_of {S:ST} (hw:WF S) {m:Int} (h0:0≤m) (h1:m<S.n):∃ top,S.order[m.toNat]?=some top∧0≤top∧top<S.n∧S.pl top=m:=by
 have hl:m.toNat<S.order.length:=by unfold ST.n at h1;omega
 have e:S.order[m.toNat]?=some S.order[m.toNat]:=List.getElem?_eq_getElem hl;obtain ⟨a,b,c⟩:=hw.ord.op _ _ e;refine ⟨_,e,a,b,?_⟩;unfold ST.pl;rw [c];show (m.toNat:Int)=m;omega
theorem split_spec {B:SB} {S:ST} (hw:WF S) (f u:Int) (hf:S.ok f) (u0:0≤u) (u1:u<S.n) (hu:S.pl u≤S.lev f) :
  ∃ f0 f1,Hid (∀ w,gQA w B S→Calls prog 207 #[.pointer (some ⟨B.b,0,none⟩),.int .i64 f,.int .i64 u] w fun e w'=>e=.returned (.tuple #[.int .i64 f0,.int .i64 f1])∧aQA [] w w')∧Cof S f u f0 f1:=by
 obtain ⟨a,b,c,d,e,f',g⟩:=cof_spec hw hf u0 u1 hu;exact ⟨_,_,fun w h=>kQL h hw f u hf,a,b,c,d,e,f',g⟩
theorem ite_step {B:SB} {k:Nat} (ih:Hid (IteSays B k)) {w:World} {S:ST} (f g h:Int) (hS0:gQA w B S) (hw:WF S) (hk:KOK S) (okf:S.ok f) (okg:S.ok g) (okh:S.ok h) (hr:Rest f g h) (hnk:get S.K (f,g,h)=none)
  (hlev:(S.n:Int) - min (min (S.lev f) (S.lev g)) (S.lev h)≤(k+1:Nat)) (hlim:S.next+cst (k+1)<lim) :
  Calls prog 141 #[.pointer (some ⟨B.b,0,none⟩),.int .i64 f,.int .i64 g,.int .i64 h] w fun e w'=>∃ r S',e=.returned (.int .i64 r)∧gQA w' B S'∧aQA B.own w w'∧yQL S S' f g h r (k+1):=by
 obtain ⟨hf,hg,hf0,hr⟩:=hr;have rf:=pQA hw okf;have rg:=pQA hw okg;have rh:=pQA hw okh;have f2:2≤f:=by
  have a:f≠1:=by simpa using hf
  have b:f≠0:=by simpa using hf0
  rcases okf with e | e | ⟨e,_⟩
  ·exact absurd e b
  ·exact absurd e a
  ·exact e
 have fl:=(wQB hw okf).2 f2;obtain ⟨m,hm⟩:∃ m,min (min (S.lev f) (S.lev g)) (S.lev h)=m:=⟨_,rfl⟩;have m0:0≤m:=by omega
 have m1:m<S.n:=by omega
 obtain ⟨top,ht,t0,t1,tp⟩:=top_of hw m0 m1;obtain ⟨f0,f1,sf,cf⟩:=split_spec (B:=B) hw f top okf t0 t1 (by omega);obtain ⟨g0,g1,sg,cg⟩:=split_spec (B:=B) hw g top okg t0 t1 (by omega);obtain ⟨h0,h1,sh,ch⟩:=split_spec (B:=B) hw h top okh t0 t1 (by omega);have Hlev:=hide hlev;have Hlim:=hide hlim;have Hm:=hide hm;have Htp:=hide tp;have Ht:=hide ht;have Hnk:=hide hnk;have hmin:∀ ty w,(Builtin.min_ #[3,3,3] ty #[.int .i64 (S.lev f),.int .i64 (S.lev g),.int .i64 (S.lev h)]).run prog w=.ok (.int .i64 m) w:=fun ty w=>by rw [min3,hm]
 have ml:m<S.order.length:=m1;clear hlev hlim hm tp ht hnk rf rg rh fl;rcases hr with hg1 | ⟨hg1,hh⟩;all_goals
  go_enter func141,ntmps141
  go_wp2
  have hN:=cQA.new w #[.int .i64 f,.int .i64 g,.int .i64 h] 285;have hS:=hS0.alloc (.cells #[.int .i64 f,.int .i64 g,.int .i64 h] 285);have hK:=aQA.alloc B.own w (.cells #[.int .i64 f,.int .i64 g,.int .i64 h] 285);have hne:w.heap.size∉B.own:=fun x=>Nat.lt_irrefl _ (hS0.lt _ x);generalize w.alloc (.cells #[.int .i64 f,.int .i64 g,.int .i64 h] 285)=W at hN hS hK ⊢;generalize w.heap.size=z at hN hne ⊢;have c5:=hS.head.cell 5;have n0:=hN.cell 0;have n1:=hN.cell 1;have n2:=hN.cell 2;simp at c5 n0 n1 n2;have hl:=fun n=>look73 hS (f,g,h) n;simp only [Hnk.out,Option.map_none,Option.getD_none,Option.isSome_none] at hl;go_quiet (fail)
  clear hl c5 n0 n1 n2;have hS2:=hS.drewN nq;have hN2:cQA (W.drewN nq) z _:=hN.of_heap rfl;have hK2:=hK.trans (aQA.drewN B.own W nq);clear hN hS hK;generalize W.drewN nq=W2 at hS2 hN2 hK2 ⊢;go_wp2
  have c0:=hS2.head.cell 0;simp at c0;have hc:=hS2.order.cell Ht.out;go_quiet ((go_at_call 206;refine Calls.quiet_of (level_calls (hS2.drewN _) hw _ ?_);first | exact okf | exact okg | exact okh))
  have hS3:=hS2.drewN nq;have hN3:cQA (W2.drewN nq) z _:=hN2.of_heap rfl;have hK3:=hK2.trans (aQA.drewN B.own W2 nq);clear hN2 hS2 hK2 c0 hc;generalize W2.drewN nq=W3 at hS3 hN3 hK3 ⊢;go_wp2_with fail
  refine (sf.out W3 hS3).mono ?_;rintro e W4 ⟨rfl,k4⟩;have hS4:=hS3.keeps k4 (by simp);have hN4:=hN3.keeps k4 (by simp);have hK4:=hK3.trans (k4.mono (by simp));clear hS3 hN3 hK3 k4;go_wp2_with fail
  refine (sg.out W4 hS4).mono ?_;rintro e W5 ⟨rfl,k5⟩;have hS5:=hS4.keeps k5 (by simp);have hN5:=hN4.keeps k5 (by simp);have hK5:=hK4.trans (k5.mono (by simp));clear hS4 hN4 hK4 k5;go_wp2_with fail
  refine (sh.out W5 hS5).mono ?_;rintro e W6 ⟨rfl,k6⟩;have hS6:=hS5.keeps k6 (by simp);have hN6:=hN5.keeps k6 (by simp);have hK6:=hK5.trans (k6.mono (by simp));clear hS5 hN5 hK5 k6;go_wp2_with fail
  refine (ih.out W6 S f0 g0 h0 hS6 hw hk cf.ok0 cg.ok0 ch.ok0 ?_ ?_).mono ?_
  ·have:=cf.lt0;have:=cg.lt0;have:=ch.lt0;have:=Htp.out;have:=Hlev.out;have:=Hm.out;omega
  ·have:=Hlim.out;simp only [cst] at this;have:=tQD k;omega
  rintro e W7 ⟨r0,S1,rfl,hS7,k7,p0⟩;have hN7:=hN6.keeps k7 hne;have hK7:=hK6.trans k7;clear hS6 hN6 hK6 k7;go_wp2_with fail
  refine (ih.out W7 S1 f1 g1 h1 hS7 p0.wf p0.known (p0.ext.ok cf.ok1) (p0.ext.ok cg.ok1) (p0.ext.ok ch.ok1) ?_ ?_).mono ?_
  ·rw [p0.ext.lev cf.ok1,p0.ext.lev cg.ok1,p0.ext.lev ch.ok1,p0.ext.n];have:=cf.lt1;have:=cg.lt1;have:=ch.lt1;have:=Htp.out;have:=Hlev.out;have:=Hm.out;omega
  ·have:=Hlim.out;simp only [cst] at this;have:=p0.next;omega
  rintro e W8 ⟨r1,S2,rfl,hS8,k8,p1⟩;have hN8:=hN7.keeps k8 hne;have hK8:=hK7.trans k8;clear hS7 hN7 hK7 k8;go_wp2_with fail
  refine (sQJ hS8 p1.wf top r0 r1 t0 ?_ (p1.ext.ok p0.ok) p1.ok ?_ ?_).mono ?_
  ·rw [p1.ext.n,p0.ext.n];exact t1
  ·intro _;rw [p1.ext.pl,p0.ext.pl,p1.ext.lev p0.ok];have a:=p0.lev (S.pl top+1) cf.lt0 cg.lt0 ch.lt0;have b:=p1.lev (S.pl top+1) (by rw [p0.ext.lev cf.ok1];exact cf.lt1) (by rw [p0.ext.lev cg.ok1];exact cg.lt1) (by rw [p0.ext.lev ch.ok1];exact ch.lt1);omega
  ·have:=Hlim.out;simp only [cst] at this;have:=p0.next;have:=p1.next;unfold lim at *;omega
  rintro e W9 ⟨x,S3,rfl,hS9,k9,p2⟩;have hN9:=hN8.keeps k9 hne;have hK9:=hK8.trans k9;clear hS8 hN8 hK8 k9;have c5:=hS9.head.cell 5;have n0:=hN9.cell 0;have n1:=hN9.cell 1;have n2:=hN9.cell 2;simp at c5 n0 n1 n2;obtain ⟨o,hrun,hmm⟩:=wQG (P:=prog) underlying211 key285 hS9.drew.known (f,g,h) x;simp only [eI,eT] at hrun;go_wp2
  go_region
  go_wp2
  go_ret
  refine ⟨x,S3.withK (put S3.K (f,g,h) x),rfl,hS9.drew.knownBlk hmm,(hK9.trans (aQA.drew _ _)).trans ((aQA.blk _ _ _).mono (by simp [SB.own])),?_⟩;exact itePost_step hw okf okg okh (by rw [Hm.out,Htp.out];exact Int.le_refl _) cf cg ch p0 p1 p2
end
section
open Go.RowKit
theorem fQG {B:SB} {w:World} {S:ST} {f g h r:Int} (k:Nat) (hS:gQA w B S) (hw:WF S) (hk:KOK S) (okr:S.ok r) (den:∀ σ,S.den r σ=if S.den f σ then S.den g σ else S.den h σ)
  (lev:∀ m,m≤S.lev f→m≤S.lev g→m≤S.lev h→m≤S.lev r)
  (hc:Calls prog 141 #[.pointer (some ⟨B.b,0,none⟩),.int .i64 f,.int .i64 g,.int .i64 h] w fun e w'=>e=.returned (.int .i64 r)∧aQA [] w w') :
  Calls prog 141 #[.pointer (some ⟨B.b,0,none⟩),.int .i64 f,.int .i64 g,.int .i64 h] w fun e w'=>∃ r S',e=.returned (.int .i64 r)∧gQA w' B S'∧aQA B.own w w'∧yQL S S' f g h r k:=
 hc.mono fun e w' ⟨he,hkeep⟩=>⟨r,S,he,hS.keeps hkeep (by simp),hkeep.mono (by simp),itePost_stays hw hk k okr den lev⟩
theorem qQE {P:Program} {f:FuncId} {args:Array Value} {w:World} {v:Value} (h:Calls P f args w fun e w'=>e=.returned v∧w' = w):Calls P f args w fun e w'=>e=.returned v∧aQA [] w w':=
 h.mono fun _ _ ⟨a,b⟩=>⟨a,b ▸ aQA.refl _ _⟩
theorem ite_says (B:SB):∀ k,IteSays B k:=by
 intro k;induction k with
 | zero=>
  intro w S f g h hS hw hk okf okg okh hl hlim;have fl:¬ 2≤f:=fun x=>by have:=(wQB hw okf).2 x;omega
  rcases okf with rfl | rfl | ⟨x,_⟩
  ·by_cases hgh:g=h
   ·subst hgh;exact fQG 0 hS hw hk okg (fun σ=>by simp) (fun m _ h _=>h) (qQE (ite_same _ 0 g g (by simp) (by simp)))
   ·exact fQG 0 hS hw hk okh (fun σ=>by simp [eQB]) (fun m _ _ h=>h) (qQE (ite_zero _ 0 g h (by simp) (by simpa using hgh) (by simp)))
  ·exact fQG 0 hS hw hk okg (fun σ=>by simp [pQC]) (fun m _ h _=>h) (qQE (ite_one _ 1 g h (by simp)))
  ·exact absurd x fl
 | succ k ih=>
  intro w S f g h hS hw hk okf okg okh hl hlim;by_cases f1:f=1
  ·subst f1;exact fQG _ hS hw hk okg (fun σ=>by simp [pQC]) (fun m _ h _=>h) (qQE (ite_one _ 1 g h (by simp)))
  by_cases hgh:g=h
  ·subst hgh;exact fQG _ hS hw hk okg (fun σ=>by simp) (fun m _ h _=>h) (qQE (ite_same _ f g g (by simpa using f1) (by simp)))
  by_cases f0:f=0
  ·subst f0;exact fQG _ hS hw hk okh (fun σ=>by simp [eQB]) (fun m _ _ h=>h) (qQE (ite_zero _ 0 g h (by simp) (by simpa using hgh) (by simp)))
  by_cases hself:g=1∧h=0
  ·obtain ⟨rfl,rfl⟩:=hself;exact fQG _ hS hw hk okf (fun σ=>by rw [pQC,eQB];cases S.den f σ <;> rfl) (fun m h _ _=>h) (qQE (ite_self _ f 1 0 (by simpa using f1) (by simp) (by simpa using f0) (by simp) (by simp)))
  have hr:Rest f g h:=⟨by simpa using f1,by simpa using hgh,by simpa using f0,by
   by_cases g1:g=1
   ·exact .inr ⟨by simpa using g1,by simpa using fun e=>hself ⟨g1,e⟩⟩
   ·exact .inl (by simpa using g1)⟩
  cases hkn:get S.K (f,g,h) with
  | some r=>
   obtain ⟨_,_,_,okr,den,lev⟩:=hk f g h r hkn;exact fQG _ hS hw hk okr den lev (ite_known hS f g h r hr hkn)
  | none=>exact ite_step (hide ih) f g h hS hw hk okf okg okh hr hkn hl hlim
structure FunPost (S S':ST) (r:Int) (F:(Int→Bool)→Bool) (c m:Int):Prop where
 ext:Ext S S'
 wf:WF S'
 known:KOK S'
 ok:S'.ok r
 den:∀ σ,S'.den r σ=F σ
 next:S'.next≤S.next+c
 lev:m≤S'.lev r
def Gives (B:SB) (w:World) (S:ST) (F:(Int→Bool)→Bool) (c m:Int) (e:Ending) (w':World):Prop:=
 ∃ r S',e=.returned (.int .i64 r)∧gQA w' B S'∧aQA B.own w w'∧FunPost S S' r F c m
theorem aQI {B:SB} {w:World} {S:ST} (f g h:Int) (hS:gQA w B S) (hw:WF S) (hk:KOK S) (okf:S.ok f) (okg:S.ok g) (okh:S.ok h) (hlim:S.next+cst S.n<lim) :
  Calls prog 141 #[.pointer (some ⟨B.b,0,none⟩),.int .i64 f,.int .i64 g,.int .i64 h] w (Gives B w S (fun σ=>if S.den f σ then S.den g σ else S.den h σ) (cst S.n) (min (min (S.lev f) (S.lev g)) (S.lev h))):=by
 have rf:=pQA hw okf;have rg:=pQA hw okg;have rh:=pQA hw okh;exact (ite_says B S.n w S f g h hS hw hk okf okg okh (by omega) hlim).mono fun e w' ⟨r,S',he,hs,hkp,p⟩=>⟨r,S',he,hs,hkp,p.ext,p.wf,p.known,p.ok,p.den,p.next,p.lev _ (by omega) (by omega) (by omega)⟩
theorem yQE (S:ST):S.ok 0:=.inl rfl
theorem qQJ (S:ST):S.ok 1:=.inr (.inl rfl)
theorem not_calls {B:SB} {w:World} {S:ST} (f:Int) (hS:gQA w B S) (hw:WF S) (hk:KOK S) (okf:S.ok f) (hlim:S.next+cst S.n<lim) :
  Calls prog 170 #[.pointer (some ⟨B.b,0,none⟩),.int .i64 f] w (Gives B w S (fun σ=>!S.den f σ) (cst S.n) 0):=by
 have hc:=hide (aQI f 0 1 hS hw hk okf (yQE S) (qQJ S) hlim);go_enter func170,ntmps170
 go_wp2_with fail
 refine hc.out.mono ?_;rintro e w' ⟨r,S',rfl,hs,hkp,p⟩;go_wp2
 go_ret
 exact ⟨r,S',rfl,hs,hkp,p.ext,p.wf,p.known,p.ok,fun σ=>by rw [p.den,eQB,pQC];cases S.den f σ <;> rfl,p.next,(pQA p.wf p.ok).1⟩
theorem min2_ok (a b:Int) (ty:TypeId) (w:World):(Builtin.min_ #[3,3] ty #[.int .i64 a,.int .i64 b]).run prog w=.ok (.int .i64 (min a b)) w:=by
 have e:∀ x y:Int,(if y<x then y else x)=min x y:=fun x y=>by omega
 simp [Builtin.min_,Builtin.min2,e]
theorem max2_ok (a b:Int) (ty:TypeId) (w:World):(Builtin.max_ #[3,3] ty #[.int .i64 a,.int .i64 b]).run prog w=.ok (.int .i64 (max a b)) w:=by
 have e:∀ x y:Int,(if x<y then y else x)=max x y:=fun x y=>by omega
 simp [Builtin.max_,Builtin.max2,e]
theorem minmax (a b:Int):(min a b=a∧max a b=b)∨(min a b=b∧max a b=a):=by omega
theorem and_calls {B:SB} {w:World} {S:ST} (f g:Int) (hS:gQA w B S) (hw:WF S) (hk:KOK S) (okf:S.ok f) (okg:S.ok g) (hlim:S.next+cst S.n<lim) :
  Calls prog 148 #[.pointer (some ⟨B.b,0,none⟩),.int .i64 f,.int .i64 g] w (Gives B w S (fun σ=>S.den f σ && S.den g σ) (cst S.n) 0):=by
 obtain ⟨a,ha⟩:∃ a,min f g=a:=⟨_,rfl⟩;obtain ⟨b,hb⟩:∃ b,max f g=b:=⟨_,rfl⟩;have h1:∀ ty w,(Builtin.min_ #[3,3] ty #[.int .i64 f,.int .i64 g]).run prog w=.ok (.int .i64 a) w:=fun ty w=>by rw [min2_ok,ha]
 have h2:∀ ty w,(Builtin.max_ #[3,3] ty #[.int .i64 f,.int .i64 g]).run prog w=.ok (.int .i64 b) w:=fun ty w=>by rw [max2_ok,hb]
 have hab:Hid ((a=f∧b=g)∨(a=g∧b=f)):=by rw [←ha,←hb];exact minmax f g
 clear ha hb;have oka:S.ok a:=by rcases hab.out with ⟨x,y⟩ | ⟨x,y⟩ <;> rw [x] <;> assumption
 have okb:S.ok b:=by rcases hab.out with ⟨x,y⟩ | ⟨x,y⟩ <;> rw [y] <;> assumption
 have hc:=hide (aQI a b 0 hS hw hk oka okb (yQE S) hlim);go_enter func148,ntmps148
 go_wp2_with fail
 refine hc.out.mono ?_;rintro e w' ⟨r,S',rfl,hs,hkp,p⟩;go_wp2
 go_ret
 refine ⟨r,S',rfl,hs,hkp,p.ext,p.wf,p.known,p.ok,fun σ=>?_,p.next,(pQA p.wf p.ok).1⟩;rw [p.den,eQB];rcases hab.out with ⟨x,y⟩ | ⟨x,y⟩ <;> rw [x,y] <;> cases S.den f σ <;> cases S.den g σ <;> rfl
theorem or_calls {B:SB} {w:World} {S:ST} (f g:Int) (hS:gQA w B S) (hw:WF S) (hk:KOK S) (okf:S.ok f) (okg:S.ok g) (hlim:S.next+cst S.n<lim) :
  Calls prog 73 #[.pointer (some ⟨B.b,0,none⟩),.int .i64 f,.int .i64 g] w (Gives B w S (fun σ=>S.den f σ || S.den g σ) (cst S.n) (min (S.lev f) (S.lev g))):=by
 obtain ⟨a,ha⟩:∃ a,min f g=a:=⟨_,rfl⟩;obtain ⟨b,hb⟩:∃ b,max f g=b:=⟨_,rfl⟩;have h1:∀ ty w,(Builtin.min_ #[3,3] ty #[.int .i64 f,.int .i64 g]).run prog w=.ok (.int .i64 a) w:=fun ty w=>by rw [min2_ok,ha]
 have h2:∀ ty w,(Builtin.max_ #[3,3] ty #[.int .i64 f,.int .i64 g]).run prog w=.ok (.int .i64 b) w:=fun ty w=>by rw [max2_ok,hb]
 have hab:Hid ((a=f∧b=g)∨(a=g∧b=f)):=by rw [←ha,←hb];exact minmax f g
 clear ha hb;have oka:S.ok a:=by rcases hab.out with ⟨x,y⟩ | ⟨x,y⟩ <;> rw [x] <;> assumption
 have okb:S.ok b:=by rcases hab.out with ⟨x,y⟩ | ⟨x,y⟩ <;> rw [y] <;> assumption
 have hc:=hide (aQI a 1 b hS hw hk oka (qQJ S) okb hlim);go_enter func73,ntmps73
 go_wp2_with fail
 refine hc.out.mono ?_;rintro e w' ⟨r,S',rfl,hs,hkp,p⟩;go_wp2
 go_ret
 refine ⟨r,S',rfl,hs,hkp,p.ext,p.wf,p.known,p.ok,fun σ=>?_,p.next,?_⟩
 ·rw [p.den,pQC];rcases hab.out with ⟨x,y⟩ | ⟨x,y⟩ <;> rw [x,y] <;> cases S.den f σ <;> cases S.den g σ <;> rfl
 ·have:=p.lev;have l1:S.lev 1=S.n:=zQE (by omega);have rf:=pQA hw okf;have rg:=pQA hw okg;rcases hab.out with ⟨x,y⟩ | ⟨x,y⟩ <;> rw [x,y,l1] at this <;> omega
theorem xor_calls {B:SB} {w:World} {S:ST} (f g:Int) (hS:gQA w B S) (hw:WF S) (hk:KOK S) (okf:S.ok f) (okg:S.ok g) (hlim:S.next+2 * cst S.n<lim) :
  Calls prog 213 #[.pointer (some ⟨B.b,0,none⟩),.int .i64 f,.int .i64 g] w (Gives B w S (fun σ=>S.den f σ != S.den g σ) (2 * cst S.n) 0):=by
 have hc0:=tQD S.n;obtain ⟨a,ha⟩:∃ a,min f g=a:=⟨_,rfl⟩;obtain ⟨b,hb⟩:∃ b,max f g=b:=⟨_,rfl⟩;have h1:∀ ty w,(Builtin.min_ #[3,3] ty #[.int .i64 f,.int .i64 g]).run prog w=.ok (.int .i64 a) w:=fun ty w=>by rw [min2_ok,ha]
 have h2:∀ ty w,(Builtin.max_ #[3,3] ty #[.int .i64 f,.int .i64 g]).run prog w=.ok (.int .i64 b) w:=fun ty w=>by rw [max2_ok,hb]
 have hab:Hid ((a=f∧b=g)∨(a=g∧b=f)):=by rw [←ha,←hb];exact minmax f g
 clear ha hb;have oka:S.ok a:=by rcases hab.out with ⟨x,y⟩ | ⟨x,y⟩ <;> rw [x] <;> assumption
 have okb:S.ok b:=by rcases hab.out with ⟨x,y⟩ | ⟨x,y⟩ <;> rw [y] <;> assumption
 have hc:=hide (not_calls b hS hw hk okb (by omega));have Hlim:=hide hlim;clear hlim hc0;go_enter func213,ntmps213
 go_wp2_with fail
 refine hc.out.mono ?_;rintro e W1 ⟨r1,S1,rfl,hs1,hkp1,p1⟩;have hc2:=hide (aQI a r1 b hs1 p1.wf p1.known (p1.ext.ok oka) p1.ok (p1.ext.ok okb) (by rw [p1.ext.n];have:=p1.next;have:=Hlim.out;omega));go_wp2_with fail
 refine hc2.out.mono ?_;rintro e w' ⟨r,S',rfl,hs,hkp,p⟩;go_wp2
 go_ret
 refine ⟨r,S',rfl,hs,hkp1.trans hkp,p1.ext.trans p.ext,p.wf,p.known,p.ok,fun σ=>?_,?_,(pQA p.wf p.ok).1⟩
 ·rw [p.den,p1.den,p1.ext.den hw p1.wf oka,p1.ext.den hw p1.wf okb];rcases hab.out with ⟨x,y⟩ | ⟨x,y⟩ <;> rw [x,y] <;> cases S.den f σ <;> cases S.den g σ <;> rfl
 ·have hx:=p.next;rw [p1.ext.n] at hx;have:=p1.next;omega
theorem diff_calls {B:SB} {w:World} {S:ST} (f g:Int) (hS:gQA w B S) (hw:WF S) (hk:KOK S) (okf:S.ok f) (okg:S.ok g) (hlim:S.next+cst S.n<lim) :
  Calls prog 88 #[.pointer (some ⟨B.b,0,none⟩),.int .i64 f,.int .i64 g] w (Gives B w S (fun σ=>S.den f σ && !S.den g σ) (cst S.n) 0):=by
 have hc:=hide (aQI g 0 f hS hw hk okg (yQE S) okf hlim);go_enter func88,ntmps88
 go_wp2_with fail
 refine hc.out.mono ?_;rintro e w' ⟨r,S',rfl,hs,hkp,p⟩;go_wp2
 go_ret
 exact ⟨r,S',rfl,hs,hkp,p.ext,p.wf,p.known,p.ok,fun σ=>by rw [p.den,eQB];cases S.den f σ <;> cases S.den g σ <;> rfl,p.next,(pQA p.wf p.ok).1⟩
theorem svar_calls {B:SB} {w:World} {S:ST} (i:Int) (hS:gQA w B S) (hw:WF S) (hk:KOK S) (i0:0≤i) (i1:i<S.n) (hlim:S.next+1<lim) :
  Calls prog 145 #[.pointer (some ⟨B.b,0,none⟩),.int .i64 i] w (Gives B w S (fun σ=>σ i) 1 0):=by
 have hp:=hw.pl_range i0 i1;have hc:=hide (sQJ hS hw i 0 1 i0 i1 (yQE S) (qQJ S) (fun _=>by rw [zQE (by omega),zQE (by omega)];exact ⟨hp.2.1,hp.2.1⟩) (by unfold lim at hlim;omega));clear hp hlim;go_enter func145,ntmps145
 go_wp2_with fail
 refine hc.out.mono ?_;rintro e w' ⟨r,S',rfl,hs,hkp,p⟩;go_wp2
 go_ret
 exact ⟨r,S',rfl,hs,hkp,p.ext,p.wf,hk.ext p.ext hw p.wf p.known,p.ok,fun σ=>by rw [p.den,eQB,pQC];cases σ i <;> rfl,p.next,(pQA p.wf p.ok).1⟩
end
end Go.Proofs.YtgjomknpjigkhaaGreatDoor
